/-
The law of each tale.
-/
import Derived.Test.YtfknojncfbahpaaGreatXc
namespace Go.Proofs.YtfknojncfbahpaaGreat.S
open Go Go.Am Go.Proofs.YtfknojncfbahpaaGreat.T
set_option maxRecDepth 100000
set_option linter.unusedSimpArgs false
set_option linter.unusedVariables false
theorem w25 (a c n : Int) (st : Bool) : Iso E 25 [.agg [I a,I c],I n] st = some (Bo (decide (a ≤ n) && decide (n ≤ c))):=by
 refine Iso_of (es _ _ _ _) e25 ?_
 simp only [f25]
 by_cases h : a ≤ n
 ·simp (disch:=first|assumption|omega|(simp only[az];done)) only [ru,eq_self,if_true,if_false,binI,AO.row?,loadV,Am.rowAt,Am.part,addOff,Nat.reduceAdd,Nat.reduceSub,h]
 ·simp (disch:=first|assumption|omega|(simp only[az];done)) only [ru,eq_self,if_true,if_false,binI,AO.row?,loadV,Am.rowAt,Am.part,addOff,Nat.reduceAdd,Nat.reduceSub,h]
section
variable {b : Bk} {o w s : AV}
set_option maxHeartbeats 4000000 in
theorem w16 (H : BkOk b o w s) (hv : b.valid = true) {g : List Int} {gv : AV} (hg : IsSl 1 intL g gv) {L : List Ls} {v : AV} (hL : IsSl 1 Ls.e L v) : ∃ r,Iso E 16 [bkV b o w s,.agg [gv,v]] false = some (Bo r) ∧ (r = true → g.length ≤ 40 ∧ L.length ≤ 40 ∧ (∀ x ∈ L,x.list.length ≤ 40) ∧ g ∈ b.sts ∧ TruN (b.t.kp (qG b.t g)).cp L):=by
 by_cases g40 : (g.length : Int) > 40
 ·refine ⟨false,?_,fun h => by cases h⟩
  refine Iso_of (es _ _ _ _) e16 ?_
  simp only [f16,bkV]
  simp (disch:=first|assumption|omega|(simp only[az];done)) only [ru,eq_self,if_true,if_false,binI,AO.row?,loadV,Am.rowAt,Am.part,addOff,Nat.reduceAdd,Nat.reduceSub,lenV_sl hg,g40]
 by_cases l40 : (L.length : Int) > 40
 ·refine ⟨false,?_,fun h => by cases h⟩
  refine Iso_of (es _ _ _ _) e16 ?_
  simp only [f16,bkV]
  simp (disch:=first|assumption|omega|(simp only[az];done)) only [ru,eq_self,if_true,if_false,binI,AO.row?,loadV,Am.rowAt,Am.part,addOff,Nat.reduceAdd,Nat.reduceSub,lenV_sl hg,lenV_sl hL,g40,l40]
 have c31:=fun st => w31 H hv hg (by omega) st
 cases hc : (risL g (b.t.tm - 1) && b.can g) <;> rw [hc] at c31
 ·refine ⟨false,?_,fun h => by cases h⟩
  refine Iso_of (es _ _ _ _) e16 ?_
  simp only [f16,bkV] at c31 ⊢
  simp (disch:=first|assumption|omega|(simp only[az];done)) only [ru,eq_self,if_true,if_false,binI,AO.row?,loadV,Am.rowAt,Am.part,addOff,Nat.reduceAdd,Nat.reduceSub,view_sl H.t.o,view_sl H.t.w,view_sl H.s,pure_sl H.t.o,pure_sl H.t.w,pure_sl H.s,lenV_sl hg,view_sl hg,pure_sl hg,lenV_sl hL,g40,l40,c31]
 have c67:=w67 H hg (by omega)
 have oi : IsSl 1 Ls.e (cpL b.t.op) (cpO b.t.op):=cpO_is
 have wi:=resW_is (kpL b.t.ws (qG b.t g) b.t.ws.length)
 obtain ⟨co,hco⟩ : ∃ co,co = cpO b.t.op:=⟨_,rfl⟩
 obtain ⟨cw,hcw⟩ : ∃ cw,cw = resW (kpL b.t.ws (qG b.t g) b.t.ws.length):=⟨_,rfl⟩
 by_cases hall : ∀ x ∈ L,x.list.length ≤ 40
 ·obtain ⟨r,c66,hr⟩:=s18 (cpOk H.t (qG b.t g)) (cp_valid.trans (kp_valid (bk_t hv))) hL (by omega) hall
  refine ⟨r,?_,fun h => ⟨by omega,by omega,hall,?_,hr.1 h⟩⟩
  ·simp only [cpW,trV,show (b.t.kp (qG b.t g)).cp.ch = b.t.ch from rfl,show (b.t.kp (qG b.t g)).cp.tm = b.t.tm from rfl,← hco,← hcw] at c67 c66 oi wi
   refine Iso_of (es _ _ _ _) e16 ?_
   simp only [f16,bkV] at c31 c67 ⊢
   simp (disch:=first|assumption|omega|(simp only[az];done)) only [ru,eq_self,if_true,if_false,binI,AO.row?,loadV,Am.rowAt,Am.part,addOff,Nat.reduceAdd,Nat.reduceSub,view_sl H.t.o,view_sl H.t.w,view_sl H.s,pure_sl H.t.o,pure_sl H.t.w,pure_sl H.s,lenV_sl hg,view_sl hg,pure_sl hg,lenV_sl hL,g40,l40,c31]
   refine G_loop_ind (fun m ts hk mk => ∃ (i : Nat),i ≤ L.length ∧ m = L.length - i ∧ hk = [.cells [I b.t.ch,I b.t.tm,o,w,I b.dr,I b.rn,s] false,.cells [gv,v] false] ∧
     ts.length = 44 ∧ ts.getD 2 .undef = .ptr 0 0 ∧ ts.getD 3 .undef = .ptr 1 0 ∧ ts.getD 5 .undef = I i ∧ mk = []) ?_ _ _ _ _
    ⟨0,Nat.zero_le _,rfl,rfl,rfl,rfl,rfl,rfl,rfl⟩
   rintro m ts hk mk ih ⟨i,hi,rfl,rfl,hl',q2,q3,q5,rfl⟩
   rw [lit_all hl']
   simp only [lit0,litS,Nat.reduceAdd,q2,q3,q5]
   simp (disch:=first|assumption|omega|(simp only[az];done)) only [ru,eq_self,if_true,if_false,binI,AO.row?,loadV,Am.rowAt,Am.part,addOff,Nat.reduceAdd,lenV_sl hL]
   by_cases hlt : (i : Int) < L.length
   case neg =>
    simp (disch:=first|assumption|omega|(simp only[az];done)) only [ru,eq_self,if_true,if_false,AO.row?,loadV,Am.rowAt,Am.part,addOff,Nat.reduceAdd,view_sl H.t.o,view_sl H.t.w,view_sl H.s,pure_sl H.t.o,pure_sl H.t.w,pure_sl H.s,view_sl hg,pure_sl hg,view_sl hL,pure_sl hL,hlt,c67,view_sl oi,pure_sl oi,view_sl wi,pure_sl wi,c66]
   have hi2 : i < L.length:=by omega
   obtain ⟨R,hR⟩ : ∃ R,R = L.getD i default:=⟨_,rfl⟩
   have rl:=hall R (by rw [hR]; exact getD_mem hi2)
   have ri:=Ls.is R
   have r40 : ¬ (R.list.length : Int) > 40:=by omega
   simp (disch:=first|assumption|omega|(simp only[az];done)) only [ru,eq_self,if_true,if_false,binI,AO.row?,loadV,Am.rowAt,Am.part,addOff,Nat.reduceAdd,elem_sl Ls.el hL,hlt,Int.toNat_natCast,← hR,Ls.e,lenV_sl ri,r40]
   exact ih (L.length - (i + 1)) _ _ _ (by omega) ⟨i + 1,by omega,rfl,rfl,rfl,rfl,rfl,rfl,rfl⟩
  ·have K:=cp_trb (kp_trb (q:=qG b.t g) (valid_trb (bk_t hv)))
   obtain ⟨x,hx,_⟩:=num_tr K (hr.1 h)
   rw [Bool.and_eq_true,bk_ris hv] at hc
   exact mem_sts.2 ⟨hc.1,hc.2,x,tr_cp.1 hx⟩
 ·refine ⟨false,?_,fun h => by cases h⟩
  refine Iso_of (es _ _ _ _) e16 ?_
  simp only [f16,bkV] at c31 ⊢
  simp (disch:=first|assumption|omega|(simp only[az];done)) only [ru,eq_self,if_true,if_false,binI,AO.row?,loadV,Am.rowAt,Am.part,addOff,Nat.reduceAdd,Nat.reduceSub,view_sl H.t.o,view_sl H.t.w,view_sl H.s,pure_sl H.t.o,pure_sl H.t.w,pure_sl H.s,lenV_sl hg,view_sl hg,pure_sl hg,lenV_sl hL,g40,l40,c31]
  refine G_loop_ind (fun m ts hk mk => ∃ (i : Nat),i ≤ L.length ∧ m = L.length - i ∧ hk = [.cells [I b.t.ch,I b.t.tm,o,w,I b.dr,I b.rn,s] false,.cells [gv,v] false] ∧ (∀ x ∈ L.take i,x.list.length ≤ 40) ∧
    ts.length = 44 ∧ ts.getD 2 .undef = .ptr 0 0 ∧ ts.getD 3 .undef = .ptr 1 0 ∧ ts.getD 5 .undef = I i ∧ mk = []) ?_ _ _ _ _
   ⟨0,Nat.zero_le _,rfl,rfl,by simp,rfl,rfl,rfl,rfl,rfl⟩
  rintro m ts hk mk ih ⟨i,hi,rfl,rfl,ha,hl',q2,q3,q5,rfl⟩
  rw [lit_all hl']
  simp only [lit0,litS,Nat.reduceAdd,q2,q3,q5]
  simp (disch:=first|assumption|omega|(simp only[az];done)) only [ru,eq_self,if_true,if_false,binI,AO.row?,loadV,Am.rowAt,Am.part,addOff,Nat.reduceAdd,lenV_sl hL]
  by_cases hlt : (i : Int) < L.length
  case neg =>
   obtain rfl : i = L.length:=by omega
   rw [List.take_length] at ha
   exact absurd ha hall
  have hi2 : i < L.length:=by omega
  obtain ⟨R,hR⟩ : ∃ R,R = L.getD i default:=⟨_,rfl⟩
  have ri:=Ls.is R
  by_cases r40 : (R.list.length : Int) > 40
  ·simp (disch:=first|assumption|omega|(simp only[az];done)) only [ru,eq_self,if_true,if_false,binI,AO.row?,loadV,Am.rowAt,Am.part,addOff,Nat.reduceAdd,elem_sl Ls.el hL,hlt,Int.toNat_natCast,← hR,Ls.e,lenV_sl ri,r40]
  ·simp (disch:=first|assumption|omega|(simp only[az];done)) only [ru,eq_self,if_true,if_false,binI,AO.row?,loadV,Am.rowAt,Am.part,addOff,Nat.reduceAdd,elem_sl Ls.el hL,hlt,Int.toNat_natCast,← hR,Ls.e,lenV_sl ri,r40]
   refine ih (L.length - (i + 1)) _ _ _ (by omega) ⟨i + 1,by omega,rfl,rfl,fun x hx => ?_,rfl,rfl,rfl,rfl,rfl⟩
   rw [List.take_succ_eq_append_getElem hi2,List.mem_append,List.mem_singleton] at hx
   rcases hx with hx | rfl
   ·exact ha x hx
   ·have : R = L[i]:=by rw [hR,List.getD_eq_getElem?_getD,List.getElem?_eq_getElem hi2]; rfl
    rw [← this]; omega
def Bk.fls (b : Bk) (L : List Ls) (n : Nat) : List Int:=((List.range n).filter fun (i : Nat) => !inR (numN L (b.t.ws.getD i default).time.toNat (b.t.ws.getD i default).ch.toNat) (b.t.ws.getD i default).lo (b.t.ws.getD i default).hi).map fun (i : Nat) => (i : Int)
theorem fls_len {L : List Ls} {n : Nat} : (b.fls L n).length ≤ n:=by
 have:=List.length_filter_le (fun (i : Nat) => !inR (numN L (b.t.ws.getD i default).time.toNat (b.t.ws.getD i default).ch.toNat) (b.t.ws.getD i default).lo (b.t.ws.getD i default).hi) (List.range n)
 unfold Bk.fls
 rw [List.length_map]
 rw [List.length_range] at this
 exact this
theorem mem_fls {L : List Ls} {n : Nat} {x : Int} : x ∈ b.fls L n ↔ ∃ i : Nat,i < n ∧ inR (numN L (b.t.ws.getD i default).time.toNat (b.t.ws.getD i default).ch.toNat) (b.t.ws.getD i default).lo (b.t.ws.getD i default).hi = false ∧ (i : Int) = x:=by
 simp only [Bk.fls,List.mem_map,List.mem_filter,List.mem_range,Bool.not_eq_true',and_assoc]
theorem fls_ris {L : List Ls} {n : Nat} : ris n (b.fls L n):=by
 refine ⟨fun x hx => ?_,?_⟩
 ·obtain ⟨i,h1,_,rfl⟩:=mem_fls.1 hx; omega
 ·unfold Bk.fls
  rw [List.pairwise_map]
  exact ((List.pairwise_lt_range (n:=n)).filter _).imp fun h => by omega
theorem wd_ch {t : Trap} (V : TrB t) {n : Nat} (hn : n < t.ws.length) : 0 ≤ (t.ws.getD n default).ch ∧ (t.ws.getD n default).ch < t.C:=by
 have f:=V.fw _ (getD_mem hn)
 simp only [fitB,placeB,Bool.and_eq_true,decide_eq_true_eq] at f
 have:=trC V
 omega
set_option maxHeartbeats 4000000 in
theorem w20 (H : BkOk b o w s) (hv : b.valid = true) {L : List Ls} {v : AV} (hL : IsSl 1 Ls.e L v) (h1 : L.length = b.t.T) (h2 : ∀ i,i < b.t.T → (rowN L i).length = b.t.C) : Iso E 20 [bkV b o w s,v] false = some (resL (b.fls L b.t.ws.length)):=by
 have V:=valid_trb (bk_t hv)
 have sw:=H.t.sw
 refine Iso_of (es _ _ _ _) e20 ?_
 simp only [f20,bkV]
 simp (disch:=first|assumption|omega|(simp only[az];done)) only [ru,Nat.reduceAdd,Nat.reduceSub]
 refine G_loop_ind (fun m ts hk mk => ∃ (i : Nat) (u : AV),i ≤ b.t.ws.length ∧ m = b.t.ws.length - i ∧ hk[0]? = some (.cells [I b.t.ch,I b.t.tm,o,w,I b.dr,I b.rn,s] false) ∧ 1 ≤ hk.length ∧ OutE intL 1 1 hk u (b.fls L i) ∧
   ts.length = 42 ∧ ts.getD 1 .undef = v ∧ ts.getD 2 .undef = .ptr 0 0 ∧ ts.getD 5 .undef = u ∧ ts.getD 6 .undef = I i ∧ mk = []) ?_ _ _ _ _
  ⟨0,.nils,Nat.zero_le _,rfl,rfl,by simp,.inl ⟨rfl,rfl⟩,rfl,rfl,rfl,rfl,rfl,rfl⟩
 rintro m ts hk mk ih ⟨i,u,hi,rfl,e0,n1,ho,hl',q1,q2,q5,q6,rfl⟩
 rw [lit_all hl']
 simp only [lit0,litS,Nat.reduceAdd,q1,q2,q5,q6]
 simp (disch:=first|assumption|omega|(simp only[az];done)) only [ru,eq_self,if_true,if_false,binI,AO.row?,loadV,Am.rowAt,Am.part,addOff,lenV_sl H.t.w,e0]
 by_cases hlt : (i : Int) < b.t.ws.length
 case neg =>
  obtain rfl : i = b.t.ws.length:=by omega
  have vw:=ho.viewL (st:=false) (k:=7)
  simp (disch:=first|assumption|omega|(simp only[az];done)) only [ru,eq_self,hlt,vw]
 have hi2 : i < b.t.ws.length:=by omega
 have tb:=wd_time V (n:=(i : Int)) (by omega) (by omega)
 rw [Int.toNat_natCast] at tb
 have cb:=wd_ch V hi2
 have fy : (!inR (numN L (b.t.ws.getD i default).time.toNat (b.t.ws.getD i default).ch.toNat) (b.t.ws.getD i default).lo (b.t.ws.getD i default).hi) = true → b.fls L (i + 1) = b.fls L i ++ [(i : Int)]:=fun h => by
  unfold Bk.fls
  rw [List.range_succ,List.filter_append,List.map_append,List.filter_cons,if_pos h]; rfl
 have fn : (!inR (numN L (b.t.ws.getD i default).time.toNat (b.t.ws.getD i default).ch.toNat) (b.t.ws.getD i default).lo (b.t.ws.getD i default).hi) = false → b.fls L (i + 1) = b.fls L i:=fun h => by
  unfold Bk.fls
  rw [List.range_succ,List.filter_append,List.map_append,List.filter_cons,if_neg (by rw [h]; decide)]; simp
 obtain ⟨y,hy⟩ : ∃ y,y = b.t.ws.getD i default:=⟨_,rfl⟩
 rw [← hy] at tb cb fy fn
 obtain ⟨R,hR⟩ : ∃ R,R = L.getD y.time.toNat default:=⟨_,rfl⟩
 have ri:=Ls.is R
 have rl : (R.list.length : Int) = b.t.C:=by
  have:=h2 y.time.toNat (by omega)
  rw [hR]; unfold rowN at this; omega
 obtain ⟨z,hz⟩ : ∃ z,z = R.list.getD y.ch.toNat 0:=⟨_,rfl⟩
 have hz2 : R.list.getD y.ch.toNat default = z:=hz.symm
 have en : numN L y.time.toNat y.ch.toNat = z:=by rw [hz,hR]; rfl
 rw [en] at fy fn
 have t1:=tb.1
 have t2 : y.time < L.length:=by omega
 have k1:=cb.1
 have k2 : y.ch < R.list.length:=by omega
 have w1:=fun n lo hi st => s30 n lo hi st
 have sl:=fls_len (b:=b) (L:=L) (n:=i)
 have hb : b.t.ws.length ≤ 40:=sw
 obtain ⟨J,hJ⟩ : ∃ J,J = hk ++ [AO.cells [I y.time,I y.ch,I y.lo,I y.hi] false]:=⟨_,rfl⟩
 have hoJ : OutE intL 1 1 J u (b.fls L i):=by rw [hJ]; exact ho.fr (Fr.app hk _)
 have lJ : J.length = hk.length + 1:=by rw [hJ]; simp
 have e0J : J[0]? = some (.cells [I b.t.ch,I b.t.tm,o,w,I b.dr,I b.rn,s] false):=by rw [hJ,List.getElem?_append_left (by omega)]; exact e0
 have eJ : J[hk.length]? = some (.cells [I y.time,I y.ch,I y.lo,I y.hi] false):=by rw [hJ]; exact atE
 have sJ : ∀ x : AO,(hk ++ [x]).set hk.length (AO.cells [I y.time,I y.ch,I y.lo,I y.hi] false) = J:=fun x => by rw [hJ]; simp
 cases hh : inR z y.lo y.hi
 ·obtain ⟨v',h',ha,ho',hb',hk'⟩:=outE_ap (lim:=0) (eb:=8) intE (fun _ => rfl) (by omega) (by omega) (by omega) hoJ (by omega) (by omega) (by omega) (i : Int)
  simp (disch:=first|assumption|omega|(simp only[az];done)) only [ru,eq_self,if_true,if_false,binI,AO.row?,splice,fillL,loadV,storeV,zeros,Am.rowAt,Am.part,addOff,Nat.reduceAdd,Nat.reduceMul,Nat.reduceLeDiff,elem_sl Wd.el H.t.w,Int.toNat_natCast,elem_sl Ls.el hL,hlt,e0,Int.toNat_natCast,← hy,Wd.e,sJ,eJ,← hR,Ls.e,elem_sl intE ri,hz2,w1,hh,ha]
  exact ih (b.t.ws.length - (i + 1)) _ _ _ (by omega) ⟨i + 1,v',by omega,rfl,by rw [hk' 0 (by omega)]; exact e0J,hb',by rw [fy (by rw [hh]; rfl)]; exact ho',rfl,rfl,rfl,rfl,rfl,rfl⟩
 ·simp (disch:=first|assumption|omega|(simp only[az];done)) only [ru,eq_self,if_true,if_false,binI,AO.row?,splice,loadV,storeV,Am.rowAt,Am.part,addOff,Nat.reduceAdd,Nat.reduceLeDiff,elem_sl Wd.el H.t.w,Int.toNat_natCast,elem_sl Ls.el hL,hlt,e0,Int.toNat_natCast,← hy,Wd.e,sJ,eJ,← hR,Ls.e,elem_sl intE ri,hz2,w1,hh]
  exact ih (b.t.ws.length - (i + 1)) _ _ _ (by omega) ⟨i + 1,u,by omega,rfl,e0J,by omega,by rw [fn (by rw [hh]; rfl)]; exact hoJ,rfl,rfl,rfl,rfl,rfl,rfl⟩
theorem tale_x (hv : b.valid = true) {g : List Int} {L : List Ls} (TN : TruN (b.t.kp (qG b.t g)).cp L) : ∃ x,Tr (b.t.kp (qG b.t g)) x ∧ ∀ i c,i < b.t.T → c < b.t.C → numN L i c = gap b.t.C x i c:=by
 have K:=cp_trb (kp_trb (q:=qG b.t g) (valid_trb (bk_t hv)))
 obtain ⟨x,hx,hn,_⟩:=num_tr K TN
 exact ⟨x,tr_cp.1 hx,fun i c h1 h2 => hn i c h1 h2⟩
theorem fls_says (hv : b.valid = true) {L : List Ls} {x : Nat → Int} (hn : ∀ i c,i < b.t.T → c < b.t.C → numN L i c = gap b.t.C x i c) {i : Nat} (hi : i < b.t.ws.length) : hasI (b.fls L b.t.ws.length) i = false ↔ saysW b.t.C x (b.t.ws.getD i default):=by
 have V:=valid_trb (bk_t hv)
 have tb:=wd_time V (n:=(i : Int)) (by omega) (by omega)
 rw [Int.toNat_natCast] at tb
 have cb:=wd_ch V hi
 have en:=hn (b.t.ws.getD i default).time.toNat (b.t.ws.getD i default).ch.toNat (by omega) (by omega)
 have e : hasI (b.fls L b.t.ws.length) i = true ↔ ¬ saysW b.t.C x (b.t.ws.getD i default):=by
  rw [hasI_iff,mem_fls]
  unfold saysW
  rw [← en,← inR_iff,Bool.not_eq_true]
  exact ⟨fun ⟨j,_,h2,h3⟩ => by
                  obtain rfl : j = i:=by omega
                  exact h2,fun h => ⟨i,hi,h,rfl⟩⟩
 rw [← Bool.not_eq_true,e]
 exact Classical.not_not
theorem fls_fal (hv : b.valid = true) {g : List Int} (hg : g ∈ b.sts) {L : List Ls} {x : Nat → Int} (hx : Tr (b.t.kp (qG b.t g)) x) (hn : ∀ i c,i < b.t.T → c < b.t.C → numN L i c = gap b.t.C x i c) : b.fal (b.fls L b.t.ws.length) = true:=by
 have V:=valid_trb (bk_t hv)
 obtain ⟨T1,T2,T3⟩:=tm5 (bk_t hv)
 obtain ⟨hr,hc,_⟩:=mem_sts.1 hg
 unfold Bk.fal
 rw [Bool.and_eq_true,solB_iff]
 refine ⟨can_sub (by omega) hr (tims_ris V) (fun y hy => ?_) hc,x,?_⟩
 ·obtain ⟨m,hm,rfl⟩:=(mem_tims V fls_ris).1 hy
  obtain ⟨i,hi,_,rfl⟩:=mem_fls.1 hm
  rw [Int.toNat_natCast]
  apply hasI_iff.1
  cases hh : hasI g (b.t.ws.getD i default).time
  ·have:=(fls_says hv hn hi).2 ((tr_kp.1 hx).2 i hi hh)
   rw [hasI_iff.2 hm] at this; cases this
  ·rfl
 ·have hx:=tr_kp.1 hx
  rw [tr_kp]
  exact ⟨hx.1,fun i hi hq => (fls_says hv hn hi).1 hq⟩
theorem agr_two {f : List Int → Int} {L : List (List Int)} (h : agr f L = 2) : ∀ g ∈ L,f g = 2:=by
 cases L with
 | nil => intro g hg; simp at hg
 |
  cons g0 M =>
  simp only [agr] at h
  split at h
  ·rename_i ha
   intro g hg
   rcases List.mem_cons.1 hg with rfl | hg
   ·exact h
   ·exact (of_decide_eq_true (List.all_eq_true.1 ha g hg)).trans h
  ·cases h
theorem lie_never {k : Nat} (h : agr (lieV b k) b.sts = 2) {g : List Int} (hg : g ∈ b.sts) {x : Nat → Int} (hx : Tr (b.t.kp (qG b.t g)) x) : saysW b.t.C x (b.t.ws.getD k default):=by
 have h1:=agr_two h g hg
 unfold lieV lieJ at h1
 rcases @jud_ok (b.t.kp (qG b.t g)) (b.t.ws.getD k default) with j | j | j
 ·exact j.2 x hx
 ·rw [j.1] at h1; simp at h1
 ·rw [j.1] at h1; simp at h1
theorem lie_val (hs : b.sts ≠ []) (k : Nat) : agr (lieV b k) b.sts = 1 ∨ agr (lieV b k) b.sts = 2 ∨ agr (lieV b k) b.sts = 3:=by
 have lv : ∀ g,lieV b k g = 1 ∨ lieV b k g = 2 ∨ lieV b k g = 3:=fun g => by
  unfold lieV
  rcases jud_val (b.t.kp (qG b.t g)) (b.t.ws.getD k default) with h | h | h <;> rw [h]
  ·exact .inr (.inl rfl)
  ·exact .inl rfl
  ·exact .inr (.inr rfl)
 cases h : b.sts with
 | nil => exact absurd h hs
 |
  cons g M =>
  simp only [agr]
  split
  ·exact lv g
  ·exact .inr (.inr rfl)
set_option maxHeartbeats 16000000 in
theorem l3 (H0 : BkIn b o w s) {g : List Int} {gv : AV} (hg : IsSl 1 intL g gv) {L : List Ls} {v : AV} (hL : IsSl 1 Ls.e L v) : Iso E 3 [bkV b o w s,.agg [gv,v]] false = some (Bo true):=by
 have c15:=fun st => w15 H0 st
 obtain ⟨r,hr⟩ : ∃ r,r = (!b.far && b.valid):=⟨_,rfl⟩
 rw [← hr] at c15
 cases r
 ·refine Iso_of (es _ _ _ _) e3 ?_
  simp only [f3,bkV] at c15 ⊢
  simp (disch:=first|assumption|omega|(simp only[az];done)) only [ru,eq_self,if_true,AO.row?,loadV,Am.rowAt,Am.part,Nat.reduceAdd,Nat.reduceSub,view_sl H0.t.o,view_sl H0.t.w,view_sl H0.s,pure_sl H0.t.o,pure_sl H0.t.w,pure_sl H0.s,c15,w17]
 obtain ⟨hf,hv⟩ : b.far = false ∧ b.valid = true:=by simpa using hr.symm
 have H:=H0.ok (far_huge hf)
 have V:=valid_trb (bk_t hv)
 obtain ⟨T1,T2,T3⟩:=tm5 (bk_t hv)
 have v0:=V.c0; have v1:=V.c1; have v2:=V.t0
 have eC:=trC V; have eT:=trT V
 have sw:=H.t.sw
 obtain ⟨r,c16,hr⟩:=w16 H hv hg hL
 cases r
 ·refine Iso_of (es _ _ _ _) e3 ?_
  simp only [f3,bkV] at c15 c16 ⊢
  simp (disch:=first|assumption|omega|(simp only[az];done)) only [ru,eq_self,if_true,if_false,AO.row?,loadV,Am.rowAt,Am.part,Nat.reduceAdd,Nat.reduceSub,view_sl H.t.o,view_sl H.t.w,view_sl H.s,pure_sl H.t.o,pure_sl H.t.w,pure_sl H.s,view_sl hg,pure_sl hg,view_sl hL,pure_sl hL,c15,c16,w17]
 obtain ⟨g40,l40,rows,hgs,TN⟩:=hr rfl
 clear hr
 have hs : b.sts ≠ []:=fun h => by rw [h] at hgs; simp at hgs
 obtain ⟨x,hx,hn⟩:=tale_x hv TN
 have lT : L.length = b.t.T:=TN.l
 have lC : ∀ i,i < b.t.T → (rowN L i).length = b.t.C:=fun i hi => (TN.r i hi).1
 have c20:=w20 H hv hL lT lC
 have c19:=w19 H hv
 rw [if_neg hs] at c19
 have c18:=fun st => w18 H (slV_is : IsSl 1 intL g (slV 1 intL g)) (by omega) st
 rw [hv,Bool.true_and,(sts_good hv).1 hgs,show chkB b = 0 by unfold chkB; rw [hv]; rfl] at c18
 have ff:=fls_fal hv hgs hx hn
 have fr:=fls_ris (b:=b) (L:=L) (n:=b.t.ws.length)
 have fl:=fls_len (b:=b) (L:=L) (n:=b.t.ws.length)
 have fs:=fun i hi => fls_says hv hn (i:=i) hi
 obtain ⟨F,hF⟩ : ∃ F,F = b.fls L b.t.ws.length:=⟨_,rfl⟩
 rw [← hF] at c20 ff fr fl fs
 have le : ¬ (F.length : Int) < b.bla.length:=fun h => by
  have:=bla_min fr (.inl (by omega))
  rw [ff] at this; cases this
 have ti : ∀ i : Nat,i < b.t.ws.length → hasI F i = true → hasI g (b.t.ws.getD i default).time = true:=fun i hi h => by
  cases hh : hasI g (b.t.ws.getD i default).time
  ·have:=(fs i hi).2 ((tr_kp.1 hx).2 i hi hh)
   rw [h] at this; cases this
  ·rfl
 have iF:=resL_is F
 obtain ⟨fv,hfv⟩ : ∃ fv,fv = resL F:=⟨_,rfl⟩
 rw [← hfv] at c20 iF
 have c40:=fun y st => s40 iF (by omega) y st
 have d40:=fun y st => s40 hg (by omega) y st
 have w1:=fun n st => s30 n 1 3 st
 obtain ⟨q,x0,x1,hq,A,hxx⟩:=cpyQ (eb:=8) (lim:=0) (h:=[.cells [I b.t.ch,I b.t.tm,o,w,I b.dr,I b.rn,s] false,.cells [gv,v] false]) (J:=[]) hg intE intSc (by omega) (by omega) (Nat.zero_le _)
 simp only [List.length_cons,List.length_nil,Nat.zero_add,Nat.reduceAdd,apC,apN] at A
 have hc : [AO.cells [I b.t.ch,I b.t.tm,o,w,I b.dr,I b.rn,s] false,.cells [gv,v] false,x0,x1][2 + q]? = some (.cells (g.flatMap intL) false):=by
  match q,hq with
  | 0,_ => simpa using hxx
  | 1,_ => simpa using hxx
 have vx:=fun st => RdC.view (enc:=intL) (esz:=1) (l:=g) (h:=[AO.cells [I b.t.ch,I b.t.tm,o,w,I b.dr,I b.rn,s] false,.cells [gv,v] false,x0,x1]) (w:=.ms 1 (2 + q) 0 g.length) ⟨2 + q,rfl,hc⟩ intE intIv (st:=st) (k:=7)
 refine Iso_of (es _ _ _ _) e3 ?_
 simp only [f3,bkV] at c15 c16 c20 c19 c18 ⊢
 simp (disch:=first|assumption|omega|(simp only[az];done)) only [ru,eq_self,if_true,if_false,binI,AO.row?,fillL,loadV,zeros,Am.rowAt,Am.part,addOff,Nat.reduceAdd,Nat.reduceSub,view_sl H.t.o,view_sl H.t.w,view_sl H.s,pure_sl H.t.o,pure_sl H.t.w,pure_sl H.s,view_sl hg,pure_sl hg,view_sl hL,pure_sl hL,c15,c16,c20,c19,c18,GO_mapp,hide,unhN,A,vx,lenV_sl iF,le]
 refine G_loop_ind (fun m ts hk mk => ∃ (i : Nat),i ≤ b.t.ws.length ∧ m = b.t.ws.length - i ∧ hk = [.cells [I b.t.ch,I b.t.tm,o,w,I b.dr,I b.rn,s] false,.cells [gv,v] false,x0,x1] ∧
   ts.length = 154 ∧ ts.getD 2 .undef = .ptr 0 0 ∧ ts.getD 3 .undef = .ptr 1 0 ∧ ts.getD 9 .undef = fv ∧ ts.getD 10 .undef = I i ∧ mk = []) ?_ _ _ _ _
  ⟨0,Nat.zero_le _,rfl,rfl,rfl,rfl,rfl,rfl,rfl,rfl⟩
 rintro m ts hk mk ih ⟨i,hi,rfl,rfl,hl',q2,q3,q9,q10,rfl⟩
 rw [lit_all hl']
 simp only [lit0,litS,Nat.reduceAdd,q2,q3,q9,q10]
 simp (disch:=first|assumption|omega|(simp only[az];done)) only [ru,eq_self,if_true,if_false,binI,AO.row?,loadV,Am.rowAt,Am.part,addOff,Nat.reduceAdd,lenV_sl H.t.w]
 by_cases hlt : (i : Int) < b.t.ws.length
 case pos =>
  have hi2 : i < b.t.ws.length:=by omega
  obtain ⟨k,e,c21,A1⟩:=w21 H (i : Int)
  rw [show inR (i : Int) 0 ((b.t.ws.length : Int) - 1) = true by rw [inR_iff]; omega,Int.toNat_natCast] at A1
  have h1:=A1.yes hv hs
  obtain ⟨rfl,rfl⟩ : k = agr (lieV b i) b.sts ∧ e = 0:=by simpa using h1
  have c40:=fun st => c40 (i : Int) st
  have ti:=ti i hi2
  have n1 : agr (lieV b i) b.sts = 1 → hasI F i = true:=fun h => by
   cases hh : hasI F i
   ·exact absurd ((fs i hi2).1 hh) (lie_sure h hgs hx)
   ·rfl
  have n2 : agr (lieV b i) b.sts = 2 → hasI F i = false:=fun h => (fs i hi2).2 (lie_never h hgs hx)
  have n3:=lie_val hs i
  obtain ⟨y,hy⟩ : ∃ y,y = b.t.ws.getD i default:=⟨_,rfl⟩
  rw [← hy] at ti
  have d40:=fun st => d40 y.time st
  obtain ⟨kk,hkk⟩ : ∃ kk,kk = agr (lieV b i) b.sts:=⟨_,rfl⟩
  obtain ⟨z,hz⟩ : ∃ z,z = hasI F i:=⟨_,rfl⟩
  rw [← hkk] at c21 n1 n2 n3
  rw [← hz] at c40 ti n1 n2
  have cs : (kk = 1 ∧ z = true) ∨ (kk = 2 ∧ z = false) ∨ (kk = 3 ∧ z = true) ∨ (kk = 3 ∧ z = false):=by
   rcases n3 with h | h | h
   ·exact .inl ⟨h,n1 h⟩
   ·exact .inr (.inl ⟨h,n2 h⟩)
   ·cases z
    ·exact .inr (.inr (.inr ⟨h,rfl⟩))
    ·exact .inr (.inr (.inl ⟨h,rfl⟩))
  clear hkk hz
  simp only [bkV] at c21
  rcases cs with ⟨rfl,rfl⟩ | ⟨rfl,rfl⟩ | ⟨rfl,rfl⟩ | ⟨rfl,rfl⟩
  ·rw [ti rfl] at d40
   simp (disch:=first|assumption|omega|(simp only[az];done)) only [ru,eq_self,if_true,if_false,binI,AO.row?,loadV,Am.rowAt,Am.part,addOff,Nat.reduceAdd,Int.reduceEq,Int.reduceLE,elem_sl Wd.el H.t.w,view_sl H.t.o,view_sl H.t.w,view_sl H.s,pure_sl H.t.o,pure_sl H.t.w,pure_sl H.s,Int.toNat_natCast,view_sl hg,pure_sl hg,view_sl iF,pure_sl iF,hlt,c21,c40,w1,inR,Int.toNat_natCast,← hy,Wd.e,d40]
   exact ih (b.t.ws.length - (i + 1)) _ _ _ (by omega) ⟨i + 1,by omega,rfl,rfl,rfl,rfl,rfl,rfl,rfl,rfl⟩
  ·simp (disch:=first|assumption|omega|(simp only[az];done)) only [ru,eq_self,if_true,if_false,binI,AO.row?,loadV,Am.rowAt,Am.part,Nat.reduceAdd,Int.reduceEq,Int.reduceLE,view_sl H.t.o,view_sl H.t.w,view_sl H.s,pure_sl H.t.o,pure_sl H.t.w,pure_sl H.s,view_sl iF,pure_sl iF,hlt,c21,c40,w1,inR,gUn]
   exact ih (b.t.ws.length - (i + 1)) _ _ _ (by omega) ⟨i + 1,by omega,rfl,rfl,rfl,rfl,rfl,rfl,rfl,rfl⟩
  ·rw [ti rfl] at d40
   simp (disch:=first|assumption|omega|(simp only[az];done)) only [ru,eq_self,if_true,if_false,binI,AO.row?,loadV,Am.rowAt,Am.part,addOff,Nat.reduceAdd,Int.reduceEq,Int.reduceLE,elem_sl Wd.el H.t.w,view_sl H.t.o,view_sl H.t.w,view_sl H.s,pure_sl H.t.o,pure_sl H.t.w,pure_sl H.s,Int.toNat_natCast,view_sl hg,pure_sl hg,view_sl iF,pure_sl iF,hlt,c21,c40,w1,inR,Int.toNat_natCast,← hy,Wd.e,d40]
   exact ih (b.t.ws.length - (i + 1)) _ _ _ (by omega) ⟨i + 1,by omega,rfl,rfl,rfl,rfl,rfl,rfl,rfl,rfl⟩
  ·simp (disch:=first|assumption|omega|(simp only[az];done)) only [ru,eq_self,if_true,if_false,binI,AO.row?,loadV,Am.rowAt,Am.part,Nat.reduceAdd,Int.reduceEq,Int.reduceLE,view_sl H.t.o,view_sl H.t.w,view_sl H.s,pure_sl H.t.o,pure_sl H.t.w,pure_sl H.s,view_sl iF,pure_sl iF,hlt,c21,c40,w1,inR,gUn]
   exact ih (b.t.ws.length - (i + 1)) _ _ _ (by omega) ⟨i + 1,by omega,rfl,rfl,rfl,rfl,rfl,rfl,rfl,rfl⟩
 simp (disch:=first|assumption|omega|(simp only[az];done)) only [ru,Nat.reduceAdd,hlt]
 clear ih hlt q2 q3 q9 q10 hl' hi A vx hc hxx
 refine G_loop_ind (fun m ts hk mk => ∃ (i : Nat) (J : List AO),i ≤ L.length ∧ m = L.length - i ∧ hk = .cells [I b.t.ch,I b.t.tm,o,w,I b.dr,I b.rn,s] false :: .cells [gv,v] false :: J ∧
   ts.length = 154 ∧ ts.getD 2 .undef = .ptr 0 0 ∧ ts.getD 3 .undef = .ptr 1 0 ∧ ts.getD 14 .undef = I i ∧ mk = []) ?_ _ _ _ _
  ⟨0,[x0,x1],Nat.zero_le _,rfl,rfl,rfl,rfl,rfl,rfl,rfl⟩
 rintro m ts hk mk ihI ⟨i,J,hi,rfl,rfl,hl',q2,q3,q14,rfl⟩
 rw [lit_all hl']
 simp only [lit0,litS,Nat.reduceAdd,q2,q3,q14]
 simp (disch:=first|assumption|omega|(simp only[az];done)) only [ru,eq_self,if_true,if_false,binI,AO.row?,loadV,Am.rowAt,Am.part,addOff,lenV_sl hL]
 by_cases hlt : (i : Int) < L.length
 case neg =>
  simp (disch:=first|assumption|omega|(simp only[az];done)) only [ru,eq_self,hlt,w17]
 have hi2 : i < b.t.T:=by omega
 obtain ⟨R,hR⟩ : ∃ R,R = L.getD i default:=⟨_,rfl⟩
 have ri:=Ls.is R
 have rl : (R.list.length : Int) = b.t.C:=by
  have:=lC i hi2
  rw [hR]; unfold rowN at this; omega
 have rl40:=rows R (by rw [hR]; exact getD_mem (by omega))
 simp (disch:=first|assumption|omega|(simp only[az];done)) only [ru,hlt]
 clear hl' q2 q3 q14
 refine G_loop_ind (fun m ts hk mk => ∃ (c : Nat) (J : List AO),c ≤ R.list.length ∧ m = R.list.length - c ∧ hk = .cells [I b.t.ch,I b.t.tm,o,w,I b.dr,I b.rn,s] false :: .cells [gv,v] false :: J ∧
   ts.length = 154 ∧ ts.getD 2 .undef = .ptr 0 0 ∧ ts.getD 3 .undef = .ptr 1 0 ∧ ts.getD 14 .undef = I i ∧ ts.getD 15 .undef = I c ∧ mk = []) ?_ _ _ _ _
  ⟨0,J,Nat.zero_le _,rfl,rfl,rfl,rfl,rfl,rfl,rfl,rfl⟩
 clear J
 rintro m ts hk mk ihC ⟨c,J,hcl,rfl,rfl,hl',q2,q3,q14,q15,rfl⟩
 rw [lit_all hl']
 simp only [lit0,litS,Nat.reduceAdd,q2,q3,q14,q15]
 simp (disch:=first|assumption|omega|(simp only[az];done)) only [ru,eq_self,if_true,if_false,binI,AO.row?,loadV,Am.rowAt,Am.part,addOff,elem_sl Ls.el hL,Int.toNat_natCast,← hR,Ls.e,lenV_sl ri]
 by_cases hlc : (c : Int) < R.list.length
 case neg =>
  simp (disch:=first|assumption|omega|(simp only[az];done)) only [ru,eq_self,if_true,binI,hlc]
  exact ihI (L.length - (i + 1)) _ _ _ (by omega) ⟨i + 1,J,by omega,rfl,rfl,rfl,rfl,rfl,rfl,rfl⟩
 have hc2 : c < b.t.C:=by omega
 obtain ⟨lo,hi',e,c24,A2⟩:=w24 H (i : Int) (c : Int)
 rw [show (inR (i : Int) 0 (wr .i64 (b.t.tm - 1)) && inR (c : Int) 0 (wr .i64 (b.t.ch - 1))) = true by rw [wr64 (by omega) (by omega),wr64 (by omega) (by omega),Bool.and_eq_true,inR_iff,inR_iff]; omega,Int.toNat_natCast,Int.toNat_natCast] at A2
 obtain ⟨X,e0⟩:=A2.yes hv hs
 obtain rfl : e = 0:=e0
 have bd:=X.bd g hgs x hx
 obtain ⟨z,hz⟩ : ∃ z,z = R.list.getD c 0:=⟨_,rfl⟩
 have hz2 : R.list.getD c default = z:=hz.symm
 have en:=hn i c hi2 hc2
 rw [show numN L i c = z by rw [hz,hR]; rfl] at en
 have b1 : lo ≤ z:=by rw [en]; exact bd.1
 have b2 : z ≤ hi':=by rw [en]; exact bd.2
 have sE : ∀ x y : AO,(J ++ [y]).set J.length x = J ++ [x]:=fun x y => by simp
 have aE : ∀ x : AO,(J ++ [x])[J.length]? = some x:=fun x => by simp
 simp only [bkV] at c24
 simp (disch:=first|assumption|omega|(simp only[az];done)) only [ru,eq_self,if_true,if_false,binI,AO.row?,splice,loadV,storeV,Am.rowAt,Am.part,addOff,Nat.reduceAdd,Nat.reduceLeDiff,view_sl H.t.o,view_sl H.t.w,view_sl H.s,pure_sl H.t.o,pure_sl H.t.w,pure_sl H.s,Int.toNat_natCast,elem_sl Ls.el hL,hlc,Int.toNat_natCast,← hR,Ls.e,elem_sl intE ri,c24,sE,aE,hz2,w25,b1,b2]
 exact ihC (R.list.length - (c + 1)) _ _ _ (by omega) ⟨c + 1,_,by omega,rfl,rfl,rfl,rfl,rfl,rfl,rfl,rfl⟩
end
end Go.Proofs.YtfknojncfbahpaaGreat.S
