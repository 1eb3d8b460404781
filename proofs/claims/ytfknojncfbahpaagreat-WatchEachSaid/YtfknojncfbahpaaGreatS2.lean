/-
The functions and the mathematics, one after another (S2).
-/
import Derived.Test.YtfknojncfbahpaaGreatS1
import Derived.Test.YtfknojncfbahpaaGreatAmZ
namespace Go.Proofs.YtfknojncfbahpaaGreat.S
open Go Go.Am Go.Proofs.YtfknojncfbahpaaGreat.T
set_option maxRecDepth 100000
set_option linter.unusedSimpArgs false
set_option linter.unusedVariables false
theorem asc_ext : ∀ {l m : List Int},l.Pairwise (· < ·) → m.Pairwise (· < ·) → (∀ x,x ∈ l ↔ x ∈ m) → l = m
 | [],[],_,_,_ => rfl
 | [],b :: m,_,_,h => absurd ((h b).2 (by simp)) (by simp)
 | a :: l,[],_,_,h => absurd ((h a).1 (by simp)) (by simp)
 |
  a :: l,b :: m,hl,hm,h => by
  have h1:=List.pairwise_cons.1 hl
  have h2:=List.pairwise_cons.1 hm
  have e : a = b:=by
   rcases List.mem_cons.1 ((h a).1 (by simp)) with e | e
   ·exact e
   ·rcases List.mem_cons.1 ((h b).2 (by simp)) with e' | e'
    ·exact e'.symm
    ·have:=h1.1 b e'; have:=h2.1 a e; omega
  subst e
  rw [asc_ext h1.2 h2.2 fun x => ?_]
  constructor
  ·intro hx
   rcases List.mem_cons.1 ((h x).1 (by simp [hx])) with e | e
   ·have:=h1.1 x hx; omega
   ·exact e
  ·intro hx
   rcases List.mem_cons.1 ((h x).2 (by simp [hx])) with e | e
   ·have:=h2.1 x hx; omega
   ·exact e
def tims (t : Trap) (W : List Int) : List Int:=((List.range t.T).filter fun (k : Nat) => W.any fun n => (t.ws.getD n.toNat default).time == (k : Int)).map fun (k : Nat) => (k : Int)
theorem tims_pw {t : Trap} {W : List Int} : (tims t W).Pairwise (· < ·):=by
 unfold tims
 rw [List.pairwise_map]
 exact ((List.pairwise_lt_range (n:=t.T)).filter _).imp fun h => by omega
theorem wd_time {t : Trap} (V : TrB t) {n : Int} (h0 : 0 ≤ n) (hn : n < t.ws.length) : 0 ≤ (t.ws.getD n.toNat default).time ∧ (t.ws.getD n.toNat default).time < t.T:=by
 have f:=V.fw _ (getD_mem (show n.toNat < t.ws.length by omega))
 simp only [fitB,placeB,Bool.and_eq_true,decide_eq_true_eq] at f
 have:=trT V
 omega
theorem mem_tims {t : Trap} (V : TrB t) {W : List Int} (hW : ris t.ws.length W) {x : Int} : x ∈ tims t W ↔ ∃ n ∈ W,(t.ws.getD n.toNat default).time = x:=by
 simp only [tims,List.mem_map,List.mem_filter,List.mem_range,List.any_eq_true,beq_iff_eq]
 constructor
 ·rintro ⟨k,⟨_,n,hn,e⟩,rfl⟩
  exact ⟨n,hn,e⟩
 ·rintro ⟨n,hn,e⟩
  have hb:=hW.1 n hn
  have:=wd_time V hb.1 hb.2
  exact ⟨x.toNat,⟨by omega,n,hn,by omega⟩,by omega⟩
theorem tims_ris {t : Trap} (V : TrB t) {W : List Int} : ris t.T (tims t W):=by
 refine ⟨fun x hx => ?_,tims_pw⟩
 simp only [tims,List.mem_map,List.mem_filter,List.mem_range] at hx
 obtain ⟨k,⟨hk,_⟩,rfl⟩:=hx
 omega
section
variable {b : Bk} {o w s : AV}
set_option maxHeartbeats 4000000 in
theorem w123 (H : BkOk b o w s) (hv : b.valid = true) {sv : AV} {X : List (List Int)} (HS : IsSl 5 (stE b o) X sv) {W : List Int} {lv : AV} (hl : IsSl 1 intL W lv) (hW : ris b.t.ws.length W) : Iso E 123 [wkV b o w s sv,lv] false = some (resL (tims b.t W)):=by
 have V:=valid_trb (bk_t hv)
 have w8:=valid_w8 (bk_t hv)
 have Wl:=ris_len hW
 have sw:=H.t.sw
 suffices hh : ∃ r h',R E (.fn 123) [wkV b o w s sv,lv] [] 0 = some (r,h') ∧ Am.view false h' 8 r = some (resL (tims b.t W)) by
  obtain ⟨r,h',hr,h2⟩:=hh
  simp only [Iso,hr]; exact h2
 refine R_of (f:=123) (fun r h' => Am.view false h' 8 r = some (resL (tims b.t W))) (es _ _ _ _) e123 ?_
 obtain ⟨F,hF⟩ : ∃ F : Nat → List Int,F = fun i => (W.take i).map fun n => (b.t.ws.getD n.toNat default).time:=⟨_,rfl⟩
 have F0 : F 0 = []:=by rw [hF]; rfl
 have Fs : ∀ i,i < W.length → F (i + 1) = F i ++ [(b.t.ws.getD (W.getD i 0).toNat default).time]:=fun i hi => by
  rw [hF]
  simp only
  rw [List.take_succ_eq_append_getElem hi,List.map_append]
  simp [List.getD_eq_getElem?_getD,hi]
 have Fl : ∀ i,(F i).length ≤ W.length:=fun i => by rw [hF]; simp; omega
 have Fn : F W.length = W.map fun n => (b.t.ws.getD n.toNat default).time:=by rw [hF]; simp
 simp only [f123,wkV,wkC]
 simp (disch:=first|assumption|omega|(simp only[az];done)) only [ru,Nat.reduceAdd,Nat.reduceSub,lenV_sl hl]
 refine G_loop_ind (fun m ts hk mk => ∃ (i : Nat) (v : AV),i ≤ W.length ∧ m = W.length - i ∧ hk[0]? = some (.cells [I b.t.ch,I b.t.tm,o,w,I b.dr,I b.rn,s,sv] false) ∧ 1 ≤ hk.length ∧ OutE intL 1 1 hk v (F i) ∧
   ts.length = 30 ∧ ts.getD 2 .undef = .ptr 0 0 ∧ ts.getD 5 .undef = v ∧ ts.getD 8 .undef = lv ∧ ts.getD 9 .undef = I W.length ∧ ts.getD 10 .undef = I i ∧ mk = []) ?_ _ _ _ _
  ⟨0,.nils,Nat.zero_le _,rfl,rfl,by simp,.inl ⟨F0,rfl⟩,rfl,rfl,rfl,rfl,rfl,rfl,rfl⟩
 rintro m ts hk mk ih ⟨i,v,hi,rfl,e0,n1,ho,hl',q2,q5,q8,q9,q10,rfl⟩
 rw [lit_all hl']
 simp only [lit0,litS,Nat.reduceAdd,q2,q5,q8,q9,q10]
 simp (disch:=first|assumption|omega|(simp only[az];done)) only [ru,eq_self,if_true,binI]
 by_cases hlt : (i : Int) < W.length
 case neg =>
  obtain rfl : i = W.length:=by omega
  rw [Fn] at ho
  rcases ho with ⟨h0,rfl⟩ | ⟨hne,oo,hoo,rfl,hc⟩
  ·have W0 : W = []:=by simpa using h0
   have et : tims b.t W = []:=by rw [W0]; simp [tims]
   have c147:=w147 (n:=0) (v:=.nils) (lim:=0) (h:=hk) (h':=hk) rfl (by omega) w166n
   have c148 : R E (.fn 148) [.nils] hk 0 = some (.nils,hk):=by
    obtain ⟨r,h',hr,rfl,rfl⟩:=R_of (f:=148) (vs:=[.nils]) (h:=hk) (lim:=0) (fun r h' => r = .nils ∧ h' = hk) (es _ _ _ _) e148 (by
     simp only [f148]
     simp (disch:=first|assumption|omega|(simp only[az];done)) only [ru,eq_self,if_true,binI,Nat.reduceSub,Int.reduceLT])
    exact hr
   rw [et]
   simp (disch:=first|assumption|omega|(simp only[az];done)) only [ru,hlt,c147,c148]
   rfl
  ·obtain ⟨l,hlL⟩ : ∃ l,l = W.map fun n => (b.t.ws.getD n.toNat default).time:=⟨_,rfl⟩
   rw [← hlL] at hne hc
   have ll : l.length = W.length:=by rw [hlL]; simp
   have e1 : (W.map fun n => (b.t.ws.getD n.toNat default).time).length = l.length:=by rw [← hlL]
   rw [e1]
   have l1 : 1 ≤ l.length:=by
    cases l with
    | nil => exact absurd rfl hne
    | cons => simp
   have ol:=(List.getElem?_eq_some_iff.1 hc).1
   obtain ⟨m,hr,ml,mm,ms⟩:=w166 (lim:=0) hc (by omega) (by omega)
   have c147:=w147 (n:=l.length) (v:=.ms 1 oo 0 l.length) rfl (by omega) hr
   obtain ⟨v',h',l',hr2,vw,pw,mem⟩:=w148 (m:=m) (oo:=oo) (lim:=0) (h:=hk.set oo (.cells (m.flatMap intL) false)) (List.getElem?_set_self ol) (by omega) (by omega) (by omega) ms
   rw [ml] at hr2
   have et : l' = tims b.t W:=asc_ext pw tims_pw fun x => by
    rw [mem,mm,mem_tims V hW,hlL,List.mem_map]
   have ne' : tims b.t W ≠ []:=by
    intro h
    have : (l.getD 0 0) ∈ l':=by rw [mem,mm]; exact getD_memI (by omega)
    rw [et,h] at this; simp at this
   have vw7:=vw false 7
   rw [et] at vw7
   have er : slV 1 intL (tims b.t W) = resL (tims b.t W):=by unfold resL; rw [if_neg ne']
   rw [er] at vw7
   simp (disch:=first|assumption|omega|(simp only[az];done)) only [ru,eq_self,hlt,c147,hr2,vw7]
 have hi2 : i < W.length:=by omega
 have su:=Fs i hi2
 obtain ⟨x,hx⟩ : ∃ x,x = W.getD i default:=⟨_,rfl⟩
 have hx' : W.getD i 0 = x:=hx.symm
 have hxb:=hW.1 x (by rw [hx]; exact getD_mem hi2)
 rw [hx'] at su
 obtain ⟨y,hy⟩ : ∃ y,y = b.t.ws.getD x.toNat default:=⟨_,rfl⟩
 rw [← hy] at su
 have x1:=hxb.1
 have x2:=hxb.2
 obtain ⟨v',h',ha,ho',hb',hk'⟩:=outE_ap (lim:=0) (eb:=8) intE (fun _ => rfl) (by omega) (by omega) (by omega) ho n1 (by omega) (by have:=Fl i; omega) y.time
 simp (disch:=first|assumption|omega|(simp only[az];done)) only [ru,eq_self,if_true,if_false,binI,AO.row?,splice,fillL,loadV,zeros,Am.rowAt,Am.part,addOff,Nat.reduceMul,Nat.reduceLeDiff,elem_sl Wd.el H.t.w,Int.toNat_natCast,elem_sl intE hl,hlt,← hx,e0,← hy,Wd.e,ha]
 exact ih (W.length - (i + 1)) _ _ _ (by omega) ⟨i + 1,v',by omega,rfl,by rw [hk' 0 (by omega)]; exact e0,hb',by rw [su]; exact ho',rfl,rfl,rfl,rfl,rfl,rfl,rfl⟩
noncomputable def _root_.Go.Proofs.YtfknojncfbahpaaGreat.S.Bk.fal (b : Bk) (W : List Int) : Bool:=b.can (tims b.t W) && solB (b.t.kp (qL W))
noncomputable def _root_.Go.Proofs.YtfknojncfbahpaaGreat.S.Bk.bla (b : Bk) : List Int:=((alls b.t.ws.length).filter b.fal).headD []
set_option maxHeartbeats 4000000 in
theorem w82 (H : BkOk b o w s) (hv : b.valid = true) {sv : AV} {X : List (List Int)} (HS : IsSl 5 (stE b o) X sv) : Iso E 82 [wkV b o w s sv] false = some (resL b.bla):=by
 have V:=valid_trb (bk_t hv)
 have w8:=valid_w8 (bk_t hv)
 obtain ⟨T1,T2,T3⟩:=tm5 (bk_t hv)
 have c122:=fun st => w122 (n:=b.t.ws.length) w8 st
 have hmem : ∀ x ∈ alls b.t.ws.length,ris b.t.ws.length x:=fun x hx => mem_alls.1 hx
 have hbl : b.bla = ((alls b.t.ws.length).filter b.fal).headD []:=rfl
 have hal:=alls_le (k:=b.t.ws.length) w8
 obtain ⟨A,hA⟩ : ∃ A,A = alls b.t.ws.length:=⟨_,rfl⟩
 rw [← hA] at c122 hmem hbl hal
 have IA:=resLL_is A
 obtain ⟨av,hav⟩ : ∃ av,av = resLL A:=⟨_,rfl⟩
 rw [← hav] at c122 IA
 refine Iso_of (es _ _ _ _) e82 ?_
 simp only [f82,wkV,wkC]
 simp (disch:=first|assumption|omega|(simp only[az];done)) only [ru,eq_self,if_true,if_false,AO.row?,loadV,Am.rowAt,Am.part,addOff,Nat.reduceSub,lenV_sl H.t.w,c122,lenV_sl IA]
 refine G_loop_ind (fun m ts hk mk => ∃ (i : Nat),i ≤ A.length ∧ m = A.length - i ∧ hk[0]? = some (.cells [I b.t.ch,I b.t.tm,o,w,I b.dr,I b.rn,s,sv] false) ∧ 1 ≤ hk.length ∧ (A.take i).filter b.fal = [] ∧
   ts.length = 29 ∧ ts.getD 1 .undef = .ptr 0 0 ∧ ts.getD 10 .undef = av ∧ ts.getD 11 .undef = I A.length ∧ ts.getD 12 .undef = I i ∧ mk = []) ?_ _ _ _ _
  ⟨0,Nat.zero_le _,rfl,rfl,by simp,rfl,rfl,rfl,rfl,rfl,rfl,rfl⟩
 rintro m ts hk mk ih ⟨i,hi,rfl,e0,n1,hno,hl',q1,q10,q11,q12,rfl⟩
 rw [lit_all hl']
 simp only [lit0,litS,Nat.reduceAdd,q1,q10,q11,q12]
 simp (disch:=first|assumption|omega|(simp only[az];done)) only [ru,eq_self,if_true,binI]
 by_cases hlt : (i : Int) < A.length
 case neg =>
  obtain rfl : i = A.length:=by omega
  rw [List.take_length] at hno
  rw [hno] at hbl
  have eb : resL b.bla = .nils:=by rw [hbl]; rfl
  rw [eb]
  simp (disch:=first|assumption|omega|(simp only[az];done)) only [ru,eq_self,hlt]
 have hi2 : i < A.length:=by omega
 obtain ⟨W,hW⟩ : ∃ W,W = A.getD i []:=⟨_,rfl⟩
 have hWm : W ∈ A:=by rw [hW]; exact getD_memL hi2
 have hWr:=hmem W hWm
 have sn:=flt_snoc (p:=b.fal) hi2
 rw [show A.getD i default = W from hW.symm,hno,List.nil_append] at sn
 have gi:=resL_is W
 have gl:=ris_len hWr
 have ea:=elem_ll IA i (by omega) hlt
 rw [Int.toNat_natCast,← hW] at ea
 have c123:=w123 H hv HS gi hWr
 have ti:=resL_is (tims b.t W)
 have tr:=tims_ris V (W:=W)
 have c112:=fun J => w112 H (sv:=sv) (scalar_sl HS) ti (ris_mono T3 tr) J
 have ef : b.fal W = (b.can (tims b.t W) && solB (b.t.kp (qL W))):=rfl
 obtain ⟨gv,hgv⟩ : ∃ gv,gv = resL W:=⟨_,rfl⟩
 obtain ⟨tv,htv⟩ : ∃ tv,tv = resL (tims b.t W):=⟨_,rfl⟩
 rw [← hgv] at ea gi c123
 rw [← htv] at c123 ti c112
 have d0 : (hk ++ [AO.cells [gv] false])[0]? = some (.cells [I b.t.ch,I b.t.tm,o,w,I b.dr,I b.rn,s,sv] false):=by rw [List.getElem?_append_left (by omega)]; exact e0
 simp only [wkV,wkC] at c123 c112
 cases hc : b.can (tims b.t W) <;> rw [hc] at c112 ef
 ·rw [Bool.false_and] at ef
  rw [ef] at sn
  simp only [Bool.false_eq_true,if_false] at sn
  simp (disch:=first|assumption|omega|(simp only[az];done)) only [ru,eq_self,if_true,if_false,binI,AO.row?,splice,loadV,storeV,Am.rowAt,Am.part,Nat.reduceAdd,Nat.reduceLeDiff,view_sl H.t.o,view_sl H.t.w,view_sl H.s,pure_sl H.t.o,pure_sl H.t.w,pure_sl H.s,view_sl HS,pure_sl HS,hlt,ea,view_sl gi,scalar_sl gi,cells_sl gi,pure_sl gi,d0,c123,c112]
  exact ih (A.length - (i + 1)) _ _ _ (by omega) ⟨i + 1,by omega,rfl,d0,by simp,sn,rfl,rfl,rfl,rfl,rfl,rfl⟩
 rw [Bool.true_and] at ef
 obtain ⟨h1,hh1⟩ : ∃ h1,h1 = hk ++ [AO.cells [gv] false]:=⟨_,rfl⟩
 have a1 : h1[hk.length]? = some (.cells [gv] false):=by rw [hh1]; exact atE
 have l1 : h1.length = hk.length + 1:=by rw [hh1]; simp
 obtain ⟨wv,h',hr,fr,ho⟩:=w109 H (sv:=sv) (scalar_sl HS) (q:=qL W) (k:=124) (cap:=[.ptr hk.length 0]) (h:=h1) (lim:=0) (Nat.zero_le _) (fun j hj g' fg => w124 gi (by omega) (fg.at a1) j)
 have K:=H.t.kp (resW_is (kpL b.t.ws (qL W) b.t.ws.length))
 have c113:=fun st => w113 K (kp_valid (bk_t hv)) st
 have vw:=fun st => ho.viewW (st:=st) (k:=6)
 rw [← ef] at c113
 simp only [trV,show (b.t.kp (qL W)).ch = b.t.ch from rfl,show (b.t.kp (qL W)).tm = b.t.tm from rfl] at c113
 have a2:=fr.at a1
 have fr0 : Fr hk h1:=by rw [hh1]; exact Fr.app _ _
 have e0':=(fr0.trans fr).at e0
 rw [← hh1] at d0
 have l4:=fr.l
 simp only [wkV,wkC] at hr
 have vg : Am.view false h' 8 gv = some gv:=view_sl gi _ _
 cases hf : b.fal W <;> rw [hf] at c113 sn
 ·simp only [Bool.false_eq_true,if_false] at sn
  simp (disch:=first|assumption|omega|(simp only[az];done)) only [ru,eq_self,if_true,if_false,binI,AO.row?,splice,loadV,storeV,Am.rowAt,Am.part,Nat.reduceAdd,Nat.reduceLeDiff,view_sl H.t.o,view_sl H.t.w,view_sl H.s,pure_sl H.t.o,pure_sl H.t.w,pure_sl H.s,view_sl HS,pure_sl HS,hlt,ea,view_sl gi,scalar_sl gi,cells_sl gi,pure_sl gi,← hh1,d0,a1,c123,c112,hr,vw,c113]
  exact ih (A.length - (i + 1)) _ _ _ (by omega) ⟨i + 1,by omega,rfl,e0',by omega,sn,rfl,rfl,rfl,rfl,rfl,rfl⟩
 ·simp only [if_true] at sn
  have eb : b.bla = W:=by
   rw [hbl]
   have:=congrArg (fun l => l ++ (A.drop (i + 1)).filter b.fal) sn
   simp only [← List.filter_append,List.take_append_drop] at this
   rw [this]; rfl
  rw [eb,← hgv]
  simp (disch:=first|assumption|omega|(simp only[az];done)) only [ru,eq_self,if_true,if_false,AO.row?,splice,loadV,storeV,Am.rowAt,Am.part,Nat.reduceAdd,Nat.reduceLeDiff,view_sl H.t.o,view_sl H.t.w,view_sl H.s,pure_sl H.t.o,pure_sl H.t.w,pure_sl H.s,view_sl HS,pure_sl HS,hlt,ea,view_sl gi,scalar_sl gi,cells_sl gi,pure_sl gi,← hh1,d0,a1,c123,c112,hr,vw,c113,a2]
theorem w33 (H : BkOk b o w s) : ∃ v l e,Iso E 33 [bkV b o w s] false = some (.tup [v,I e]) ∧ IsSl 1 intL l v ∧ AnB b true (fun e => (([] : List Int),e)) (fun r => r = (b.bla,0)) (l,e):=by
 obtain ⟨r,e,c71,A⟩:=w71 H true
 cases A with
 |
  bad hv =>
  refine ⟨.nils,[],110,?_,.inr ⟨rfl,rfl⟩,.bad hv⟩
  refine Iso_of (es _ _ _ _) e33 ?_
  simp only [f33,bkV,zer8] at c71 ⊢
  simp (disch:=first|assumption|omega|(simp only[az];done)) only [ru,eq_self,if_true,binI,AO.row?,splice,loadV,storeV,Am.rowAt,Am.part,Nat.reduceAdd,Nat.reduceLeDiff,Nat.reduceSub,Int.reduceEq,view_sl H.t.o,view_sl H.t.w,view_sl H.s,pure_sl H.t.o,pure_sl H.t.w,pure_sl H.s,c71]
 | arg hv hf => cases hf
 |
  none hv hf hn =>
  refine ⟨.nils,[],3,?_,.inr ⟨rfl,rfl⟩,.none hv rfl hn⟩
  refine Iso_of (es _ _ _ _) e33 ?_
  simp only [f33,bkV,zer8] at c71 ⊢
  simp (disch:=first|assumption|omega|(simp only[az];done)) only [ru,eq_self,if_true,binI,AO.row?,splice,loadV,storeV,Am.rowAt,Am.part,Nat.reduceAdd,Nat.reduceLeDiff,Nat.reduceSub,Int.reduceEq,view_sl H.t.o,view_sl H.t.w,view_sl H.s,pure_sl H.t.o,pure_sl H.t.w,pure_sl H.s,c71]
 |
  ok hv hf hs =>
  have HS:=resS_is (b:=b) (o:=o) b.sts
  obtain ⟨sv,hsv⟩ : ∃ sv,sv = resS b o b.sts:=⟨_,rfl⟩
  rw [← hsv] at c71 HS
  have c:=w82 H hv HS
  have gi:=resL_is b.bla
  refine ⟨resL b.bla,b.bla,0,?_,gi,.ok hv rfl hs rfl⟩
  obtain ⟨gv,hgv⟩ : ∃ gv,gv = resL b.bla:=⟨_,rfl⟩
  rw [← hgv] at c gi ⊢
  refine Iso_of (es _ _ _ _) e33 ?_
  simp only [f33,bkV,wkV,wkC] at c71 c ⊢
  simp (disch:=first|assumption|omega|(simp only[az];done)) only [ru,eq_self,if_true,binI,AO.row?,splice,loadV,storeV,Am.rowAt,Am.part,Nat.reduceAdd,Nat.reduceLeDiff,Nat.reduceSub,view_sl H.t.o,view_sl H.t.w,view_sl H.s,scalar_sl H.t.o,scalar_sl H.t.w,scalar_sl H.s,pure_sl H.t.o,pure_sl H.t.w,pure_sl H.s,view_sl HS,scalar_sl HS,pure_sl HS,c71,c,view_sl gi]
theorem w60 (H : BkOk b o w s) : ∃ v e,Iso E 60 [bkV b o w s] false = some (.tup [I v,I e]) ∧ AnB b true (fun e => ((0 : Int),e)) (fun r => r = ((b.bla.length : Int),0)) (v,e):=by
 obtain ⟨v,l,e,c33,il,A⟩:=w33 H
 refine ⟨(l.length : Int),e,?_,?_⟩
 ·refine Iso_of (es _ _ _ _) e60 ?_
  simp only [f60,bkV] at c33 ⊢
  simp (disch:=first|assumption|omega|(simp only[az];done)) only [ru,eq_self,if_true,AO.row?,loadV,Am.rowAt,Am.part,Nat.reduceAdd,Nat.reduceSub,view_sl H.t.o,view_sl H.t.w,view_sl H.s,pure_sl H.t.o,pure_sl H.t.w,pure_sl H.s,c33,lenV_sl il]
 ·generalize hy : (l,e) = y at A
  cases A with
  | bad hv => cases hy; exact .bad hv
  | arg hv hf => cases hf
  | none hv hf hn => cases hy; exact .none hv hf hn
  |
   ok hv hf hs hp =>
   rw [← hy] at hp
   cases hp
   exact .ok hv hf hs rfl
end
end Go.Proofs.YtfknojncfbahpaaGreat.S
namespace Go.Proofs.YtfknojncfbahpaaGreat.S
open Go Go.Am Go.Proofs.YtfknojncfbahpaaGreat.T
set_option maxRecDepth 100000
set_option linter.unusedSimpArgs false
set_option linter.unusedVariables false
def Bk.cp (b : Bk) : Bk:=⟨b.t.cp,b.dr,b.rn,b.so⟩
abbrev cpB (b : Bk) : AV:=bkV b (cpO b.t.op) (slV 4 Wd.e b.t.ws) (slV 1 intL b.so)
def Bk.huge (b : Bk) : Bool:=b.t.huge || decide (b.so.length > 40)
def Bk.far (b : Bk) : Bool:=b.huge || ((decide (b.t.ch > 3) || decide (b.t.tm > 4)) && b.valid)
theorem BkIn.ok {b : Bk} {o w s : AV} (H : BkIn b o w s) (h : b.huge = false) : BkOk b o w s:=by
 simp only [Bk.huge,Bool.or_eq_false_iff,decide_eq_false_iff_not] at h
 exact ⟨H.t.ok h.1,H.s,by omega⟩
theorem far_huge {b : Bk} (h : b.far = false) : b.huge = false:=by
 simp only [Bk.far,Bool.or_eq_false_iff] at h; exact h.1
section
variable {b : Bk} {o w s : AV}
set_option maxHeartbeats 1000000 in
theorem w35 (H : BkOk b o w s) : Iso E 35 [bkV b o w s] false = some (cpB b):=by
 have ss:=H.ss
 have c41:=fun st => s41 H.t st
 have oi : IsSl 1 Ls.e (cpL b.t.op) (cpO b.t.op):=cpO_is
 have wi : IsSl 4 Wd.e b.t.ws (slV 4 Wd.e b.t.ws):=slV_is
 obtain ⟨co,hco⟩ : ∃ co,co = cpO b.t.op:=⟨_,rfl⟩
 obtain ⟨cw,hcw⟩ : ∃ cw,cw = slV 4 Wd.e b.t.ws:=⟨_,rfl⟩
 simp only [cpV,trV,← hco,← hcw] at c41 oi wi
 unfold cpB bkV
 rw [← hco,← hcw]
 obtain ⟨q,x0,x1,hq,A,hx⟩:=cpyQ (eb:=8) (lim:=0) (h:=[.cells [I b.t.ch,I b.t.tm,o,w,I b.dr,I b.rn,s] false,.cells [I 0,I 0,.nils,.nils,I 0,I 0,.nils] false]) (J:=[]) H.s intE intSc (by omega) (by omega) (Nat.zero_le _)
 simp only [List.length_cons,List.length_nil,Nat.zero_add,Nat.reduceAdd,apC,apN] at A
 have hr : ∃ r h',R E (.fn 35) [bkV b o w s] [] 0 = some (r,h') ∧ (r = .agg [I b.t.ch,I b.t.tm,co,cw,I b.dr,I b.rn,.ms 1 (2 + q) 0 b.so.length] ∧ h'[2 + q]? = some (.cells (b.so.flatMap intL) false)):=by
  refine R_of (fun r h' => r = .agg [I b.t.ch,I b.t.tm,co,cw,I b.dr,I b.rn,.ms 1 (2 + q) 0 b.so.length] ∧ h'[2 + q]? = some (.cells (b.so.flatMap intL) false)) (es _ _ _ _) e35 ?_
  simp only [f35,bkV]
  simp (disch:=first|assumption|omega|(simp only[az];done)) only [ru,eq_self,if_true,if_false,AO.row?,splice,fillL,loadV,storeV,zeros,Am.rowAt,Am.part,addOff,Nat.reduceAdd,Nat.reduceLeDiff,Nat.reduceSub,view_sl H.t.o,view_sl H.t.w,pure_sl H.t.o,pure_sl H.t.w,c41,scalar_sl oi,scalar_sl wi,GO_mapp,hide,unhN,A,finC,getRes,Option.some.injEq,exists_eq_left']
  match q,hq with
  | 0,_ => simpa using hx
  | 1,_ => simpa using hx
 obtain ⟨r,h',hr,rfl,hc⟩:=hr
 have hv:=RdC.view (enc:=intL) (esz:=1) (l:=b.so) (h:=h') (w:=.ms 1 (2 + q) 0 b.so.length) ⟨2 + q,rfl,hc⟩ intE intIv (st:=false) (k:=6)
 have vo : Am.view false h' 7 co = some co:=view_sl oi _ _
 have vw : Am.view false h' 7 cw = some cw:=view_sl wi _ _
 unfold bkV at hr
 simp only [Iso,hr,view_agg,List.mapM_cons,List.mapM_nil,view_int,vo,vw,hv,Option.bind_eq_bind,Option.bind_some,Option.pure_def]
 rfl
theorem w46 (H : BkIn b o w s) (st : Bool) : Iso E 46 [bkV b o w s] st = some (Bo b.huge):=by
 have c:=fun st => s53 H.t st
 have e : decide (b.so.length > 40) = decide ((b.so.length : Int) > 40):=by
  by_cases h : b.so.length > 40
  ·rw [decide_eq_true h,decide_eq_true (by omega)]
  ·rw [decide_eq_false h,decide_eq_false (by omega)]
 unfold Bk.huge
 rw [e]
 refine Iso_of (es _ _ _ _) e46 ?_
 simp only [f46,bkV,trV] at c ⊢
 cases hh : b.t.huge <;> simp only [hh] at c
 ·simp (disch:=first|assumption|omega|(simp only[az];done)) only [ru,eq_self,if_true,if_false,binI,AO.row?,loadV,Am.rowAt,Am.part,addOff,Nat.reduceAdd,Nat.reduceSub,lenV_sl H.s,view_sl H.t.o,view_sl H.t.w,pure_sl H.t.o,pure_sl H.t.w,c,Bool.false_or]
 ·simp (disch:=first|assumption|omega|(simp only[az];done)) only [ru,eq_self,if_true,AO.row?,loadV,Am.rowAt,Am.part,addOff,Nat.reduceAdd,Nat.reduceSub,view_sl H.t.o,view_sl H.t.w,pure_sl H.t.o,pure_sl H.t.w,c,Bool.true_or]
theorem w58 (H : BkIn b o w s) (st : Bool) : Iso E 58 [bkV b o w s] st = some (Bo b.far):=by
 have c46:=fun st => w46 H st
 unfold Bk.far
 cases hh : b.huge
 case true =>
  rw [Bool.true_or]
  refine Iso_of (es _ _ _ _) e58 ?_
  simp only [f58,bkV,hh] at c46 ⊢
  simp (disch:=first|assumption|omega|(simp only[az];done)) only [ru,eq_self,if_true,AO.row?,loadV,Am.rowAt,Am.part,Nat.reduceAdd,Nat.reduceSub,view_sl H.t.o,view_sl H.t.w,view_sl H.s,pure_sl H.t.o,pure_sl H.t.w,pure_sl H.s,c46,gUn]
 rw [Bool.false_or]
 have K:=H.ok hh
 have c49:=fun st => w49 K st
 have e49 : ∀ {x : Bool},b.valid = x → decide (chkB b = 0) = x:=by
  intro x hx; subst hx; unfold chkB; cases b.valid <;> rfl
 obtain ⟨z,hz⟩ : ∃ z,z = b.valid:=⟨_,rfl⟩
 have e49:=e49 hz.symm
 rw [← hz]
 obtain ⟨y,hy⟩ : ∃ y,y = chkB b:=⟨_,rfl⟩
 rw [← hy] at c49 e49
 by_cases h1 : b.t.ch > 3
 ·refine Iso_of (es _ _ _ _) e58 ?_
  simp only [f58,bkV,hh] at c46 c49 ⊢
  simp (disch:=first|assumption|omega|(simp only[az];done)) only [ru,eq_self,if_true,if_false,binI,AO.row?,loadV,Am.rowAt,Am.part,addOff,Nat.reduceAdd,Nat.reduceSub,view_sl H.t.o,view_sl H.t.w,view_sl H.s,pure_sl H.t.o,pure_sl H.t.w,pure_sl H.s,c46,h1,c49,e49,Bool.true_or]
 ·by_cases h2 : b.t.tm > 4
  ·refine Iso_of (es _ _ _ _) e58 ?_
   simp only [f58,bkV,hh] at c46 c49 ⊢
   simp (disch:=first|assumption|omega|(simp only[az];done)) only [ru,eq_self,if_true,if_false,binI,AO.row?,loadV,Am.rowAt,Am.part,addOff,Nat.reduceAdd,Nat.reduceSub,view_sl H.t.o,view_sl H.t.w,view_sl H.s,pure_sl H.t.o,pure_sl H.t.w,pure_sl H.s,c46,h1,h2,c49,e49,Bool.false_or]
  ·refine Iso_of (es _ _ _ _) e58 ?_
   simp only [f58,bkV,hh] at c46 c49 ⊢
   simp (disch:=first|assumption|omega|(simp only[az];done)) only [ru,eq_self,if_true,if_false,binI,AO.row?,loadV,Am.rowAt,Am.part,addOff,Nat.reduceAdd,Nat.reduceSub,view_sl H.t.o,view_sl H.t.w,view_sl H.s,pure_sl H.t.o,pure_sl H.t.w,pure_sl H.s,c46,h1,h2,Bool.false_or]
end
section
variable {b : Bk}
theorem cpb_solB {t : Trap} : solB t.cp = solB t:=by
 rw [Bool.eq_iff_iff,solB_iff,solB_iff]
 exact ⟨fun ⟨x,h⟩ => ⟨x,tr_cp.1 h⟩,fun ⟨x,h⟩ => ⟨x,tr_cp.2 h⟩⟩
end
end Go.Proofs.YtfknojncfbahpaaGreat.S
namespace Go.Proofs.YtfknojncfbahpaaGreat.S
open Go Go.Am Go.Proofs.YtfknojncfbahpaaGreat.T
set_option maxRecDepth 100000
set_option linter.unusedSimpArgs false
set_option linter.unusedVariables false
def tE : Trap:=⟨1,4,[⟨[0],false⟩,⟨[0],false⟩,⟨[0],false⟩],[⟨0,0,5,6⟩,⟨1,0,2,3⟩,⟨2,0,7,9⟩,⟨3,0,4,4⟩]⟩
def bE : Bk:=⟨tE,2,1,[2]⟩
def cE : Bk:=⟨tE.cp,2,1,[]⟩
def oE : AV:=.cs 1 3 [.cs 1 1 [I 0],.cs 1 1 [I 0],.cs 1 1 [I 0]]
def wE : AV:=.cs 4 4 [I 0,I 0,I 5,I 6,I 1,I 0,I 2,I 3,I 2,I 0,I 7,I 9,I 3,I 0,I 4,I 4]
def sE : AV:=.cs 1 1 [I 2]
theorem tE_ok : TrOk tE oE wE:=⟨.inl rfl,.inl rfl,by decide,by decide,by decide⟩
theorem bE_ok : BkOk bE oE wE sE:=⟨tE_ok,.inl rfl,by decide⟩
theorem cE_ok : BkOk cE oE wE .nils:=⟨⟨.inl rfl,.inl rfl,by decide,by decide,by decide⟩,.inr ⟨rfl,rfl⟩,by decide⟩
theorem bE_val : bE.valid = true:=by decide +kernel
theorem cE_val : cE.valid = true:=by decide +kernel
def okE (q : Nat → Bool) (y0 y1 y2 y3 : Int) : Prop:=0 ≤ y0 ∧ y0 ≤ y1 ∧ y1 ≤ y2 ∧ y2 ≤ y3 ∧ y3 ≤ 40 ∧ (q 0 = false → 5 ≤ y0 ∧ y0 ≤ 6) ∧ (q 1 = false → 2 ≤ y1 ∧ y1 ≤ 3) ∧ (q 2 = false → 7 ≤ y2 ∧ y2 ≤ 9) ∧ (q 3 = false → 4 ≤ y3 ∧ y3 ≤ 4)
theorem suE (i : Nat) : sumN ((1 : Nat) : Int) i 0 = 1 + i * 4:=by simp [sumN]
theorem suE0 (i : Nat) : sumN ((1 : Nat) : Int) i 1 = 0:=by simp [sumN]
theorem gapE {x : Nat → Int} (i : Nat) : gap 1 x i 0 = x (1 + i * 4) - x 0:=by
 unfold gap; rw [suE,suE0]
theorem flowE {x : Nat → Int} (i : Nat) : flow 1 x i 0 = x (1 + (i + 1) * 4) - x (1 + i * 4):=by
 unfold flow; rw [suE,suE]
theorem trE_ok {q : Nat → Bool} {x : Nat → Int} (h : Tr (tE.kp q) x) : okE q (gap 1 x 0 0) (gap 1 x 1 0) (gap 1 x 2 0) (gap 1 x 3 0):=by
 obtain ⟨z,hw⟩:=tr_kp.1 h
 have f0 : 0 ≤ gap 1 x 0 0 ∧ gap 1 x 0 0 ≤ 40:=z.2.f 0 0 (by decide) (by decide)
 have f3 : 0 ≤ gap 1 x 3 0 ∧ gap 1 x 3 0 ≤ 40:=z.2.f 3 0 (by decide) (by decide)
 have m0 : 0 ≤ flow 1 x 0 0 ∧ flow 1 x 0 0 ≤ mayP tE.op 0 0:=z.2.m 0 0 (by decide) (by decide)
 have m1 : 0 ≤ flow 1 x 1 0 ∧ flow 1 x 1 0 ≤ mayP tE.op 1 0:=z.2.m 1 0 (by decide) (by decide)
 have m2 : 0 ≤ flow 1 x 2 0 ∧ flow 1 x 2 0 ≤ mayP tE.op 2 0:=z.2.m 2 0 (by decide) (by decide)
 have w0 : q 0 = false → 5 ≤ gap 1 x 0 0 ∧ gap 1 x 0 0 ≤ 6:=fun hq => hw 0 (by decide) hq
 have w1 : q 1 = false → 2 ≤ gap 1 x 1 0 ∧ gap 1 x 1 0 ≤ 3:=fun hq => hw 1 (by decide) hq
 have w2 : q 2 = false → 7 ≤ gap 1 x 2 0 ∧ gap 1 x 2 0 ≤ 9:=fun hq => hw 2 (by decide) hq
 have w3 : q 3 = false → 4 ≤ gap 1 x 3 0 ∧ gap 1 x 3 0 ≤ 4:=fun hq => hw 3 (by decide) hq
 rw [flowE] at m0 m1 m2
 refine ⟨f0.1,?_,?_,?_,f3.2,w0,w1,w2,w3⟩ <;> simp only [gapE]
 ·have:=m0.1; simp only [Nat.zero_add,Nat.reduceMul,Nat.reduceAdd] at this ⊢; omega
 ·have:=m1.1; simp only [Nat.reduceMul,Nat.reduceAdd] at this ⊢; omega
 ·have:=m2.1; simp only [Nat.reduceMul,Nat.reduceAdd] at this ⊢; omega
theorem okE_tr {q : Nat → Bool} {y0 y1 y2 y3 : Int} (h : okE q y0 y1 y2 y3) : ∃ x,Tr (tE.kp q) x ∧ gap 1 x 0 0 = y0 ∧ gap 1 x 1 0 = y1 ∧ gap 1 x 2 0 = y2 ∧ gap 1 x 3 0 = y3:=by
 obtain ⟨a0,a1,a2,a3,a4,b0,b1,b2,b3⟩:=h
 obtain ⟨x,hx⟩ : ∃ x : Nat → Int,x = fun k => if k = 1 then y0 else if k = 5 then y1 else if k = 9 then y2 else if k = 13 then y3 else 0:=⟨_,rfl⟩
 have x0 : x 0 = 0:=by rw [hx]; rfl
 have x1 : x 1 = y0:=by rw [hx]; rfl
 have x5 : x 5 = y1:=by rw [hx]; rfl
 have x9 : x 9 = y2:=by rw [hx]; rfl
 have x13 : x 13 = y3:=by rw [hx]; rfl
 have bd : ∀ k,0 ≤ x k ∧ x k ≤ 40:=fun k => by
  rw [hx]; simp only; repeat' split
  all_goals omega
 have g0 : gap 1 x 0 0 = y0:=by rw [gapE]; simp only [Nat.zero_mul,Nat.add_zero]; omega
 have g1 : gap 1 x 1 0 = y1:=by rw [gapE]; simp only [Nat.reduceMul,Nat.reduceAdd]; omega
 have g2 : gap 1 x 2 0 = y2:=by rw [gapE]; simp only [Nat.reduceMul,Nat.reduceAdd]; omega
 have g3 : gap 1 x 3 0 = y3:=by rw [gapE]; simp only [Nat.reduceMul,Nat.reduceAdd]; omega
 have l0 : flow 1 x 0 0 = y1 - y0:=by rw [flowE]; simp only [Nat.zero_add,Nat.reduceMul,Nat.reduceAdd]; omega
 have l1 : flow 1 x 1 0 = y2 - y1:=by rw [flowE]; simp only [Nat.reduceMul,Nat.reduceAdd]; omega
 have l2 : flow 1 x 2 0 = y3 - y2:=by rw [flowE]; simp only [Nat.reduceMul,Nat.reduceAdd]; omega
 have c0 : 0 ≤ gap 1 x 0 0 ∧ gap 1 x 0 0 ≤ 40:=by omega
 have c1 : 0 ≤ gap 1 x 1 0 ∧ gap 1 x 1 0 ≤ 40:=by omega
 have c2 : 0 ≤ gap 1 x 2 0 ∧ gap 1 x 2 0 ≤ 40:=by omega
 have c3 : 0 ≤ gap 1 x 3 0 ∧ gap 1 x 3 0 ≤ 40:=by omega
 have d0 : 0 ≤ flow 1 x 0 0 ∧ flow 1 x 0 0 ≤ 40:=by omega
 have d1 : 0 ≤ flow 1 x 1 0 ∧ flow 1 x 1 0 ≤ 40:=by omega
 have d2 : 0 ≤ flow 1 x 2 0 ∧ flow 1 x 2 0 ≤ 40:=by omega
 refine ⟨x,tr_kp.2 ⟨⟨sat_wid.2 ⟨fun k l _ _ _ => by have:=bd k; have:=bd l; omega,fun l _ => by have:=bd l; omega⟩,⟨fun i j hi hj => ?_,fun i j hi hj => ?_,fun k hk => absurd hk (by simp)⟩⟩,fun i hi hq => ?_⟩,g0,g1,g2,g3⟩
 ·have hi' : i < 4:=hi
  have hj' : j < 1:=hj
  match i,j,hi',hj' with
  | 0,0,_,_ => exact c0
  | 1,0,_,_ => exact c1
  | 2,0,_,_ => exact c2
  | 3,0,_,_ => exact c3
 ·have hi' : i < 3:=hi
  have hj' : j < 1:=hj
  match i,j,hi',hj' with
  | 0,0,_,_ => exact d0
  | 1,0,_,_ => exact d1
  | 2,0,_,_ => exact d2
 ·have hi' : i < 4:=hi
  match i,hi' with
  | 0,_ => have:=b0 hq; rw [← g0] at this; exact this
  | 1,_ => have:=b1 hq; rw [← g1] at this; exact this
  | 2,_ => have:=b2 hq; rw [← g2] at this; exact this
  | 3,_ => have:=b3 hq; rw [← g3] at this; exact this
def gE (a b c d : Bool) : Bool:=(a || b) && (a || d) && (c || d)
theorem solE (q : Nat → Bool) : solB (tE.kp q) = gE (q 0) (q 1) (q 2) (q 3):=by
 rw [Bool.eq_iff_iff,solB_iff]
 constructor
 ·rintro ⟨x,hx⟩
  obtain ⟨a0,a1,a2,a3,a4,b0,b1,b2,b3⟩:=trE_ok hx
  unfold gE
  cases h0 : q 0 <;> cases h1 : q 1 <;> cases h2 : q 2 <;> cases h3 : q 3 <;> simp only [h0,h1,h2,h3,true_implies,reduceCtorEq,false_implies] at b0 b1 b2 b3 <;> first | rfl | (exfalso; omega)
 ·intro h
  have key : ∃ y0 y1 y2 y3,okE q y0 y1 y2 y3:=by
   refine ⟨if q 0 then 0 else 5,if q 0 then 2 else 5,if q 3 then 7 else 2,if q 3 then 7 else 4,?_⟩
   unfold gE at h
   unfold okE
   cases h0 : q 0 <;> cases h1 : q 1 <;> cases h2 : q 2 <;> cases h3 : q 3 <;> simp [h0,h1,h2,h3] at h ⊢
  obtain ⟨y0,y1,y2,y3,hy⟩:=key
  obtain ⟨x,hx,_⟩:=okE_tr hy
  exact ⟨x,hx⟩
theorem stE_eq (g : List Int) : bE.st g = (bE.can g && gE (hasI g 0) (hasI g 1) (hasI g 2) (hasI g 3)):=by
 unfold Bk.st
 rw [show bE.t = tE from rfl,solE]
 rfl
theorem stC_eq (g : List Int) : cE.st g = (cE.can g && gE (hasI g 0) (hasI g 1) (hasI g 2) (hasI g 3)):=by
 unfold Bk.st
 rw [show cE.t.kp (qG cE.t g) = (tE.kp (qG tE g)).cp from rfl,cpb_solB,solE]
 rfl
theorem stsE : bE.sts = [[0,3],[1,3]]:=by
 have : bE.sts = (alls 4).filter fun g => bE.can g && gE (hasI g 0) (hasI g 1) (hasI g 2) (hasI g 3):=List.filter_congr fun g _ => stE_eq g
 rw [this]; decide +kernel
theorem stsC : cE.sts.length = 3:=by
 have : cE.sts = (alls 4).filter fun g => cE.can g && gE (hasI g 0) (hasI g 1) (hasI g 2) (hasI g 3):=List.filter_congr fun g _ => stC_eq g
 rw [this]; decide +kernel
theorem blaE : bE.bla = [0,3]:=by
 have : (alls bE.t.ws.length).filter bE.fal = (alls 4).filter fun W => bE.can (tims tE W) && gE (hasI W 0) (hasI W 1) (hasI W 2) (hasI W 3):=List.filter_congr fun W _ => by
  unfold Bk.fal
  rw [show bE.t = tE from rfl,solE]
  rfl
 unfold Bk.bla
 rw [this]; decide +kernel
theorem musE : bE.mus = [3]:=by
 unfold Bk.mus
 rw [stsE]; decide +kernel
theorem lieE : agr (lieV bE 2) bE.sts = 2:=by
 have j : ∀ g,hasI g 2 = false → lieV bE 2 g = 2:=fun g hg => by
  have : jud (bE.t.kp (qG bE.t g)) (bE.t.ws.getD 2 default) = 1:=if_pos fun x hx => (tr_kp.1 hx).2 2 (by decide) hg
  unfold lieV
  rw [this]; rfl
 rw [stsE]
 simp only [agr,j [0,3] (by decide),j [1,3] (by decide),List.all_cons,List.all_nil]
 rfl
theorem fishE : HulX bE bE.sts (fun z => gap bE.t.C z 1 0) 2 9:=by
 rw [stsE]
 refine ⟨fun g hg x hx => ?_,?_,?_⟩
 ·rcases List.mem_cons.1 hg with rfl | hg
  ·obtain ⟨a0,a1,a2,a3,a4,b0,b1,b2,b3⟩:=trE_ok hx
   have:=b1 (by decide)
   show 2 ≤ gap 1 x 1 0 ∧ gap 1 x 1 0 ≤ 9
   omega
  ·rw [List.mem_singleton] at hg
   subst hg
   obtain ⟨a0,a1,a2,a3,a4,b0,b1,b2,b3⟩:=trE_ok hx
   have:=b0 (by decide)
   have:=b2 (by decide)
   show 2 ≤ gap 1 x 1 0 ∧ gap 1 x 1 0 ≤ 9
   omega
 ·obtain ⟨x,hx,_,he,_⟩:=okE_tr (q:=qG tE [0,3]) (y0:=0) (y1:=2) (y2:=7) (y3:=7) (by
   refine ⟨by decide,by decide,by decide,by decide,by decide,fun h => absurd h (by decide),fun _ => by decide,fun _ => by decide,fun h => absurd h (by decide)⟩)
  exact ⟨[0,3],by simp,x,hx,he⟩
 ·obtain ⟨x,hx,_,he,_⟩:=okE_tr (q:=qG tE [1,3]) (y0:=5) (y1:=9) (y2:=9) (y3:=9) (by
   refine ⟨by decide,by decide,by decide,by decide,by decide,fun _ => by decide,fun h => absurd h (by decide),fun _ => by decide,fun h => absurd h (by decide)⟩)
  exact ⟨[1,3],by simp,x,hx,he⟩
theorem w107 (a b c d : Int) (st : Bool) : Iso E 107 [I a,I b,I c,I d] st = some (.agg [I a,I b,I c,I d]):=by
 refine Iso_of (es _ _ _ _) e107 ?_
 simp only [f107]
 simp (disch:=first|assumption|omega|(simp only[az];done)) only [ru,eq_self,if_true,AO.row?,splice,fillL,storeV,Am.rowAt,Am.part,Nat.reduceAdd,Nat.reduceLeDiff,Nat.reduceSub,finC,getRes,Option.some.injEq,exists_eq_left']
theorem finCC {lim i j s s' : Nat} {a a' : Bool} {P : AV → List AO → Prop} {ts : List AV} {h : List AO} : Done lim [.cell a s i,.cell a' s' j] P .ret ⟨ts,h,[]⟩ = ∃ v,getRes ts h (.cell a s i) = some v ∧ ∃ w,getRes ts h (.cell a' s' j) = some w ∧ P (.tup [v,w]) h:=by
 simp only [Done,finish,takeMarks,List.all_nil,if_true,List.mapM_cons,List.mapM_nil,Option.bind_eq_bind,Option.pure_def]
 cases getRes ts h (.cell a s i) <;> cases getRes ts h (.cell a' s' j) <;> simp
set_option maxHeartbeats 4000000 in
theorem w68 : Iso E 68 [] false = some (.tup [bkV bE oE wE sE,bkV cE oE wE .nils]):=by
 have c35:=w35 bE_ok
 simp only [cpB,bkV,oE,wE,sE,show bE.t.ch = 1 from rfl,show bE.t.tm = 4 from rfl,show bE.dr = 2 from rfl,show bE.rn = 1 from rfl,show cE.t.ch = 1 from rfl,show cE.t.tm = 4 from rfl,show cE.dr = 2 from rfl,show cE.rn = 1 from rfl,
  show cpO bE.t.op = .cs 1 3 [.cs 1 1 [I 0],.cs 1 1 [I 0],.cs 1 1 [I 0]] from rfl,show slV 4 Wd.e bE.t.ws = .cs 4 4 [I 0,I 0,I 5,I 6,I 1,I 0,I 2,I 3,I 2,I 0,I 7,I 9,I 3,I 0,I 4,I 4] from rfl,show slV 1 intL bE.so = .cs 1 1 [I 2] from rfl] at c35 ⊢
 refine Iso_of (es _ _ _ _) e68 ?_
 simp only [f68]
 have n10 : ((1 : Nat) != 0) = true:=rfl
 have n01 : ((0 : Nat) != 1) = true:=rfl
 simp (disch:=first|assumption|omega|(simp only[az];done)) only [ru,eq_self,if_true,BEq.rfl,AO.row?,splice,fillL,loadV,storeV,zeros,Am.rowAt,Am.part,addOff,Nat.reduceAdd,Nat.reduceMul,Nat.reduceLeDiff,Nat.reduceSub,w107,c35,AV.pureV.go,AV.pureV,exOp_loadR,exOp_storeR,objIs,objNot,finCC,getRes,Option.some.injEq,exists_eq_left',n10]
set_option maxHeartbeats 4000000 in
theorem w17 : Iso E 17 [] false = some (Bo true):=by
 have z1:=w51 cE_ok
 rw [stsC,show chkB cE = 0 by unfold chkB; rw [cE_val]; rfl,cE_val] at z1
 obtain ⟨v2,l2,e2,z2,i2,A2⟩:=w28 bE_ok
 have a2 : l2 = [0,3] ∧ e2 = 0:=by
  generalize hy : (l2,e2) = y at A2
  cases A2 with
  | bad h => rw [bE_val] at h; cases h
  | arg h hf => cases hf
  | none h hf hn => rw [stsE] at hn; cases hn
  | ok h hf hs hp => rw [hp,stsE] at hy; cases hy; exact ⟨rfl,rfl⟩
 obtain ⟨rfl,rfl⟩:=a2
 obtain ⟨v3,l3,e3,z3,i3,A3⟩:=w27 bE_ok
 have a3 : l3 = [3] ∧ e3 = 0:=by
  generalize hy : (l3,e3) = y at A3
  cases A3 with
  | bad h => rw [bE_val] at h; cases h
  | arg h hf => cases hf
  | none h hf hn => rw [stsE] at hn; cases hn
  | ok h hf hs hp => rw [hp,musE] at hy; cases hy; exact ⟨rfl,rfl⟩
 obtain ⟨rfl,rfl⟩:=a3
 obtain ⟨v4,e4,z4,A4⟩:=w21 bE_ok 2
 have a4 : v4 = 2 ∧ e4 = 0:=by
  generalize hy : (v4,e4) = y at A4
  cases A4 with
  | bad h => rw [bE_val] at h; cases h
  | arg h hf => exact absurd hf (by decide)
  | none h hf hn => rw [stsE] at hn; cases hn
  | ok h hf hs hp => rw [hp,show (2 : Int).toNat = 2 from rfl,lieE] at hy; cases hy; exact ⟨rfl,rfl⟩
 obtain ⟨rfl,rfl⟩:=a4
 obtain ⟨lo,hi,e5,z5,A5⟩:=w24 bE_ok 1 0
 have a5 : lo = 2 ∧ hi = 9 ∧ e5 = 0:=by
  generalize hy : (lo,hi,e5) = y at A5
  cases A5 with
  | bad h => rw [bE_val] at h; cases h
  | arg h hf => exact absurd hf (by decide)
  | none h hf hn => rw [stsE] at hn; cases hn
  |
   ok h hf hs hp =>
   rw [← hy] at hp
   have:=hp.1.uniq fishE
   exact ⟨this.1,this.2,hp.2⟩
 obtain ⟨rfl,rfl,rfl⟩:=a5
 obtain ⟨v6,l6,e6,z6,i6,A6⟩:=w33 bE_ok
 have a6 : l6 = [0,3] ∧ e6 = 0:=by
  generalize hy : (l6,e6) = y at A6
  cases A6 with
  | bad h => rw [bE_val] at h; cases h
  | arg h hf => cases hf
  | none h hf hn => rw [stsE] at hn; cases hn
  | ok h hf hs hp => rw [hp,blaE] at hy; cases hy; exact ⟨rfl,rfl⟩
 obtain ⟨rfl,rfl⟩:=a6
 have k2:=fun st => s69 i2 (l:=[0,3]) (v':=.cs 1 2 [I 0,I 3]) (.inl rfl) (by decide) st
 have k3:=fun st => s69 i3 (l:=[3]) (v':=.cs 1 1 [I 3]) (.inl rfl) (by decide) st
 have k6:=fun st => s69 i6 (l:=[0,3]) (v':=.cs 1 2 [I 0,I 3]) (.inl rfl) (by decide) st
 have z0:=w68
 have io : IsSl 1 Ls.e bE.t.op oE:=.inl rfl
 have iw : IsSl 4 Wd.e bE.t.ws wE:=.inl rfl
 have is : IsSl 1 intL bE.so sE:=.inl rfl
 obtain ⟨oo,hoo⟩ : ∃ oo,oo = oE:=⟨_,rfl⟩
 obtain ⟨ww,hww⟩ : ∃ ww,ww = wE:=⟨_,rfl⟩
 obtain ⟨ss,hss⟩ : ∃ ss,ss = sE:=⟨_,rfl⟩
 rw [← hoo] at z0 z1 z2 z3 z4 z5 z6 io
 rw [← hww] at z0 z1 z2 z3 z4 z5 z6 iw
 rw [← hss] at z0 z2 z3 z4 z5 z6 is
 simp only [bkV] at z0 z1 z2 z3 z4 z5 z6
 refine Iso_of (es _ _ _ _) e17 ?_
 simp only [f17]
 simp (disch:=first|assumption|omega|(simp only[az];done)) only [ru,eq_self,if_true,if_false,BEq.rfl,binI,AO.row?,splice,fillL,loadV,storeV,zeros,Am.rowAt,Am.part,Nat.reduceAdd,Nat.reduceMul,Nat.reduceLeDiff,Nat.reduceSub,z0,view_sl io,scalar_sl io,pure_sl io,view_sl iw,scalar_sl iw,pure_sl iw,view_sl is,scalar_sl is,pure_sl is,z1,z2,z3,z4,z5,z6,view_sl i2,pure_sl i2,view_sl i3,pure_sl i3,view_sl i6,pure_sl i6,AV.pureV.go,AV.pureV,k2,k3,k6,eqCells]
end Go.Proofs.YtfknojncfbahpaaGreat.S
namespace Go.Proofs.YtfknojncfbahpaaGreat.S
open Go Go.Am Go.Proofs.YtfknojncfbahpaaGreat.T
set_option linter.unusedVariables false
set_option maxRecDepth 100000
theorem z3 : Tryz.prog.cellsOf 3 = 1:=by kernel_rfl
theorem z22 : Tryz.prog.cellsOf 22 = 1:=by kernel_rfl
theorem z23 : Tryz.prog.cellsOf 23 = 1:=by kernel_rfl
theorem z25 : Tryz.prog.cellsOf 25 = 4:=by kernel_rfl
theorem z45 : Tryz.prog.cellsOf 45 = 4:=by kernel_rfl
theorem z26 : Tryz.prog.cellsOf 26 = 1:=by kernel_rfl
theorem wfIc {d : Nat} {c : List AV} (h : WfC Tryz.prog (d + 1) 3 c) : ∃ i,c = [I i] ∧ True:=by
 obtain ⟨i,e,hw⟩:=wf_int Tryz.underlying3 h
 exact ⟨i,e,trivial⟩
theorem wfI {d : Nat} {a : AV} (h : WfC Tryz.prog (d + 1) 3 [a]) : ∃ i,a = I i ∧ True:=by
 obtain ⟨i,e,_⟩:=wfIc h
 simp only [List.cons.injEq,and_true] at e
 exact ⟨i,e,trivial⟩
theorem wfWd {d : Nat} {c : List AV} (h : WfC Tryz.prog (d + 2) 45 c) : ∃ s : Wd,c = s.e ∧ True:=by
 obtain ⟨hl,hf⟩:=wf_struct Tryz.underlying45 h
 rw [z45] at hl
 match c,hl with
 |
  [x,y,z,u],_ =>
  have h0 : WfC Tryz.prog (d + 1) 3 (([x,y,z,u].drop 0).take (Tryz.prog.cellsOf 3)):=hf 0 _ rfl
  have h1 : WfC Tryz.prog (d + 1) 3 (([x,y,z,u].drop 1).take (Tryz.prog.cellsOf 3)):=hf 1 _ rfl
  have h2 : WfC Tryz.prog (d + 1) 3 (([x,y,z,u].drop 2).take (Tryz.prog.cellsOf 3)):=hf 2 _ rfl
  have h3 : WfC Tryz.prog (d + 1) 3 (([x,y,z,u].drop 3).take (Tryz.prog.cellsOf 3)):=hf 3 _ rfl
  rw [z3] at h0 h1 h2 h3
  obtain ⟨i,rfl,_⟩:=wfI (show WfC Tryz.prog (d + 1) 3 [x] from h0)
  obtain ⟨j,rfl,_⟩:=wfI (show WfC Tryz.prog (d + 1) 3 [y] from h1)
  obtain ⟨k,rfl,_⟩:=wfI (show WfC Tryz.prog (d + 1) 3 [z] from h2)
  obtain ⟨l,rfl,_⟩:=wfI (show WfC Tryz.prog (d + 1) 3 [u] from h3)
  exact ⟨⟨i,j,k,l⟩,rfl,trivial⟩
theorem wfLs {d : Nat} {c : List AV} (h : WfC Tryz.prog (d + 2) 26 c) : ∃ s : Ls,c = s.e ∧ True:=by
 obtain ⟨l,v,e,iv,_⟩:=wf_sl (d:=d + 1) (enc:=intL) (p:=fun _ => True) Tryz.underlying26 z3 (fun c hc => by obtain ⟨i,e,_⟩:=wfIc hc; exact ⟨i,e,trivial⟩) h
 subst e
 rcases iv with rfl | ⟨rfl,rfl⟩
 ·exact ⟨⟨l,false⟩,rfl,trivial⟩
 ·exact ⟨⟨[],true⟩,rfl,trivial⟩
theorem wfNu {d : Nat} {c : List AV} (h : WfC Tryz.prog (d + 3) 22 c) : ∃ (L : List Ls) (v : AV),c = [v] ∧ IsSl 1 Ls.e L v:=by
 obtain ⟨l,v,e,iv,_⟩:=wf_sl (d:=d + 2) (enc:=Ls.e) (p:=fun _ => True) Tryz.underlying22 z26 (fun c hc => wfLs hc) h
 exact ⟨l,v,e,iv⟩
theorem wfTrap {d : Nat} {c : List AV} (h : WfC Tryz.prog (d + 4) 25 c) : ∃ (t : Trap) (o w : AV),AV.agg c = trV t o w ∧ TrIn t o w:=by
 obtain ⟨hl,hf⟩:=wf_struct Tryz.underlying25 h
 rw [z25] at hl
 match c,hl with
 |
  [x,y,z,u],_ =>
  have h0 : WfC Tryz.prog (d + 3) 3 (([x,y,z,u].drop 0).take (Tryz.prog.cellsOf 3)):=hf 0 _ rfl
  have h1 : WfC Tryz.prog (d + 3) 3 (([x,y,z,u].drop 1).take (Tryz.prog.cellsOf 3)):=hf 1 _ rfl
  have h2 : WfC Tryz.prog (d + 3) 22 (([x,y,z,u].drop 2).take (Tryz.prog.cellsOf 22)):=hf 2 _ rfl
  have h3 : WfC Tryz.prog (d + 3) 23 (([x,y,z,u].drop 3).take (Tryz.prog.cellsOf 23)):=hf 3 _ rfl
  rw [z3] at h0 h1
  rw [z22] at h2
  rw [z23] at h3
  obtain ⟨i,rfl,_⟩:=wfI (show WfC Tryz.prog (d + 2 + 1) 3 [x] from h0)
  obtain ⟨j,rfl,_⟩:=wfI (show WfC Tryz.prog (d + 2 + 1) 3 [y] from h1)
  obtain ⟨lo,o,e2,io⟩:=wfNu (show WfC Tryz.prog (d + 3) 22 [z] from h2)
  obtain ⟨lw,w,e3,iw,_⟩:=wf_sl (d:=d + 2) (enc:=Wd.e) (p:=fun _ => True) Tryz.underlying23 z45 (fun c hc => wfWd hc) (show WfC Tryz.prog (d + 3) 23 [u] from h3)
  simp only [List.cons.injEq,and_true] at e2 e3
  subst e2; subst e3
  exact ⟨⟨i,j,lo,lw⟩,z,u,rfl,⟨io,iw⟩⟩
theorem zBK : Tryz.prog.cellsOf 28 = 7:=by kernel_rfl
theorem wfNums {d : Nat} {c : List AV} (h : WfC Tryz.prog (d + 2) 26 c) : ∃ (L : List Int) (v : AV),c = [v] ∧ IsSl 1 intL L v:=by
 obtain ⟨l,v,e,iv,_⟩:=wf_sl (d:=d + 1) (enc:=intL) (p:=fun _ => True) Tryz.underlying26 z3 (fun c hc => by obtain ⟨i,e,_⟩:=wfIc hc; exact ⟨i,e,trivial⟩) h
 exact ⟨l,v,e,iv⟩
theorem wfBk {d : Nat} {c : List AV} (h : WfC Tryz.prog (d + 5) 28 c) : ∃ (b : Bk) (o w s : AV),AV.agg c = bkV b o w s ∧ BkIn b o w s:=by
 obtain ⟨hl,hf⟩:=wf_struct Tryz.underlying28 h
 rw [zBK] at hl
 match c,hl with
 |
  [x0,x1,x2,x3,x4,x5,x6],_ =>
  have h0 : WfC Tryz.prog (d + 4) 25 (([x0,x1,x2,x3,x4,x5,x6].drop 0).take (Tryz.prog.cellsOf 25)):=hf 0 _ rfl
  have h1 : WfC Tryz.prog (d + 4) 3 (([x0,x1,x2,x3,x4,x5,x6].drop 4).take (Tryz.prog.cellsOf 3)):=hf 1 _ rfl
  have h2 : WfC Tryz.prog (d + 4) 3 (([x0,x1,x2,x3,x4,x5,x6].drop 5).take (Tryz.prog.cellsOf 3)):=hf 2 _ rfl
  have h3 : WfC Tryz.prog (d + 4) 26 (([x0,x1,x2,x3,x4,x5,x6].drop 6).take (Tryz.prog.cellsOf 26)):=hf 3 _ rfl
  rw [z25] at h0
  rw [z3] at h1 h2
  rw [z26] at h3
  obtain ⟨t,o,w,e0,it⟩:=wfTrap (show WfC Tryz.prog (d + 4) 25 [x0,x1,x2,x3] from h0)
  obtain ⟨i,rfl,_⟩:=wfI (show WfC Tryz.prog (d + 3 + 1) 3 [x4] from h1)
  obtain ⟨j,rfl,_⟩:=wfI (show WfC Tryz.prog (d + 3 + 1) 3 [x5] from h2)
  obtain ⟨L,v,e3,iv⟩:=wfNums (d:=d + 2) (show WfC Tryz.prog (d + 4) 26 [x6] from h3)
  simp only [trV,AV.agg.injEq,List.cons.injEq,and_true] at e0 e3
  obtain ⟨rfl,rfl,rfl,rfl⟩:=e0
  subst e3
  exact ⟨⟨t,i,j,L⟩,x2,x3,x6,rfl,⟨it,iv⟩⟩
theorem zTA : Tryz.prog.cellsOf 30 = 2:=by kernel_rfl
theorem wfTale {d : Nat} {c : List AV} (h : WfC Tryz.prog (d + 4) 30 c) : ∃ (g : List Int) (gv : AV) (L : List Ls) (v : AV),c = [gv,v] ∧ IsSl 1 intL g gv ∧ IsSl 1 Ls.e L v:=by
 obtain ⟨hl,hf⟩:=wf_struct Tryz.underlying30 h
 rw [zTA] at hl
 match c,hl with
 |
  [x0,x1],_ =>
  have h0 : WfC Tryz.prog (d + 3) 26 (([x0,x1].drop 0).take (Tryz.prog.cellsOf 26)):=hf 0 _ rfl
  have h1 : WfC Tryz.prog (d + 3) 22 (([x0,x1].drop 1).take (Tryz.prog.cellsOf 22)):=hf 1 _ rfl
  rw [z26] at h0
  rw [z22] at h1
  obtain ⟨g,gv,e0,ig⟩:=wfNums (d:=d + 1) (show WfC Tryz.prog (d + 3) 26 [x0] from h0)
  obtain ⟨L,v,e1,iv⟩:=wfNu (show WfC Tryz.prog (d + 3) 22 [x1] from h1)
  simp only [List.cons.injEq,and_true] at e0 e1
  subst e0; subst e1
  exact ⟨g,x0,L,x1,rfl,ig,iv⟩
theorem own : ownKnob Tryz.prog.godebug = none:=by kernel_rfl
theorem laidOut : laidOutB Tryz.prog = true:=by kernel_rfl
def bkW : Value:=.agg #[.int .i64 0,.int .i64 0,.slice none 0 0,.slice none 0 0,.int .i64 0,.int .i64 0,.slice none 0 0]
def taleW : Value:=.agg #[.slice none 0 0,.slice none 0 0]
end Go.Proofs.YtfknojncfbahpaaGreat.S
