/-
The law of a word less.
-/
import Derived.Test.YtfknojncfbahpaaGreatS1
import Derived.Test.YtfknojncfbahpaaGreatWx
import Derived.Test.YtfknojncfbahpaaGreatXb
namespace Go.Proofs.YtfknojncfbahpaaGreat.S
open Go Go.Am Go.Proofs.YtfknojncfbahpaaGreat.T
set_option maxRecDepth 100000
set_option linter.unusedSimpArgs false
set_option linter.unusedVariables false
def Bk.del (b : Bk) (k : Nat) : Bk:=⟨b.t.del k,b.dr,b.rn,b.so⟩
theorem del_get {t : Trap} {k : Nat} (hk : k < t.ws.length) (i : Nat) : (t.del k).ws.getD i default = t.ws.getD (if i < k then i else i + 1) default:=by
 have hl : (t.ws.take k).length = k:=by rw [List.length_take]; omega
 simp only [Trap.del,List.getD_eq_getElem?_getD]
 by_cases h : i < k
 ·rw [if_pos h,List.getElem?_append_left (by omega),List.getElem?_take_of_lt h]
 ·rw [if_neg h,List.getElem?_append_right (by omega),List.getElem?_drop,hl]
  congr 2; omega
section
variable {b : Bk} {o w s : AV} {k : Nat}
theorem del_valid (hv : b.valid = true) (hk : k < b.t.ws.length) : (b.del k).valid = true:=by
 have V:=valid_trb (bk_t hv)
 have w8:=valid_w8 (bk_t hv)
 have:=del_len hk
 have e : (b.t.del k).valid = true:=trb_valid (del_trb V) (by omega)
 simp only [Bk.valid,Bool.and_eq_true] at hv ⊢
 exact ⟨⟨⟨e,hv.1.1.2⟩,hv.1.2⟩,hv.2⟩
theorem del_st (hk : k < b.t.ws.length) {g : List Int} (h : b.st g = true) : (b.del k).st g = true:=by
 unfold Bk.st at h ⊢
 rw [Bool.and_eq_true,solB_iff] at h ⊢
 obtain ⟨hc,x,hx⟩:=h
 refine ⟨hc,x,?_⟩
 rw [tr_kp] at hx ⊢
 have hl:=del_len hk
 refine ⟨hx.1,fun i hi hq => ?_⟩
 have hi : i < (b.t.del k).ws.length:=hi
 unfold qG at hq
 show saysW b.t.C x ((b.t.del k).ws.getD i default)
 rw [show (b.del k).t = b.t.del k from rfl,del_get hk] at hq
 rw [del_get hk]
 exact hx.2 _ (by split <;> omega) hq
theorem del_good (hk : k < b.t.ws.length) {g : List Int} (h : b.good g = true) : (b.del k).good g = true:=by
 unfold Bk.good at h ⊢
 rw [Bool.and_eq_true] at h ⊢
 exact ⟨h.1,del_st hk h.2⟩
theorem agr_one {f : List Int → Int} {L : List (List Int)} (h : agr f L = 1) : ∀ g ∈ L,f g = 1:=by
 cases L with
 | nil => intro g hg; simp at hg
 |
  cons g0 M =>
  simp only [agr] at h
  split at h
  ·rename_i ha
   intro g hg
   rcases List.mem_cons.1 hg with rfl | hg
   ·exact h
   ·exact (of_decide_eq_true (List.all_eq_true.1 ha g hg)).trans h
  ·cases h
theorem lie_sure (h : agr (lieV b k) b.sts = 1) {g : List Int} (hg : g ∈ b.sts) {x : Nat → Int} (hx : Tr (b.t.kp (qG b.t g)) x) : ¬ saysW b.t.C x (b.t.ws.getD k default):=by
 have h1:=agr_one h g hg
 unfold lieV lieJ at h1
 rcases @jud_ok (b.t.kp (qG b.t g)) (b.t.ws.getD k default) with j | j | j
 ·rw [j.1] at h1; simp at h1
 ·exact j.2 x hx
 ·rw [j.1] at h1; simp at h1
theorem lie_mus (hv : b.valid = true) (hk : k < b.t.ws.length) (hs : b.sts ≠ []) (h : agr (lieV b k) b.sts = 1) : hasI b.mus (b.t.ws.getD k default).time = true:=by
 have V:=valid_trb (bk_t hv)
 have tb:=wd_time V (n:=(k : Int)) (by omega) (by omega)
 rw [Int.toNat_natCast] at tb
 have pos : b.sts.length ≠ 0:=fun h => hs (List.eq_nil_of_length_eq_zero h)
 rw [hasI_iff,mem_mus,agr_cnt hs,(knV_ok pos).1,cnt_all]
 refine ⟨tb,fun g hg => ?_⟩
 cases hh : hasI g (b.t.ws.getD k default).time
 ·exfalso
  obtain ⟨_,_,x,hx⟩:=mem_sts.1 hg
  exact lie_sure h hg hx ((tr_kp.1 hx).2 k hk hh)
 ·rfl
theorem fal_st (hv : b.valid = true) {W : List Int} (hW : ris b.t.ws.length W) (h : b.fal W = true) : tims b.t W ∈ b.sts ∧ ∃ x,Tr (b.t.kp (qL W)) x ∧ Tr (b.t.kp (qG b.t (tims b.t W))) x:=by
 have V:=valid_trb (bk_t hv)
 unfold Bk.fal at h
 rw [Bool.and_eq_true,solB_iff] at h
 obtain ⟨hc,x,hx⟩:=h
 have hx2 : Tr (b.t.kp (qG b.t (tims b.t W))) x:=by
  have hx:=tr_kp.1 hx
  rw [tr_kp]
  refine ⟨hx.1,fun i hi hq => hx.2 i hi ?_⟩
  cases hl : qL W i
  ·rfl
  ·exfalso
   unfold qL at hl
   have mt : (b.t.ws.getD i default).time ∈ tims b.t W:=(mem_tims V hW).2 ⟨(i : Int),hasI_iff.1 hl,by rw [Int.toNat_natCast]⟩
   unfold qG at hq
   rw [hasI_iff.2 mt] at hq; cases hq
 exact ⟨mem_sts.2 ⟨tims_ris V,hc,x,hx2⟩,x,hx,hx2⟩
theorem lie_less (hv : b.valid = true) (hk : k < b.t.ws.length) (hs : b.sts ≠ []) (h : agr (lieV b k) b.sts = 1) : (b.del k).bla.length < b.bla.length:=by
 have V:=valid_trb (bk_t hv)
 obtain ⟨T1,T2,T3⟩:=tm5 (bk_t hv)
 have hv':=del_valid hv hk
 have V':=valid_trb (bk_t hv')
 have hl:=del_len hk
 have br:=bla_ris (b:=b)
 have bf:=bla_fal hv hs
 obtain ⟨W,hW⟩ : ∃ W,W = b.bla:=⟨_,rfl⟩
 rw [← hW] at br bf ⊢
 obtain ⟨ms,x,hx,hx2⟩:=fal_st hv br bf
 have kW : (k : Int) ∈ W:=by
  apply Classical.byContradiction
  intro hn
  have : qL W k = false:=by
   cases hq : qL W k
   ·rfl
   ·exact absurd (hasI_iff.1 hq) hn
  exact lie_sure h ms hx2 ((tr_kp.1 hx).2 k hk this)
 have hc : b.can (tims b.t W) = true:=(mem_sts.1 ms).2.1
 obtain ⟨dn,hdn⟩ : ∃ dn : Int → Int,dn = fun y : Int => if y < (k : Int) then y else y - 1:=⟨_,rfl⟩
 have dnE : ∀ y : Int,dn y = if y < (k : Int) then y else y - 1:=fun y => by rw [hdn]
 obtain ⟨U,hU⟩ : ∃ U,U = (W.filter fun y => decide (y ≠ (k : Int))).map dn:=⟨_,rfl⟩
 have mU : ∀ y,y ∈ U ↔ ∃ z,(z ∈ W ∧ z ≠ (k : Int)) ∧ dn z = y:=fun y => by
  rw [hU]; simp only [List.mem_map,List.mem_filter,decide_eq_true_eq]
 have lU : U.length < W.length:=by
  rw [hU,List.length_map]
  exact List.length_filter_lt_length_iff_exists.2 ⟨(k : Int),kW,by simp⟩
 have rU : ris (b.t.del k).ws.length U:=by
  refine ⟨fun y hy => ?_,?_⟩
  ·obtain ⟨z,⟨h1,h2⟩,rfl⟩:=(mU y).1 hy
   have:=br.1 z h1
   rw [dnE]; split <;> omega
  ·rw [hU,List.pairwise_map]
   refine (br.2.filter _).imp_of_mem fun {p q} hp hq hpq => ?_
   have h1:=of_decide_eq_true (List.mem_filter.1 hp).2
   have h2:=of_decide_eq_true (List.mem_filter.1 hq).2
   rw [dnE,dnE]; split <;> split <;> omega
 have gU : ∀ z,z ∈ W → z ≠ (k : Int) → (b.t.del k).ws.getD (dn z).toNat default = b.t.ws.getD z.toNat default:=fun z h1 h2 => by
  have:=br.1 z h1
  rw [del_get hk,dnE]
  congr 1
  split <;> split <;> omega
 have fU : (b.del k).fal U = true:=by
  unfold Bk.fal
  rw [Bool.and_eq_true,solB_iff]
  refine ⟨?_,x,?_⟩
  ·refine can_sub (b:=b) (k:=b.t.T) (by omega) (tims_ris V (W:=W)) (tims_ris (t:=b.t.del k) V' (W:=U)) (fun y hy => ?_) hc
   obtain ⟨m,hm,rfl⟩:=(mem_tims (t:=b.t.del k) V' rU).1 hy
   obtain ⟨z,⟨h1,h2⟩,rfl⟩:=(mU m).1 hm
   rw [gU z h1 h2]
   exact (mem_tims V br).2 ⟨z,h1,rfl⟩
  ·have hx:=tr_kp.1 hx
   rw [tr_kp]
   refine ⟨hx.1,fun i hi hq => ?_⟩
   have hi : i < (b.t.del k).ws.length:=hi
   show saysW b.t.C x ((b.t.del k).ws.getD i default)
   rw [del_get hk]
   refine hx.2 _ (by split <;> omega) ?_
   cases hz : qL W (if i < k then i else i + 1)
   ·rfl
   ·exfalso
    have m1 : ((if i < k then i else i + 1 : Nat) : Int) ∈ W:=hasI_iff.1 hz
    have m2 : (i : Int) ∈ U:=(mU i).2 ⟨_,⟨m1,by split <;> omega⟩,by rw [dnE]; split <;> split <;> omega⟩
    unfold qL at hq
    rw [hasI_iff.2 m2] at hq; cases hq
 have le : (b.del k).bla.length ≤ U.length:=by
  apply Classical.byContradiction
  intro hn
  have:=bla_min (b:=b.del k) rU (.inl (by omega))
  rw [fU] at this; cases this
 omega
theorem cpb_bla' : b.cp.bla = b.bla:=cpb_bla
theorem del_ok (H : BkOk b o w s) (hk : k < b.t.ws.length) : BkOk (b.del k) o (slV 4 Wd.e (b.t.del k).ws) s :=
 ⟨⟨H.t.o,slV_is,H.t.so,by have:=del_len hk; have:=H.t.sw; show (b.t.del k).ws.length ≤ 40; omega,H.t.sl⟩,H.s,H.ss⟩
set_option maxHeartbeats 16000000 in
theorem l10 (H0 : BkIn b o w s) (n : Int) {g : List Int} {gv : AV} (hg : IsSl 1 intL g gv) : Iso E 10 [bkV b o w s,I n,gv] false = some (Bo true):=by
 have c15:=fun st => w15 H0 st
 obtain ⟨r,hr⟩ : ∃ r,r = (!b.far && b.valid):=⟨_,rfl⟩
 rw [← hr] at c15
 cases r
 ·refine Iso_of (es _ _ _ _) e10 ?_
  simp only [f10,bkV] at c15 ⊢
  simp (disch:=first|assumption|omega|(simp only[az];done)) only [ru,eq_self,if_true,AO.row?,loadV,Am.rowAt,Am.part,Nat.reduceAdd,Nat.reduceSub,view_sl H0.t.o,view_sl H0.t.w,view_sl H0.s,pure_sl H0.t.o,pure_sl H0.t.w,pure_sl H0.s,c15,w17]
 obtain ⟨hf,hv⟩ : b.far = false ∧ b.valid = true:=by simpa using hr.symm
 have H:=H0.ok (far_huge hf)
 have V:=valid_trb (bk_t hv)
 obtain ⟨T1,T2,T3⟩:=tm5 (bk_t hv)
 have c44:=fun st => w44 H n st
 cases hn : inR n 0 ((b.t.ws.length : Int) - 1) <;> rw [hn] at c44
 ·refine Iso_of (es _ _ _ _) e10 ?_
  simp only [f10,bkV] at c15 c44 ⊢
  simp (disch:=first|assumption|omega|(simp only[az];done)) only [ru,eq_self,if_true,if_false,AO.row?,loadV,Am.rowAt,Am.part,Nat.reduceAdd,Nat.reduceSub,view_sl H.t.o,view_sl H.t.w,view_sl H.s,pure_sl H.t.o,pure_sl H.t.w,pure_sl H.s,c15,c44,w17]
 by_cases h40 : (g.length : Int) > 40
 ·refine Iso_of (es _ _ _ _) e10 ?_
  simp only [f10,bkV] at c15 c44 ⊢
  simp (disch:=first|assumption|omega|(simp only[az];done)) only [ru,eq_self,if_true,if_false,binI,AO.row?,loadV,Am.rowAt,Am.part,Nat.reduceAdd,Nat.reduceSub,view_sl H.t.o,view_sl H.t.w,view_sl H.s,pure_sl H.t.o,pure_sl H.t.w,pure_sl H.s,lenV_sl hg,c15,c44,h40,w17]
 have hnb:=inR_iff.1 hn
 obtain ⟨k,hk1,hk⟩ : ∃ k : Nat,n = k ∧ k < b.t.ws.length:=⟨n.toNat,by omega,by omega⟩
 subst hk1
 obtain ⟨v1,e1,c21,A1⟩:=w21 H (k : Int)
 rw [hn,Int.toNat_natCast] at A1
 obtain ⟨v2,l2,e2,c27,i2,A2⟩:=w27 H
 by_cases hs : b.sts = []
 ·have h1:=A1.no hv hs
  have h2:=A2.no hv hs
  obtain ⟨rfl,rfl⟩ : v1 = 0 ∧ e1 = 3:=by simpa using h1
  obtain ⟨rfl,rfl⟩ : l2 = [] ∧ e2 = 3:=by simpa using h2
  have p1 : ¬ ((0 : Nat) : Int) > b.t.tm:=by omega
  have p2 : ¬ (0 : Int) > b.t.tm:=by omega
  refine Iso_of (es _ _ _ _) e10 ?_
  simp only [f10,bkV] at c15 c44 c21 c27 ⊢
  simp (disch:=first|assumption|omega|(simp only[az];done)) only [ru,eq_self,if_true,if_false,binI,AO.row?,loadV,Am.rowAt,Am.part,addOff,Nat.reduceAdd,Nat.reduceSub,Int.reduceEq,view_sl H.t.o,view_sl H.t.w,view_sl H.s,pure_sl H.t.o,pure_sl H.t.w,pure_sl H.s,lenV_sl hg,c15,c44,h40,c21,c27,lenV_sl i2,p2,w34b,w17]
 have h1:=A1.yes hv hs
 have h2:=A2.yes hv hs
 obtain ⟨rfl,rfl⟩ : v1 = agr (lieV b k) b.sts ∧ e1 = 0:=by simpa using h1
 obtain ⟨rfl,rfl⟩ : l2 = b.mus ∧ e2 = 0:=by simpa using h2
 have ml:=mus_len' (b:=b)
 have p1 : ¬ (b.mus.length : Int) > b.t.tm:=by omega
 by_cases hl : agr (lieV b k) b.sts = 1
 case neg =>
  refine Iso_of (es _ _ _ _) e10 ?_
  simp only [f10,bkV] at c15 c44 c21 c27 ⊢
  simp (disch:=first|assumption|omega|(simp only[az];done)) only [ru,eq_self,if_true,if_false,binI,AO.row?,loadV,Am.rowAt,Am.part,addOff,Nat.reduceAdd,Nat.reduceSub,view_sl H.t.o,view_sl H.t.w,view_sl H.s,pure_sl H.t.o,pure_sl H.t.w,pure_sl H.s,lenV_sl hg,c15,c44,h40,c21,c27,lenV_sl i2,p1,hl,w34a,w17]
 rw [hl] at c21
 have c19:=w19 H hv
 rw [if_neg hs] at c19
 have hv':=del_valid hv hk
 have HD:=del_ok H hk
 have HC:=cpB_ok HD
 have hvc : (b.del k).cp.valid = true:=cpb_valid.trans hv'
 have hs' : (b.del k).sts ≠ []:=by
  obtain ⟨W,hW,hf⟩:=fal_ex hv hs
  obtain ⟨m,_⟩:=fal_st hv hW hf
  intro h0
  have:=(sts_good hv').2 (del_good hk ((sts_good hv).1 m))
  rw [h0] at this; simp at this
 have k19:=w19 HC hvc
 rw [cpb_sts,cpb_bla',if_neg hs'] at k19
 have lt:=lie_less hv hk hs hl
 have lt' : ((b.del k).bla.length : Int) < b.bla.length:=by omega
 have hm:=lie_mus hv hk hs hl
 have d40:=fun st => s40 i2 (by omega) (b.t.ws.getD k default).time st
 rw [hm] at d40
 have c18:=fun st => w18 H (slV_is : IsSl 1 intL g (slV 1 intL g)) (by omega) st
 rw [hv,Bool.true_and,show chkB b = 0 by unfold chkB; rw [hv]; rfl] at c18
 have k18:=fun st => w18 HC (slV_is : IsSl 1 intL g (slV 1 intL g)) (by omega) st
 rw [hvc,Bool.true_and,cpb_chk,cpb_good,show chkB (b.del k) = 0 by unfold chkB; rw [hv']; rfl] at k18
 have c35:=w35 H
 have c45:=fun st => s51 H.t hk st
 have gg : b.good g = true → (b.del k).good g = true:=del_good hk
 obtain ⟨G,hG⟩ : ∃ G,G = b.good g:=⟨_,rfl⟩
 obtain ⟨G',hG'⟩ : ∃ G',G' = (b.del k).good g:=⟨_,rfl⟩
 rw [← hG] at c18 gg
 rw [← hG'] at k18 gg
 have oi : IsSl 1 Ls.e (cpL b.t.op) (cpO b.t.op):=cpO_is
 have wi : IsSl 4 Wd.e b.t.ws (slV 4 Wd.e b.t.ws):=slV_is
 have wj : IsSl 4 Wd.e (b.t.del k).ws (slV 4 Wd.e (b.t.del k).ws):=slV_is
 have si : IsSl 1 intL b.so (slV 1 intL b.so):=slV_is
 obtain ⟨co,hco⟩ : ∃ co,co = cpO b.t.op:=⟨_,rfl⟩
 obtain ⟨cw,hcw⟩ : ∃ cw,cw = slV 4 Wd.e b.t.ws:=⟨_,rfl⟩
 obtain ⟨cd,hcd⟩ : ∃ cd,cd = slV 4 Wd.e (b.t.del k).ws:=⟨_,rfl⟩
 obtain ⟨cs,hcs⟩ : ∃ cs,cs = slV 1 intL b.so:=⟨_,rfl⟩
 have e45 : cpV (b.t.del k) = .agg [I b.t.ch,I b.t.tm,co,cd]:=by rw [hco,hcd]; rfl
 rw [e45] at c45
 unfold cpB at c35
 have f1 : ∀ j,(b.del j).cp.t.ch = b.t.ch:=fun _ => rfl
 simp only [bkV,trV,show (b.del k).cp.t.ch = b.t.ch from rfl,show (b.del k).cp.t.tm = b.t.tm from rfl,show (b.del k).cp.dr = b.dr from rfl,show (b.del k).cp.rn = b.rn from rfl,show (b.del k).t.op = b.t.op from rfl,show (b.del k).t.ws = (b.t.del k).ws from rfl,show (b.del k).so = b.so from rfl,← hco,← hcw,← hcd,← hcs] at c15 c44 c21 c27 c19 k19 c18 k18 c35 c45
 rw [← hco] at oi
 rw [← hcw] at wi
 rw [← hcd] at wj
 rw [← hcs] at si
 obtain ⟨q,x0,x1,hq,A,hx⟩:=cpyQ (eb:=8) (lim:=0) (h:=[.cells [I b.t.ch,I b.t.tm,o,w,I b.dr,I b.rn,s] false,.cells [I b.t.ch,I b.t.tm,co,cd,I b.dr,I b.rn,cs] false]) (J:=[]) hg intE intSc (by omega) (by omega) (Nat.zero_le _)
 obtain ⟨q',y0,y1,hq',A',hy⟩:=cpyQ (eb:=8) (lim:=0) (h:=[.cells [I b.t.ch,I b.t.tm,o,w,I b.dr,I b.rn,s] false,.cells [I b.t.ch,I b.t.tm,co,cd,I b.dr,I b.rn,cs] false,x0,x1]) (J:=[]) hg intE intSc (by omega) (by omega) (Nat.zero_le _)
 simp only [List.length_cons,List.length_nil,Nat.zero_add,Nat.reduceAdd,apC,apN] at A A'
 have hc : ∀ J : List AO,([AO.cells [I b.t.ch,I b.t.tm,o,w,I b.dr,I b.rn,s] false,.cells [I b.t.ch,I b.t.tm,co,cd,I b.dr,I b.rn,cs] false,x0,x1] ++ J)[2 + q]? = some (.cells (g.flatMap intL) false):=fun J => by
  match q,hq with
  | 0,_ => simpa using hx
  | 1,_ => simpa using hx
 have hc' : ([AO.cells [I b.t.ch,I b.t.tm,o,w,I b.dr,I b.rn,s] false,.cells [I b.t.ch,I b.t.tm,co,cd,I b.dr,I b.rn,cs] false,x0,x1,y0,y1])[4 + q']? = some (.cells (g.flatMap intL) false):=by
  match q',hq' with
  | 0,_ => simpa using hy
  | 1,_ => simpa using hy
 have vx:=fun st => RdC.view (enc:=intL) (esz:=1) (l:=g) (h:=[AO.cells [I b.t.ch,I b.t.tm,o,w,I b.dr,I b.rn,s] false,.cells [I b.t.ch,I b.t.tm,co,cd,I b.dr,I b.rn,cs] false,x0,x1]) (w:=.ms 1 (2 + q) 0 g.length) ⟨2 + q,rfl,by simpa using hc []⟩ intE intIv (st:=st) (k:=7)
 have vy:=fun st => RdC.view (enc:=intL) (esz:=1) (l:=g) (h:=[AO.cells [I b.t.ch,I b.t.tm,o,w,I b.dr,I b.rn,s] false,.cells [I b.t.ch,I b.t.tm,co,cd,I b.dr,I b.rn,cs] false,x0,x1,y0,y1]) (w:=.ms 1 (4 + q') 0 g.length) ⟨4 + q',rfl,hc'⟩ intE intIv (st:=st) (k:=7)
 obtain ⟨y,hy'⟩ : ∃ y,y = b.t.ws.getD k default:=⟨_,rfl⟩
 rw [← hy'] at d40
 have hk' : (k : Int) < b.t.ws.length:=by omega
 refine Iso_of (es _ _ _ _) e10 ?_
 simp only [f10,bkV]
 simp (disch:=first|assumption|omega|(simp only[az];done)) only [ru,eq_self,if_true,if_false,BEq.rfl,binI,AO.row?,splice,fillL,loadV,storeV,zeros,Am.rowAt,Am.part,addOff,Nat.reduceAdd,Nat.reduceLeDiff,Nat.reduceSub,elem_sl Wd.el H.t.w,view_sl H.t.o,view_sl H.t.w,view_sl H.s,pure_sl H.t.o,pure_sl H.t.w,pure_sl H.s,Int.toNat_natCast,lenV_sl hg,c15,c44,h40,c21,c27,lenV_sl i2,view_sl i2,pure_sl i2,p1,w34a,c35,view_sl oi,scalar_sl oi,pure_sl oi,scalar_sl wi,view_sl wj,scalar_sl wj,pure_sl wj,view_sl si,scalar_sl si,pure_sl si,c45,c19,k19,GO_mapp,hide,unhN,A,A',vx,vy,c18,k18,Int.toNat_natCast,← hy',Wd.e,d40,lt']
 clear hG hG'
 cases G
 ·simp (disch:=first|assumption|omega|(simp only[az];done)) only [ru,eq_self,if_true,w17]
 ·have gg:=gg rfl
  subst gg
  simp (disch:=first|assumption|omega|(simp only[az];done)) only [ru,eq_self,if_true,if_false,w17]
end
end Go.Proofs.YtfknojncfbahpaaGreat.S
