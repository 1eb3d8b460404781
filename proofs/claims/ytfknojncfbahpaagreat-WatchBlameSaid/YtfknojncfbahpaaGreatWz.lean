/-
The law of who is to blame.
-/
import Derived.Test.YtfknojncfbahpaaGreatWy
namespace Go.Proofs.YtfknojncfbahpaaGreat.S
open Go Go.Am Go.Proofs.YtfknojncfbahpaaGreat.T
set_option maxRecDepth 100000
set_option linter.unusedSimpArgs false
set_option linter.unusedVariables false
theorem risL_ris' {l : List Int} {k : Nat} : risL l ((k : Int) - 1) = true ↔ ris k l:=by
 by_cases h : 1 ≤ k
 ·exact risL_ris h
 obtain rfl : k = 0:=by omega
 cases l with
 | nil => exact ⟨fun _ => ris_nil,fun _ => rfl⟩
 |
  cons a l =>
  constructor
  ·intro h
   have h1:=List.all_eq_true.1 h 0 (List.mem_range.2 (by simp))
   have h2:=(ris_iff.1 h1).1
   have : (0 : Int) ≤ ((0 : Nat) : Int) - 1:=Int.le_trans h2.1 h2.2
   omega
  ·intro h
   have:=h.1 a (by simp); omega
theorem w29 {l m : List Int} {v u : AV} (hv : IsSl 1 intL l v) (hu : IsSl 1 intL m u) (hl : l.length ≤ 1000000) (st : Bool) : Iso E 29 [v,u] st = some (Bo (ear l m)):=by
 obtain ⟨A,hA⟩ : ∃ A,A = ear l m:=⟨_,rfl⟩
 rw [← hA]
 refine Iso_of (es _ _ _ _) e29 ?_
 simp only [f29]
 simp (disch:=first|assumption|omega|(simp only[az];done)) only [ru,Nat.reduceAdd,Nat.reduceSub]
 refine G_loop_ind (fun k ts hk mk => ∃ (i : Nat),i ≤ l.length ∧ k = l.length - i ∧ hk = [] ∧ ear (l.drop i) (m.drop i) = A ∧
   ts.length = 36 ∧ ts.getD 0 .undef = v ∧ ts.getD 1 .undef = u ∧ ts.getD 5 .undef = I i ∧ mk = []) ?_ _ _ _ _
  ⟨0,Nat.zero_le _,rfl,rfl,by rw [hA]; rfl,rfl,rfl,rfl,rfl,rfl⟩
 rintro k ts hk mk ih ⟨i,hi,rfl,rfl,he,hl',q0,q1,q5,rfl⟩
 rw [lit_all hl']
 simp only [lit0,litS,Nat.reduceAdd,q0,q1,q5]
 by_cases h1 : (i : Int) < l.length
 case neg =>
  have a0 : A = false:=by
   rw [← he,List.drop_eq_nil_of_le (by omega)]; simp [ear]
  simp (disch:=first|assumption|omega|(simp only[az];done)) only [ru,eq_self,if_true,if_false,binI,lenV_sl hv,h1,a0]
 by_cases h2 : (i : Int) < m.length
 case neg =>
  have a0 : A = false:=by
   have e0 : m.drop i = []:=List.drop_eq_nil_of_le (by omega)
   rw [← he,e0]
   cases l.drop i <;> simp [ear]
  simp (disch:=first|assumption|omega|(simp only[az];done)) only [ru,eq_self,if_true,binI,lenV_sl hv,lenV_sl hu,h1,h2,a0]
 have n1 : i < l.length:=by omega
 have n2 : i < m.length:=by omega
 obtain ⟨x,hx⟩ : ∃ x,x = l.getD i default:=⟨_,rfl⟩
 obtain ⟨y,hy⟩ : ∃ y,y = m.getD i default:=⟨_,rfl⟩
 have d1 : l.drop i = x :: l.drop (i + 1):=by
  rw [List.drop_eq_getElem_cons n1,hx,List.getD_eq_getElem?_getD,List.getElem?_eq_getElem n1]; rfl
 have d2 : m.drop i = y :: m.drop (i + 1):=by
  rw [List.drop_eq_getElem_cons n2,hy,List.getD_eq_getElem?_getD,List.getElem?_eq_getElem n2]; rfl
 rw [d1,d2] at he
 simp only [ear] at he
 by_cases e : x = y
 ·rw [if_neg (fun h => h e)] at he
  simp (disch:=first|assumption|omega|(simp only[az];done)) only [ru,eq_self,if_true,if_false,binI,loadV,Am.part,lenV_sl hv,elem_sl intE hv,lenV_sl hu,elem_sl intE hu,h1,h2,Int.toNat_natCast,← hx,← hy,e]
  exact ih (l.length - (i + 1)) _ _ _ (by omega) ⟨i + 1,by omega,rfl,rfl,he,rfl,rfl,rfl,rfl,rfl⟩
 ·rw [if_pos e] at he
  simp (disch:=first|assumption|omega|(simp only[az];done)) only [ru,eq_self,if_true,if_false,binI,loadV,Am.part,lenV_sl hv,elem_sl intE hv,lenV_sl hu,elem_sl intE hu,h1,h2,Int.toNat_natCast,← hx,← hy,e,← he]
section
variable {b : Bk} {o w s : AV}
theorem bla_min {W : List Int} (hW : ris b.t.ws.length W) (h : lesL W b.bla) : b.fal W = false:=by
 cases hf : b.fal W
 ·rfl
 exfalso
 have m : W ∈ (alls b.t.ws.length).filter b.fal:=List.mem_filter.2 ⟨mem_alls.2 hW,hf⟩
 have so:=(alls_sorted (k:=b.t.ws.length)).filter b.fal
 unfold Bk.bla at h
 cases hz : (alls b.t.ws.length).filter b.fal with
 | nil => rw [hz] at m; simp at m
 |
  cons W' R =>
  rw [hz] at h m so
  have h : lesL W W':=h
  rcases List.mem_cons.1 m with rfl | m
  ·exact lesL_irr h h
  ·exact lesL_irr h ((List.pairwise_cons.1 so).1 W m)
theorem bla_fal (hv : b.valid = true) (hs : b.sts ≠ []) : b.fal b.bla = true:=by
 obtain ⟨W,hW,hf⟩:=fal_ex hv hs
 have m : W ∈ (alls b.t.ws.length).filter b.fal:=List.mem_filter.2 ⟨mem_alls.2 hW,hf⟩
 unfold Bk.bla
 cases hz : (alls b.t.ws.length).filter b.fal with
 | nil => rw [hz] at m; simp at m
 |
  cons W' R =>
  have : W' ∈ (alls b.t.ws.length).filter b.fal:=by rw [hz]; simp
  exact (List.mem_filter.1 this).2
theorem fal_sts (hv : b.valid = true) {W : List Int} (hW : ris b.t.ws.length W) (h : b.fal W = true) : b.sts ≠ []:=by
 have V:=valid_trb (bk_t hv)
 unfold Bk.fal at h
 rw [Bool.and_eq_true,solB_iff] at h
 obtain ⟨hc,x,hx⟩:=h
 have m : tims b.t W ∈ b.sts:=by
  refine mem_sts.2 ⟨tims_ris V,hc,x,?_⟩
  rw [tr_kp] at hx ⊢
  refine ⟨hx.1,fun i hi hq => hx.2 i hi ?_⟩
  cases hl : qL W i
  ·rfl
  ·exfalso
   unfold qL at hl
   have mt : (b.t.ws.getD i default).time ∈ tims b.t W:=(mem_tims V hW).2 ⟨(i : Int),hasI_iff.1 hl,by rw [Int.toNat_natCast]⟩
   unfold qG at hq
   rw [hasI_iff.2 mt] at hq; cases hq
 intro h0
 rw [h0] at m; simp at m
set_option maxHeartbeats 8000000 in
theorem l9 (H0 : BkIn b o w s) {g : List Int} {gv : AV} (hg : IsSl 1 intL g gv) : Iso E 9 [bkV b o w s,gv] false = some (Bo true):=by
 have c15:=fun st => w15 H0 st
 obtain ⟨r,hr⟩ : ∃ r,r = (!b.far && b.valid):=⟨_,rfl⟩
 rw [← hr] at c15
 cases r
 ·refine Iso_of (es _ _ _ _) e9 ?_
  simp only [f9,bkV] at c15 ⊢
  simp (disch:=first|assumption|omega|(simp only[az];done)) only [ru,eq_self,if_true,AO.row?,loadV,Am.rowAt,Am.part,Nat.reduceAdd,Nat.reduceSub,view_sl H0.t.o,view_sl H0.t.w,view_sl H0.s,pure_sl H0.t.o,pure_sl H0.t.w,pure_sl H0.s,c15,w17]
 obtain ⟨hf,hv⟩ : b.far = false ∧ b.valid = true:=by simpa using hr.symm
 by_cases h40 : (g.length : Int) > 40
 ·refine Iso_of (es _ _ _ _) e9 ?_
  simp only [f9,bkV] at c15 ⊢
  simp (disch:=first|assumption|omega|(simp only[az];done)) only [ru,eq_self,if_true,if_false,binI,AO.row?,loadV,Am.rowAt,Am.part,Nat.reduceAdd,Nat.reduceSub,view_sl H0.t.o,view_sl H0.t.w,view_sl H0.s,pure_sl H0.t.o,pure_sl H0.t.w,pure_sl H0.s,lenV_sl hg,c15,h40,w17]
 have H:=H0.ok (far_huge hf)
 have sw:=H.t.sw
 have w8:=valid_w8 (bk_t hv)
 have c19:=w19 H hv
 obtain ⟨v3,l3,e3,c33,i3,A3⟩:=w33 H
 have c42:=fun st => s52 hg (by omega) 0 ((b.t.ws.length : Int) - 1) st
 obtain ⟨R,hR⟩ : ∃ R,R = risL g ((b.t.ws.length : Int) - 1):=⟨_,rfl⟩
 rw [show ((List.range g.length).all fun i => risR g 0 ((b.t.ws.length : Int) - 1) i) = R from hR.symm] at c42
 by_cases hs : b.sts = []
 ·have h3:=A3.no hv hs
  obtain ⟨rfl,rfl⟩ : l3 = [] ∧ e3 = 3:=by simpa using h3
  rw [if_pos hs] at c19
  cases R
  ·refine Iso_of (es _ _ _ _) e9 ?_
   simp only [f9,bkV] at c15 c19 c33 c42 ⊢
   simp (disch:=first|assumption|omega|(simp only[az];done)) only [ru,eq_self,if_true,if_false,BEq.rfl,binI,AO.row?,loadV,Am.rowAt,Am.part,addOff,Nat.reduceAdd,Nat.reduceSub,Int.reduceEq,Int.reduceLT,lenV_sl H.t.w,view_sl H.t.o,view_sl H.t.w,view_sl H.s,pure_sl H.t.o,pure_sl H.t.w,pure_sl H.s,lenV_sl hg,view_sl hg,pure_sl hg,c15,h40,c19,c33,c42,w34b,w17,gUn]
  ·have gr:=risL_ris'.1 hR.symm
   have c43:=w43 H hv hg gr
   have f0 : b.fal g = false:=by
    cases h : b.fal g
    ·rfl
    ·exact absurd hs (fal_sts hv gr h)
   rw [f0] at c43
   refine Iso_of (es _ _ _ _) e9 ?_
   simp only [f9,bkV] at c15 c19 c33 c42 c43 ⊢
   simp (disch:=first|assumption|omega|(simp only[az];done)) only [ru,eq_self,if_true,if_false,BEq.rfl,binI,AO.row?,loadV,Am.rowAt,Am.part,addOff,Nat.reduceAdd,Nat.reduceSub,Int.reduceEq,Int.reduceLT,lenV_sl H.t.w,view_sl H.t.o,view_sl H.t.w,view_sl H.s,pure_sl H.t.o,pure_sl H.t.w,pure_sl H.s,lenV_sl hg,view_sl hg,pure_sl hg,c15,h40,c19,c33,c42,c43,w34b,w17,gUn]
 ·have h3:=A3.yes hv hs
  obtain ⟨rfl,rfl⟩ : l3 = b.bla ∧ e3 = 0:=by simpa using h3
  rw [if_neg hs] at c19
  have br:=bla_ris' (b:=b)
  have bl:=ris_len br
  have p1 : (b.bla.length : Int) < 100:=by omega
  have d42:=fun st => s52 i3 (by omega) 0 ((b.t.ws.length : Int) - 1) st
  rw [show ((List.range b.bla.length).all fun i => risR b.bla 0 ((b.t.ws.length : Int) - 1) i) = true from risL_ris'.2 br] at d42
  have d43:=w43 H hv i3 br
  rw [bla_fal hv hs] at d43
  cases R
  ·refine Iso_of (es _ _ _ _) e9 ?_
   simp only [f9,bkV] at c15 c19 c33 c42 d42 d43 ⊢
   simp (disch:=first|assumption|omega|(simp only[az];done)) only [ru,eq_self,if_true,if_false,BEq.rfl,binI,AO.row?,loadV,Am.rowAt,Am.part,addOff,Nat.reduceAdd,Nat.reduceSub,lenV_sl H.t.w,view_sl H.t.o,view_sl H.t.w,view_sl H.s,pure_sl H.t.o,pure_sl H.t.w,pure_sl H.s,lenV_sl hg,view_sl hg,pure_sl hg,c15,h40,c19,c33,lenV_sl i3,view_sl i3,pure_sl i3,c42,d42,d43,p1,w34a,w17,gUn]
  have gr:=risL_ris'.1 hR.symm
  have c43:=w43 H hv hg gr
  by_cases g1 : (g.length : Int) > b.bla.length
  ·refine Iso_of (es _ _ _ _) e9 ?_
   simp only [f9,bkV] at c15 c19 c33 c42 d42 d43 ⊢
   simp (disch:=first|assumption|omega|(simp only[az];done)) only [ru,eq_self,if_true,if_false,BEq.rfl,binI,AO.row?,loadV,Am.rowAt,Am.part,addOff,Nat.reduceAdd,Nat.reduceSub,lenV_sl H.t.w,view_sl H.t.o,view_sl H.t.w,view_sl H.s,pure_sl H.t.o,pure_sl H.t.w,pure_sl H.s,lenV_sl hg,view_sl hg,pure_sl hg,c15,h40,c19,c33,lenV_sl i3,view_sl i3,pure_sl i3,c42,d42,d43,p1,w34a,w17,gUn,g1]
  by_cases g2 : (g.length : Int) = b.bla.length
  ·have q1 : ¬ (b.bla.length : Int) > b.bla.length:=by omega
   have q40 : ¬ (b.bla.length : Int) > 40:=by omega
   have c29:=fun st => w29 hg i3 (by omega) st
   cases he : ear g b.bla <;> rw [he] at c29
   ·refine Iso_of (es _ _ _ _) e9 ?_
    simp only [f9,bkV] at c15 c19 c33 c42 d42 d43 ⊢
    simp (disch:=first|assumption|omega|(simp only[az];done)) only [ru,eq_self,if_true,if_false,BEq.rfl,binI,AO.row?,loadV,Am.rowAt,Am.part,addOff,Nat.reduceAdd,Nat.reduceSub,lenV_sl H.t.w,view_sl H.t.o,view_sl H.t.w,view_sl H.s,pure_sl H.t.o,pure_sl H.t.w,pure_sl H.s,lenV_sl hg,view_sl hg,pure_sl hg,c15,c19,c33,lenV_sl i3,view_sl i3,pure_sl i3,c42,d42,d43,p1,w34a,w17,g2,q1,q40,c29]
   ·have f0:=bla_min gr (.inr ⟨by omega,he⟩)
    rw [f0] at c43
    refine Iso_of (es _ _ _ _) e9 ?_
    simp only [f9,bkV] at c15 c19 c33 c42 d42 d43 c43 ⊢
    simp (disch:=first|assumption|omega|(simp only[az];done)) only [ru,eq_self,if_true,if_false,BEq.rfl,binI,AO.row?,loadV,Am.rowAt,Am.part,addOff,Nat.reduceAdd,Nat.reduceSub,lenV_sl H.t.w,view_sl H.t.o,view_sl H.t.w,view_sl H.s,pure_sl H.t.o,pure_sl H.t.w,pure_sl H.s,lenV_sl hg,view_sl hg,pure_sl hg,c15,c19,c33,lenV_sl i3,view_sl i3,pure_sl i3,c42,d42,d43,c43,p1,w34a,w17,g2,q1,q40,c29]
  ·have f0:=bla_min gr (.inl (by omega))
   rw [f0] at c43
   refine Iso_of (es _ _ _ _) e9 ?_
   simp only [f9,bkV] at c15 c19 c33 c42 d42 d43 c43 ⊢
   simp (disch:=first|assumption|omega|(simp only[az];done)) only [ru,eq_self,if_true,if_false,BEq.rfl,binI,AO.row?,loadV,Am.rowAt,Am.part,addOff,Nat.reduceAdd,Nat.reduceSub,lenV_sl H.t.w,view_sl H.t.o,view_sl H.t.w,view_sl H.s,pure_sl H.t.o,pure_sl H.t.w,pure_sl H.s,lenV_sl hg,view_sl hg,pure_sl hg,c15,h40,c19,c33,lenV_sl i3,view_sl i3,pure_sl i3,c42,d42,d43,c43,p1,w34a,w17,g1,g2]
end
end Go.Proofs.YtfknojncfbahpaaGreat.S
