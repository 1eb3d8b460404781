/-
The law of who is to blame.
-/
import Derived.Test.YtfknojncfbahpaaGreatWy
namespace Go.Proofs.YtfknojncfbahpaaGreat.S
open Go Go.Am Go.Proofs.YtfknojncfbahpaaGreat.T
set_option maxRecDepth 100000
set_option linter.unusedSimpArgs false
set_option linter.unusedVariables false
theorem w29 {l m : List Int} {v u : AV} (hv : IsSl 1 intL l v) (hu : IsSl 1 intL m u) (hl : l.length ≤ 1000000) (st : Bool) : Iso E 29 [v,u] st = some (Bo (ear l m)):=by
 obtain ⟨A,hA⟩ : ∃ A,A = ear l m:=⟨_,rfl⟩
 rw [← hA]
 refine Iso_of (es _ _ _ _) e29 ?_
 simp only [f29]
 simp (disch:=first|assumption|omega|(simp only[az];done)) only [ru,Nat.reduceAdd,Nat.reduceSub]
 refine G_loop_ind (fun k ts hk mk => ∃ (i : Nat),i ≤ l.length ∧ k = l.length - i ∧ hk = [] ∧ ear (l.drop i) (m.drop i) = A ∧
   ts.length = 36 ∧ ts.getD 0 .undef = v ∧ ts.getD 1 .undef = u ∧ ts.getD 5 .undef = I i ∧ mk = []) ?_ _ _ _ _
  ⟨0,Nat.zero_le _,rfl,rfl,by rw [hA]; rfl,rfl,rfl,rfl,rfl,rfl⟩
 rintro k ts hk mk ih ⟨i,hi,rfl,rfl,he,hl',q0,q1,q5,rfl⟩
 rw [lit_all hl']
 simp only [lit0,litS,Nat.reduceAdd,q0,q1,q5]
 by_cases h1 : (i : Int) < l.length
 case neg =>
  have a0 : A = false:=by
   rw [← he,List.drop_eq_nil_of_le (by omega)]; simp [ear]
  simp (disch:=first|assumption|omega|(simp only[az];done)) only [ru,eq_self,if_true,if_false,binI,lenV_sl hv,h1,a0]
 by_cases h2 : (i : Int) < m.length
 case neg =>
  have a0 : A = false:=by
   have e0 : m.drop i = []:=List.drop_eq_nil_of_le (by omega)
   rw [← he,e0]
   cases l.drop i <;> simp [ear]
  simp (disch:=first|assumption|omega|(simp only[az];done)) only [ru,eq_self,if_true,binI,lenV_sl hv,lenV_sl hu,h1,h2,a0]
 have n1 : i < l.length:=by omega
 have n2 : i < m.length:=by omega
 obtain ⟨x,hx⟩ : ∃ x,x = l.getD i default:=⟨_,rfl⟩
 obtain ⟨y,hy⟩ : ∃ y,y = m.getD i default:=⟨_,rfl⟩
 have d1 : l.drop i = x :: l.drop (i + 1):=by
  rw [List.drop_eq_getElem_cons n1,hx,List.getD_eq_getElem?_getD,List.getElem?_eq_getElem n1]; rfl
 have d2 : m.drop i = y :: m.drop (i + 1):=by
  rw [List.drop_eq_getElem_cons n2,hy,List.getD_eq_getElem?_getD,List.getElem?_eq_getElem n2]; rfl
 rw [d1,d2] at he
 simp only [ear] at he
 by_cases e : x = y
 ·rw [if_neg (fun h => h e)] at he
  simp (disch:=first|assumption|omega|(simp only[az];done)) only [ru,eq_self,if_true,if_false,binI,loadV,Am.part,lenV_sl hv,elem_sl intE hv,lenV_sl hu,elem_sl intE hu,h1,h2,Int.toNat_natCast,← hx,← hy,e]
  exact ih (l.length - (i + 1)) _ _ _ (by omega) ⟨i + 1,by omega,rfl,rfl,he,rfl,rfl,rfl,rfl,rfl⟩
 ·rw [if_pos e] at he
  simp (disch:=first|assumption|omega|(simp only[az];done)) only [ru,eq_self,if_true,if_false,binI,loadV,Am.part,lenV_sl hv,elem_sl intE hv,lenV_sl hu,elem_sl intE hu,h1,h2,Int.toNat_natCast,← hx,← hy,e,← he]
section
variable {b : Bk} {o w s : AV}
theorem bla_min {W : List Int} (hW : ris b.t.ws.length W) (h : lesL W b.bla) : b.fal W = false:=by
 cases hf : b.fal W
 ·rfl
 exfalso
 have m : W ∈ (alls b.t.ws.length).filter b.fal:=List.mem_filter.2 ⟨mem_alls.2 hW,hf⟩
 have so:=(alls_sorted (k:=b.t.ws.length)).filter b.fal
 unfold Bk.bla at h
 cases hz : (alls b.t.ws.length).filter b.fal with
 | nil => rw [hz] at m; simp at m
 |
  cons W' R =>
  rw [hz] at h m so
  have h : lesL W W':=h
  rcases List.mem_cons.1 m with rfl | m
  ·exact lesL_irr h h
  ·exact lesL_irr h ((List.pairwise_cons.1 so).1 W m)
end
end Go.Proofs.YtfknojncfbahpaaGreat.S
