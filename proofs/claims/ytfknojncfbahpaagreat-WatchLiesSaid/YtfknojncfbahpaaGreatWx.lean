/-
The law on Lies, False and Blame.
-/
import Derived.Test.YtfknojncfbahpaaGreatWs
import Derived.Test.YtfknojncfbahpaaGreatWt
import Derived.Test.YtfknojncfbahpaaGreatWv
namespace Go.Proofs.YtfknojncfbahpaaGreat.S
open Go Go.Am Go.Proofs.YtfknojncfbahpaaGreat.T
set_option maxRecDepth 100000
set_option linter.unusedSimpArgs false
set_option linter.unusedVariables false
section
variable {b : Bk} {o w s : AV}
theorem jud_cp {t : Trap} {y : Wd} : jud t.cp y = jud t y:=by
 have e1 : (∀ x,Tr t.cp x → saysW t.cp.C x y) ↔ (∀ x,Tr t x → saysW t.C x y):=⟨fun h x t => h x (tr_cp.2 t),fun h x t => h x (tr_cp.1 t)⟩
 have e2 : (∀ x,Tr t.cp x → ¬ saysW t.cp.C x y) ↔ (∀ x,Tr t x → ¬ saysW t.C x y):=⟨fun h x t => h x (tr_cp.2 t),fun h x t => h x (tr_cp.1 t)⟩
 unfold jud
 by_cases h1 : ∀ x,Tr t x → saysW t.C x y
 ·rw [if_pos h1,if_pos (e1.2 h1)]
 ·rw [if_neg h1,if_neg (fun h => h1 (e1.1 h))]
  by_cases h2 : ∀ x,Tr t x → ¬ saysW t.C x y
  ·rw [if_pos h2,if_pos (e2.2 h2)]
  ·rw [if_neg h2,if_neg (fun h => h2 (e2.1 h))]
theorem cpb_lieV {n : Nat} : lieV b.cp n = lieV b n:=by
 funext g
 unfold lieV
 rw [show b.cp.t.kp (qG b.cp.t g) = (b.t.kp (qG b.t g)).cp from rfl,jud_cp]
 rfl
theorem cpb_fal {W : List Int} : b.cp.fal W = b.fal W:=by
 unfold Bk.fal
 rw [show b.cp.t.kp (qL W) = (b.t.kp (qL W)).cp from rfl,cpb_solB]
 rfl
theorem cpb_bla : b.cp.bla = b.bla:=by
 unfold Bk.bla
 rw [show b.cp.t.ws = b.t.ws from rfl]
 congr 1
 exact List.filter_congr fun W _ => cpb_fal
theorem bla_ris : ris b.t.ws.length b.bla:=by
 unfold Bk.bla
 cases h : (alls b.t.ws.length).filter b.fal with
 | nil => exact ris_nil
 |
  cons W R =>
  have : W ∈ (alls b.t.ws.length).filter b.fal:=by rw [h]; simp
  exact mem_alls.1 (List.mem_filter.1 this).1
set_option maxHeartbeats 8000000 in
theorem l13 (H0 : BkIn b o w s) (n : Int) : Iso E 13 [bkV b o w s,I n] false = some (Bo true):=by
 have c58:=fun st => w58 H0 st
 cases hh : b.far
 case true =>
  refine Iso_of (es _ _ _ _) e13 ?_
  simp only [f13,bkV,hh] at c58 ⊢
  simp (disch:=first|assumption|omega|(simp only[az];done)) only [ru,eq_self,if_true,AO.row?,loadV,Am.rowAt,Am.part,Nat.reduceAdd,Nat.reduceSub,view_sl H0.t.o,view_sl H0.t.w,view_sl H0.s,pure_sl H0.t.o,pure_sl H0.t.w,pure_sl H0.s,c58,w17]
 have H:=H0.ok (far_huge hh)
 have HC:=cpB_ok H
 have c35:=w35 H
 have c54:=fun st => w54 HC H st
 obtain ⟨v1,e1,c21,A1⟩:=w21 HC n
 obtain ⟨v2,e2,c59,A2⟩:=w59 H n
 have A1:=cpb_AnB A1
 rw [cpb_lieV,cpb_sts,show b.cp.t.ws = b.t.ws from rfl] at A1
 have hle : v1 = v2 ∧ e1 = e2:=by
  have:=AnB.uniq (fun _ _ _ x y hx hy => hx.trans hy.symm) A1 A2
  simpa using this
 obtain ⟨rfl,rfl⟩:=hle
 obtain ⟨v3,l3,e3,c33,i3,A3⟩:=w33 HC
 obtain ⟨v4,l4,e4,c62,i4,A4⟩:=w62 H
 have A3:=cpb_AnB A3
 rw [cpb_bla] at A3
 have hle : l3 = l4 ∧ e3 = e4:=by
  have:=AnB.uniq (fun _ _ _ x y hx hy => hx.trans hy.symm) A3 A4
  simpa using this
 obtain ⟨rfl,rfl⟩:=hle
 have lz:=A3.len (k:=40) fun hv hs r hr => by
  have h1:=ris_len (bla_ris (b:=b))
  have h2:=H.t.sw
  rw [hr]; show b.bla.length ≤ 40; omega
 have c50:=fun st => s69 i3 i4 (by omega) st
 obtain ⟨v5,e5,c60,A5⟩:=w60 HC
 obtain ⟨v6,e6,c61,A6⟩:=w61 H
 have A5:=cpb_AnB A5
 rw [cpb_bla] at A5
 have hle : v5 = v6 ∧ e5 = e6:=by
  have:=AnB.uniq (fun _ _ _ x y hx hy => hx.trans hy.symm) A5 A6
  simpa using this
 obtain ⟨rfl,rfl⟩:=hle
 obtain ⟨co,hco⟩ : ∃ co,co = cpO b.t.op:=⟨_,rfl⟩
 obtain ⟨cw,hcw⟩ : ∃ cw,cw = slV 4 Wd.e b.t.ws:=⟨_,rfl⟩
 obtain ⟨cs,hcs⟩ : ∃ cs,cs = slV 1 intL b.so:=⟨_,rfl⟩
 unfold cpB at c35
 rw [← hco,← hcw,← hcs] at HC c21 c33 c60 c54 c35
 simp only [bkV,show b.cp.t.ch = b.t.ch from rfl,show b.cp.t.tm = b.t.tm from rfl,show b.cp.dr = b.dr from rfl,show b.cp.rn = b.rn from rfl] at c21 c59 c33 c62 c60 c61 c54 c35 c58
 rw [hh] at c58
 refine Iso_of (es _ _ _ _) e13 ?_
 simp only [f13,bkV]
 simp (disch:=first|assumption|omega|(simp only[az];done)) only [ru,eq_self,if_true,BEq.rfl,binI,AO.row?,splice,loadV,storeV,Am.rowAt,Am.part,Nat.reduceAdd,Nat.reduceLeDiff,Nat.reduceSub,view_sl H.t.o,view_sl H.t.w,view_sl H.s,pure_sl H.t.o,pure_sl H.t.w,pure_sl H.s,view_sl HC.t.o,view_sl HC.t.w,view_sl HC.s,scalar_sl HC.t.o,scalar_sl HC.t.w,scalar_sl HC.s,pure_sl HC.t.o,pure_sl HC.t.w,pure_sl HC.s,c58,c35,c21,c59,c60,c61,c33,c62,view_sl i3,pure_sl i3,view_sl i4,pure_sl i4,c50,c54,w17]
end
end Go.Proofs.YtfknojncfbahpaaGreat.S
