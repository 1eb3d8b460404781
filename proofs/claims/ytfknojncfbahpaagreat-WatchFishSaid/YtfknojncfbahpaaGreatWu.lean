/-
The law on Fish and Came.
-/
import Derived.Test.YtfknojncfbahpaaGreatS1
import Derived.Test.YtfknojncfbahpaaGreatWt
namespace Go.Proofs.YtfknojncfbahpaaGreat.S
open Go Go.Am Go.Proofs.YtfknojncfbahpaaGreat.T
set_option maxRecDepth 100000
set_option linter.unusedSimpArgs false
set_option linter.unusedVariables false
section
variable {b : Bk} {o w s : AV}
theorem cpb_hul {L : List (List Int)} {f : (Nat → Int) → Int} {lo hi : Int} (X : HulX b.cp L f lo hi) : HulX b L f lo hi:=by
 have e : ∀ g x,Tr (b.cp.t.kp (qG b.cp.t g)) x ↔ Tr (b.t.kp (qG b.t g)) x:=fun g x => tr_cp (t:=b.t.kp (qG b.t g))
 refine ⟨fun g h x t => X.bd g h x ((e g x).2 t),?_,?_⟩
 ·obtain ⟨g,m,x,t,a⟩:=X.l; exact ⟨g,m,x,(e g x).1 t,a⟩
 ·obtain ⟨g,m,x,t,a⟩:=X.h; exact ⟨g,m,x,(e g x).1 t,a⟩
theorem AnB.imp {α : Type} {fit : Bool} {D : Int → α} {P Q : α → Prop} {x : α} (A : AnB b fit D P x) (h : ∀ x,P x → Q x) : AnB b fit D Q x:=by
 cases A with
 | bad h => exact .bad h
 | arg h hf => exact .arg h hf
 | none h hf hn => exact .none h hf hn
 | ok hv hf hs hp => exact .ok hv hf hs (h _ hp)
theorem hul_eq {f : (Nat → Int) → Int} {fit : Bool} {a b1 c a' b1' c' : Int} (A : AnB b fit (fun e => ((0 : Int),(0 : Int),e)) (fun r => HulX b b.cp.sts f r.1 r.2.1 ∧ r.2.2 = 0) (a,b1,c)) (B : AnB b fit (fun e => ((0 : Int),(0 : Int),e)) (fun r => HulX b b.sts f r.1 r.2.1 ∧ r.2.2 = 0) (a',b1',c')) : a = a' ∧ b1 = b1' ∧ c = c':=by
 rw [cpb_sts] at A
 have:=AnB.uniq (fun _ _ _ x y hx hy => by
  obtain ⟨h1,h2⟩:=HulX.uniq hx.1 hy.1
  exact Prod.ext h1 (Prod.ext h2 (hx.2.trans hy.2.symm))) A B
 simpa using this
set_option maxHeartbeats 8000000 in
theorem l14 (H0 : BkIn b o w s) (x y : Int) : Iso E 14 [bkV b o w s,I x,I y] false = some (Bo true):=by
 have c58:=fun st => w58 H0 st
 cases hh : b.far
 case true =>
  refine Iso_of (es _ _ _ _) e14 ?_
  simp only [f14,bkV,hh] at c58 ⊢
  simp (disch:=first|assumption|omega|(simp only[az];done)) only [ru,eq_self,if_true,AO.row?,loadV,Am.rowAt,Am.part,Nat.reduceAdd,Nat.reduceSub,view_sl H0.t.o,view_sl H0.t.w,view_sl H0.s,pure_sl H0.t.o,pure_sl H0.t.w,pure_sl H0.s,c58,w17]
 have H:=H0.ok (far_huge hh)
 have HC:=cpB_ok H
 have c35:=w35 H
 have c54:=fun st => w54 HC H st
 obtain ⟨p1,p2,p3,c24,A1⟩:=w24 HC x y
 obtain ⟨q1,q2,q3,c63,A2⟩:=w63 H x y
 obtain ⟨rfl,rfl,rfl⟩:=hul_eq ((cpb_AnB A1).imp fun _ h => ⟨cpb_hul h.1,h.2⟩) A2
 obtain ⟨r1,r2,r3,c64,A3⟩:=w64 HC x y
 obtain ⟨s1,s2,s3,c65,A4⟩:=w65 H x y
 obtain ⟨rfl,rfl,rfl⟩:=hul_eq ((cpb_AnB A3).imp fun _ h => ⟨cpb_hul h.1,h.2⟩) A4
 obtain ⟨co,hco⟩ : ∃ co,co = cpO b.t.op:=⟨_,rfl⟩
 obtain ⟨cw,hcw⟩ : ∃ cw,cw = slV 4 Wd.e b.t.ws:=⟨_,rfl⟩
 obtain ⟨cs,hcs⟩ : ∃ cs,cs = slV 1 intL b.so:=⟨_,rfl⟩
 unfold cpB at c35
 rw [← hco,← hcw,← hcs] at HC c24 c64 c54 c35
 simp only [bkV,show b.cp.t.ch = b.t.ch from rfl,show b.cp.t.tm = b.t.tm from rfl,show b.cp.dr = b.dr from rfl,show b.cp.rn = b.rn from rfl] at c24 c63 c64 c65 c54 c35 c58
 rw [hh] at c58
 refine Iso_of (es _ _ _ _) e14 ?_
 simp only [f14,bkV]
 simp (disch:=first|assumption|omega|(simp only[az];done)) only [ru,eq_self,if_true,if_false,BEq.rfl,binI,AO.row?,splice,loadV,storeV,Am.rowAt,Am.part,Nat.reduceAdd,Nat.reduceLeDiff,Nat.reduceSub,view_sl H.t.o,view_sl H.t.w,view_sl H.s,pure_sl H.t.o,pure_sl H.t.w,pure_sl H.s,view_sl HC.t.o,view_sl HC.t.w,view_sl HC.s,scalar_sl HC.t.o,scalar_sl HC.t.w,scalar_sl HC.s,pure_sl HC.t.o,pure_sl HC.t.w,pure_sl HC.s,c58,c35,c24,c63,c64,c65,c54,w17,eqCells]
end
end Go.Proofs.YtfknojncfbahpaaGreat.S
