/-
The specification: Drunk, Must, Ask.
-/
import Derived.Test.YtfknojncfbahpaaGreatS1
namespace Go.Proofs.YtfknojncfbahpaaGreat.S
open Go Go.Am Go.Proofs.YtfknojncfbahpaaGreat.T
set_option maxRecDepth 100000
set_option linter.unusedSimpArgs false
set_option linter.unusedVariables false
section
variable {b : Bk} {o w s : AV}
theorem w38 (H : BkOk b o w s) (n : Int) (st : Bool) : Iso E 38 [bkV b o w s,I n] st = some (Bo (inR n 0 (wr .i64 (b.t.tm - 1)))):=by
 have c:=fun st => s45 H.t n st
 obtain ⟨x,hx⟩ : ∃ x,x = wr .i64 (b.t.tm - 1):=⟨_,rfl⟩
 refine Iso_of (es _ _ _ _) e38 ?_
 simp only [f38,bkV,trV,← hx] at c ⊢
 simp (disch:=first|assumption|omega|(simp only[az];done)) only [ru,eq_self,if_true,AO.row?,loadV,Am.rowAt,Am.part,addOff,Nat.reduceAdd,Nat.reduceSub,view_sl H.t.o,view_sl H.t.w,pure_sl H.t.o,pure_sl H.t.w,c]
theorem w44 (H : BkOk b o w s) (n : Int) (st : Bool) : Iso E 44 [bkV b o w s,I n] st = some (Bo (inR n 0 ((b.t.ws.length : Int) - 1))):=by
 have sw:=H.t.sw
 refine Iso_of (es _ _ _ _) e44 ?_
 simp only [f44,bkV]
 simp (disch:=first|assumption|omega|(simp only[az];done)) only [ru,eq_self,if_true,if_false,binI,AO.row?,loadV,Am.rowAt,Am.part,addOff,Nat.reduceAdd,Nat.reduceSub,lenV_sl H.t.w,w89]
end
end Go.Proofs.YtfknojncfbahpaaGreat.S
