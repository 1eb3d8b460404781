/-
The specification: Lies, Fish, Came; the law of Fish.
-/
import Derived.Test.YtfknojncfbahpaaGreatWk
import Derived.Test.YtfknojncfbahpaaGreatS2
namespace Go.Proofs.YtfknojncfbahpaaGreat.S
open Go Go.Am Go.Proofs.YtfknojncfbahpaaGreat.T
set_option maxRecDepth 100000
set_option linter.unusedSimpArgs false
set_option linter.unusedVariables false
theorem cpOk {t : Trap} {o w : AV} (H : TrOk t o w) (q : Nat → Bool) : TrOk (t.kp q).cp (cpO t.op) (resW (kpL t.ws q t.ws.length)):=(H.kp (resW_is (kpL t.ws q t.ws.length))).cp (o':=cpO t.op) (w':=resW (kpL t.ws q t.ws.length)) cpO_is (resW_is _)
theorem HulX.mem {b : Bk} {L : List (List Int)} {g : List Int} {f : (Nat → Int) → Int} {lo hi : Int} (X : HulX b (g :: L) f lo hi) (hg : g ∈ L) : HulX b L f lo hi:=by
 refine ⟨fun g' h => X.bd g' (List.mem_cons_of_mem _ h),?_,?_⟩
 ·obtain ⟨g',m,x,a⟩:=X.l
  rcases List.mem_cons.1 m with rfl | m
  ·exact ⟨g',hg,x,a⟩
  ·exact ⟨g',m,x,a⟩
 ·obtain ⟨g',m,x,a⟩:=X.h
  rcases List.mem_cons.1 m with rfl | m
  ·exact ⟨g',hg,x,a⟩
  ·exact ⟨g',m,x,a⟩
theorem jud_val (t : Trap) (y : Wd) : jud t y = 1 ∨ jud t y = 2 ∨ jud t y = 3:=by
 rcases @jud_ok t y with h | h | h
 ·exact .inl h.1
 ·exact .inr (.inl h.1)
 ·exact .inr (.inr h.1)
section
variable {b : Bk} {o w s : AV}
end
end Go.Proofs.YtfknojncfbahpaaGreat.S
