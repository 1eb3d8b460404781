/-
The law of a word less.
-/
import Derived.Test.YtfknojncfbahpaaGreatS1
import Derived.Test.YtfknojncfbahpaaGreatWx
import Derived.Test.YtfknojncfbahpaaGreatXb
namespace Go.Proofs.YtfknojncfbahpaaGreat.S
open Go Go.Am Go.Proofs.YtfknojncfbahpaaGreat.T
set_option maxRecDepth 100000
set_option linter.unusedSimpArgs false
set_option linter.unusedVariables false
section
variable {b : Bk} {o w s : AV} {k : Nat}
theorem agr_one {f : List Int → Int} {L : List (List Int)} (h : agr f L = 1) : ∀ g ∈ L,f g = 1:=by
 cases L with
 | nil => intro g hg; simp at hg
 |
  cons g0 M =>
  simp only [agr] at h
  split at h
  ·rename_i ha
   intro g hg
   rcases List.mem_cons.1 hg with rfl | hg
   ·exact h
   ·exact (of_decide_eq_true (List.all_eq_true.1 ha g hg)).trans h
  ·cases h
theorem lie_sure (h : agr (lieV b k) b.sts = 1) {g : List Int} (hg : g ∈ b.sts) {x : Nat → Int} (hx : Tr (b.t.kp (qG b.t g)) x) : ¬ saysW b.t.C x (b.t.ws.getD k default):=by
 have h1:=agr_one h g hg
 unfold lieV lieJ at h1
 rcases @jud_ok (b.t.kp (qG b.t g)) (b.t.ws.getD k default) with j | j | j
 ·rw [j.1] at h1; simp at h1
 ·exact j.2 x hx
 ·rw [j.1] at h1; simp at h1
end
end Go.Proofs.YtfknojncfbahpaaGreat.S
