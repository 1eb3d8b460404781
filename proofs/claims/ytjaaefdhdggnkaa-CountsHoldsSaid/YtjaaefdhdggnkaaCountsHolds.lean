/-
What the program answers to Check and Holds is what the reference answers, and its Truth is a truth, or the error: the law returns true for every input, and leaves its arguments as they were.
-/
import Derived.Test.YtjaaefdhdggnkaaS3
import Derived.Test.YtjaaefdhdggnkaaS4
namespace Go.Proofs.Ytjaaefdhdggnkaa.countsHolds
open Go Go.Am Go.Proofs.Ytjaaefdhdggnkaa.T Go.Proofs.Ytjaaefdhdggnkaa.S Go.ChangeShapes Go.WideShapes Go.RowKit
set_option linter.unusedVariables false
set_option maxRecDepth 100000

theorem law (cs : List (List AV)) (hl : cs.length = Try.f11.params.size) (hw : ∀ (j : Nat) t c, Try.f11.params.toList[j]? = some t → cs[j]? = some c → WfC Try.prog 5 t c) :
    ∃ st, Iso E 11 (List.zipWith (topV Try.prog) Try.f11.params.toList cs) st = some (.bool true) := by
  rw [Try.params11] at hw hl ⊢
  match cs, hl with
  | [a0, a1], _ =>
    obtain ⟨t0, o0, w0, e0, H0⟩ := wfTrap (d := 1) (hw 0 25 a0 rfl rfl)
    obtain ⟨L1, v1, e1, N1⟩ := wfNu (d := 2) (hw 1 22 a1 rfl rfl)
    subst e1
    refine ⟨false, ?_⟩
    have h := s11 H0 N1
    rw [← e0] at h
    simpa only [topV, Try.underlying22, Try.underlying25, List.zipWith, List.headD] using h

theorem contract (H : Type) (enc : TypeId × Value → H) (W : World) (base : Nat) (args : Array Value) (ds gs : List (DataW H)) (before : List MemPlace)
    (hval : ∀ (j : Nat) t v, Try.f11.params[j]? = some t → args[j]? = some v → Value.okWide Try.prog W .any base t v)
    (hW : DataW.Whole enc Try.prog Try.f11.params.toList Rows.countsHoldsSpec.vars false W args.toList ds gs before) :
    Calls Try.prog 11 args W fun e W' => ∃ v, e = .returned v ∧ Rows.countsHoldsSpec.post enc Try.prog Try.f11 false true false false W args v W' :=
  contract_of laid ok (d := 5) rfl (fun ds h => by rw [Try.params11] at h; match ds, h with | [_, _], _ => rfl) (by kernel_rfl) Try.underlying4 (by kernel_rfl) law base args ds gs before hval hW

theorem lifted (os : Os) (started : os.Started) (H : Type) (enc : TypeId × Value → H) :
    ReturnsInHanded {} Try.checked os 11 .any (Rows.countsHoldsSpec.pre6 enc Try.prog Try.f11 Rows.countsHoldsRow.domain false) (Rows.countsHoldsSpec.post enc Try.prog Try.f11 false true false false) := by
  refine returnsInHanded_of_change (C := Try.checked) own started (by kernel_rfl) Try.func11
    (ChangeSpec.witness6 (enc := enc) (C := Try.checked) false ⟨#[], #[trapW, .slice none 0 0], []⟩ 8 (by kernel_rfl) (by kernel_rfl) (by kernel_rfl) (by kernel_rfl)) ?_
  intro W base args ds gs before hval hW _ _
  exact contract H enc W base args ds gs before hval hW

theorem proved : Rows.CountsHoldsSaid :=
  OpenClaim.holds_of_wide 11 Try.f11 rfl rfl rfl rfl rfl rfl rfl ⟨rfl, rfl, rfl, rfl, rfl⟩ rfl rfl rfl rfl rfl (by kernel_rfl) Try.func11 (by kernel_rfl)
    (of_decide_eq_true (by kernel_rfl)) (by unfold Func.isWrapper; first | (rw [if_pos (by decide +kernel)]; kernel_rfl) | (rw [if_neg (by decide +kernel)]; exact ⟨rfl, rfl⟩))
    (fun os started H enc _ => lifted os started H enc)
#print axioms proved
end Go.Proofs.Ytjaaefdhdggnkaa.countsHolds

