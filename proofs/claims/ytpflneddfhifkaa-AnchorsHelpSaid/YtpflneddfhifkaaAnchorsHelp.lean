/-
Help and Need answer as the specification does: the law returns true for every input, and leaves its arguments as they were.
-/
import Derived.Test.YtpflneddfhifkaaHh
namespace Go.Proofs.Ytpflneddfhifkaa.anchorsHelp
open Go Go.Am Go.Proofs.Ytpflneddfhifkaa.T Go.Proofs.Ytpflneddfhifkaa.S Go.ChangeShapes Go.WideShapes Go.RowKit
set_option linter.unusedVariables false
set_option maxRecDepth 100000

theorem law (cs : List (List AV)) (hl : cs.length = Try.f7.params.size) (hw : ∀ (j : Nat) t c, Try.f7.params.toList[j]? = some t → cs[j]? = some c → WfC Try.prog 5 t c) :
    ∃ st, Iso E 7 (List.zipWith (topV Try.prog) Try.f7.params.toList cs) st = some (.bool true) := by
  rw [Try.params7] at hw hl ⊢
  match cs, hl with
  | [a0], _ =>
    obtain ⟨n0, g0, b0, w0, e0, H0⟩ := wfNet (d := 1) (hw 0 28 a0 rfl rfl)
    refine ⟨true, ?_⟩
    have h := s7 H0 true
    rw [← e0] at h
    simpa only [topV, Try.underlying28, List.zipWith, List.headD] using h

theorem contract (H : Type) (enc : TypeId × Value → H) (W : World) (base : Nat) (args : Array Value) (ds gs : List (DataW H)) (before : List MemPlace)
    (hval : ∀ (j : Nat) t v, Try.f7.params[j]? = some t → args[j]? = some v → Value.okWide Try.prog W .any base t v)
    (hW : DataW.Whole enc Try.prog Try.f7.params.toList Rows.anchorsHelpSpec.vars false W args.toList ds gs before) :
    Calls Try.prog 7 args W fun e W' => ∃ v, e = .returned v ∧ Rows.anchorsHelpSpec.post enc Try.prog Try.f7 false true false false W args v W' :=
  contract_of laid ok (d := 5) rfl (fun ds h => by rw [Try.params7] at h; match ds, h with | [_], _ => rfl) (by kernel_rfl) Try.underlying4 (by kernel_rfl) law base args ds gs before hval hW

theorem lifted (os : Os) (started : os.Started) (H : Type) (enc : TypeId × Value → H) :
    ReturnsInHanded {} Try.checked os 7 .any (Rows.anchorsHelpSpec.pre6 enc Try.prog Try.f7 Rows.anchorsHelpRow.domain false) (Rows.anchorsHelpSpec.post enc Try.prog Try.f7 false true false false) := by
  refine returnsInHanded_of_change (C := Try.checked) own started (by kernel_rfl) Try.func7
    (ChangeSpec.witness6 (enc := enc) (C := Try.checked) false ⟨#[], #[netW], []⟩ 8 (by kernel_rfl) (by kernel_rfl) (by kernel_rfl) (by kernel_rfl)) ?_
  intro W base args ds gs before hval hW _ _
  exact contract H enc W base args ds gs before hval hW

theorem proved : Rows.AnchorsHelpSaid :=
  OpenClaim.holds_of_wide 7 Try.f7 rfl rfl rfl rfl rfl rfl rfl ⟨rfl, rfl, rfl, rfl, rfl⟩ rfl rfl rfl rfl rfl (by kernel_rfl) Try.func7 (by kernel_rfl)
    (of_decide_eq_true (by kernel_rfl)) (by unfold Func.isWrapper; first | (rw [if_pos (by decide +kernel)]; kernel_rfl) | (rw [if_neg (by decide +kernel)]; exact ⟨rfl, rfl⟩))
    (fun os started H enc _ => lifted os started H enc)
#print axioms proved
end Go.Proofs.Ytpflneddfhifkaa.anchorsHelp
