/-
CutsPrice: Price and Rank return what the document specifies: the law returns true for every input, and leaves its arguments as they were.: the law returns true for every input, and leaves its arguments as they were.
-/
import Derived.Test.YteonklnjchefiaaS3
import Derived.Test.YteonklnjchefiaaZe
import Derived.SizedLaws
namespace Go.Proofs.Yteonklnjchefiaa.cutsPrice
open Go Go.Am Go.Proofs.Yteonklnjchefiaa.T Go.Proofs.Yteonklnjchefiaa.S Go.ChangeShapes Go.WideShapes Go.RowKit
set_option linter.unusedVariables false
set_option maxRecDepth 100000

theorem law (cs : List (List AV)) (hl : cs.length = Try.f14.params.size) (hw : ∀ (j : Nat) t c, Try.f14.params.toList[j]? = some t → cs[j]? = some c → WfC Try.prog 5 t c) :
    ∃ st, Iso E 14 (List.zipWith (topV Try.prog) Try.f14.params.toList cs) st = some (.bool true) := by
  rw [Try.params14] at hw hl ⊢
  match cs, hl with
  | [a0, a1, a2], _ =>
    obtain ⟨L0, v0, e0, H0⟩ := wfTab (d := 1) (hw 0 22 a0 rfl rfl)
    subst e0
    obtain ⟨L1, v1, e1, N1⟩ := wfNums (d := 3) (hw 1 23 a1 rfl rfl)
    subst e1
    obtain ⟨L2, v2, e2, N2⟩ := wfNums (d := 3) (hw 2 23 a2 rfl rfl)
    subst e2
    refine ⟨false, ?_⟩
    have h := s14 H0 N1 N2
    simpa only [topV, Try.underlying22, Try.underlying23, List.zipWith, List.headD] using h

theorem contract (H : Type) (enc : TypeId × Value → H) (W : World) (base : Nat) (args : Array Value) (ds gs : List (DataW H)) (before : List MemPlace)
    (hval : ∀ (j : Nat) t v, Try.f14.params[j]? = some t → args[j]? = some v → Value.okWide Try.prog W .any base t v)
    (hW : DataW.Whole enc Try.prog Try.f14.params.toList Rows.cutsPriceSpec.vars false W args.toList ds gs before) (hz : (DataW.weightsEach Try.prog (Try.f14.params.toList ++ Rows.cutsPriceSpec.plain.varTypes Try.prog) (ds ++ gs)).all (· ≤ reachBytes) = true) :
    Calls Try.prog 14 args W fun e W' => ∃ v, e = .returned v ∧ Rows.cutsPriceSpec.post enc Try.prog Try.f14 false true false false W args v W' :=
  contract_of laid ok (d := 5) rfl (fun ds h => by rw [Try.params14] at h; match ds, h with | [_, _, _], _ => rfl) (by kernel_rfl) Try.underlying4 (by kernel_rfl) law base args ds gs before hval hW hz

theorem lifted (os : Os) (started : os.Started) (H : Type) (enc : TypeId × Value → H) :
    ReturnsInHanded {} Try.checked os 14 .any (Rows.cutsPriceSpec.pre6 enc Try.prog Try.f14 Rows.cutsPriceRow.domain false) (Rows.cutsPriceSpec.post enc Try.prog Try.f14 false true false false) := by
  refine returnsInHanded_of_change_sized (C := Try.checked) own started (by kernel_rfl) Try.func14
    (ChangeSpec.witness6 (enc := enc) (C := Try.checked) false ⟨#[], #[.slice none 0 0, .slice none 0 0, .slice none 0 0], []⟩ 8 (by kernel_rfl) (by kernel_rfl) (by kernel_rfl) (by kernel_rfl)) ?_
  intro W base args ds gs before hval hW _ hz _
  exact contract H enc W base args ds gs before hval hW hz

theorem proved : Rows.CutsPriceSaid :=
  OpenClaim.holds_of_wide 14 Try.f14 rfl rfl rfl rfl rfl rfl rfl ⟨rfl, rfl, rfl, rfl, rfl⟩ rfl rfl rfl rfl rfl (by kernel_rfl) Try.func14 (by kernel_rfl)
    (of_decide_eq_true (by kernel_rfl)) (by unfold Func.isWrapper; first | (rw [if_pos (by decide +kernel)]; kernel_rfl) | (rw [if_neg (by decide +kernel)]; exact ⟨rfl, rfl⟩))
    (fun os started H enc _ => lifted os started H enc)
#print axioms proved
end Go.Proofs.Yteonklnjchefiaa.cutsPrice

