/-
The theorem of the fish that were hauled: if the catch is the whole fish of a table, a crew that surely holds does so with the weights of any truth; if it holds just what they weigh together in this one, Lifts of it is not less than that; if no crew can haul the least that they weigh, there is no truth with which one can: the law returns true for every input, and leaves its arguments as they were.
-/
import Derived.SizedLaws
import Derived.Test.YtokhneffambgmaaGd
namespace Go.Proofs.Ytokhneffambgmaa.topHauled
open Go Go.Am Go.Proofs.Ytokhneffambgmaa.T Go.Proofs.Ytokhneffambgmaa.S Go.ChangeShapes Go.WideShapes Go.RowKit
set_option linter.unusedVariables false
set_option maxRecDepth 100000

theorem law (cs : List (List AV)) (hl : cs.length = Try.f3.params.size) (hw : ∀ (j : Nat) t c, Try.f3.params.toList[j]? = some t → cs[j]? = some c → WfC Try.prog 6 t c) :
    ∃ st, Iso E 3 (List.zipWith (topV Try.prog) Try.f3.params.toList cs) st = some (.bool true) := by
  rw [Try.params3] at hw hl ⊢
  match cs, hl with
  | [a0, a1, a2], _ =>
    obtain ⟨t, v, rfl, TI⟩ := wfTab (d := 2) (hw 0 22 a0 rfl rfl)
    obtain ⟨s, p, b, e1, HI⟩ := A.wfSea (d := 2) (hw 1 28 a1 rfl rfl)
    obtain ⟨l, m, w, y, e2, W, Y⟩ := wfHauled (d := 3) (hw 2 31 a2 rfl rfl)
    refine ⟨false, ?_⟩
    have h := sTop TI HI W Y
    rw [← e1, ← e2] at h
    simpa only [topV, Try.underlying22, Try.underlying28, Try.underlying31, List.zipWith, List.headD] using h

theorem contract (H : Type) (enc : TypeId × Value → H) (W : World) (base : Nat) (args : Array Value) (ds gs : List (DataW H)) (before : List MemPlace)
    (hval : ∀ (j : Nat) t v, Try.f3.params[j]? = some t → args[j]? = some v → Value.okWide Try.prog W .any base t v)
    (hW : DataW.Whole enc Try.prog Try.f3.params.toList Rows.topHauledSpec.vars false W args.toList ds gs before) (hz : (DataW.weightsEach Try.prog (Try.f3.params.toList ++ Rows.topHauledSpec.plain.varTypes Try.prog) (ds ++ gs)).all (· ≤ reachBytes) = true) :
    Calls Try.prog 3 args W fun e W' => ∃ v, e = .returned v ∧ Rows.topHauledSpec.post enc Try.prog Try.f3 false true false false W args v W' :=
  contract_of laid ok (d := 6) rfl (fun ds h => by rw [Try.params3] at h; match ds, h with | [_, _, _], _ => rfl) (by kernel_rfl) Try.underlying4 (by kernel_rfl) law base args ds gs before hval hW hz

theorem lifted (os : Os) (started : os.Started) (H : Type) (enc : TypeId × Value → H) :
    ReturnsInHanded {} Try.checked os 3 .any (Rows.topHauledSpec.pre6 enc Try.prog Try.f3 Rows.topHauledRow.domain false) (Rows.topHauledSpec.post enc Try.prog Try.f3 false true false false) := by
  refine returnsInHanded_of_change_sized (C := Try.checked) own started (by kernel_rfl) Try.func3
    (ChangeSpec.witness6 (enc := enc) (C := Try.checked) false ⟨#[], #[.slice none 0 0, A.seaW, twoW], []⟩ 8 (by kernel_rfl) (by kernel_rfl) (by kernel_rfl) (by kernel_rfl)) ?_
  intro W base args ds gs before hval hW _ hz _
  exact contract H enc W base args ds gs before hval hW hz

theorem proved : Rows.TopHauledSaid :=
  OpenClaim.holds_of_wide 3 Try.f3 rfl rfl rfl rfl rfl rfl rfl ⟨rfl, rfl, rfl, rfl, rfl⟩ rfl rfl rfl rfl rfl (by kernel_rfl) Try.func3 (by kernel_rfl)
    (of_decide_eq_true (by kernel_rfl)) (by unfold Func.isWrapper; first | (rw [if_pos (by decide +kernel)]; kernel_rfl) | (rw [if_neg (by decide +kernel)]; exact ⟨rfl, rfl⟩))
    (fun os started H enc _ => lifted os started H enc)
#print axioms proved
end Go.Proofs.Ytokhneffambgmaa.topHauled
