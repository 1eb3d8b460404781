/-
The parts of the nodes below a node are together its own part, or nothing if none of them has a weight: the law returns true for every input, and leaves its arguments as they were.
-/
import Derived.Test.YtaeijjfgfenfhaaS2
import Derived.Test.YtaeijjfgfenfhaaOi
import Derived.SizedLaws
namespace Go.Proofs.Ytaeijjfgfenfhaa.sharesParts
open Go Go.Am Go.Proofs.Ytaeijjfgfenfhaa.T Go.Proofs.Ytaeijjfgfenfhaa.S Go.ChangeShapes Go.WideShapes Go.RowKit
set_option linter.unusedVariables false
set_option maxRecDepth 100000

theorem law (cs : List (List AV)) (hl : cs.length = Try.f14.params.size) (hw : ∀ (j : Nat) t c, Try.f14.params.toList[j]? = some t → cs[j]? = some c → WfC Try.prog 5 t c) :
    ∃ st, Iso E 14 (List.zipWith (topV Try.prog) Try.f14.params.toList cs) st = some (.bool true) := by
  rw [Try.params14] at hw hl ⊢
  match cs, hl with
  | [a0, a1], _ =>
    obtain ⟨C0, v0, e0, V0⟩ := wfCus (d := 0) (hw 0 24 a0 rfl rfl)
    obtain ⟨x1, e1, _⟩ := wfIc (d := 4) (hw 1 3 a1 rfl rfl)
    subst e1
    refine ⟨false, ?_⟩
    have h := l14 V0 x1 false
    rw [← e0] at h
    simpa only [topV, Try.underlying24, Try.underlying3, List.zipWith, List.headD] using h

theorem contract (H : Type) (enc : TypeId × Value → H) (W : World) (base : Nat) (args : Array Value) (ds gs : List (DataW H)) (before : List MemPlace)
    (hval : ∀ (j : Nat) t v, Try.f14.params[j]? = some t → args[j]? = some v → Value.okWide Try.prog W .any base t v)
    (hW : DataW.Whole enc Try.prog Try.f14.params.toList Rows.sharesPartsSpec.vars false W args.toList ds gs before) (hz : (DataW.weightsEach Try.prog (Try.f14.params.toList ++ Rows.sharesPartsSpec.plain.varTypes Try.prog) (ds ++ gs)).all (· ≤ reachBytes) = true) :
    Calls Try.prog 14 args W fun e W' => ∃ v, e = .returned v ∧ Rows.sharesPartsSpec.post enc Try.prog Try.f14 false true false false W args v W' :=
  contract_of laidOut ok (d := 5) rfl (fun ds h => by rw [Try.params14] at h; match ds, h with | [_, _], _ => rfl) (by kernel_rfl) Try.underlying4 (by kernel_rfl) law base args ds gs before hval hW hz

theorem lifted (os : Os) (started : os.Started) (H : Type) (enc : TypeId × Value → H) :
    ReturnsInHanded {} Try.checked os 14 .any (Rows.sharesPartsSpec.pre6 enc Try.prog Try.f14 Rows.sharesPartsRow.domain false) (Rows.sharesPartsSpec.post enc Try.prog Try.f14 false true false false) := by
  refine returnsInHanded_of_change_sized (C := Try.checked) own started (by kernel_rfl) Try.func14
    (ChangeSpec.witness6 (enc := enc) (C := Try.checked) false ⟨#[], #[cusW, .int .i64 0], []⟩ 8 (by kernel_rfl) (by kernel_rfl) (by kernel_rfl) (by kernel_rfl)) ?_
  intro W base args ds gs before hval hW _ hz _
  exact contract H enc W base args ds gs before hval hW hz

theorem proved : Rows.SharesPartsSaid :=
  OpenClaim.holds_of_wide 14 Try.f14 rfl rfl rfl rfl rfl rfl rfl ⟨rfl, rfl, rfl, rfl, rfl⟩ rfl rfl rfl rfl rfl (by kernel_rfl) Try.func14 (by kernel_rfl)
    (of_decide_eq_true (by kernel_rfl)) (by unfold Func.isWrapper; first | (rw [if_pos (by decide +kernel)]; kernel_rfl) | (rw [if_neg (by decide +kernel)]; exact ⟨rfl, rfl⟩))
    (fun os started H enc _ => lifted os started H enc)
#print axioms proved
end Go.Proofs.Ytaeijjfgfenfhaa.sharesParts

