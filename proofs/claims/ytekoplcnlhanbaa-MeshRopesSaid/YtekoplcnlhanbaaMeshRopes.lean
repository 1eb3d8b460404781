/-
MeshRopes (P4.19): without the pair that Rope names the least is the least that it can be, and one pair more makes nothing smaller: the law returns true for every input, and leaves its arguments as they were.
-/
import Derived.Test.YtekoplcnlhanbaaS3
import Derived.Test.YtekoplcnlhanbaaQf
import Derived.SizedLaws
namespace Go.Proofs.Ytekoplcnlhanbaa.meshRopes
open Go Go.Am Go.Proofs.Ytekoplcnlhanbaa.T Go.Proofs.Ytekoplcnlhanbaa.S Go.ChangeShapes Go.WideShapes Go.RowKit
set_option linter.unusedVariables false
set_option maxRecDepth 100000

theorem law (cs : List (List AV)) (hl : cs.length = Try.f12.params.size) (hw : ∀ (j : Nat) t c, Try.f12.params.toList[j]? = some t → cs[j]? = some c → WfC Try.prog 5 t c) :
    ∃ st, Iso E 12 (List.zipWith (topV Try.prog) Try.f12.params.toList cs) st = some (.bool true) := by
  rw [Try.params12] at hw hl ⊢
  match cs, hl with
  | [a0, a1, a2], _ =>
    obtain ⟨n0, g0, p0, e0, H0⟩ := wfNet (d := 0) (hw 0 25 a0 rfl rfl)
    obtain ⟨x1, y1, e1⟩ := wfPair (d := 3) (hw 1 57 a1 rfl rfl)
    subst e1
    obtain ⟨L2, v2, e2, N2⟩ := wfNums (d := 3) (hw 2 26 a2 rfl rfl)
    subst e2
    refine ⟨false, ?_⟩
    have h := s12 H0 ⟨x1, y1⟩ N2 false
    rw [← e0] at h
    simpa only [topV, Try.underlying25, Try.underlying26, Try.underlying57, List.zipWith, List.headD] using h

theorem contract (H : Type) (enc : TypeId × Value → H) (W : World) (base : Nat) (args : Array Value) (ds gs : List (DataW H)) (before : List MemPlace)
    (hval : ∀ (j : Nat) t v, Try.f12.params[j]? = some t → args[j]? = some v → Value.okWide Try.prog W .any base t v)
    (hW : DataW.Whole enc Try.prog Try.f12.params.toList Rows.meshRopesSpec.vars false W args.toList ds gs before) (hz : (DataW.weightsEach Try.prog (Try.f12.params.toList ++ Rows.meshRopesSpec.plain.varTypes Try.prog) (ds ++ gs)).all (· ≤ reachBytes) = true) :
    Calls Try.prog 12 args W fun e W' => ∃ v, e = .returned v ∧ Rows.meshRopesSpec.post enc Try.prog Try.f12 false true false false W args v W' :=
  contract_of laid ok (d := 5) rfl (fun ds h => by rw [Try.params12] at h; match ds, h with | [_, _, _], _ => rfl) (by kernel_rfl) Try.underlying4 (by kernel_rfl) law base args ds gs before hval hW hz

theorem lifted (os : Os) (started : os.Started) (H : Type) (enc : TypeId × Value → H) :
    ReturnsInHanded {} Try.checked os 12 .any (Rows.meshRopesSpec.pre6 enc Try.prog Try.f12 Rows.meshRopesRow.domain false) (Rows.meshRopesSpec.post enc Try.prog Try.f12 false true false false) := by
  refine returnsInHanded_of_change_sized (C := Try.checked) own started (by kernel_rfl) Try.func12
    (ChangeSpec.witness6 (enc := enc) (C := Try.checked) false ⟨#[], #[netW, twoW, .slice none 0 0], []⟩ 8 (by kernel_rfl) (by kernel_rfl) (by kernel_rfl) (by kernel_rfl)) ?_
  intro W base args ds gs before hval hW _ hz _
  exact contract H enc W base args ds gs before hval hW hz

theorem proved : Rows.MeshRopesSaid :=
  OpenClaim.holds_of_wide 12 Try.f12 rfl rfl rfl rfl rfl rfl rfl ⟨rfl, rfl, rfl, rfl, rfl⟩ rfl rfl rfl rfl rfl (by kernel_rfl) Try.func12 (by kernel_rfl)
    (of_decide_eq_true (by kernel_rfl)) (by unfold Func.isWrapper; first | (rw [if_pos (by decide +kernel)]; kernel_rfl) | (rw [if_neg (by decide +kernel)]; exact ⟨rfl, rfl⟩))
    (fun os started H enc _ => lifted os started H enc)
#print axioms proved
end Go.Proofs.Ytekoplcnlhanbaa.meshRopes

