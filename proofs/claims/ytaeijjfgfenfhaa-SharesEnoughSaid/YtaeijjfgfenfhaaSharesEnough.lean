/-
Enough returns what the specification says, and leaves its arguments as they were: the law returns true for every input, and leaves its arguments as they were.
-/
import Derived.Test.YtaeijjfgfenfhaaS2
import Derived.Test.YtaeijjfgfenfhaaNy
import Derived.SizedLaws
namespace Go.Proofs.Ytaeijjfgfenfhaa.sharesEnough
open Go Go.Am Go.Proofs.Ytaeijjfgfenfhaa.T Go.Proofs.Ytaeijjfgfenfhaa.S Go.ChangeShapes Go.WideShapes Go.RowKit
set_option linter.unusedVariables false
set_option maxRecDepth 100000

theorem law (cs : List (List AV)) (hl : cs.length = Try.f5.params.size) (hw : ∀ (j : Nat) t c, Try.f5.params.toList[j]? = some t → cs[j]? = some c → WfC Try.prog 5 t c) :
    ∃ st, Iso E 5 (List.zipWith (topV Try.prog) Try.f5.params.toList cs) st = some (.bool true) := by
  rw [Try.params5] at hw hl ⊢
  match cs, hl with
  | [a0, a1], _ =>
    obtain ⟨C0, v0, e0, V0⟩ := wfCus (d := 0) (hw 0 24 a0 rfl rfl)
    obtain ⟨L1, v1, e1, N1⟩ := wfNums (d := 3) (hw 1 30 a1 rfl rfl)
    subst e1
    refine ⟨false, ?_⟩
    have h := l5 V0 N1
    rw [← e0] at h
    simpa only [topV, Try.underlying24, Try.underlying30, List.zipWith, List.headD] using h

theorem contract (H : Type) (enc : TypeId × Value → H) (W : World) (base : Nat) (args : Array Value) (ds gs : List (DataW H)) (before : List MemPlace)
    (hval : ∀ (j : Nat) t v, Try.f5.params[j]? = some t → args[j]? = some v → Value.okWide Try.prog W .any base t v)
    (hW : DataW.Whole enc Try.prog Try.f5.params.toList Rows.sharesEnoughSpec.vars false W args.toList ds gs before) (hz : (DataW.weightsEach Try.prog (Try.f5.params.toList ++ Rows.sharesEnoughSpec.plain.varTypes Try.prog) (ds ++ gs)).all (· ≤ reachBytes) = true) :
    Calls Try.prog 5 args W fun e W' => ∃ v, e = .returned v ∧ Rows.sharesEnoughSpec.post enc Try.prog Try.f5 false true false false W args v W' :=
  contract_of laidOut ok (d := 5) rfl (fun ds h => by rw [Try.params5] at h; match ds, h with | [_, _], _ => rfl) (by kernel_rfl) Try.underlying4 (by kernel_rfl) law base args ds gs before hval hW hz

theorem lifted (os : Os) (started : os.Started) (H : Type) (enc : TypeId × Value → H) :
    ReturnsInHanded {} Try.checked os 5 .any (Rows.sharesEnoughSpec.pre6 enc Try.prog Try.f5 Rows.sharesEnoughRow.domain false) (Rows.sharesEnoughSpec.post enc Try.prog Try.f5 false true false false) := by
  refine returnsInHanded_of_change_sized (C := Try.checked) own started (by kernel_rfl) Try.func5
    (ChangeSpec.witness6 (enc := enc) (C := Try.checked) false ⟨#[], #[cusW, .slice none 0 0], []⟩ 8 (by kernel_rfl) (by kernel_rfl) (by kernel_rfl) (by kernel_rfl)) ?_
  intro W base args ds gs before hval hW _ hz _
  exact contract H enc W base args ds gs before hval hW hz

theorem proved : Rows.SharesEnoughSaid :=
  OpenClaim.holds_of_wide 5 Try.f5 rfl rfl rfl rfl rfl rfl rfl ⟨rfl, rfl, rfl, rfl, rfl⟩ rfl rfl rfl rfl rfl (by kernel_rfl) Try.func5 (by kernel_rfl)
    (of_decide_eq_true (by kernel_rfl)) (by unfold Func.isWrapper; first | (rw [if_pos (by decide +kernel)]; kernel_rfl) | (rw [if_neg (by decide +kernel)]; exact ⟨rfl, rfl⟩))
    (fun os started H enc _ => lifted os started H enc)
#print axioms proved
end Go.Proofs.Ytaeijjfgfenfhaa.sharesEnough

