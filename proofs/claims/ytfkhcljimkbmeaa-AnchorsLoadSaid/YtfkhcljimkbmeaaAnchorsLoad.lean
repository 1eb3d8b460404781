/-
Check, Load and Upright of package anchors return what the specification returns, for every net, wall, wind and current, and leave the net as it was: the law returns true for every input.
-/
import Derived.Test.YtfkhcljimkbmeaaIn
namespace Go.Proofs.Ytfkhcljimkbmeaa.anchorsLoad
open Go Go.Am Go.Proofs.Ytfkhcljimkbmeaa.T Go.Proofs.Ytfkhcljimkbmeaa.S Go.ChangeShapes Go.WideShapes Go.RowKit
set_option linter.unusedVariables false
set_option maxRecDepth 100000

theorem law (cs : List (List AV)) (hl : cs.length = Try.f3.params.size) (hw : ∀ (j : Nat) t c, Try.f3.params.toList[j]? = some t → cs[j]? = some c → WfC Try.prog 5 t c) :
    ∃ st, Iso E 3 (List.zipWith (topV Try.prog) Try.f3.params.toList cs) st = some (.bool true) := by
  rw [Try.params3] at hw hl ⊢
  match cs, hl with
  | [a, b], _ =>
    obtain ⟨n, g, a', w, e, H⟩ := wfNet (d := 1) (hw 0 28 a rfl rfl)
    obtain ⟨hl, hf⟩ := wf_struct Try.underlying30 (hw 1 30 b rfl rfl)
    rw [z30] at hl
    match b, hl with
    | [x, y, z], _ =>
      have h0 : WfC Try.prog (4) 3 (([x, y, z].drop 0).take (Try.prog.cellsOf 3)) := hf 0 _ rfl
      have h1 : WfC Try.prog (4) 3 (([x, y, z].drop 1).take (Try.prog.cellsOf 3)) := hf 1 _ rfl
      have h2 : WfC Try.prog (4) 3 (([x, y, z].drop 2).take (Try.prog.cellsOf 3)) := hf 2 _ rfl
      rw [z3] at h0
      rw [z3] at h1
      rw [z3] at h2
      obtain ⟨i, rfl, hi⟩ := wfI (show WfC Try.prog 4 3 [x] from h0)
      obtain ⟨j, rfl, hj⟩ := wfI (show WfC Try.prog 4 3 [y] from h1)
      obtain ⟨k, rfl, hk⟩ := wfI (show WfC Try.prog 4 3 [z] from h2)
      refine ⟨true, ?_⟩
      have := s3 H i j k true
      rw [← e] at this
      simpa only [topV, Try.underlying28, Try.underlying30, List.zipWith] using this

theorem contract (H : Type) (enc : TypeId × Value → H) (W : World) (base : Nat) (args : Array Value) (ds gs : List (DataW H)) (before : List MemPlace)
    (hval : ∀ (j : Nat) t v, Try.f3.params[j]? = some t → args[j]? = some v → Value.okWide Try.prog W .any base t v)
    (hW : DataW.Whole enc Try.prog Try.f3.params.toList Rows.anchorsLoadSpec.vars false W args.toList ds gs before) :
    Calls Try.prog 3 args W fun e W' => ∃ v, e = .returned v ∧ Rows.anchorsLoadSpec.post enc Try.prog Try.f3 false true false false W args v W' :=
  contract_of laid ok (d := 5) rfl (fun ds h => by rw [Try.params3] at h; match ds, h with | [_, _], _ => rfl) (by kernel_rfl) Try.underlying4 (by kernel_rfl) law base args ds gs before hval hW

theorem lifted (os : Os) (started : os.Started) (H : Type) (enc : TypeId × Value → H) :
    ReturnsInHanded {} Try.checked os 3 .any (Rows.anchorsLoadSpec.pre6 enc Try.prog Try.f3 Rows.anchorsLoadRow.domain false) (Rows.anchorsLoadSpec.post enc Try.prog Try.f3 false true false false) := by
  refine returnsInHanded_of_change (C := Try.checked) own started (by kernel_rfl) Try.func3
    (ChangeSpec.witness6 (enc := enc) (C := Try.checked) false ⟨#[], #[netW, .agg #[.int .i64 0, .int .i64 0, .int .i64 0]], []⟩ 8 (by kernel_rfl) (by kernel_rfl) (by kernel_rfl) (by kernel_rfl)) ?_
  intro W base args ds gs before hval hW _ _
  exact contract H enc W base args ds gs before hval hW

theorem proved : Rows.AnchorsLoadSaid :=
  OpenClaim.holds_of_wide 3 Try.f3 rfl rfl rfl rfl rfl rfl rfl ⟨rfl, rfl, rfl, rfl, rfl⟩ rfl rfl rfl rfl rfl (by kernel_rfl) Try.func3 (by kernel_rfl)
    (of_decide_eq_true (by kernel_rfl)) (by unfold Func.isWrapper; first | (rw [if_pos (by decide +kernel)]; kernel_rfl) | (rw [if_neg (by decide +kernel)]; exact ⟨rfl, rfl⟩))
    (fun os started H enc _ => lifted os started H enc)
#print axioms proved
end Go.Proofs.Ytfkhcljimkbmeaa.anchorsLoad
