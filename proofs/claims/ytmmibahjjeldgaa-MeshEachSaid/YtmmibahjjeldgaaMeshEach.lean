/-
MeshEach (P4.15, P4.21): no order loses less than Least, or is done before Done; Order and Rule are orders: the law returns true for every input, and leaves its arguments as they were.
-/
import Derived.Test.YtmmibahjjeldgaaS3
import Derived.Test.YtmmibahjjeldgaaNc
import Derived.SizedLaws
namespace Go.Proofs.Ytmmibahjjeldgaa.meshEach
open Go Go.Am Go.Proofs.Ytmmibahjjeldgaa.T Go.Proofs.Ytmmibahjjeldgaa.S Go.ChangeShapes Go.WideShapes Go.RowKit
set_option linter.unusedVariables false
set_option maxRecDepth 100000

theorem law (cs : List (List AV)) (hl : cs.length = Try.f8.params.size) (hw : ∀ (j : Nat) t c, Try.f8.params.toList[j]? = some t → cs[j]? = some c → WfC Try.prog 5 t c) :
    ∃ st, Iso E 8 (List.zipWith (topV Try.prog) Try.f8.params.toList cs) st = some (.bool true) := by
  rw [Try.params8] at hw hl ⊢
  match cs, hl with
  | [a0, a1], _ =>
    obtain ⟨n0, g0, p0, e0, H0⟩ := wfNet (d := 0) (hw 0 25 a0 rfl rfl)
    obtain ⟨L1, v1, e1, N1⟩ := wfNums (d := 3) (hw 1 26 a1 rfl rfl)
    subst e1
    refine ⟨false, ?_⟩
    have h := s8 H0 N1 false
    rw [← e0] at h
    simpa only [topV, Try.underlying25, Try.underlying26, List.zipWith, List.headD] using h

theorem contract (H : Type) (enc : TypeId × Value → H) (W : World) (base : Nat) (args : Array Value) (ds gs : List (DataW H)) (before : List MemPlace)
    (hval : ∀ (j : Nat) t v, Try.f8.params[j]? = some t → args[j]? = some v → Value.okWide Try.prog W .any base t v)
    (hW : DataW.Whole enc Try.prog Try.f8.params.toList Rows.meshEachSpec.vars false W args.toList ds gs before) (hz : (DataW.weightsEach Try.prog (Try.f8.params.toList ++ Rows.meshEachSpec.plain.varTypes Try.prog) (ds ++ gs)).all (· ≤ reachBytes) = true) :
    Calls Try.prog 8 args W fun e W' => ∃ v, e = .returned v ∧ Rows.meshEachSpec.post enc Try.prog Try.f8 false true false false W args v W' :=
  contract_of laid ok (d := 5) rfl (fun ds h => by rw [Try.params8] at h; match ds, h with | [_, _], _ => rfl) (by kernel_rfl) Try.underlying4 (by kernel_rfl) law base args ds gs before hval hW hz

theorem lifted (os : Os) (started : os.Started) (H : Type) (enc : TypeId × Value → H) :
    ReturnsInHanded {} Try.checked os 8 .any (Rows.meshEachSpec.pre6 enc Try.prog Try.f8 Rows.meshEachRow.domain false) (Rows.meshEachSpec.post enc Try.prog Try.f8 false true false false) := by
  refine returnsInHanded_of_change_sized (C := Try.checked) own started (by kernel_rfl) Try.func8
    (ChangeSpec.witness6 (enc := enc) (C := Try.checked) false ⟨#[], #[netW, .slice none 0 0], []⟩ 8 (by kernel_rfl) (by kernel_rfl) (by kernel_rfl) (by kernel_rfl)) ?_
  intro W base args ds gs before hval hW _ hz _
  exact contract H enc W base args ds gs before hval hW hz

theorem proved : Rows.MeshEachSaid :=
  OpenClaim.holds_of_wide 8 Try.f8 rfl rfl rfl rfl rfl rfl rfl ⟨rfl, rfl, rfl, rfl, rfl⟩ rfl rfl rfl rfl rfl (by kernel_rfl) Try.func8 (by kernel_rfl)
    (of_decide_eq_true (by kernel_rfl)) (by unfold Func.isWrapper; first | (rw [if_pos (by decide +kernel)]; kernel_rfl) | (rw [if_neg (by decide +kernel)]; exact ⟨rfl, rfl⟩))
    (fun os started H enc _ => lifted os started H enc)
#print axioms proved
end Go.Proofs.Ytmmibahjjeldgaa.meshEach

