/-
All times of Must are in each story, Least is one, no later than any; a story with one more time is one, if it can be: the law returns true for every input, and leaves its arguments as they were.
-/
import Derived.Test.YtfknojncfbahpaaGreatS2
import Derived.Test.YtfknojncfbahpaaGreatXb
import Derived.SizedLaws
namespace Go.Proofs.YtfknojncfbahpaaGreat.watchStories
open Go Go.Am Go.Proofs.YtfknojncfbahpaaGreat.T Go.Proofs.YtfknojncfbahpaaGreat.S Go.ChangeShapes Go.WideShapes Go.RowKit
set_option linter.unusedVariables false
set_option maxRecDepth 100000
theorem law (cs : List (List AV)) (hl : cs.length = Tryz.f4.params.size) (hw : ∀ (j : Nat) t c, Tryz.f4.params.toList[j]? = some t → cs[j]? = some c → WfC Tryz.prog 5 t c) :
    ∃ st, Iso E 4 (List.zipWith (topV Tryz.prog) Tryz.f4.params.toList cs) st = some (.bool true) := by
  rw [Tryz.params4] at hw hl ⊢
  match cs, hl with
  | [a0, a1, a2], _ =>
    obtain ⟨b0, o0, w0, s0, e0, B0⟩ := wfBk (d := 0) (hw 0 28 a0 rfl rfl)
    obtain ⟨L1, v1, e1, N1⟩ := wfNums (d := 3) (hw 1 26 a1 rfl rfl)
    subst e1
    obtain ⟨x2, e2, _⟩ := wfIc (d := 4) (hw 2 3 a2 rfl rfl)
    subst e2
    refine ⟨false, ?_⟩
    have h := l4 B0 N1 x2
    rw [← e0] at h
    simpa only [topV, Tryz.underlying26, Tryz.underlying28, Tryz.underlying3, List.zipWith, List.headD] using h
theorem contract (H : Type) (enc : TypeId × Value → H) (W : World) (base : Nat) (args : Array Value) (ds gs : List (DataW H)) (before : List MemPlace)
    (hval : ∀ (j : Nat) t v, Tryz.f4.params[j]? = some t → args[j]? = some v → Value.okWide Tryz.prog W .any base t v)
    (hW : DataW.Whole enc Tryz.prog Tryz.f4.params.toList Rows.watchStoriesSpec.vars false W args.toList ds gs before) (hz : (DataW.weightsEach Tryz.prog (Tryz.f4.params.toList ++ Rows.watchStoriesSpec.plain.varTypes Tryz.prog) (ds ++ gs)).all (· ≤ reachBytes) = true) :
    Calls Tryz.prog 4 args W fun e W' => ∃ v, e = .returned v ∧ Rows.watchStoriesSpec.post enc Tryz.prog Tryz.f4 false true false false W args v W' :=
  contract_of laidOut ok (d := 5) rfl (fun ds h => by rw [Tryz.params4] at h; match ds, h with | [_, _, _], _ => rfl) (by kernel_rfl) Tryz.underlying4 (by kernel_rfl) law base args ds gs before hval hW hz
theorem lifted (os : Os) (started : os.Started) (H : Type) (enc : TypeId × Value → H) :
    ReturnsInHanded {} Tryz.checked os 4 .any (Rows.watchStoriesSpec.pre6 enc Tryz.prog Tryz.f4 Rows.watchStoriesRow.domain false) (Rows.watchStoriesSpec.post enc Tryz.prog Tryz.f4 false true false false) := by
  refine returnsInHanded_of_change_sized (C := Tryz.checked) own started (by kernel_rfl) Tryz.func4
    (ChangeSpec.witness6 (enc := enc) (C := Tryz.checked) false ⟨#[], #[bkW, .slice none 0 0, .int .i64 0], []⟩ 8 (by kernel_rfl) (by kernel_rfl) (by kernel_rfl) (by kernel_rfl)) ?_
  intro W base args ds gs before hval hW _ hz _
  exact contract H enc W base args ds gs before hval hW hz
theorem proved : Rows.WatchStoriesSaid :=
  OpenClaim.holds_of_wide 4 Tryz.f4 rfl rfl rfl rfl rfl rfl rfl ⟨rfl, rfl, rfl, rfl, rfl⟩ rfl rfl rfl rfl rfl (by kernel_rfl) Tryz.func4 (by kernel_rfl)
    (of_decide_eq_true (by kernel_rfl)) (by unfold Func.isWrapper; first | (rw [if_pos (by decide +kernel)]; kernel_rfl) | (rw [if_neg (by decide +kernel)]; exact ⟨rfl, rfl⟩))
    (fun os started H enc _ => lifted os started H enc)
#print axioms proved
end Go.Proofs.YtfknojncfbahpaaGreat.watchStories
