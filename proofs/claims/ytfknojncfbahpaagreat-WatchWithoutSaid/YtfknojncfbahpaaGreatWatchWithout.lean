/-
If a word surely lies, its time is in Must; without it each story is still one, and False is less: the law returns true for every input, and leaves its arguments as they were.
-/
import Derived.Test.YtfknojncfbahpaaGreatS2
import Derived.Test.YtfknojncfbahpaaGreatXc
import Derived.SizedLaws
namespace Go.Proofs.YtfknojncfbahpaaGreat.watchWithout
open Go Go.Am Go.Proofs.YtfknojncfbahpaaGreat.T Go.Proofs.YtfknojncfbahpaaGreat.S Go.ChangeShapes Go.WideShapes Go.RowKit
set_option linter.unusedVariables false
set_option maxRecDepth 100000
theorem law (cs : List (List AV)) (hl : cs.length = Tryz.f10.params.size) (hw : ∀ (j : Nat) t c, Tryz.f10.params.toList[j]? = some t → cs[j]? = some c → WfC Tryz.prog 5 t c) :
    ∃ st, Iso E 10 (List.zipWith (topV Tryz.prog) Tryz.f10.params.toList cs) st = some (.bool true) := by
  rw [Tryz.params10] at hw hl ⊢
  match cs, hl with
  | [a0, a1, a2], _ =>
    obtain ⟨b0, o0, w0, s0, e0, B0⟩ := wfBk (d := 0) (hw 0 28 a0 rfl rfl)
    obtain ⟨x1, e1, _⟩ := wfIc (d := 4) (hw 1 3 a1 rfl rfl)
    subst e1
    obtain ⟨L2, v2, e2, N2⟩ := wfNums (d := 3) (hw 2 26 a2 rfl rfl)
    subst e2
    refine ⟨false, ?_⟩
    have h := l10 B0 x1 N2
    rw [← e0] at h
    simpa only [topV, Tryz.underlying26, Tryz.underlying28, Tryz.underlying3, List.zipWith, List.headD] using h
theorem contract (H : Type) (enc : TypeId × Value → H) (W : World) (base : Nat) (args : Array Value) (ds gs : List (DataW H)) (before : List MemPlace)
    (hval : ∀ (j : Nat) t v, Tryz.f10.params[j]? = some t → args[j]? = some v → Value.okWide Tryz.prog W .any base t v)
    (hW : DataW.Whole enc Tryz.prog Tryz.f10.params.toList Rows.watchWithoutSpec.vars false W args.toList ds gs before) (hz : (DataW.weightsEach Tryz.prog (Tryz.f10.params.toList ++ Rows.watchWithoutSpec.plain.varTypes Tryz.prog) (ds ++ gs)).all (· ≤ reachBytes) = true) :
    Calls Tryz.prog 10 args W fun e W' => ∃ v, e = .returned v ∧ Rows.watchWithoutSpec.post enc Tryz.prog Tryz.f10 false true false false W args v W' :=
  contract_of laidOut ok (d := 5) rfl (fun ds h => by rw [Tryz.params10] at h; match ds, h with | [_, _, _], _ => rfl) (by kernel_rfl) Tryz.underlying4 (by kernel_rfl) law base args ds gs before hval hW hz
theorem lifted (os : Os) (started : os.Started) (H : Type) (enc : TypeId × Value → H) :
    ReturnsInHanded {} Tryz.checked os 10 .any (Rows.watchWithoutSpec.pre6 enc Tryz.prog Tryz.f10 Rows.watchWithoutRow.domain false) (Rows.watchWithoutSpec.post enc Tryz.prog Tryz.f10 false true false false) := by
  refine returnsInHanded_of_change_sized (C := Tryz.checked) own started (by kernel_rfl) Tryz.func10
    (ChangeSpec.witness6 (enc := enc) (C := Tryz.checked) false ⟨#[], #[bkW, .int .i64 0, .slice none 0 0], []⟩ 8 (by kernel_rfl) (by kernel_rfl) (by kernel_rfl) (by kernel_rfl)) ?_
  intro W base args ds gs before hval hW _ hz _
  exact contract H enc W base args ds gs before hval hW hz
theorem proved : Rows.WatchWithoutSaid :=
  OpenClaim.holds_of_wide 10 Tryz.f10 rfl rfl rfl rfl rfl rfl rfl ⟨rfl, rfl, rfl, rfl, rfl⟩ rfl rfl rfl rfl rfl (by kernel_rfl) Tryz.func10 (by kernel_rfl)
    (of_decide_eq_true (by kernel_rfl)) (by unfold Func.isWrapper; first | (rw [if_pos (by decide +kernel)]; kernel_rfl) | (rw [if_neg (by decide +kernel)]; exact ⟨rfl, rfl⟩))
    (fun os started H enc _ => lifted os started H enc)
#print axioms proved
end Go.Proofs.YtfknojncfbahpaaGreat.watchWithout
