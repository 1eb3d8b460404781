/-
The theorem of one more word: with one more word no span is wider, and what was surely known, or never, is so still: the law returns true for every input, and leaves its arguments as they were.
-/
import Derived.Test.YtjaaefdhdggnkaaS3
import Derived.Test.YtjaaefdhdggnkaaS4
import Derived.SizedLaws
namespace Go.Proofs.Ytjaaefdhdggnkaa.countsMore
open Go Go.Am Go.Proofs.Ytjaaefdhdggnkaa.T Go.Proofs.Ytjaaefdhdggnkaa.S Go.ChangeShapes Go.WideShapes Go.RowKit
set_option linter.unusedVariables false
set_option maxRecDepth 100000

theorem law (cs : List (List AV)) (hl : cs.length = Try.f5.params.size) (hw : ∀ (j : Nat) t c, Try.f5.params.toList[j]? = some t → cs[j]? = some c → WfC Try.prog 5 t c) :
    ∃ st, Iso E 5 (List.zipWith (topV Try.prog) Try.f5.params.toList cs) st = some (.bool true) := by
  rw [Try.params5] at hw hl ⊢
  match cs, hl with
  | [a0, a1, a2], _ =>
    obtain ⟨t0, o0, w0, e0, H0, U0⟩ := wfTrapZ (d := 1) (hw 0 25 a0 rfl rfl)
    obtain ⟨y1, e1, _⟩ := wfWd (d := 3) (hw 1 27 a1 rfl rfl)
    subst e1
    obtain ⟨y2, e2, _⟩ := wfWd (d := 3) (hw 2 27 a2 rfl rfl)
    subst e2
    refine ⟨false, ?_⟩
    have h := s5 H0 U0 y1 y2
    rw [← e0] at h
    simpa only [topV, Try.underlying25, Try.underlying27, List.zipWith, List.headD] using h

theorem contract (H : Type) (enc : TypeId × Value → H) (W : World) (base : Nat) (args : Array Value) (ds gs : List (DataW H)) (before : List MemPlace)
    (hval : ∀ (j : Nat) t v, Try.f5.params[j]? = some t → args[j]? = some v → Value.okWide Try.prog W .any base t v)
    (hW : DataW.Whole enc Try.prog Try.f5.params.toList Rows.countsMoreSpec.vars false W args.toList ds gs before) (hz : (DataW.weightsEach Try.prog (Try.f5.params.toList ++ Rows.countsMoreSpec.plain.varTypes Try.prog) (ds ++ gs)).all (· ≤ reachBytes) = true) :
    Calls Try.prog 5 args W fun e W' => ∃ v, e = .returned v ∧ Rows.countsMoreSpec.post enc Try.prog Try.f5 false true false false W args v W' :=
  contract_of laid ok (d := 5) rfl (fun ds h => by rw [Try.params5] at h; match ds, h with | [_, _, _], _ => rfl) (by kernel_rfl) Try.underlying4 (by kernel_rfl) law base args ds gs before hval hW hz

theorem lifted (os : Os) (started : os.Started) (H : Type) (enc : TypeId × Value → H) :
    ReturnsInHanded {} Try.checked os 5 .any (Rows.countsMoreSpec.pre6 enc Try.prog Try.f5 Rows.countsMoreRow.domain false) (Rows.countsMoreSpec.post enc Try.prog Try.f5 false true false false) := by
  refine returnsInHanded_of_change_sized (C := Try.checked) own started (by kernel_rfl) Try.func5
    (ChangeSpec.witness6 (enc := enc) (C := Try.checked) false ⟨#[], #[trapW, wordW, wordW], []⟩ 8 (by kernel_rfl) (by kernel_rfl) (by kernel_rfl) (by kernel_rfl)) ?_
  intro W base args ds gs before hval hW _ hz _
  exact contract H enc W base args ds gs before hval hW hz

theorem proved : Rows.CountsMoreSaid :=
  OpenClaim.holds_of_wide 5 Try.f5 rfl rfl rfl rfl rfl rfl rfl ⟨rfl, rfl, rfl, rfl, rfl⟩ rfl rfl rfl rfl rfl (by kernel_rfl) Try.func5 (by kernel_rfl)
    (of_decide_eq_true (by kernel_rfl)) (by unfold Func.isWrapper; first | (rw [if_pos (by decide +kernel)]; kernel_rfl) | (rw [if_neg (by decide +kernel)]; exact ⟨rfl, rfl⟩))
    (fun os started H enc _ => lifted os started H enc)
#print axioms proved
end Go.Proofs.Ytjaaefdhdggnkaa.countsMore

