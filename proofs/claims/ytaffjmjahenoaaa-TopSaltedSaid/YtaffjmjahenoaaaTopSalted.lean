/-
The theorem of the salt of the parts: if the parts of a house are those of a table, Least, Fewest and Buy are not greater with the least weights that cuts.Weight says than with those of any truth, nor with these than with the greatest ones: the law returns true for every input, and leaves its arguments as they were.
-/
import Derived.SizedLaws
import Derived.Test.YtaffjmjahenoaaaRe
namespace Go.Proofs.Ytaffjmjahenoaaa.topSalted
open Go Go.Am Go.Proofs.Ytaffjmjahenoaaa.T Go.Proofs.Ytaffjmjahenoaaa.S Go.ChangeShapes Go.WideShapes Go.RowKit
set_option linter.unusedVariables false
set_option maxRecDepth 100000

theorem law (cs : List (List AV)) (hl : cs.length = Try.f3.params.size) (hw : ∀ (j : Nat) t c, Try.f3.params.toList[j]? = some t → cs[j]? = some c → WfC Try.prog 6 t c) :
    ∃ st, Iso E 3 (List.zipWith (topV Try.prog) Try.f3.params.toList cs) st = some (.bool true) := by
  rw [Try.params3] at hw hl ⊢
  match cs, hl with
  | [a0, a1, a2], _ =>
    obtain ⟨t, v, rfl, TI⟩ := wfTab (d := 2) (hw 0 22 a0 rfl rfl)
    obtain ⟨h, k, p, b, e1, HI⟩ := A.wfHouse (d := 2) (hw 1 27 a1 rfl rfl)
    obtain ⟨l, w, rfl, W⟩ := A.wfNums (d := 4) (hw 2 25 a2 rfl rfl)
    refine ⟨false, ?_⟩
    have h := sTop TI HI W
    rw [← e1] at h
    simpa only [topV, Try.underlying22, Try.underlying27, Try.underlying25, List.zipWith, List.headD] using h

theorem contract (H : Type) (enc : TypeId × Value → H) (W : World) (base : Nat) (args : Array Value) (ds gs : List (DataW H)) (before : List MemPlace)
    (hval : ∀ (j : Nat) t v, Try.f3.params[j]? = some t → args[j]? = some v → Value.okWide Try.prog W .any base t v)
    (hW : DataW.Whole enc Try.prog Try.f3.params.toList Rows.topSaltedSpec.vars false W args.toList ds gs before) (hz : (DataW.weightsEach Try.prog (Try.f3.params.toList ++ Rows.topSaltedSpec.plain.varTypes Try.prog) (ds ++ gs)).all (· ≤ reachBytes) = true) :
    Calls Try.prog 3 args W fun e W' => ∃ v, e = .returned v ∧ Rows.topSaltedSpec.post enc Try.prog Try.f3 false true false false W args v W' :=
  contract_of laid ok (d := 6) rfl (fun ds h => by rw [Try.params3] at h; match ds, h with | [_, _, _], _ => rfl) (by kernel_rfl) Try.underlying4 (by kernel_rfl) law base args ds gs before hval hW hz

theorem lifted (os : Os) (started : os.Started) (H : Type) (enc : TypeId × Value → H) :
    ReturnsInHanded {} Try.checked os 3 .any (Rows.topSaltedSpec.pre6 enc Try.prog Try.f3 Rows.topSaltedRow.domain false) (Rows.topSaltedSpec.post enc Try.prog Try.f3 false true false false) := by
  refine returnsInHanded_of_change_sized (C := Try.checked) own started (by kernel_rfl) Try.func3
    (ChangeSpec.witness6 (enc := enc) (C := Try.checked) false ⟨#[], #[.slice none 0 0, A.houseW, .slice none 0 0], []⟩ 8 (by kernel_rfl) (by kernel_rfl) (by kernel_rfl) (by kernel_rfl)) ?_
  intro W base args ds gs before hval hW _ hz _
  exact contract H enc W base args ds gs before hval hW hz

theorem proved : Rows.TopSaltedSaid :=
  OpenClaim.holds_of_wide 3 Try.f3 rfl rfl rfl rfl rfl rfl rfl ⟨rfl, rfl, rfl, rfl, rfl⟩ rfl rfl rfl rfl rfl (by kernel_rfl) Try.func3 (by kernel_rfl)
    (of_decide_eq_true (by kernel_rfl)) (by unfold Func.isWrapper; first | (rw [if_pos (by decide +kernel)]; kernel_rfl) | (rw [if_neg (by decide +kernel)]; exact ⟨rfl, rfl⟩))
    (fun os started H enc _ => lifted os started H enc)
#print axioms proved
end Go.Proofs.Ytaffjmjahenoaaa.topSalted
