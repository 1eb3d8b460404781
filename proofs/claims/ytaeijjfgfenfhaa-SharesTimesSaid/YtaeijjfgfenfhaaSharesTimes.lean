/-
All weights so many times as great: all get the same, and From, Falls and Exact answer the same: the law returns true for every input, and leaves its arguments as they were.
-/
import Derived.Test.YtaeijjfgfenfhaaS2
import Derived.Test.YtaeijjfgfenfhaaOd
import Derived.SizedLaws
namespace Go.Proofs.Ytaeijjfgfenfhaa.sharesTimes
open Go Go.Am Go.Proofs.Ytaeijjfgfenfhaa.T Go.Proofs.Ytaeijjfgfenfhaa.S Go.ChangeShapes Go.WideShapes Go.RowKit
set_option linter.unusedVariables false
set_option maxRecDepth 100000

theorem law (cs : List (List AV)) (hl : cs.length = Try.f12.params.size) (hw : ∀ (j : Nat) t c, Try.f12.params.toList[j]? = some t → cs[j]? = some c → WfC Try.prog 5 t c) :
    ∃ st, Iso E 12 (List.zipWith (topV Try.prog) Try.f12.params.toList cs) st = some (.bool true) := by
  rw [Try.params12] at hw hl ⊢
  match cs, hl with
  | [a0, a1], _ =>
    obtain ⟨C0, v0, e0, V0⟩ := wfCus (d := 0) (hw 0 24 a0 rfl rfl)
    obtain ⟨m1, e1, _⟩ := wfTm (d := 2) (hw 1 69 a1 rfl rfl)
    subst e1
    refine ⟨false, ?_⟩
    have h := l12 V0 m1 false
    rw [← e0] at h
    simpa only [topV, Try.underlying24, Try.underlying69, List.zipWith, List.headD, Tm.e] using h

theorem contract (H : Type) (enc : TypeId × Value → H) (W : World) (base : Nat) (args : Array Value) (ds gs : List (DataW H)) (before : List MemPlace)
    (hval : ∀ (j : Nat) t v, Try.f12.params[j]? = some t → args[j]? = some v → Value.okWide Try.prog W .any base t v)
    (hW : DataW.Whole enc Try.prog Try.f12.params.toList Rows.sharesTimesSpec.vars false W args.toList ds gs before) (hz : (DataW.weightsEach Try.prog (Try.f12.params.toList ++ Rows.sharesTimesSpec.plain.varTypes Try.prog) (ds ++ gs)).all (· ≤ reachBytes) = true) :
    Calls Try.prog 12 args W fun e W' => ∃ v, e = .returned v ∧ Rows.sharesTimesSpec.post enc Try.prog Try.f12 false true false false W args v W' :=
  contract_of laidOut ok (d := 5) rfl (fun ds h => by rw [Try.params12] at h; match ds, h with | [_, _], _ => rfl) (by kernel_rfl) Try.underlying4 (by kernel_rfl) law base args ds gs before hval hW hz

theorem lifted (os : Os) (started : os.Started) (H : Type) (enc : TypeId × Value → H) :
    ReturnsInHanded {} Try.checked os 12 .any (Rows.sharesTimesSpec.pre6 enc Try.prog Try.f12 Rows.sharesTimesRow.domain false) (Rows.sharesTimesSpec.post enc Try.prog Try.f12 false true false false) := by
  refine returnsInHanded_of_change_sized (C := Try.checked) own started (by kernel_rfl) Try.func12
    (ChangeSpec.witness6 (enc := enc) (C := Try.checked) false ⟨#[], #[cusW, timW], []⟩ 8 (by kernel_rfl) (by kernel_rfl) (by kernel_rfl) (by kernel_rfl)) ?_
  intro W base args ds gs before hval hW _ hz _
  exact contract H enc W base args ds gs before hval hW hz

theorem proved : Rows.SharesTimesSaid :=
  OpenClaim.holds_of_wide 12 Try.f12 rfl rfl rfl rfl rfl rfl rfl ⟨rfl, rfl, rfl, rfl, rfl⟩ rfl rfl rfl rfl rfl (by kernel_rfl) Try.func12 (by kernel_rfl)
    (of_decide_eq_true (by kernel_rfl)) (by unfold Func.isWrapper; first | (rw [if_pos (by decide +kernel)]; kernel_rfl) | (rw [if_neg (by decide +kernel)]; exact ⟨rfl, rfl⟩))
    (fun os started H enc _ => lifted os started H enc)
#print axioms proved
end Go.Proofs.Ytaeijjfgfenfhaa.sharesTimes

