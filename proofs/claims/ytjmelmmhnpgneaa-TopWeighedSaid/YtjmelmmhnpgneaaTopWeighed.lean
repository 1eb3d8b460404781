/-
The theorem of the catch that was counted: a crew that surely holds, or surely does not, when the catch is what is told of the last chamber, does the same with the numbers of any truth, and the cheapest crew costs no more; so it is with one word more that holds in this truth: the law returns true for every input, and leaves its arguments as they were.
-/
import Derived.SizedLaws
import Derived.Test.YtjmelmmhnpgneaaWd
namespace Go.Proofs.Ytjmelmmhnpgneaa.topWeighed
open Go Go.Am Go.Proofs.Ytjmelmmhnpgneaa.T Go.Proofs.Ytjmelmmhnpgneaa.S Go.ChangeShapes Go.WideShapes Go.RowKit
set_option linter.unusedVariables false
set_option maxRecDepth 100000

theorem law (cs : List (List AV)) (hl : cs.length = Try.f3.params.size) (hw : ∀ (j : Nat) t c, Try.f3.params.toList[j]? = some t → cs[j]? = some c → WfC Try.prog 5 t c) :
    ∃ st, Iso E 3 (List.zipWith (topV Try.prog) Try.f3.params.toList cs) st = some (.bool true) := by
  rw [Try.params3] at hw hl ⊢
  match cs, hl with
  | [a0, a1, a2], _ =>
    obtain ⟨t0, o0, w0, e0, H0⟩ := wfTrap (d := 1) (hw 0 25 a0 rfl rfl)
    obtain ⟨s1, p1, b1, e1, H1⟩ := A.wfSea (d := 1) (hw 1 31 a1 rfl rfl)
    obtain ⟨L2, v2, x2, l2, u2, y2, e2, H2, U2⟩ := wfWeighed (d := 1) (hw 2 36 a2 rfl rfl)
    refine ⟨false, ?_⟩
    have h := sTop H0 H1 H2 x2 U2 y2
    rw [← e0, ← e1, ← e2] at h
    simpa only [topV, Try.underlying25, Try.underlying31, Try.underlying36, List.zipWith, List.headD] using h

theorem contract (H : Type) (enc : TypeId × Value → H) (W : World) (base : Nat) (args : Array Value) (ds gs : List (DataW H)) (before : List MemPlace)
    (hval : ∀ (j : Nat) t v, Try.f3.params[j]? = some t → args[j]? = some v → Value.okWide Try.prog W .any base t v)
    (hW : DataW.Whole enc Try.prog Try.f3.params.toList Rows.topWeighedSpec.vars false W args.toList ds gs before) (hz : (DataW.weightsEach Try.prog (Try.f3.params.toList ++ Rows.topWeighedSpec.plain.varTypes Try.prog) (ds ++ gs)).all (· ≤ reachBytes) = true) :
    Calls Try.prog 3 args W fun e W' => ∃ v, e = .returned v ∧ Rows.topWeighedSpec.post enc Try.prog Try.f3 false true false false W args v W' :=
  contract_of laid ok (d := 5) rfl (fun ds h => by rw [Try.params3] at h; match ds, h with | [_, _, _], _ => rfl) (by kernel_rfl) Try.underlying4 (by kernel_rfl) law base args ds gs before hval hW hz

theorem lifted (os : Os) (started : os.Started) (H : Type) (enc : TypeId × Value → H) :
    ReturnsInHanded {} Try.checked os 3 .any (Rows.topWeighedSpec.pre6 enc Try.prog Try.f3 Rows.topWeighedRow.domain false) (Rows.topWeighedSpec.post enc Try.prog Try.f3 false true false false) := by
  refine returnsInHanded_of_change_sized (C := Try.checked) own started (by kernel_rfl) Try.func3
    (ChangeSpec.witness6 (enc := enc) (C := Try.checked) false ⟨#[], #[trapW, A.seaW, weighedW], []⟩ 8 (by kernel_rfl) (by kernel_rfl) (by kernel_rfl) (by kernel_rfl)) ?_
  intro W base args ds gs before hval hW _ hz _
  exact contract H enc W base args ds gs before hval hW hz

theorem proved : Rows.TopWeighedSaid :=
  OpenClaim.holds_of_wide 3 Try.f3 rfl rfl rfl rfl rfl rfl rfl ⟨rfl, rfl, rfl, rfl, rfl⟩ rfl rfl rfl rfl rfl (by kernel_rfl) Try.func3 (by kernel_rfl)
    (of_decide_eq_true (by kernel_rfl)) (by unfold Func.isWrapper; first | (rw [if_pos (by decide +kernel)]; kernel_rfl) | (rw [if_neg (by decide +kernel)]; exact ⟨rfl, rfl⟩))
    (fun os started H enc _ => lifted os started H enc)
#print axioms proved
end Go.Proofs.Ytjmelmmhnpgneaa.topWeighed
