/-
The theorem of what the anchors tear: if each anchor that drags tears a hole of its own, Least and Done are not greater on the calmer day; if nothing drags, they are 0: the law returns true for every input, and leaves its arguments as they were.
-/
import Derived.SizedLaws
import Derived.Test.YtmldjpeiokciiaaVe
namespace Go.Proofs.Ytmldjpeiokciiaa.topTorn
open Go Go.Am Go.Proofs.Ytmldjpeiokciiaa.T Go.Proofs.Ytmldjpeiokciiaa.S Go.ChangeShapes Go.WideShapes Go.RowKit
set_option linter.unusedVariables false
set_option maxRecDepth 100000

theorem law (cs : List (List AV)) (hl : cs.length = Try.f3.params.size) (hw : ∀ (j : Nat) t c, Try.f3.params.toList[j]? = some t → cs[j]? = some c → WfC Try.prog 6 t c) :
    ∃ st, Iso E 3 (List.zipWith (topV Try.prog) Try.f3.params.toList cs) st = some (.bool true) := by
  rw [Try.params3] at hw hl ⊢
  match cs, hl with
  | [a0, a1], _ =>
    obtain ⟨n, g, a, w, e0, N0⟩ := A.wfNet (d := 2) (hw 0 28 a0 rfl rfl)
    obtain ⟨t, u, tv, uv, L, v, m, e1, T0, U0, HV⟩ := wfTorn (d := 1) (hw 1 34 a1 rfl rfl)
    refine ⟨false, ?_⟩
    have h := sTop N0 T0 U0 HV m
    rw [← e0, ← e1] at h
    simpa only [topV, Try.underlying28, Try.underlying34, List.zipWith, List.headD] using h

theorem contract (H : Type) (enc : TypeId × Value → H) (W : World) (base : Nat) (args : Array Value) (ds gs : List (DataW H)) (before : List MemPlace)
    (hval : ∀ (j : Nat) t v, Try.f3.params[j]? = some t → args[j]? = some v → Value.okWide Try.prog W .any base t v)
    (hW : DataW.Whole enc Try.prog Try.f3.params.toList Rows.topTornSpec.vars false W args.toList ds gs before) (hz : (DataW.weightsEach Try.prog (Try.f3.params.toList ++ Rows.topTornSpec.plain.varTypes Try.prog) (ds ++ gs)).all (· ≤ reachBytes) = true) :
    Calls Try.prog 3 args W fun e W' => ∃ v, e = .returned v ∧ Rows.topTornSpec.post enc Try.prog Try.f3 false true false false W args v W' :=
  contract_of laid ok (d := 6) rfl (fun ds h => by rw [Try.params3] at h; match ds, h with | [_, _], _ => rfl) (by kernel_rfl) Try.underlying4 (by kernel_rfl) law base args ds gs before hval hW hz

theorem lifted (os : Os) (started : os.Started) (H : Type) (enc : TypeId × Value → H) :
    ReturnsInHanded {} Try.checked os 3 .any (Rows.topTornSpec.pre6 enc Try.prog Try.f3 Rows.topTornRow.domain false) (Rows.topTornSpec.post enc Try.prog Try.f3 false true false false) := by
  refine returnsInHanded_of_change_sized (C := Try.checked) own started (by kernel_rfl) Try.func3
    (ChangeSpec.witness6 (enc := enc) (C := Try.checked) false ⟨#[], #[netW, tornW], []⟩ 8 (by kernel_rfl) (by kernel_rfl) (by kernel_rfl) (by kernel_rfl)) ?_
  intro W base args ds gs before hval hW _ hz _
  exact contract H enc W base args ds gs before hval hW hz

theorem proved : Rows.TopTornSaid :=
  OpenClaim.holds_of_wide 3 Try.f3 rfl rfl rfl rfl rfl rfl rfl ⟨rfl, rfl, rfl, rfl, rfl⟩ rfl rfl rfl rfl rfl (by kernel_rfl) Try.func3 (by kernel_rfl)
    (of_decide_eq_true (by kernel_rfl)) (by unfold Func.isWrapper; first | (rw [if_pos (by decide +kernel)]; kernel_rfl) | (rw [if_neg (by decide +kernel)]; exact ⟨rfl, rfl⟩))
    (fun os started H enc _ => lifted os started H enc)
#print axioms proved
end Go.Proofs.Ytmldjpeiokciiaa.topTorn
