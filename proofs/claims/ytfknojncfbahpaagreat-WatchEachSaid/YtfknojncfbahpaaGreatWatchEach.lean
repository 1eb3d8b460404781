/-
In each tale all numbers are within Fish; a word that is false is one of a time of its story, and Lies of it is not Never; one that holds is one of which Lies is not Surely; no fewer words are false than False: the law returns true for every input, and leaves its arguments as they were.
-/
import Derived.Test.YtfknojncfbahpaaGreatS2
import Derived.Test.YtfknojncfbahpaaGreatXd
import Derived.SizedLaws
namespace Go.Proofs.YtfknojncfbahpaaGreat.watchEach
open Go Go.Am Go.Proofs.YtfknojncfbahpaaGreat.T Go.Proofs.YtfknojncfbahpaaGreat.S Go.ChangeShapes Go.WideShapes Go.RowKit
set_option linter.unusedVariables false
set_option maxRecDepth 100000
theorem law (cs : List (List AV)) (hl : cs.length = Tryz.f3.params.size) (hw : ∀ (j : Nat) t c, Tryz.f3.params.toList[j]? = some t → cs[j]? = some c → WfC Tryz.prog 5 t c) :
    ∃ st, Iso E 3 (List.zipWith (topV Tryz.prog) Tryz.f3.params.toList cs) st = some (.bool true) := by
  rw [Tryz.params3] at hw hl ⊢
  match cs, hl with
  | [a0, a1], _ =>
    obtain ⟨b0, o0, w0, s0, e0, B0⟩ := wfBk (d := 0) (hw 0 28 a0 rfl rfl)
    obtain ⟨g1, gv1, L1, v1, e1, G1, N1⟩ := wfTale (d := 1) (hw 1 30 a1 rfl rfl)
    subst e1
    refine ⟨false, ?_⟩
    have h := l3 B0 G1 N1
    rw [← e0] at h
    simpa only [topV, Tryz.underlying28, Tryz.underlying30, List.zipWith, List.headD] using h
theorem contract (H : Type) (enc : TypeId × Value → H) (W : World) (base : Nat) (args : Array Value) (ds gs : List (DataW H)) (before : List MemPlace)
    (hval : ∀ (j : Nat) t v, Tryz.f3.params[j]? = some t → args[j]? = some v → Value.okWide Tryz.prog W .any base t v)
    (hW : DataW.Whole enc Tryz.prog Tryz.f3.params.toList Rows.watchEachSpec.vars false W args.toList ds gs before) (hz : (DataW.weightsEach Tryz.prog (Tryz.f3.params.toList ++ Rows.watchEachSpec.plain.varTypes Tryz.prog) (ds ++ gs)).all (· ≤ reachBytes) = true) :
    Calls Tryz.prog 3 args W fun e W' => ∃ v, e = .returned v ∧ Rows.watchEachSpec.post enc Tryz.prog Tryz.f3 false true false false W args v W' :=
  contract_of laidOut ok (d := 5) rfl (fun ds h => by rw [Tryz.params3] at h; match ds, h with | [_, _], _ => rfl) (by kernel_rfl) Tryz.underlying4 (by kernel_rfl) law base args ds gs before hval hW hz
theorem lifted (os : Os) (started : os.Started) (H : Type) (enc : TypeId × Value → H) :
    ReturnsInHanded {} Tryz.checked os 3 .any (Rows.watchEachSpec.pre6 enc Tryz.prog Tryz.f3 Rows.watchEachRow.domain false) (Rows.watchEachSpec.post enc Tryz.prog Tryz.f3 false true false false) := by
  refine returnsInHanded_of_change_sized (C := Tryz.checked) own started (by kernel_rfl) Tryz.func3
    (ChangeSpec.witness6 (enc := enc) (C := Tryz.checked) false ⟨#[], #[bkW, taleW], []⟩ 8 (by kernel_rfl) (by kernel_rfl) (by kernel_rfl) (by kernel_rfl)) ?_
  intro W base args ds gs before hval hW _ hz _
  exact contract H enc W base args ds gs before hval hW hz
theorem proved : Rows.WatchEachSaid :=
  OpenClaim.holds_of_wide 3 Tryz.f3 rfl rfl rfl rfl rfl rfl rfl ⟨rfl, rfl, rfl, rfl, rfl⟩ rfl rfl rfl rfl rfl (by kernel_rfl) Tryz.func3 (by kernel_rfl)
    (of_decide_eq_true (by kernel_rfl)) (by unfold Func.isWrapper; first | (rw [if_pos (by decide +kernel)]; kernel_rfl) | (rw [if_neg (by decide +kernel)]; exact ⟨rfl, rfl⟩))
    (fun os started H enc _ => lifted os started H enc)
#print axioms proved
end Go.Proofs.YtfknojncfbahpaaGreat.watchEach
