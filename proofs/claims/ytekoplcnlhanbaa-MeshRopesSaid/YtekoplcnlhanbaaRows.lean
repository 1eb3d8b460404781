/-
  No cell of these rows narrows 'for every input' (looked for: loops, veiled, ifaces, maps, wideKeys, modest, calm, conditions, laid).
  DERIVED. THE GIVEN ROWS OF THIS SEAT. 11 by the template 'for every input the law returns true; each argument reads behind the call as it read before'; 0 by the template 'total and deterministic' (their statements: YtekoplcnlhanbaaTotals.lean).
  GIVEN WITH THE SEED: the statements are not yours to turn. If you find one false, say at which input.
  Laid BY PROGRAM, IN A SANDBOX (cutbox-rows.mjs): the forced cells as the released guide's own fill.sh prints them over the translation 3b937cf037119a88… (all of the seat's roots in one cut). By AI agents, Wed Nov 11 2026. No macro, syntax, notation, axiom, sorry.
-/
import Derived.Test.YtekoplcnlhanbaaChecked
import GoSem.Claim
import GoSem.ClaimJoined
import GoSem.ClaimMapViews
import Derived.JoinedTies
import Derived.KernelRfl
namespace Go.Proofs.Ytekoplcnlhanbaa
/- THE CELL 'sum', in the pinned program and in every row, IS THE sha256 OF THE DUMP (.gsa) THAT YtekoplcnlhanbaaProg.lean LOADS. Nothing in Lean hashes anything: it is a label: what it is worth is what the hold of that sum in a sandbox is worth. -/
noncomputable def Try.pinned : Pinned := { name := "ytekoplcnlhanbaa", sum := "3b937cf037119a884a00fabfe7bb0c97c6b89b163b3c5f926c23cb2ab7064100", checked := Try.checked }
namespace Rows
def none {H : Type} : Left H := { results := [], args := [] }

/-- 'almadrabalaw04.MeshTimes': WHATEVER THE INPUT: true; the input reads as it did. -/
def meshTimesSpec : ChangeSpec := { name := "meshTimes", fn := fun _ => fun
  | [d1, d2] => { results := [.lit (.bool true)], args := [d1, d2] }
  | _ => none }
def meshTimesRow : OpenClaim := { program := "ytekoplcnlhanbaa", sum := "3b937cf037119a884a00fabfe7bb0c97c6b89b163b3c5f926c23cb2ab7064100", func := "almadraba/almadrabalaw04.MeshTimes", spec := "meshTimes", unfollowed := true, recurses := true, apart := false }
def MeshTimesSaid : Prop := meshTimesRow.holds Try.pinned (OpenSpec.ofChange meshTimesSpec)

/-- ITS FALSE NEIGHBOUR: 'it returns false'. Refute it at one input. -/
def meshTimesWrong : ChangeSpec := { name := "meshTimes", fn := fun _ => fun
  | [d1, d2] => { results := [.lit (.bool false)], args := [d1, d2] }
  | _ => none }
def MeshTimesWrongFalsely : Prop := meshTimesRow.holds Try.pinned (OpenSpec.ofChange meshTimesWrong)

/-- 'almadrabalaw04.MeshLeast': WHATEVER THE INPUT: true; the input reads as it did. -/
def meshLeastSpec : ChangeSpec := { name := "meshLeast", fn := fun _ => fun
  | [d1, d2] => { results := [.lit (.bool true)], args := [d1, d2] }
  | _ => none }
def meshLeastRow : OpenClaim := { program := "ytekoplcnlhanbaa", sum := "3b937cf037119a884a00fabfe7bb0c97c6b89b163b3c5f926c23cb2ab7064100", func := "almadraba/almadrabalaw04.MeshLeast", spec := "meshLeast", unfollowed := true, recurses := true, apart := false }
def MeshLeastSaid : Prop := meshLeastRow.holds Try.pinned (OpenSpec.ofChange meshLeastSpec)

/-- ITS FALSE NEIGHBOUR: 'it returns false'. Refute it at one input. -/
def meshLeastWrong : ChangeSpec := { name := "meshLeast", fn := fun _ => fun
  | [d1, d2] => { results := [.lit (.bool false)], args := [d1, d2] }
  | _ => none }
def MeshLeastWrongFalsely : Prop := meshLeastRow.holds Try.pinned (OpenSpec.ofChange meshLeastWrong)

/-- 'almadrabalaw04.MeshRule': WHATEVER THE INPUT: true; the input reads as it did. -/
def meshRuleSpec : ChangeSpec := { name := "meshRule", fn := fun _ => fun
  | [d] => { results := [.lit (.bool true)], args := [d] }
  | _ => none }
def meshRuleRow : OpenClaim := { program := "ytekoplcnlhanbaa", sum := "3b937cf037119a884a00fabfe7bb0c97c6b89b163b3c5f926c23cb2ab7064100", func := "almadraba/almadrabalaw04.MeshRule", spec := "meshRule", unfollowed := true, recurses := true, apart := false }
def MeshRuleSaid : Prop := meshRuleRow.holds Try.pinned (OpenSpec.ofChange meshRuleSpec)

/-- ITS FALSE NEIGHBOUR: 'it returns false'. Refute it at one input. -/
def meshRuleWrong : ChangeSpec := { name := "meshRule", fn := fun _ => fun
  | [d] => { results := [.lit (.bool false)], args := [d] }
  | _ => none }
def MeshRuleWrongFalsely : Prop := meshRuleRow.holds Try.pinned (OpenSpec.ofChange meshRuleWrong)

/-- 'almadrabalaw04.MeshCalm': WHATEVER THE INPUT: true; the input reads as it did. -/
def meshCalmSpec : ChangeSpec := { name := "meshCalm", fn := fun _ => fun
  | [d1, d2] => { results := [.lit (.bool true)], args := [d1, d2] }
  | _ => none }
def meshCalmRow : OpenClaim := { program := "ytekoplcnlhanbaa", sum := "3b937cf037119a884a00fabfe7bb0c97c6b89b163b3c5f926c23cb2ab7064100", func := "almadraba/almadrabalaw04.MeshCalm", spec := "meshCalm", unfollowed := true, recurses := true, apart := false }
def MeshCalmSaid : Prop := meshCalmRow.holds Try.pinned (OpenSpec.ofChange meshCalmSpec)

/-- ITS FALSE NEIGHBOUR: 'it returns false'. Refute it at one input. -/
def meshCalmWrong : ChangeSpec := { name := "meshCalm", fn := fun _ => fun
  | [d1, d2] => { results := [.lit (.bool false)], args := [d1, d2] }
  | _ => none }
def MeshCalmWrongFalsely : Prop := meshCalmRow.holds Try.pinned (OpenSpec.ofChange meshCalmWrong)

/-- 'almadrabalaw04.MeshMore': WHATEVER THE INPUT: true; the input reads as it did. -/
def meshMoreSpec : ChangeSpec := { name := "meshMore", fn := fun _ => fun
  | [d] => { results := [.lit (.bool true)], args := [d] }
  | _ => none }
def meshMoreRow : OpenClaim := { program := "ytekoplcnlhanbaa", sum := "3b937cf037119a884a00fabfe7bb0c97c6b89b163b3c5f926c23cb2ab7064100", func := "almadraba/almadrabalaw04.MeshMore", spec := "meshMore", unfollowed := true, recurses := true, apart := false }
def MeshMoreSaid : Prop := meshMoreRow.holds Try.pinned (OpenSpec.ofChange meshMoreSpec)

/-- ITS FALSE NEIGHBOUR: 'it returns false'. Refute it at one input. -/
def meshMoreWrong : ChangeSpec := { name := "meshMore", fn := fun _ => fun
  | [d] => { results := [.lit (.bool false)], args := [d] }
  | _ => none }
def MeshMoreWrongFalsely : Prop := meshMoreRow.holds Try.pinned (OpenSpec.ofChange meshMoreWrong)

/-- 'almadrabalaw04.MeshEach': WHATEVER THE INPUT: true; the input reads as it did. -/
def meshEachSpec : ChangeSpec := { name := "meshEach", fn := fun _ => fun
  | [d1, d2] => { results := [.lit (.bool true)], args := [d1, d2] }
  | _ => none }
def meshEachRow : OpenClaim := { program := "ytekoplcnlhanbaa", sum := "3b937cf037119a884a00fabfe7bb0c97c6b89b163b3c5f926c23cb2ab7064100", func := "almadraba/almadrabalaw04.MeshEach", spec := "meshEach", unfollowed := true, recurses := true, apart := false }
def MeshEachSaid : Prop := meshEachRow.holds Try.pinned (OpenSpec.ofChange meshEachSpec)

/-- ITS FALSE NEIGHBOUR: 'it returns false'. Refute it at one input. -/
def meshEachWrong : ChangeSpec := { name := "meshEach", fn := fun _ => fun
  | [d1, d2] => { results := [.lit (.bool false)], args := [d1, d2] }
  | _ => none }
def MeshEachWrongFalsely : Prop := meshEachRow.holds Try.pinned (OpenSpec.ofChange meshEachWrong)

/-- 'almadrabalaw04.MeshRules': WHATEVER THE INPUT: true; the input reads as it did. -/
def meshRulesSpec : ChangeSpec := { name := "meshRules", fn := fun _ => fun
  | [d] => { results := [.lit (.bool true)], args := [d] }
  | _ => none }
def meshRulesRow : OpenClaim := { program := "ytekoplcnlhanbaa", sum := "3b937cf037119a884a00fabfe7bb0c97c6b89b163b3c5f926c23cb2ab7064100", func := "almadraba/almadrabalaw04.MeshRules", spec := "meshRules", unfollowed := true, recurses := true, apart := false }
def MeshRulesSaid : Prop := meshRulesRow.holds Try.pinned (OpenSpec.ofChange meshRulesSpec)

/-- ITS FALSE NEIGHBOUR: 'it returns false'. Refute it at one input. -/
def meshRulesWrong : ChangeSpec := { name := "meshRules", fn := fun _ => fun
  | [d] => { results := [.lit (.bool false)], args := [d] }
  | _ => none }
def MeshRulesWrongFalsely : Prop := meshRulesRow.holds Try.pinned (OpenSpec.ofChange meshRulesWrong)

/-- 'almadrabalaw04.MeshLess': WHATEVER THE INPUT: true; the input reads as it did. -/
def meshLessSpec : ChangeSpec := { name := "meshLess", fn := fun _ => fun
  | [d1, d2] => { results := [.lit (.bool true)], args := [d1, d2] }
  | _ => none }
def meshLessRow : OpenClaim := { program := "ytekoplcnlhanbaa", sum := "3b937cf037119a884a00fabfe7bb0c97c6b89b163b3c5f926c23cb2ab7064100", func := "almadraba/almadrabalaw04.MeshLess", spec := "meshLess", unfollowed := true, recurses := true, apart := false }
def MeshLessSaid : Prop := meshLessRow.holds Try.pinned (OpenSpec.ofChange meshLessSpec)

/-- ITS FALSE NEIGHBOUR: 'it returns false'. Refute it at one input. -/
def meshLessWrong : ChangeSpec := { name := "meshLess", fn := fun _ => fun
  | [d1, d2] => { results := [.lit (.bool false)], args := [d1, d2] }
  | _ => none }
def MeshLessWrongFalsely : Prop := meshLessRow.holds Try.pinned (OpenSpec.ofChange meshLessWrong)

/-- 'almadrabalaw04.MeshFewer': WHATEVER THE INPUT: true; the input reads as it did. -/
def meshFewerSpec : ChangeSpec := { name := "meshFewer", fn := fun _ => fun
  | [d1, d2, d3] => { results := [.lit (.bool true)], args := [d1, d2, d3] }
  | _ => none }
def meshFewerRow : OpenClaim := { program := "ytekoplcnlhanbaa", sum := "3b937cf037119a884a00fabfe7bb0c97c6b89b163b3c5f926c23cb2ab7064100", func := "almadraba/almadrabalaw04.MeshFewer", spec := "meshFewer", unfollowed := true, recurses := true, apart := false }
def MeshFewerSaid : Prop := meshFewerRow.holds Try.pinned (OpenSpec.ofChange meshFewerSpec)

/-- ITS FALSE NEIGHBOUR: 'it returns false'. Refute it at one input. -/
def meshFewerWrong : ChangeSpec := { name := "meshFewer", fn := fun _ => fun
  | [d1, d2, d3] => { results := [.lit (.bool false)], args := [d1, d2, d3] }
  | _ => none }
def MeshFewerWrongFalsely : Prop := meshFewerRow.holds Try.pinned (OpenSpec.ofChange meshFewerWrong)

/-- 'almadrabalaw04.MeshRopes': WHATEVER THE INPUT: true; the input reads as it did. -/
def meshRopesSpec : ChangeSpec := { name := "meshRopes", fn := fun _ => fun
  | [d1, d2, d3] => { results := [.lit (.bool true)], args := [d1, d2, d3] }
  | _ => none }
def meshRopesRow : OpenClaim := { program := "ytekoplcnlhanbaa", sum := "3b937cf037119a884a00fabfe7bb0c97c6b89b163b3c5f926c23cb2ab7064100", func := "almadraba/almadrabalaw04.MeshRopes", spec := "meshRopes", unfollowed := true, recurses := true, apart := false }
def MeshRopesSaid : Prop := meshRopesRow.holds Try.pinned (OpenSpec.ofChange meshRopesSpec)

/-- ITS FALSE NEIGHBOUR: 'it returns false'. Refute it at one input. -/
def meshRopesWrong : ChangeSpec := { name := "meshRopes", fn := fun _ => fun
  | [d1, d2, d3] => { results := [.lit (.bool false)], args := [d1, d2, d3] }
  | _ => none }
def MeshRopesWrongFalsely : Prop := meshRopesRow.holds Try.pinned (OpenSpec.ofChange meshRopesWrong)

/-- 'almadrabalaw04.MeshRegret': WHATEVER THE INPUT: true; the input reads as it did. -/
def meshRegretSpec : ChangeSpec := { name := "meshRegret", fn := fun _ => fun
  | [d1, d2] => { results := [.lit (.bool true)], args := [d1, d2] }
  | _ => none }
def meshRegretRow : OpenClaim := { program := "ytekoplcnlhanbaa", sum := "3b937cf037119a884a00fabfe7bb0c97c6b89b163b3c5f926c23cb2ab7064100", func := "almadraba/almadrabalaw04.MeshRegret", spec := "meshRegret", unfollowed := true, recurses := true, apart := false }
def MeshRegretSaid : Prop := meshRegretRow.holds Try.pinned (OpenSpec.ofChange meshRegretSpec)

/-- ITS FALSE NEIGHBOUR: 'it returns false'. Refute it at one input. -/
def meshRegretWrong : ChangeSpec := { name := "meshRegret", fn := fun _ => fun
  | [d1, d2] => { results := [.lit (.bool false)], args := [d1, d2] }
  | _ => none }
def MeshRegretWrongFalsely : Prop := meshRegretRow.holds Try.pinned (OpenSpec.ofChange meshRegretWrong)

/- THE SECOND FORM. 'bulk': how many values and letters a reading holds, each counted each time it is reached (what is shared counts as often as it is met; a slice's spare places count too). A statement '..UptoSaid' is the law's where the arguments, and the package variables that the reading takes, are together of bulk at most 1048576: NARROWER than '..Said'. Prove '..Said' where nothing that the law and all that it calls make is longer than what came in: it says more and counts as full. Else prove '..UptoSaid'. A law counts once. -/
mutual
def uptoBulk {H : Type} : DataW H → Nat
  | .lit (.string bytes) => bytes.length + 1
  | .lit _ => 1
  | .nil => 1
  | .ptr d => uptoBulk d + 1
  | .slice elems spare => uptoBulkAll elems + uptoBulkAll spare + 1
  | .agg parts => uptoBulkAll parts + 1
  | .iface _ d => uptoBulk d + 1
  | .map entries => uptoBulkEntries entries + 1
  | .held _ => 1
def uptoBulkAll {H : Type} : List (DataW H) → Nat
  | [] => 0
  | d :: r => uptoBulk d + uptoBulkAll r
def uptoBulkEntries {H : Type} : List (Lit × DataW H) → Nat
  | [] => 0
  | x :: r => uptoBulkEntry x + uptoBulkEntries r
def uptoBulkEntry {H : Type} : Lit × DataW H → Nat
  | (.string bytes, d) => bytes.length + uptoBulk d + 1
  | (_, d) => uptoBulk d + 1
 end
def uptoSmall : (H : Type) → List (DataW H) → Bool := fun _ ds => decide (uptoBulkAll ds ≤ 1048576)
def OpenSpec.upto (s : _root_.Go.ChangeSpec) : _root_.Go.OpenSpec := { _root_.Go.OpenSpec.ofChange s with cond := some uptoSmall }

/-- 'almadrabalaw04.MeshTimes', WHERE WHAT IT READS IS OF BULK AT MOST 1048576: true; the input reads as it did. -/
def meshTimesUptoRow : OpenClaim := { program := "ytekoplcnlhanbaa", sum := "3b937cf037119a884a00fabfe7bb0c97c6b89b163b3c5f926c23cb2ab7064100", func := "almadraba/almadrabalaw04.MeshTimes", spec := "meshTimes", unfollowed := true, recurses := true, apart := false, narrowed := true }
def MeshTimesUptoSaid : Prop := meshTimesUptoRow.holds Try.pinned (OpenSpec.upto meshTimesSpec)

/-- 'almadrabalaw04.MeshLeast', WHERE WHAT IT READS IS OF BULK AT MOST 1048576: true; the input reads as it did. -/
def meshLeastUptoRow : OpenClaim := { program := "ytekoplcnlhanbaa", sum := "3b937cf037119a884a00fabfe7bb0c97c6b89b163b3c5f926c23cb2ab7064100", func := "almadraba/almadrabalaw04.MeshLeast", spec := "meshLeast", unfollowed := true, recurses := true, apart := false, narrowed := true }
def MeshLeastUptoSaid : Prop := meshLeastUptoRow.holds Try.pinned (OpenSpec.upto meshLeastSpec)

/-- 'almadrabalaw04.MeshRule', WHERE WHAT IT READS IS OF BULK AT MOST 1048576: true; the input reads as it did. -/
def meshRuleUptoRow : OpenClaim := { program := "ytekoplcnlhanbaa", sum := "3b937cf037119a884a00fabfe7bb0c97c6b89b163b3c5f926c23cb2ab7064100", func := "almadraba/almadrabalaw04.MeshRule", spec := "meshRule", unfollowed := true, recurses := true, apart := false, narrowed := true }
def MeshRuleUptoSaid : Prop := meshRuleUptoRow.holds Try.pinned (OpenSpec.upto meshRuleSpec)

/-- 'almadrabalaw04.MeshCalm', WHERE WHAT IT READS IS OF BULK AT MOST 1048576: true; the input reads as it did. -/
def meshCalmUptoRow : OpenClaim := { program := "ytekoplcnlhanbaa", sum := "3b937cf037119a884a00fabfe7bb0c97c6b89b163b3c5f926c23cb2ab7064100", func := "almadraba/almadrabalaw04.MeshCalm", spec := "meshCalm", unfollowed := true, recurses := true, apart := false, narrowed := true }
def MeshCalmUptoSaid : Prop := meshCalmUptoRow.holds Try.pinned (OpenSpec.upto meshCalmSpec)

/-- 'almadrabalaw04.MeshMore', WHERE WHAT IT READS IS OF BULK AT MOST 1048576: true; the input reads as it did. -/
def meshMoreUptoRow : OpenClaim := { program := "ytekoplcnlhanbaa", sum := "3b937cf037119a884a00fabfe7bb0c97c6b89b163b3c5f926c23cb2ab7064100", func := "almadraba/almadrabalaw04.MeshMore", spec := "meshMore", unfollowed := true, recurses := true, apart := false, narrowed := true }
def MeshMoreUptoSaid : Prop := meshMoreUptoRow.holds Try.pinned (OpenSpec.upto meshMoreSpec)

/-- 'almadrabalaw04.MeshEach', WHERE WHAT IT READS IS OF BULK AT MOST 1048576: true; the input reads as it did. -/
def meshEachUptoRow : OpenClaim := { program := "ytekoplcnlhanbaa", sum := "3b937cf037119a884a00fabfe7bb0c97c6b89b163b3c5f926c23cb2ab7064100", func := "almadraba/almadrabalaw04.MeshEach", spec := "meshEach", unfollowed := true, recurses := true, apart := false, narrowed := true }
def MeshEachUptoSaid : Prop := meshEachUptoRow.holds Try.pinned (OpenSpec.upto meshEachSpec)

/-- 'almadrabalaw04.MeshRules', WHERE WHAT IT READS IS OF BULK AT MOST 1048576: true; the input reads as it did. -/
def meshRulesUptoRow : OpenClaim := { program := "ytekoplcnlhanbaa", sum := "3b937cf037119a884a00fabfe7bb0c97c6b89b163b3c5f926c23cb2ab7064100", func := "almadraba/almadrabalaw04.MeshRules", spec := "meshRules", unfollowed := true, recurses := true, apart := false, narrowed := true }
def MeshRulesUptoSaid : Prop := meshRulesUptoRow.holds Try.pinned (OpenSpec.upto meshRulesSpec)

/-- 'almadrabalaw04.MeshLess', WHERE WHAT IT READS IS OF BULK AT MOST 1048576: true; the input reads as it did. -/
def meshLessUptoRow : OpenClaim := { program := "ytekoplcnlhanbaa", sum := "3b937cf037119a884a00fabfe7bb0c97c6b89b163b3c5f926c23cb2ab7064100", func := "almadraba/almadrabalaw04.MeshLess", spec := "meshLess", unfollowed := true, recurses := true, apart := false, narrowed := true }
def MeshLessUptoSaid : Prop := meshLessUptoRow.holds Try.pinned (OpenSpec.upto meshLessSpec)

/-- 'almadrabalaw04.MeshFewer', WHERE WHAT IT READS IS OF BULK AT MOST 1048576: true; the input reads as it did. -/
def meshFewerUptoRow : OpenClaim := { program := "ytekoplcnlhanbaa", sum := "3b937cf037119a884a00fabfe7bb0c97c6b89b163b3c5f926c23cb2ab7064100", func := "almadraba/almadrabalaw04.MeshFewer", spec := "meshFewer", unfollowed := true, recurses := true, apart := false, narrowed := true }
def MeshFewerUptoSaid : Prop := meshFewerUptoRow.holds Try.pinned (OpenSpec.upto meshFewerSpec)

/-- 'almadrabalaw04.MeshRopes', WHERE WHAT IT READS IS OF BULK AT MOST 1048576: true; the input reads as it did. -/
def meshRopesUptoRow : OpenClaim := { program := "ytekoplcnlhanbaa", sum := "3b937cf037119a884a00fabfe7bb0c97c6b89b163b3c5f926c23cb2ab7064100", func := "almadraba/almadrabalaw04.MeshRopes", spec := "meshRopes", unfollowed := true, recurses := true, apart := false, narrowed := true }
def MeshRopesUptoSaid : Prop := meshRopesUptoRow.holds Try.pinned (OpenSpec.upto meshRopesSpec)

/-- 'almadrabalaw04.MeshRegret', WHERE WHAT IT READS IS OF BULK AT MOST 1048576: true; the input reads as it did. -/
def meshRegretUptoRow : OpenClaim := { program := "ytekoplcnlhanbaa", sum := "3b937cf037119a884a00fabfe7bb0c97c6b89b163b3c5f926c23cb2ab7064100", func := "almadraba/almadrabalaw04.MeshRegret", spec := "meshRegret", unfollowed := true, recurses := true, apart := false, narrowed := true }
def MeshRegretUptoSaid : Prop := meshRegretUptoRow.holds Try.pinned (OpenSpec.upto meshRegretSpec)

end Rows
end Go.Proofs.Ytekoplcnlhanbaa
