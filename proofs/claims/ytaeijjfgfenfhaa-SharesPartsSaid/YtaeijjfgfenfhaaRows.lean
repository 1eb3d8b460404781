/-
  No cell of these rows narrows 'for every input' (looked for: loops, veiled, ifaces, maps, wideKeys, modest, calm, conditions, laid).
  DERIVED. THE GIVEN ROWS OF THIS SEAT. 13 by the template 'for every input the law returns true; each argument reads behind the call as it read before'; 0 by the template 'total and deterministic' (their statements: YtaeijjfgfenfhaaTotals.lean).
  GIVEN WITH THE SEED: the statements are not yours to turn. If you find one false, say at which input.
  Laid BY PROGRAM, IN A SANDBOX (cutbox-rows.mjs): the forced cells as the released guide's own fill.sh prints them over the translation 37cccd7a4d08dd74… (all of the seat's roots in one cut). By AI agents, Wed Nov 11 2026. No macro, syntax, notation, axiom, sorry.
-/
import Derived.Test.YtaeijjfgfenfhaaChecked
import GoSem.Claim
import GoSem.ClaimJoined
import GoSem.ClaimMapViews
import Derived.JoinedTies
import Derived.KernelRfl
namespace Go.Proofs.Ytaeijjfgfenfhaa
/- THE CELL 'sum', in the pinned program and in every row, IS THE sha256 OF THE DUMP (.gsa) THAT YtaeijjfgfenfhaaProg.lean LOADS. Nothing in Lean hashes anything: it is a label: what it is worth is what the hold of that sum in a sandbox is worth. -/
noncomputable def Try.pinned : Pinned := { name := "ytaeijjfgfenfhaa", sum := "37cccd7a4d08dd74097a1422e172851d76d3ab05dfae35ef7f0a0c68efe45483", checked := Try.checked }
namespace Rows
def none {H : Type} : Left H := { results := [], args := [] }

/-- 'almadrabalaw10.SharesGets': WHATEVER THE INPUT: true; the input reads as it did. -/
def sharesGetsSpec : ChangeSpec := { name := "sharesGets", fn := fun _ => fun
  | [d1, d2, d3] => { results := [.lit (.bool true)], args := [d1, d2, d3] }
  | _ => none }
def sharesGetsRow : OpenClaim := { program := "ytaeijjfgfenfhaa", sum := "37cccd7a4d08dd74097a1422e172851d76d3ab05dfae35ef7f0a0c68efe45483", func := "almadraba/almadrabalaw10.SharesGets", spec := "sharesGets", unfollowed := true, recurses := true, apart := false }
def SharesGetsSaid : Prop := sharesGetsRow.holds Try.pinned (OpenSpec.ofChange sharesGetsSpec)

/-- ITS FALSE NEIGHBOUR: 'it returns false'. Refute it at one input. -/
def sharesGetsWrong : ChangeSpec := { name := "sharesGets", fn := fun _ => fun
  | [d1, d2, d3] => { results := [.lit (.bool false)], args := [d1, d2, d3] }
  | _ => none }
def SharesGetsWrongFalsely : Prop := sharesGetsRow.holds Try.pinned (OpenSpec.ofChange sharesGetsWrong)

/-- 'almadrabalaw10.SharesFrom': WHATEVER THE INPUT: true; the input reads as it did. -/
def sharesFromSpec : ChangeSpec := { name := "sharesFrom", fn := fun _ => fun
  | [d1, d2, d3] => { results := [.lit (.bool true)], args := [d1, d2, d3] }
  | _ => none }
def sharesFromRow : OpenClaim := { program := "ytaeijjfgfenfhaa", sum := "37cccd7a4d08dd74097a1422e172851d76d3ab05dfae35ef7f0a0c68efe45483", func := "almadraba/almadrabalaw10.SharesFrom", spec := "sharesFrom", unfollowed := true, recurses := true, apart := false }
def SharesFromSaid : Prop := sharesFromRow.holds Try.pinned (OpenSpec.ofChange sharesFromSpec)

/-- ITS FALSE NEIGHBOUR: 'it returns false'. Refute it at one input. -/
def sharesFromWrong : ChangeSpec := { name := "sharesFrom", fn := fun _ => fun
  | [d1, d2, d3] => { results := [.lit (.bool false)], args := [d1, d2, d3] }
  | _ => none }
def SharesFromWrongFalsely : Prop := sharesFromRow.holds Try.pinned (OpenSpec.ofChange sharesFromWrong)

/-- 'almadrabalaw10.SharesEnough': WHATEVER THE INPUT: true; the input reads as it did. -/
def sharesEnoughSpec : ChangeSpec := { name := "sharesEnough", fn := fun _ => fun
  | [d1, d2] => { results := [.lit (.bool true)], args := [d1, d2] }
  | _ => none }
def sharesEnoughRow : OpenClaim := { program := "ytaeijjfgfenfhaa", sum := "37cccd7a4d08dd74097a1422e172851d76d3ab05dfae35ef7f0a0c68efe45483", func := "almadraba/almadrabalaw10.SharesEnough", spec := "sharesEnough", unfollowed := true, recurses := true, apart := false }
def SharesEnoughSaid : Prop := sharesEnoughRow.holds Try.pinned (OpenSpec.ofChange sharesEnoughSpec)

/-- ITS FALSE NEIGHBOUR: 'it returns false'. Refute it at one input. -/
def sharesEnoughWrong : ChangeSpec := { name := "sharesEnough", fn := fun _ => fun
  | [d1, d2] => { results := [.lit (.bool false)], args := [d1, d2] }
  | _ => none }
def SharesEnoughWrongFalsely : Prop := sharesEnoughRow.holds Try.pinned (OpenSpec.ofChange sharesEnoughWrong)

/-- 'almadrabalaw10.SharesOld': WHATEVER THE INPUT: true; the input reads as it did. -/
def sharesOldSpec : ChangeSpec := { name := "sharesOld", fn := fun _ => fun
  | [d1, d2, d3] => { results := [.lit (.bool true)], args := [d1, d2, d3] }
  | _ => none }
def sharesOldRow : OpenClaim := { program := "ytaeijjfgfenfhaa", sum := "37cccd7a4d08dd74097a1422e172851d76d3ab05dfae35ef7f0a0c68efe45483", func := "almadraba/almadrabalaw10.SharesOld", spec := "sharesOld", unfollowed := true, recurses := true, apart := false }
def SharesOldSaid : Prop := sharesOldRow.holds Try.pinned (OpenSpec.ofChange sharesOldSpec)

/-- ITS FALSE NEIGHBOUR: 'it returns false'. Refute it at one input. -/
def sharesOldWrong : ChangeSpec := { name := "sharesOld", fn := fun _ => fun
  | [d1, d2, d3] => { results := [.lit (.bool false)], args := [d1, d2, d3] }
  | _ => none }
def SharesOldWrongFalsely : Prop := sharesOldRow.holds Try.pinned (OpenSpec.ofChange sharesOldWrong)

/-- 'almadrabalaw10.SharesOnce': WHATEVER THE INPUT: true; the input reads as it did. -/
def sharesOnceSpec : ChangeSpec := { name := "sharesOnce", fn := fun _ => fun
  | [d1, d2] => { results := [.lit (.bool true)], args := [d1, d2] }
  | _ => none }
def sharesOnceRow : OpenClaim := { program := "ytaeijjfgfenfhaa", sum := "37cccd7a4d08dd74097a1422e172851d76d3ab05dfae35ef7f0a0c68efe45483", func := "almadraba/almadrabalaw10.SharesOnce", spec := "sharesOnce", unfollowed := true, recurses := true, apart := false }
def SharesOnceSaid : Prop := sharesOnceRow.holds Try.pinned (OpenSpec.ofChange sharesOnceSpec)

/-- ITS FALSE NEIGHBOUR: 'it returns false'. Refute it at one input. -/
def sharesOnceWrong : ChangeSpec := { name := "sharesOnce", fn := fun _ => fun
  | [d1, d2] => { results := [.lit (.bool false)], args := [d1, d2] }
  | _ => none }
def SharesOnceWrongFalsely : Prop := sharesOnceRow.holds Try.pinned (OpenSpec.ofChange sharesOnceWrong)

/-- 'almadrabalaw10.SharesNear': WHATEVER THE INPUT: true; the input reads as it did. -/
def sharesNearSpec : ChangeSpec := { name := "sharesNear", fn := fun _ => fun
  | [d1, d2, d3] => { results := [.lit (.bool true)], args := [d1, d2, d3] }
  | _ => none }
def sharesNearRow : OpenClaim := { program := "ytaeijjfgfenfhaa", sum := "37cccd7a4d08dd74097a1422e172851d76d3ab05dfae35ef7f0a0c68efe45483", func := "almadraba/almadrabalaw10.SharesNear", spec := "sharesNear", unfollowed := true, recurses := true, apart := false }
def SharesNearSaid : Prop := sharesNearRow.holds Try.pinned (OpenSpec.ofChange sharesNearSpec)

/-- ITS FALSE NEIGHBOUR: 'it returns false'. Refute it at one input. -/
def sharesNearWrong : ChangeSpec := { name := "sharesNear", fn := fun _ => fun
  | [d1, d2, d3] => { results := [.lit (.bool false)], args := [d1, d2, d3] }
  | _ => none }
def SharesNearWrongFalsely : Prop := sharesNearRow.holds Try.pinned (OpenSpec.ofChange sharesNearWrong)

/-- 'almadrabalaw10.SharesPenny': WHATEVER THE INPUT: true; the input reads as it did. -/
def sharesPennySpec : ChangeSpec := { name := "sharesPenny", fn := fun _ => fun
  | [d1, d2] => { results := [.lit (.bool true)], args := [d1, d2] }
  | _ => none }
def sharesPennyRow : OpenClaim := { program := "ytaeijjfgfenfhaa", sum := "37cccd7a4d08dd74097a1422e172851d76d3ab05dfae35ef7f0a0c68efe45483", func := "almadraba/almadrabalaw10.SharesPenny", spec := "sharesPenny", unfollowed := true, recurses := true, apart := false }
def SharesPennySaid : Prop := sharesPennyRow.holds Try.pinned (OpenSpec.ofChange sharesPennySpec)

/-- ITS FALSE NEIGHBOUR: 'it returns false'. Refute it at one input. -/
def sharesPennyWrong : ChangeSpec := { name := "sharesPenny", fn := fun _ => fun
  | [d1, d2] => { results := [.lit (.bool false)], args := [d1, d2] }
  | _ => none }
def SharesPennyWrongFalsely : Prop := sharesPennyRow.holds Try.pinned (OpenSpec.ofChange sharesPennyWrong)

/-- 'almadrabalaw10.SharesFirst': WHATEVER THE INPUT: true; the input reads as it did. -/
def sharesFirstSpec : ChangeSpec := { name := "sharesFirst", fn := fun _ => fun
  | [d1, d2, d3] => { results := [.lit (.bool true)], args := [d1, d2, d3] }
  | _ => none }
def sharesFirstRow : OpenClaim := { program := "ytaeijjfgfenfhaa", sum := "37cccd7a4d08dd74097a1422e172851d76d3ab05dfae35ef7f0a0c68efe45483", func := "almadraba/almadrabalaw10.SharesFirst", spec := "sharesFirst", unfollowed := true, recurses := true, apart := false }
def SharesFirstSaid : Prop := sharesFirstRow.holds Try.pinned (OpenSpec.ofChange sharesFirstSpec)

/-- ITS FALSE NEIGHBOUR: 'it returns false'. Refute it at one input. -/
def sharesFirstWrong : ChangeSpec := { name := "sharesFirst", fn := fun _ => fun
  | [d1, d2, d3] => { results := [.lit (.bool false)], args := [d1, d2, d3] }
  | _ => none }
def SharesFirstWrongFalsely : Prop := sharesFirstRow.holds Try.pinned (OpenSpec.ofChange sharesFirstWrong)

/-- 'almadrabalaw10.SharesPays': WHATEVER THE INPUT: true; the input reads as it did. -/
def sharesPaysSpec : ChangeSpec := { name := "sharesPays", fn := fun _ => fun
  | [d1, d2, d3] => { results := [.lit (.bool true)], args := [d1, d2, d3] }
  | _ => none }
def sharesPaysRow : OpenClaim := { program := "ytaeijjfgfenfhaa", sum := "37cccd7a4d08dd74097a1422e172851d76d3ab05dfae35ef7f0a0c68efe45483", func := "almadraba/almadrabalaw10.SharesPays", spec := "sharesPays", unfollowed := true, recurses := true, apart := false }
def SharesPaysSaid : Prop := sharesPaysRow.holds Try.pinned (OpenSpec.ofChange sharesPaysSpec)

/-- ITS FALSE NEIGHBOUR: 'it returns false'. Refute it at one input. -/
def sharesPaysWrong : ChangeSpec := { name := "sharesPays", fn := fun _ => fun
  | [d1, d2, d3] => { results := [.lit (.bool false)], args := [d1, d2, d3] }
  | _ => none }
def SharesPaysWrongFalsely : Prop := sharesPaysRow.holds Try.pinned (OpenSpec.ofChange sharesPaysWrong)

/-- 'almadrabalaw10.SharesTimes': WHATEVER THE INPUT: true; the input reads as it did. -/
def sharesTimesSpec : ChangeSpec := { name := "sharesTimes", fn := fun _ => fun
  | [d1, d2] => { results := [.lit (.bool true)], args := [d1, d2] }
  | _ => none }
def sharesTimesRow : OpenClaim := { program := "ytaeijjfgfenfhaa", sum := "37cccd7a4d08dd74097a1422e172851d76d3ab05dfae35ef7f0a0c68efe45483", func := "almadraba/almadrabalaw10.SharesTimes", spec := "sharesTimes", unfollowed := true, recurses := true, apart := false }
def SharesTimesSaid : Prop := sharesTimesRow.holds Try.pinned (OpenSpec.ofChange sharesTimesSpec)

/-- ITS FALSE NEIGHBOUR: 'it returns false'. Refute it at one input. -/
def sharesTimesWrong : ChangeSpec := { name := "sharesTimes", fn := fun _ => fun
  | [d1, d2] => { results := [.lit (.bool false)], args := [d1, d2] }
  | _ => none }
def SharesTimesWrongFalsely : Prop := sharesTimesRow.holds Try.pinned (OpenSpec.ofChange sharesTimesWrong)

/-- 'almadrabalaw10.SharesLeast': WHATEVER THE INPUT: true; the input reads as it did. -/
def sharesLeastSpec : ChangeSpec := { name := "sharesLeast", fn := fun _ => fun
  | [d1, d2, d3] => { results := [.lit (.bool true)], args := [d1, d2, d3] }
  | _ => none }
def sharesLeastRow : OpenClaim := { program := "ytaeijjfgfenfhaa", sum := "37cccd7a4d08dd74097a1422e172851d76d3ab05dfae35ef7f0a0c68efe45483", func := "almadraba/almadrabalaw10.SharesLeast", spec := "sharesLeast", unfollowed := true, recurses := true, apart := false }
def SharesLeastSaid : Prop := sharesLeastRow.holds Try.pinned (OpenSpec.ofChange sharesLeastSpec)

/-- ITS FALSE NEIGHBOUR: 'it returns false'. Refute it at one input. -/
def sharesLeastWrong : ChangeSpec := { name := "sharesLeast", fn := fun _ => fun
  | [d1, d2, d3] => { results := [.lit (.bool false)], args := [d1, d2, d3] }
  | _ => none }
def SharesLeastWrongFalsely : Prop := sharesLeastRow.holds Try.pinned (OpenSpec.ofChange sharesLeastWrong)

/-- 'almadrabalaw10.SharesParts': WHATEVER THE INPUT: true; the input reads as it did. -/
def sharesPartsSpec : ChangeSpec := { name := "sharesParts", fn := fun _ => fun
  | [d1, d2] => { results := [.lit (.bool true)], args := [d1, d2] }
  | _ => none }
def sharesPartsRow : OpenClaim := { program := "ytaeijjfgfenfhaa", sum := "37cccd7a4d08dd74097a1422e172851d76d3ab05dfae35ef7f0a0c68efe45483", func := "almadraba/almadrabalaw10.SharesParts", spec := "sharesParts", unfollowed := true, recurses := true, apart := false }
def SharesPartsSaid : Prop := sharesPartsRow.holds Try.pinned (OpenSpec.ofChange sharesPartsSpec)

/-- ITS FALSE NEIGHBOUR: 'it returns false'. Refute it at one input. -/
def sharesPartsWrong : ChangeSpec := { name := "sharesParts", fn := fun _ => fun
  | [d1, d2] => { results := [.lit (.bool false)], args := [d1, d2] }
  | _ => none }
def SharesPartsWrongFalsely : Prop := sharesPartsRow.holds Try.pinned (OpenSpec.ofChange sharesPartsWrong)

/-- 'almadrabalaw10.SharesReach': WHATEVER THE INPUT: true; the input reads as it did. -/
def sharesReachSpec : ChangeSpec := { name := "sharesReach", fn := fun _ => fun
  | [d1, d2, d3] => { results := [.lit (.bool true)], args := [d1, d2, d3] }
  | _ => none }
def sharesReachRow : OpenClaim := { program := "ytaeijjfgfenfhaa", sum := "37cccd7a4d08dd74097a1422e172851d76d3ab05dfae35ef7f0a0c68efe45483", func := "almadraba/almadrabalaw10.SharesReach", spec := "sharesReach", unfollowed := true, recurses := true, apart := false }
def SharesReachSaid : Prop := sharesReachRow.holds Try.pinned (OpenSpec.ofChange sharesReachSpec)

/-- ITS FALSE NEIGHBOUR: 'it returns false'. Refute it at one input. -/
def sharesReachWrong : ChangeSpec := { name := "sharesReach", fn := fun _ => fun
  | [d1, d2, d3] => { results := [.lit (.bool false)], args := [d1, d2, d3] }
  | _ => none }
def SharesReachWrongFalsely : Prop := sharesReachRow.holds Try.pinned (OpenSpec.ofChange sharesReachWrong)

/- THE SECOND FORM. 'bulk': how many values and letters a reading holds, each counted each time it is reached (what is shared counts as often as it is met; a slice's spare places count too). A statement '..UptoSaid' is the law's where the arguments, and the package variables that the reading takes, are together of bulk at most 1048576: NARROWER than '..Said'. Prove '..Said' where nothing that the law and all that it calls make is longer than what came in: it says more and counts as full. Else prove '..UptoSaid'. A law counts once. -/
mutual
def uptoBulk {H : Type} : DataW H → Nat
  | .lit (.string bytes) => bytes.length + 1
  | .lit _ => 1
  | .nil => 1
  | .ptr d => uptoBulk d + 1
  | .slice elems spare => uptoBulkAll elems + uptoBulkAll spare + 1
  | .agg parts => uptoBulkAll parts + 1
  | .iface _ d => uptoBulk d + 1
  | .map entries => uptoBulkEntries entries + 1
  | .held _ => 1
def uptoBulkAll {H : Type} : List (DataW H) → Nat
  | [] => 0
  | d :: r => uptoBulk d + uptoBulkAll r
def uptoBulkEntries {H : Type} : List (Lit × DataW H) → Nat
  | [] => 0
  | x :: r => uptoBulkEntry x + uptoBulkEntries r
def uptoBulkEntry {H : Type} : Lit × DataW H → Nat
  | (.string bytes, d) => bytes.length + uptoBulk d + 1
  | (_, d) => uptoBulk d + 1
 end
def uptoSmall : (H : Type) → List (DataW H) → Bool := fun _ ds => decide (uptoBulkAll ds ≤ 1048576)
def OpenSpec.upto (s : _root_.Go.ChangeSpec) : _root_.Go.OpenSpec := { _root_.Go.OpenSpec.ofChange s with cond := some uptoSmall }

/-- 'almadrabalaw10.SharesGets', WHERE WHAT IT READS IS OF BULK AT MOST 1048576: true; the input reads as it did. -/
def sharesGetsUptoRow : OpenClaim := { program := "ytaeijjfgfenfhaa", sum := "37cccd7a4d08dd74097a1422e172851d76d3ab05dfae35ef7f0a0c68efe45483", func := "almadraba/almadrabalaw10.SharesGets", spec := "sharesGets", unfollowed := true, recurses := true, apart := false, narrowed := true }
def SharesGetsUptoSaid : Prop := sharesGetsUptoRow.holds Try.pinned (OpenSpec.upto sharesGetsSpec)

/-- 'almadrabalaw10.SharesFrom', WHERE WHAT IT READS IS OF BULK AT MOST 1048576: true; the input reads as it did. -/
def sharesFromUptoRow : OpenClaim := { program := "ytaeijjfgfenfhaa", sum := "37cccd7a4d08dd74097a1422e172851d76d3ab05dfae35ef7f0a0c68efe45483", func := "almadraba/almadrabalaw10.SharesFrom", spec := "sharesFrom", unfollowed := true, recurses := true, apart := false, narrowed := true }
def SharesFromUptoSaid : Prop := sharesFromUptoRow.holds Try.pinned (OpenSpec.upto sharesFromSpec)

/-- 'almadrabalaw10.SharesEnough', WHERE WHAT IT READS IS OF BULK AT MOST 1048576: true; the input reads as it did. -/
def sharesEnoughUptoRow : OpenClaim := { program := "ytaeijjfgfenfhaa", sum := "37cccd7a4d08dd74097a1422e172851d76d3ab05dfae35ef7f0a0c68efe45483", func := "almadraba/almadrabalaw10.SharesEnough", spec := "sharesEnough", unfollowed := true, recurses := true, apart := false, narrowed := true }
def SharesEnoughUptoSaid : Prop := sharesEnoughUptoRow.holds Try.pinned (OpenSpec.upto sharesEnoughSpec)

/-- 'almadrabalaw10.SharesOld', WHERE WHAT IT READS IS OF BULK AT MOST 1048576: true; the input reads as it did. -/
def sharesOldUptoRow : OpenClaim := { program := "ytaeijjfgfenfhaa", sum := "37cccd7a4d08dd74097a1422e172851d76d3ab05dfae35ef7f0a0c68efe45483", func := "almadraba/almadrabalaw10.SharesOld", spec := "sharesOld", unfollowed := true, recurses := true, apart := false, narrowed := true }
def SharesOldUptoSaid : Prop := sharesOldUptoRow.holds Try.pinned (OpenSpec.upto sharesOldSpec)

/-- 'almadrabalaw10.SharesOnce', WHERE WHAT IT READS IS OF BULK AT MOST 1048576: true; the input reads as it did. -/
def sharesOnceUptoRow : OpenClaim := { program := "ytaeijjfgfenfhaa", sum := "37cccd7a4d08dd74097a1422e172851d76d3ab05dfae35ef7f0a0c68efe45483", func := "almadraba/almadrabalaw10.SharesOnce", spec := "sharesOnce", unfollowed := true, recurses := true, apart := false, narrowed := true }
def SharesOnceUptoSaid : Prop := sharesOnceUptoRow.holds Try.pinned (OpenSpec.upto sharesOnceSpec)

/-- 'almadrabalaw10.SharesNear', WHERE WHAT IT READS IS OF BULK AT MOST 1048576: true; the input reads as it did. -/
def sharesNearUptoRow : OpenClaim := { program := "ytaeijjfgfenfhaa", sum := "37cccd7a4d08dd74097a1422e172851d76d3ab05dfae35ef7f0a0c68efe45483", func := "almadraba/almadrabalaw10.SharesNear", spec := "sharesNear", unfollowed := true, recurses := true, apart := false, narrowed := true }
def SharesNearUptoSaid : Prop := sharesNearUptoRow.holds Try.pinned (OpenSpec.upto sharesNearSpec)

/-- 'almadrabalaw10.SharesPenny', WHERE WHAT IT READS IS OF BULK AT MOST 1048576: true; the input reads as it did. -/
def sharesPennyUptoRow : OpenClaim := { program := "ytaeijjfgfenfhaa", sum := "37cccd7a4d08dd74097a1422e172851d76d3ab05dfae35ef7f0a0c68efe45483", func := "almadraba/almadrabalaw10.SharesPenny", spec := "sharesPenny", unfollowed := true, recurses := true, apart := false, narrowed := true }
def SharesPennyUptoSaid : Prop := sharesPennyUptoRow.holds Try.pinned (OpenSpec.upto sharesPennySpec)

/-- 'almadrabalaw10.SharesFirst', WHERE WHAT IT READS IS OF BULK AT MOST 1048576: true; the input reads as it did. -/
def sharesFirstUptoRow : OpenClaim := { program := "ytaeijjfgfenfhaa", sum := "37cccd7a4d08dd74097a1422e172851d76d3ab05dfae35ef7f0a0c68efe45483", func := "almadraba/almadrabalaw10.SharesFirst", spec := "sharesFirst", unfollowed := true, recurses := true, apart := false, narrowed := true }
def SharesFirstUptoSaid : Prop := sharesFirstUptoRow.holds Try.pinned (OpenSpec.upto sharesFirstSpec)

/-- 'almadrabalaw10.SharesPays', WHERE WHAT IT READS IS OF BULK AT MOST 1048576: true; the input reads as it did. -/
def sharesPaysUptoRow : OpenClaim := { program := "ytaeijjfgfenfhaa", sum := "37cccd7a4d08dd74097a1422e172851d76d3ab05dfae35ef7f0a0c68efe45483", func := "almadraba/almadrabalaw10.SharesPays", spec := "sharesPays", unfollowed := true, recurses := true, apart := false, narrowed := true }
def SharesPaysUptoSaid : Prop := sharesPaysUptoRow.holds Try.pinned (OpenSpec.upto sharesPaysSpec)

/-- 'almadrabalaw10.SharesTimes', WHERE WHAT IT READS IS OF BULK AT MOST 1048576: true; the input reads as it did. -/
def sharesTimesUptoRow : OpenClaim := { program := "ytaeijjfgfenfhaa", sum := "37cccd7a4d08dd74097a1422e172851d76d3ab05dfae35ef7f0a0c68efe45483", func := "almadraba/almadrabalaw10.SharesTimes", spec := "sharesTimes", unfollowed := true, recurses := true, apart := false, narrowed := true }
def SharesTimesUptoSaid : Prop := sharesTimesUptoRow.holds Try.pinned (OpenSpec.upto sharesTimesSpec)

/-- 'almadrabalaw10.SharesLeast', WHERE WHAT IT READS IS OF BULK AT MOST 1048576: true; the input reads as it did. -/
def sharesLeastUptoRow : OpenClaim := { program := "ytaeijjfgfenfhaa", sum := "37cccd7a4d08dd74097a1422e172851d76d3ab05dfae35ef7f0a0c68efe45483", func := "almadraba/almadrabalaw10.SharesLeast", spec := "sharesLeast", unfollowed := true, recurses := true, apart := false, narrowed := true }
def SharesLeastUptoSaid : Prop := sharesLeastUptoRow.holds Try.pinned (OpenSpec.upto sharesLeastSpec)

/-- 'almadrabalaw10.SharesParts', WHERE WHAT IT READS IS OF BULK AT MOST 1048576: true; the input reads as it did. -/
def sharesPartsUptoRow : OpenClaim := { program := "ytaeijjfgfenfhaa", sum := "37cccd7a4d08dd74097a1422e172851d76d3ab05dfae35ef7f0a0c68efe45483", func := "almadraba/almadrabalaw10.SharesParts", spec := "sharesParts", unfollowed := true, recurses := true, apart := false, narrowed := true }
def SharesPartsUptoSaid : Prop := sharesPartsUptoRow.holds Try.pinned (OpenSpec.upto sharesPartsSpec)

/-- 'almadrabalaw10.SharesReach', WHERE WHAT IT READS IS OF BULK AT MOST 1048576: true; the input reads as it did. -/
def sharesReachUptoRow : OpenClaim := { program := "ytaeijjfgfenfhaa", sum := "37cccd7a4d08dd74097a1422e172851d76d3ab05dfae35ef7f0a0c68efe45483", func := "almadraba/almadrabalaw10.SharesReach", spec := "sharesReach", unfollowed := true, recurses := true, apart := false, narrowed := true }
def SharesReachUptoSaid : Prop := sharesReachUptoRow.holds Try.pinned (OpenSpec.upto sharesReachSpec)

end Rows
end Go.Proofs.Ytaeijjfgfenfhaa
