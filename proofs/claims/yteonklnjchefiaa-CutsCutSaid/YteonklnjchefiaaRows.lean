/-
  No cell of these rows narrows 'for every input' (looked for: loops, veiled, ifaces, maps, wideKeys, modest, calm, conditions, laid).
  DERIVED. THE GIVEN ROWS OF THIS SEAT. 13 by the template 'for every input the law returns true; each argument reads behind the call as it read before'; 0 by the template 'total and deterministic' (their statements: YteonklnjchefiaaTotals.lean).
  GIVEN WITH THE SEED: the statements are not yours to turn. If you find one false, say at which input.
  Laid BY PROGRAM, IN A SANDBOX (cutbox-rows.mjs): the forced cells as the released guide's own fill.sh prints them over the translation 3893c64e8f79d4fa… (all of the seat's roots in one cut). By AI agents, Wed Nov 11 2026. No macro, syntax, notation, axiom, sorry.
-/
import Derived.Test.YteonklnjchefiaaChecked
import GoSem.Claim
import GoSem.ClaimJoined
import GoSem.ClaimMapViews
import Derived.JoinedTies
import Derived.KernelRfl
namespace Go.Proofs.Yteonklnjchefiaa
/- THE CELL 'sum', in the pinned program and in every row, IS THE sha256 OF THE DUMP (.gsa) THAT YteonklnjchefiaaProg.lean LOADS. Nothing in Lean hashes anything: it is a label: what it is worth is what the hold of that sum in a sandbox is worth. -/
noncomputable def Try.pinned : Pinned := { name := "yteonklnjchefiaa", sum := "3893c64e8f79d4fa56a988e4896c1fd147650c90f7c266fa4cc8d68613cc6737", checked := Try.checked }
namespace Rows
def none {H : Type} : Left H := { results := [], args := [] }

/-- 'almadrabalaw07.CutsEach': WHATEVER THE INPUT: true; the input reads as it did. -/
def cutsEachSpec : ChangeSpec := { name := "cutsEach", fn := fun _ => fun
  | [d1, d2, d3] => { results := [.lit (.bool true)], args := [d1, d2, d3] }
  | _ => none }
def cutsEachRow : OpenClaim := { program := "yteonklnjchefiaa", sum := "3893c64e8f79d4fa56a988e4896c1fd147650c90f7c266fa4cc8d68613cc6737", func := "almadraba/almadrabalaw07.CutsEach", spec := "cutsEach", unfollowed := true, recurses := true, apart := false }
def CutsEachSaid : Prop := cutsEachRow.holds Try.pinned (OpenSpec.ofChange cutsEachSpec)

/-- ITS FALSE NEIGHBOUR: 'it returns false'. Refute it at one input. -/
def cutsEachWrong : ChangeSpec := { name := "cutsEach", fn := fun _ => fun
  | [d1, d2, d3] => { results := [.lit (.bool false)], args := [d1, d2, d3] }
  | _ => none }
def CutsEachWrongFalsely : Prop := cutsEachRow.holds Try.pinned (OpenSpec.ofChange cutsEachWrong)

/-- 'almadrabalaw07.CutsEnds': WHATEVER THE INPUT: true; the input reads as it did. -/
def cutsEndsSpec : ChangeSpec := { name := "cutsEnds", fn := fun _ => fun
  | [d1, d2] => { results := [.lit (.bool true)], args := [d1, d2] }
  | _ => none }
def cutsEndsRow : OpenClaim := { program := "yteonklnjchefiaa", sum := "3893c64e8f79d4fa56a988e4896c1fd147650c90f7c266fa4cc8d68613cc6737", func := "almadraba/almadrabalaw07.CutsEnds", spec := "cutsEnds", unfollowed := true, recurses := true, apart := false }
def CutsEndsSaid : Prop := cutsEndsRow.holds Try.pinned (OpenSpec.ofChange cutsEndsSpec)

/-- ITS FALSE NEIGHBOUR: 'it returns false'. Refute it at one input. -/
def cutsEndsWrong : ChangeSpec := { name := "cutsEnds", fn := fun _ => fun
  | [d1, d2] => { results := [.lit (.bool false)], args := [d1, d2] }
  | _ => none }
def CutsEndsWrongFalsely : Prop := cutsEndsRow.holds Try.pinned (OpenSpec.ofChange cutsEndsWrong)

/-- 'almadrabalaw07.CutsClear': WHATEVER THE INPUT: true; the input reads as it did. -/
def cutsClearSpec : ChangeSpec := { name := "cutsClear", fn := fun _ => fun
  | [d1, d2] => { results := [.lit (.bool true)], args := [d1, d2] }
  | _ => none }
def cutsClearRow : OpenClaim := { program := "yteonklnjchefiaa", sum := "3893c64e8f79d4fa56a988e4896c1fd147650c90f7c266fa4cc8d68613cc6737", func := "almadraba/almadrabalaw07.CutsClear", spec := "cutsClear", unfollowed := true, recurses := true, apart := false }
def CutsClearSaid : Prop := cutsClearRow.holds Try.pinned (OpenSpec.ofChange cutsClearSpec)

/-- ITS FALSE NEIGHBOUR: 'it returns false'. Refute it at one input. -/
def cutsClearWrong : ChangeSpec := { name := "cutsClear", fn := fun _ => fun
  | [d1, d2] => { results := [.lit (.bool false)], args := [d1, d2] }
  | _ => none }
def CutsClearWrongFalsely : Prop := cutsClearRow.holds Try.pinned (OpenSpec.ofChange cutsClearWrong)

/-- 'almadrabalaw07.CutsChange': WHATEVER THE INPUT: true; the input reads as it did. -/
def cutsChangeSpec : ChangeSpec := { name := "cutsChange", fn := fun _ => fun
  | [d1, d2] => { results := [.lit (.bool true)], args := [d1, d2] }
  | _ => none }
def cutsChangeRow : OpenClaim := { program := "yteonklnjchefiaa", sum := "3893c64e8f79d4fa56a988e4896c1fd147650c90f7c266fa4cc8d68613cc6737", func := "almadraba/almadrabalaw07.CutsChange", spec := "cutsChange", unfollowed := true, recurses := true, apart := false }
def CutsChangeSaid : Prop := cutsChangeRow.holds Try.pinned (OpenSpec.ofChange cutsChangeSpec)

/-- ITS FALSE NEIGHBOUR: 'it returns false'. Refute it at one input. -/
def cutsChangeWrong : ChangeSpec := { name := "cutsChange", fn := fun _ => fun
  | [d1, d2] => { results := [.lit (.bool false)], args := [d1, d2] }
  | _ => none }
def CutsChangeWrongFalsely : Prop := cutsChangeRow.holds Try.pinned (OpenSpec.ofChange cutsChangeWrong)

/-- 'almadrabalaw07.CutsPound': WHATEVER THE INPUT: true; the input reads as it did. -/
def cutsPoundSpec : ChangeSpec := { name := "cutsPound", fn := fun _ => fun
  | [d1, d2] => { results := [.lit (.bool true)], args := [d1, d2] }
  | _ => none }
def cutsPoundRow : OpenClaim := { program := "yteonklnjchefiaa", sum := "3893c64e8f79d4fa56a988e4896c1fd147650c90f7c266fa4cc8d68613cc6737", func := "almadraba/almadrabalaw07.CutsPound", spec := "cutsPound", unfollowed := true, recurses := true, apart := false }
def CutsPoundSaid : Prop := cutsPoundRow.holds Try.pinned (OpenSpec.ofChange cutsPoundSpec)

/-- ITS FALSE NEIGHBOUR: 'it returns false'. Refute it at one input. -/
def cutsPoundWrong : ChangeSpec := { name := "cutsPound", fn := fun _ => fun
  | [d1, d2] => { results := [.lit (.bool false)], args := [d1, d2] }
  | _ => none }
def CutsPoundWrongFalsely : Prop := cutsPoundRow.holds Try.pinned (OpenSpec.ofChange cutsPoundWrong)

/-- 'almadrabalaw07.CutsChanged': WHATEVER THE INPUT: true; the input reads as it did. -/
def cutsChangedSpec : ChangeSpec := { name := "cutsChanged", fn := fun _ => fun
  | [d1, d2] => { results := [.lit (.bool true)], args := [d1, d2] }
  | _ => none }
def cutsChangedRow : OpenClaim := { program := "yteonklnjchefiaa", sum := "3893c64e8f79d4fa56a988e4896c1fd147650c90f7c266fa4cc8d68613cc6737", func := "almadraba/almadrabalaw07.CutsChanged", spec := "cutsChanged", unfollowed := true, recurses := true, apart := false }
def CutsChangedSaid : Prop := cutsChangedRow.holds Try.pinned (OpenSpec.ofChange cutsChangedSpec)

/-- ITS FALSE NEIGHBOUR: 'it returns false'. Refute it at one input. -/
def cutsChangedWrong : ChangeSpec := { name := "cutsChanged", fn := fun _ => fun
  | [d1, d2] => { results := [.lit (.bool false)], args := [d1, d2] }
  | _ => none }
def CutsChangedWrongFalsely : Prop := cutsChangedRow.holds Try.pinned (OpenSpec.ofChange cutsChangedWrong)

/-- 'almadrabalaw07.CutsBest': WHATEVER THE INPUT: true; the input reads as it did. -/
def cutsBestSpec : ChangeSpec := { name := "cutsBest", fn := fun _ => fun
  | [d1, d2, d3] => { results := [.lit (.bool true)], args := [d1, d2, d3] }
  | _ => none }
def cutsBestRow : OpenClaim := { program := "yteonklnjchefiaa", sum := "3893c64e8f79d4fa56a988e4896c1fd147650c90f7c266fa4cc8d68613cc6737", func := "almadraba/almadrabalaw07.CutsBest", spec := "cutsBest", unfollowed := true, recurses := true, apart := false }
def CutsBestSaid : Prop := cutsBestRow.holds Try.pinned (OpenSpec.ofChange cutsBestSpec)

/-- ITS FALSE NEIGHBOUR: 'it returns false'. Refute it at one input. -/
def cutsBestWrong : ChangeSpec := { name := "cutsBest", fn := fun _ => fun
  | [d1, d2, d3] => { results := [.lit (.bool false)], args := [d1, d2, d3] }
  | _ => none }
def CutsBestWrongFalsely : Prop := cutsBestRow.holds Try.pinned (OpenSpec.ofChange cutsBestWrong)

/-- 'almadrabalaw07.CutsBeside': WHATEVER THE INPUT: true; the input reads as it did. -/
def cutsBesideSpec : ChangeSpec := { name := "cutsBeside", fn := fun _ => fun
  | [d1, d2, d3] => { results := [.lit (.bool true)], args := [d1, d2, d3] }
  | _ => none }
def cutsBesideRow : OpenClaim := { program := "yteonklnjchefiaa", sum := "3893c64e8f79d4fa56a988e4896c1fd147650c90f7c266fa4cc8d68613cc6737", func := "almadraba/almadrabalaw07.CutsBeside", spec := "cutsBeside", unfollowed := true, recurses := true, apart := false }
def CutsBesideSaid : Prop := cutsBesideRow.holds Try.pinned (OpenSpec.ofChange cutsBesideSpec)

/-- ITS FALSE NEIGHBOUR: 'it returns false'. Refute it at one input. -/
def cutsBesideWrong : ChangeSpec := { name := "cutsBeside", fn := fun _ => fun
  | [d1, d2, d3] => { results := [.lit (.bool false)], args := [d1, d2, d3] }
  | _ => none }
def CutsBesideWrongFalsely : Prop := cutsBesideRow.holds Try.pinned (OpenSpec.ofChange cutsBesideWrong)

/-- 'almadrabalaw07.CutsTwice': WHATEVER THE INPUT: true; the input reads as it did. -/
def cutsTwiceSpec : ChangeSpec := { name := "cutsTwice", fn := fun _ => fun
  | [d1, d2] => { results := [.lit (.bool true)], args := [d1, d2] }
  | _ => none }
def cutsTwiceRow : OpenClaim := { program := "yteonklnjchefiaa", sum := "3893c64e8f79d4fa56a988e4896c1fd147650c90f7c266fa4cc8d68613cc6737", func := "almadraba/almadrabalaw07.CutsTwice", spec := "cutsTwice", unfollowed := true, recurses := true, apart := false }
def CutsTwiceSaid : Prop := cutsTwiceRow.holds Try.pinned (OpenSpec.ofChange cutsTwiceSpec)

/-- ITS FALSE NEIGHBOUR: 'it returns false'. Refute it at one input. -/
def cutsTwiceWrong : ChangeSpec := { name := "cutsTwice", fn := fun _ => fun
  | [d1, d2] => { results := [.lit (.bool false)], args := [d1, d2] }
  | _ => none }
def CutsTwiceWrongFalsely : Prop := cutsTwiceRow.holds Try.pinned (OpenSpec.ofChange cutsTwiceWrong)

/-- 'almadrabalaw07.CutsHolds': WHATEVER THE INPUT: true; the input reads as it did. -/
def cutsHoldsSpec : ChangeSpec := { name := "cutsHolds", fn := fun _ => fun
  | [d1, d2, d3] => { results := [.lit (.bool true)], args := [d1, d2, d3] }
  | _ => none }
def cutsHoldsRow : OpenClaim := { program := "yteonklnjchefiaa", sum := "3893c64e8f79d4fa56a988e4896c1fd147650c90f7c266fa4cc8d68613cc6737", func := "almadraba/almadrabalaw07.CutsHolds", spec := "cutsHolds", unfollowed := true, recurses := true, apart := false }
def CutsHoldsSaid : Prop := cutsHoldsRow.holds Try.pinned (OpenSpec.ofChange cutsHoldsSpec)

/-- ITS FALSE NEIGHBOUR: 'it returns false'. Refute it at one input. -/
def cutsHoldsWrong : ChangeSpec := { name := "cutsHolds", fn := fun _ => fun
  | [d1, d2, d3] => { results := [.lit (.bool false)], args := [d1, d2, d3] }
  | _ => none }
def CutsHoldsWrongFalsely : Prop := cutsHoldsRow.holds Try.pinned (OpenSpec.ofChange cutsHoldsWrong)

/-- 'almadrabalaw07.CutsFix': WHATEVER THE INPUT: true; the input reads as it did. -/
def cutsFixSpec : ChangeSpec := { name := "cutsFix", fn := fun _ => fun
  | [d1, d2] => { results := [.lit (.bool true)], args := [d1, d2] }
  | _ => none }
def cutsFixRow : OpenClaim := { program := "yteonklnjchefiaa", sum := "3893c64e8f79d4fa56a988e4896c1fd147650c90f7c266fa4cc8d68613cc6737", func := "almadraba/almadrabalaw07.CutsFix", spec := "cutsFix", unfollowed := true, recurses := true, apart := false }
def CutsFixSaid : Prop := cutsFixRow.holds Try.pinned (OpenSpec.ofChange cutsFixSpec)

/-- ITS FALSE NEIGHBOUR: 'it returns false'. Refute it at one input. -/
def cutsFixWrong : ChangeSpec := { name := "cutsFix", fn := fun _ => fun
  | [d1, d2] => { results := [.lit (.bool false)], args := [d1, d2] }
  | _ => none }
def CutsFixWrongFalsely : Prop := cutsFixRow.holds Try.pinned (OpenSpec.ofChange cutsFixWrong)

/-- 'almadrabalaw07.CutsPrice': WHATEVER THE INPUT: true; the input reads as it did. -/
def cutsPriceSpec : ChangeSpec := { name := "cutsPrice", fn := fun _ => fun
  | [d1, d2, d3] => { results := [.lit (.bool true)], args := [d1, d2, d3] }
  | _ => none }
def cutsPriceRow : OpenClaim := { program := "yteonklnjchefiaa", sum := "3893c64e8f79d4fa56a988e4896c1fd147650c90f7c266fa4cc8d68613cc6737", func := "almadraba/almadrabalaw07.CutsPrice", spec := "cutsPrice", unfollowed := true, recurses := true, apart := false }
def CutsPriceSaid : Prop := cutsPriceRow.holds Try.pinned (OpenSpec.ofChange cutsPriceSpec)

/-- ITS FALSE NEIGHBOUR: 'it returns false'. Refute it at one input. -/
def cutsPriceWrong : ChangeSpec := { name := "cutsPrice", fn := fun _ => fun
  | [d1, d2, d3] => { results := [.lit (.bool false)], args := [d1, d2, d3] }
  | _ => none }
def CutsPriceWrongFalsely : Prop := cutsPriceRow.holds Try.pinned (OpenSpec.ofChange cutsPriceWrong)

/-- 'almadrabalaw07.CutsCut': WHATEVER THE INPUT: true; the input reads as it did. -/
def cutsCutSpec : ChangeSpec := { name := "cutsCut", fn := fun _ => fun
  | [d1, d2] => { results := [.lit (.bool true)], args := [d1, d2] }
  | _ => none }
def cutsCutRow : OpenClaim := { program := "yteonklnjchefiaa", sum := "3893c64e8f79d4fa56a988e4896c1fd147650c90f7c266fa4cc8d68613cc6737", func := "almadraba/almadrabalaw07.CutsCut", spec := "cutsCut", unfollowed := true, recurses := true, apart := false }
def CutsCutSaid : Prop := cutsCutRow.holds Try.pinned (OpenSpec.ofChange cutsCutSpec)

/-- ITS FALSE NEIGHBOUR: 'it returns false'. Refute it at one input. -/
def cutsCutWrong : ChangeSpec := { name := "cutsCut", fn := fun _ => fun
  | [d1, d2] => { results := [.lit (.bool false)], args := [d1, d2] }
  | _ => none }
def CutsCutWrongFalsely : Prop := cutsCutRow.holds Try.pinned (OpenSpec.ofChange cutsCutWrong)

/- THE SECOND FORM. 'bulk': how many values and letters a reading holds, each counted each time it is reached (what is shared counts as often as it is met; a slice's spare places count too). A statement '..UptoSaid' is the law's where the arguments, and the package variables that the reading takes, are together of bulk at most 1048576: NARROWER than '..Said'. Prove '..Said' where nothing that the law and all that it calls make is longer than what came in: it says more and counts as full. Else prove '..UptoSaid'. A law counts once. -/
mutual
def uptoBulk {H : Type} : DataW H → Nat
  | .lit (.string bytes) => bytes.length + 1
  | .lit _ => 1
  | .nil => 1
  | .ptr d => uptoBulk d + 1
  | .slice elems spare => uptoBulkAll elems + uptoBulkAll spare + 1
  | .agg parts => uptoBulkAll parts + 1
  | .iface _ d => uptoBulk d + 1
  | .map entries => uptoBulkEntries entries + 1
  | .held _ => 1
def uptoBulkAll {H : Type} : List (DataW H) → Nat
  | [] => 0
  | d :: r => uptoBulk d + uptoBulkAll r
def uptoBulkEntries {H : Type} : List (Lit × DataW H) → Nat
  | [] => 0
  | x :: r => uptoBulkEntry x + uptoBulkEntries r
def uptoBulkEntry {H : Type} : Lit × DataW H → Nat
  | (.string bytes, d) => bytes.length + uptoBulk d + 1
  | (_, d) => uptoBulk d + 1
 end
def uptoSmall : (H : Type) → List (DataW H) → Bool := fun _ ds => decide (uptoBulkAll ds ≤ 1048576)
def OpenSpec.upto (s : _root_.Go.ChangeSpec) : _root_.Go.OpenSpec := { _root_.Go.OpenSpec.ofChange s with cond := some uptoSmall }

/-- 'almadrabalaw07.CutsEach', WHERE WHAT IT READS IS OF BULK AT MOST 1048576: true; the input reads as it did. -/
def cutsEachUptoRow : OpenClaim := { program := "yteonklnjchefiaa", sum := "3893c64e8f79d4fa56a988e4896c1fd147650c90f7c266fa4cc8d68613cc6737", func := "almadraba/almadrabalaw07.CutsEach", spec := "cutsEach", unfollowed := true, recurses := true, apart := false, narrowed := true }
def CutsEachUptoSaid : Prop := cutsEachUptoRow.holds Try.pinned (OpenSpec.upto cutsEachSpec)

/-- 'almadrabalaw07.CutsEnds', WHERE WHAT IT READS IS OF BULK AT MOST 1048576: true; the input reads as it did. -/
def cutsEndsUptoRow : OpenClaim := { program := "yteonklnjchefiaa", sum := "3893c64e8f79d4fa56a988e4896c1fd147650c90f7c266fa4cc8d68613cc6737", func := "almadraba/almadrabalaw07.CutsEnds", spec := "cutsEnds", unfollowed := true, recurses := true, apart := false, narrowed := true }
def CutsEndsUptoSaid : Prop := cutsEndsUptoRow.holds Try.pinned (OpenSpec.upto cutsEndsSpec)

/-- 'almadrabalaw07.CutsClear', WHERE WHAT IT READS IS OF BULK AT MOST 1048576: true; the input reads as it did. -/
def cutsClearUptoRow : OpenClaim := { program := "yteonklnjchefiaa", sum := "3893c64e8f79d4fa56a988e4896c1fd147650c90f7c266fa4cc8d68613cc6737", func := "almadraba/almadrabalaw07.CutsClear", spec := "cutsClear", unfollowed := true, recurses := true, apart := false, narrowed := true }
def CutsClearUptoSaid : Prop := cutsClearUptoRow.holds Try.pinned (OpenSpec.upto cutsClearSpec)

/-- 'almadrabalaw07.CutsChange', WHERE WHAT IT READS IS OF BULK AT MOST 1048576: true; the input reads as it did. -/
def cutsChangeUptoRow : OpenClaim := { program := "yteonklnjchefiaa", sum := "3893c64e8f79d4fa56a988e4896c1fd147650c90f7c266fa4cc8d68613cc6737", func := "almadraba/almadrabalaw07.CutsChange", spec := "cutsChange", unfollowed := true, recurses := true, apart := false, narrowed := true }
def CutsChangeUptoSaid : Prop := cutsChangeUptoRow.holds Try.pinned (OpenSpec.upto cutsChangeSpec)

/-- 'almadrabalaw07.CutsPound', WHERE WHAT IT READS IS OF BULK AT MOST 1048576: true; the input reads as it did. -/
def cutsPoundUptoRow : OpenClaim := { program := "yteonklnjchefiaa", sum := "3893c64e8f79d4fa56a988e4896c1fd147650c90f7c266fa4cc8d68613cc6737", func := "almadraba/almadrabalaw07.CutsPound", spec := "cutsPound", unfollowed := true, recurses := true, apart := false, narrowed := true }
def CutsPoundUptoSaid : Prop := cutsPoundUptoRow.holds Try.pinned (OpenSpec.upto cutsPoundSpec)

/-- 'almadrabalaw07.CutsChanged', WHERE WHAT IT READS IS OF BULK AT MOST 1048576: true; the input reads as it did. -/
def cutsChangedUptoRow : OpenClaim := { program := "yteonklnjchefiaa", sum := "3893c64e8f79d4fa56a988e4896c1fd147650c90f7c266fa4cc8d68613cc6737", func := "almadraba/almadrabalaw07.CutsChanged", spec := "cutsChanged", unfollowed := true, recurses := true, apart := false, narrowed := true }
def CutsChangedUptoSaid : Prop := cutsChangedUptoRow.holds Try.pinned (OpenSpec.upto cutsChangedSpec)

/-- 'almadrabalaw07.CutsBest', WHERE WHAT IT READS IS OF BULK AT MOST 1048576: true; the input reads as it did. -/
def cutsBestUptoRow : OpenClaim := { program := "yteonklnjchefiaa", sum := "3893c64e8f79d4fa56a988e4896c1fd147650c90f7c266fa4cc8d68613cc6737", func := "almadraba/almadrabalaw07.CutsBest", spec := "cutsBest", unfollowed := true, recurses := true, apart := false, narrowed := true }
def CutsBestUptoSaid : Prop := cutsBestUptoRow.holds Try.pinned (OpenSpec.upto cutsBestSpec)

/-- 'almadrabalaw07.CutsBeside', WHERE WHAT IT READS IS OF BULK AT MOST 1048576: true; the input reads as it did. -/
def cutsBesideUptoRow : OpenClaim := { program := "yteonklnjchefiaa", sum := "3893c64e8f79d4fa56a988e4896c1fd147650c90f7c266fa4cc8d68613cc6737", func := "almadraba/almadrabalaw07.CutsBeside", spec := "cutsBeside", unfollowed := true, recurses := true, apart := false, narrowed := true }
def CutsBesideUptoSaid : Prop := cutsBesideUptoRow.holds Try.pinned (OpenSpec.upto cutsBesideSpec)

/-- 'almadrabalaw07.CutsTwice', WHERE WHAT IT READS IS OF BULK AT MOST 1048576: true; the input reads as it did. -/
def cutsTwiceUptoRow : OpenClaim := { program := "yteonklnjchefiaa", sum := "3893c64e8f79d4fa56a988e4896c1fd147650c90f7c266fa4cc8d68613cc6737", func := "almadraba/almadrabalaw07.CutsTwice", spec := "cutsTwice", unfollowed := true, recurses := true, apart := false, narrowed := true }
def CutsTwiceUptoSaid : Prop := cutsTwiceUptoRow.holds Try.pinned (OpenSpec.upto cutsTwiceSpec)

/-- 'almadrabalaw07.CutsHolds', WHERE WHAT IT READS IS OF BULK AT MOST 1048576: true; the input reads as it did. -/
def cutsHoldsUptoRow : OpenClaim := { program := "yteonklnjchefiaa", sum := "3893c64e8f79d4fa56a988e4896c1fd147650c90f7c266fa4cc8d68613cc6737", func := "almadraba/almadrabalaw07.CutsHolds", spec := "cutsHolds", unfollowed := true, recurses := true, apart := false, narrowed := true }
def CutsHoldsUptoSaid : Prop := cutsHoldsUptoRow.holds Try.pinned (OpenSpec.upto cutsHoldsSpec)

/-- 'almadrabalaw07.CutsFix', WHERE WHAT IT READS IS OF BULK AT MOST 1048576: true; the input reads as it did. -/
def cutsFixUptoRow : OpenClaim := { program := "yteonklnjchefiaa", sum := "3893c64e8f79d4fa56a988e4896c1fd147650c90f7c266fa4cc8d68613cc6737", func := "almadraba/almadrabalaw07.CutsFix", spec := "cutsFix", unfollowed := true, recurses := true, apart := false, narrowed := true }
def CutsFixUptoSaid : Prop := cutsFixUptoRow.holds Try.pinned (OpenSpec.upto cutsFixSpec)

/-- 'almadrabalaw07.CutsPrice', WHERE WHAT IT READS IS OF BULK AT MOST 1048576: true; the input reads as it did. -/
def cutsPriceUptoRow : OpenClaim := { program := "yteonklnjchefiaa", sum := "3893c64e8f79d4fa56a988e4896c1fd147650c90f7c266fa4cc8d68613cc6737", func := "almadraba/almadrabalaw07.CutsPrice", spec := "cutsPrice", unfollowed := true, recurses := true, apart := false, narrowed := true }
def CutsPriceUptoSaid : Prop := cutsPriceUptoRow.holds Try.pinned (OpenSpec.upto cutsPriceSpec)

/-- 'almadrabalaw07.CutsCut', WHERE WHAT IT READS IS OF BULK AT MOST 1048576: true; the input reads as it did. -/
def cutsCutUptoRow : OpenClaim := { program := "yteonklnjchefiaa", sum := "3893c64e8f79d4fa56a988e4896c1fd147650c90f7c266fa4cc8d68613cc6737", func := "almadraba/almadrabalaw07.CutsCut", spec := "cutsCut", unfollowed := true, recurses := true, apart := false, narrowed := true }
def CutsCutUptoSaid : Prop := cutsCutUptoRow.holds Try.pinned (OpenSpec.upto cutsCutSpec)

end Rows
end Go.Proofs.Yteonklnjchefiaa
