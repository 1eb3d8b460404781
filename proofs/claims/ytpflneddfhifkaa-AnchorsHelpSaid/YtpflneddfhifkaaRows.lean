/-
  No cell of these rows narrows 'for every input' (looked for: loops, veiled, ifaces, maps, wideKeys, modest, calm, conditions, laid).
  DERIVED. THE GIVEN ROWS OF THIS SEAT. 12 by the template 'for every input the law returns true; each argument reads behind the call as it read before'; 0 by the template 'total and deterministic' (their statements: YtpflneddfhifkaaTotals.lean).
  GIVEN WITH THE SEED: the statements are not yours to turn. If you find one false, say at which input.
  Laid BY PROGRAM, IN A SANDBOX (cutbox-rows.mjs): the forced cells as the released guide's own fill.sh prints them over the translation a92227c0b11ba73b… (all of the seat's roots in one cut). By AI agents, Wed Nov 11 2026. No macro, syntax, notation, axiom, sorry.
-/
import Derived.Test.YtpflneddfhifkaaChecked
import GoSem.Claim
import GoSem.ClaimJoined
import GoSem.ClaimMapViews
import Derived.JoinedTies
import Derived.KernelRfl
namespace Go.Proofs.Ytpflneddfhifkaa
/- THE CELL 'sum', in the pinned program and in every row, IS THE sha256 OF THE DUMP (.gsa) THAT YtpflneddfhifkaaProg.lean LOADS. Nothing in Lean hashes anything: it is a label: what it is worth is what the hold of that sum in a sandbox is worth. -/
noncomputable def Try.pinned : Pinned := { name := "ytpflneddfhifkaa", sum := "a92227c0b11ba73bf5dd129576b7fc957ebf540f6f776e6d5a40b0692546b3ab", checked := Try.checked }
namespace Rows
def none {H : Type} : Left H := { results := [], args := [] }

/-- 'almadrabalaw02.AnchorsLoad': WHATEVER THE INPUT: true; the input reads as it did. -/
def anchorsLoadSpec : ChangeSpec := { name := "anchorsLoad", fn := fun _ => fun
  | [d1, d2] => { results := [.lit (.bool true)], args := [d1, d2] }
  | _ => none }
def anchorsLoadRow : OpenClaim := { program := "ytpflneddfhifkaa", sum := "a92227c0b11ba73bf5dd129576b7fc957ebf540f6f776e6d5a40b0692546b3ab", func := "almadraba/almadrabalaw02.AnchorsLoad", spec := "anchorsLoad", unfollowed := true, recurses := true, apart := false }
def AnchorsLoadSaid : Prop := anchorsLoadRow.holds Try.pinned (OpenSpec.ofChange anchorsLoadSpec)

/-- ITS FALSE NEIGHBOUR: 'it returns false'. Refute it at one input. -/
def anchorsLoadWrong : ChangeSpec := { name := "anchorsLoad", fn := fun _ => fun
  | [d1, d2] => { results := [.lit (.bool false)], args := [d1, d2] }
  | _ => none }
def AnchorsLoadWrongFalsely : Prop := anchorsLoadRow.holds Try.pinned (OpenSpec.ofChange anchorsLoadWrong)

/-- 'almadrabalaw02.AnchorsDrags': WHATEVER THE INPUT: true; the input reads as it did. -/
def anchorsDragsSpec : ChangeSpec := { name := "anchorsDrags", fn := fun _ => fun
  | [d1, d2, d3] => { results := [.lit (.bool true)], args := [d1, d2, d3] }
  | _ => none }
def anchorsDragsRow : OpenClaim := { program := "ytpflneddfhifkaa", sum := "a92227c0b11ba73bf5dd129576b7fc957ebf540f6f776e6d5a40b0692546b3ab", func := "almadraba/almadrabalaw02.AnchorsDrags", spec := "anchorsDrags", unfollowed := true, recurses := true, apart := false }
def AnchorsDragsSaid : Prop := anchorsDragsRow.holds Try.pinned (OpenSpec.ofChange anchorsDragsSpec)

/-- ITS FALSE NEIGHBOUR: 'it returns false'. Refute it at one input. -/
def anchorsDragsWrong : ChangeSpec := { name := "anchorsDrags", fn := fun _ => fun
  | [d1, d2, d3] => { results := [.lit (.bool false)], args := [d1, d2, d3] }
  | _ => none }
def AnchorsDragsWrongFalsely : Prop := anchorsDragsRow.holds Try.pinned (OpenSpec.ofChange anchorsDragsWrong)

/-- 'almadrabalaw02.AnchorsKnown': WHATEVER THE INPUT: true; the input reads as it did. -/
def anchorsKnownSpec : ChangeSpec := { name := "anchorsKnown", fn := fun _ => fun
  | [d1, d2] => { results := [.lit (.bool true)], args := [d1, d2] }
  | _ => none }
def anchorsKnownRow : OpenClaim := { program := "ytpflneddfhifkaa", sum := "a92227c0b11ba73bf5dd129576b7fc957ebf540f6f776e6d5a40b0692546b3ab", func := "almadraba/almadrabalaw02.AnchorsKnown", spec := "anchorsKnown", unfollowed := true, recurses := true, apart := false }
def AnchorsKnownSaid : Prop := anchorsKnownRow.holds Try.pinned (OpenSpec.ofChange anchorsKnownSpec)

/-- ITS FALSE NEIGHBOUR: 'it returns false'. Refute it at one input. -/
def anchorsKnownWrong : ChangeSpec := { name := "anchorsKnown", fn := fun _ => fun
  | [d1, d2] => { results := [.lit (.bool false)], args := [d1, d2] }
  | _ => none }
def AnchorsKnownWrongFalsely : Prop := anchorsKnownRow.holds Try.pinned (OpenSpec.ofChange anchorsKnownWrong)

/-- 'almadrabalaw02.AnchorsWind': WHATEVER THE INPUT: true; the input reads as it did. -/
def anchorsWindSpec : ChangeSpec := { name := "anchorsWind", fn := fun _ => fun
  | [d] => { results := [.lit (.bool true)], args := [d] }
  | _ => none }
def anchorsWindRow : OpenClaim := { program := "ytpflneddfhifkaa", sum := "a92227c0b11ba73bf5dd129576b7fc957ebf540f6f776e6d5a40b0692546b3ab", func := "almadraba/almadrabalaw02.AnchorsWind", spec := "anchorsWind", unfollowed := true, recurses := true, apart := false }
def AnchorsWindSaid : Prop := anchorsWindRow.holds Try.pinned (OpenSpec.ofChange anchorsWindSpec)

/-- ITS FALSE NEIGHBOUR: 'it returns false'. Refute it at one input. -/
def anchorsWindWrong : ChangeSpec := { name := "anchorsWind", fn := fun _ => fun
  | [d] => { results := [.lit (.bool false)], args := [d] }
  | _ => none }
def AnchorsWindWrongFalsely : Prop := anchorsWindRow.holds Try.pinned (OpenSpec.ofChange anchorsWindWrong)

/-- 'almadrabalaw02.AnchorsHelp': WHATEVER THE INPUT: true; the input reads as it did. -/
def anchorsHelpSpec : ChangeSpec := { name := "anchorsHelp", fn := fun _ => fun
  | [d] => { results := [.lit (.bool true)], args := [d] }
  | _ => none }
def anchorsHelpRow : OpenClaim := { program := "ytpflneddfhifkaa", sum := "a92227c0b11ba73bf5dd129576b7fc957ebf540f6f776e6d5a40b0692546b3ab", func := "almadraba/almadrabalaw02.AnchorsHelp", spec := "anchorsHelp", unfollowed := true, recurses := true, apart := false }
def AnchorsHelpSaid : Prop := anchorsHelpRow.holds Try.pinned (OpenSpec.ofChange anchorsHelpSpec)

/-- ITS FALSE NEIGHBOUR: 'it returns false'. Refute it at one input. -/
def anchorsHelpWrong : ChangeSpec := { name := "anchorsHelp", fn := fun _ => fun
  | [d] => { results := [.lit (.bool false)], args := [d] }
  | _ => none }
def AnchorsHelpWrongFalsely : Prop := anchorsHelpRow.holds Try.pinned (OpenSpec.ofChange anchorsHelpWrong)

/-- 'almadrabalaw02.AnchorsEach': WHATEVER THE INPUT: true; the input reads as it did. -/
def anchorsEachSpec : ChangeSpec := { name := "anchorsEach", fn := fun _ => fun
  | [d1, d2] => { results := [.lit (.bool true)], args := [d1, d2] }
  | _ => none }
def anchorsEachRow : OpenClaim := { program := "ytpflneddfhifkaa", sum := "a92227c0b11ba73bf5dd129576b7fc957ebf540f6f776e6d5a40b0692546b3ab", func := "almadraba/almadrabalaw02.AnchorsEach", spec := "anchorsEach", unfollowed := true, recurses := true, apart := false }
def AnchorsEachSaid : Prop := anchorsEachRow.holds Try.pinned (OpenSpec.ofChange anchorsEachSpec)

/-- ITS FALSE NEIGHBOUR: 'it returns false'. Refute it at one input. -/
def anchorsEachWrong : ChangeSpec := { name := "anchorsEach", fn := fun _ => fun
  | [d1, d2] => { results := [.lit (.bool false)], args := [d1, d2] }
  | _ => none }
def AnchorsEachWrongFalsely : Prop := anchorsEachRow.holds Try.pinned (OpenSpec.ofChange anchorsEachWrong)

/-- 'almadrabalaw02.AnchorsCalmer': WHATEVER THE INPUT: true; the input reads as it did. -/
def anchorsCalmerSpec : ChangeSpec := { name := "anchorsCalmer", fn := fun _ => fun
  | [d1, d2, d3] => { results := [.lit (.bool true)], args := [d1, d2, d3] }
  | _ => none }
def anchorsCalmerRow : OpenClaim := { program := "ytpflneddfhifkaa", sum := "a92227c0b11ba73bf5dd129576b7fc957ebf540f6f776e6d5a40b0692546b3ab", func := "almadraba/almadrabalaw02.AnchorsCalmer", spec := "anchorsCalmer", unfollowed := true, recurses := true, apart := false }
def AnchorsCalmerSaid : Prop := anchorsCalmerRow.holds Try.pinned (OpenSpec.ofChange anchorsCalmerSpec)

/-- ITS FALSE NEIGHBOUR: 'it returns false'. Refute it at one input. -/
def anchorsCalmerWrong : ChangeSpec := { name := "anchorsCalmer", fn := fun _ => fun
  | [d1, d2, d3] => { results := [.lit (.bool false)], args := [d1, d2, d3] }
  | _ => none }
def AnchorsCalmerWrongFalsely : Prop := anchorsCalmerRow.holds Try.pinned (OpenSpec.ofChange anchorsCalmerWrong)

/-- 'almadrabalaw02.AnchorsHeavier': WHATEVER THE INPUT: true; the input reads as it did. -/
def anchorsHeavierSpec : ChangeSpec := { name := "anchorsHeavier", fn := fun _ => fun
  | [d1, d2, d3] => { results := [.lit (.bool true)], args := [d1, d2, d3] }
  | _ => none }
def anchorsHeavierRow : OpenClaim := { program := "ytpflneddfhifkaa", sum := "a92227c0b11ba73bf5dd129576b7fc957ebf540f6f776e6d5a40b0692546b3ab", func := "almadraba/almadrabalaw02.AnchorsHeavier", spec := "anchorsHeavier", unfollowed := true, recurses := true, apart := false }
def AnchorsHeavierSaid : Prop := anchorsHeavierRow.holds Try.pinned (OpenSpec.ofChange anchorsHeavierSpec)

/-- ITS FALSE NEIGHBOUR: 'it returns false'. Refute it at one input. -/
def anchorsHeavierWrong : ChangeSpec := { name := "anchorsHeavier", fn := fun _ => fun
  | [d1, d2, d3] => { results := [.lit (.bool false)], args := [d1, d2, d3] }
  | _ => none }
def AnchorsHeavierWrongFalsely : Prop := anchorsHeavierRow.holds Try.pinned (OpenSpec.ofChange anchorsHeavierWrong)

/-- 'almadrabalaw02.AnchorsPulled': WHATEVER THE INPUT: true; the input reads as it did. -/
def anchorsPulledSpec : ChangeSpec := { name := "anchorsPulled", fn := fun _ => fun
  | [d1, d2, d3] => { results := [.lit (.bool true)], args := [d1, d2, d3] }
  | _ => none }
def anchorsPulledRow : OpenClaim := { program := "ytpflneddfhifkaa", sum := "a92227c0b11ba73bf5dd129576b7fc957ebf540f6f776e6d5a40b0692546b3ab", func := "almadraba/almadrabalaw02.AnchorsPulled", spec := "anchorsPulled", unfollowed := true, recurses := true, apart := false }
def AnchorsPulledSaid : Prop := anchorsPulledRow.holds Try.pinned (OpenSpec.ofChange anchorsPulledSpec)

/-- ITS FALSE NEIGHBOUR: 'it returns false'. Refute it at one input. -/
def anchorsPulledWrong : ChangeSpec := { name := "anchorsPulled", fn := fun _ => fun
  | [d1, d2, d3] => { results := [.lit (.bool false)], args := [d1, d2, d3] }
  | _ => none }
def AnchorsPulledWrongFalsely : Prop := anchorsPulledRow.holds Try.pinned (OpenSpec.ofChange anchorsPulledWrong)

/-- 'almadrabalaw02.AnchorsBack': WHATEVER THE INPUT: true; the input reads as it did. -/
def anchorsBackSpec : ChangeSpec := { name := "anchorsBack", fn := fun _ => fun
  | [d1, d2] => { results := [.lit (.bool true)], args := [d1, d2] }
  | _ => none }
def anchorsBackRow : OpenClaim := { program := "ytpflneddfhifkaa", sum := "a92227c0b11ba73bf5dd129576b7fc957ebf540f6f776e6d5a40b0692546b3ab", func := "almadraba/almadrabalaw02.AnchorsBack", spec := "anchorsBack", unfollowed := true, recurses := true, apart := false }
def AnchorsBackSaid : Prop := anchorsBackRow.holds Try.pinned (OpenSpec.ofChange anchorsBackSpec)

/-- ITS FALSE NEIGHBOUR: 'it returns false'. Refute it at one input. -/
def anchorsBackWrong : ChangeSpec := { name := "anchorsBack", fn := fun _ => fun
  | [d1, d2] => { results := [.lit (.bool false)], args := [d1, d2] }
  | _ => none }
def AnchorsBackWrongFalsely : Prop := anchorsBackRow.holds Try.pinned (OpenSpec.ofChange anchorsBackWrong)

/-- 'almadrabalaw02.AnchorsNeed': WHATEVER THE INPUT: true; the input reads as it did. -/
def anchorsNeedSpec : ChangeSpec := { name := "anchorsNeed", fn := fun _ => fun
  | [d1, d2] => { results := [.lit (.bool true)], args := [d1, d2] }
  | _ => none }
def anchorsNeedRow : OpenClaim := { program := "ytpflneddfhifkaa", sum := "a92227c0b11ba73bf5dd129576b7fc957ebf540f6f776e6d5a40b0692546b3ab", func := "almadraba/almadrabalaw02.AnchorsNeed", spec := "anchorsNeed", unfollowed := true, recurses := true, apart := false }
def AnchorsNeedSaid : Prop := anchorsNeedRow.holds Try.pinned (OpenSpec.ofChange anchorsNeedSpec)

/-- ITS FALSE NEIGHBOUR: 'it returns false'. Refute it at one input. -/
def anchorsNeedWrong : ChangeSpec := { name := "anchorsNeed", fn := fun _ => fun
  | [d1, d2] => { results := [.lit (.bool false)], args := [d1, d2] }
  | _ => none }
def AnchorsNeedWrongFalsely : Prop := anchorsNeedRow.holds Try.pinned (OpenSpec.ofChange anchorsNeedWrong)

/-- 'almadrabalaw02.AnchorsApart': WHATEVER THE INPUT: true; the input reads as it did. -/
def anchorsApartSpec : ChangeSpec := { name := "anchorsApart", fn := fun _ => fun
  | [d1, d2, d3] => { results := [.lit (.bool true)], args := [d1, d2, d3] }
  | _ => none }
def anchorsApartRow : OpenClaim := { program := "ytpflneddfhifkaa", sum := "a92227c0b11ba73bf5dd129576b7fc957ebf540f6f776e6d5a40b0692546b3ab", func := "almadraba/almadrabalaw02.AnchorsApart", spec := "anchorsApart", unfollowed := true, recurses := true, apart := false }
def AnchorsApartSaid : Prop := anchorsApartRow.holds Try.pinned (OpenSpec.ofChange anchorsApartSpec)

/-- ITS FALSE NEIGHBOUR: 'it returns false'. Refute it at one input. -/
def anchorsApartWrong : ChangeSpec := { name := "anchorsApart", fn := fun _ => fun
  | [d1, d2, d3] => { results := [.lit (.bool false)], args := [d1, d2, d3] }
  | _ => none }
def AnchorsApartWrongFalsely : Prop := anchorsApartRow.holds Try.pinned (OpenSpec.ofChange anchorsApartWrong)

/- THE SECOND FORM. 'bulk': how many values and letters a reading holds, each counted each time it is reached (what is shared counts as often as it is met; a slice's spare places count too). A statement '..UptoSaid' is the law's where the arguments, and the package variables that the reading takes, are together of bulk at most 1048576: NARROWER than '..Said'. Prove '..Said' where nothing that the law and all that it calls make is longer than what came in: it says more and counts as full. Else prove '..UptoSaid'. A law counts once. -/
mutual
def uptoBulk {H : Type} : DataW H → Nat
  | .lit (.string bytes) => bytes.length + 1
  | .lit _ => 1
  | .nil => 1
  | .ptr d => uptoBulk d + 1
  | .slice elems spare => uptoBulkAll elems + uptoBulkAll spare + 1
  | .agg parts => uptoBulkAll parts + 1
  | .iface _ d => uptoBulk d + 1
  | .map entries => uptoBulkEntries entries + 1
  | .held _ => 1
def uptoBulkAll {H : Type} : List (DataW H) → Nat
  | [] => 0
  | d :: r => uptoBulk d + uptoBulkAll r
def uptoBulkEntries {H : Type} : List (Lit × DataW H) → Nat
  | [] => 0
  | x :: r => uptoBulkEntry x + uptoBulkEntries r
def uptoBulkEntry {H : Type} : Lit × DataW H → Nat
  | (.string bytes, d) => bytes.length + uptoBulk d + 1
  | (_, d) => uptoBulk d + 1
 end
def uptoSmall : (H : Type) → List (DataW H) → Bool := fun _ ds => decide (uptoBulkAll ds ≤ 1048576)
def OpenSpec.upto (s : _root_.Go.ChangeSpec) : _root_.Go.OpenSpec := { _root_.Go.OpenSpec.ofChange s with cond := some uptoSmall }

/-- 'almadrabalaw02.AnchorsLoad', WHERE WHAT IT READS IS OF BULK AT MOST 1048576: true; the input reads as it did. -/
def anchorsLoadUptoRow : OpenClaim := { program := "ytpflneddfhifkaa", sum := "a92227c0b11ba73bf5dd129576b7fc957ebf540f6f776e6d5a40b0692546b3ab", func := "almadraba/almadrabalaw02.AnchorsLoad", spec := "anchorsLoad", unfollowed := true, recurses := true, apart := false, narrowed := true }
def AnchorsLoadUptoSaid : Prop := anchorsLoadUptoRow.holds Try.pinned (OpenSpec.upto anchorsLoadSpec)

/-- 'almadrabalaw02.AnchorsDrags', WHERE WHAT IT READS IS OF BULK AT MOST 1048576: true; the input reads as it did. -/
def anchorsDragsUptoRow : OpenClaim := { program := "ytpflneddfhifkaa", sum := "a92227c0b11ba73bf5dd129576b7fc957ebf540f6f776e6d5a40b0692546b3ab", func := "almadraba/almadrabalaw02.AnchorsDrags", spec := "anchorsDrags", unfollowed := true, recurses := true, apart := false, narrowed := true }
def AnchorsDragsUptoSaid : Prop := anchorsDragsUptoRow.holds Try.pinned (OpenSpec.upto anchorsDragsSpec)

/-- 'almadrabalaw02.AnchorsKnown', WHERE WHAT IT READS IS OF BULK AT MOST 1048576: true; the input reads as it did. -/
def anchorsKnownUptoRow : OpenClaim := { program := "ytpflneddfhifkaa", sum := "a92227c0b11ba73bf5dd129576b7fc957ebf540f6f776e6d5a40b0692546b3ab", func := "almadraba/almadrabalaw02.AnchorsKnown", spec := "anchorsKnown", unfollowed := true, recurses := true, apart := false, narrowed := true }
def AnchorsKnownUptoSaid : Prop := anchorsKnownUptoRow.holds Try.pinned (OpenSpec.upto anchorsKnownSpec)

/-- 'almadrabalaw02.AnchorsWind', WHERE WHAT IT READS IS OF BULK AT MOST 1048576: true; the input reads as it did. -/
def anchorsWindUptoRow : OpenClaim := { program := "ytpflneddfhifkaa", sum := "a92227c0b11ba73bf5dd129576b7fc957ebf540f6f776e6d5a40b0692546b3ab", func := "almadraba/almadrabalaw02.AnchorsWind", spec := "anchorsWind", unfollowed := true, recurses := true, apart := false, narrowed := true }
def AnchorsWindUptoSaid : Prop := anchorsWindUptoRow.holds Try.pinned (OpenSpec.upto anchorsWindSpec)

/-- 'almadrabalaw02.AnchorsHelp', WHERE WHAT IT READS IS OF BULK AT MOST 1048576: true; the input reads as it did. -/
def anchorsHelpUptoRow : OpenClaim := { program := "ytpflneddfhifkaa", sum := "a92227c0b11ba73bf5dd129576b7fc957ebf540f6f776e6d5a40b0692546b3ab", func := "almadraba/almadrabalaw02.AnchorsHelp", spec := "anchorsHelp", unfollowed := true, recurses := true, apart := false, narrowed := true }
def AnchorsHelpUptoSaid : Prop := anchorsHelpUptoRow.holds Try.pinned (OpenSpec.upto anchorsHelpSpec)

/-- 'almadrabalaw02.AnchorsEach', WHERE WHAT IT READS IS OF BULK AT MOST 1048576: true; the input reads as it did. -/
def anchorsEachUptoRow : OpenClaim := { program := "ytpflneddfhifkaa", sum := "a92227c0b11ba73bf5dd129576b7fc957ebf540f6f776e6d5a40b0692546b3ab", func := "almadraba/almadrabalaw02.AnchorsEach", spec := "anchorsEach", unfollowed := true, recurses := true, apart := false, narrowed := true }
def AnchorsEachUptoSaid : Prop := anchorsEachUptoRow.holds Try.pinned (OpenSpec.upto anchorsEachSpec)

/-- 'almadrabalaw02.AnchorsCalmer', WHERE WHAT IT READS IS OF BULK AT MOST 1048576: true; the input reads as it did. -/
def anchorsCalmerUptoRow : OpenClaim := { program := "ytpflneddfhifkaa", sum := "a92227c0b11ba73bf5dd129576b7fc957ebf540f6f776e6d5a40b0692546b3ab", func := "almadraba/almadrabalaw02.AnchorsCalmer", spec := "anchorsCalmer", unfollowed := true, recurses := true, apart := false, narrowed := true }
def AnchorsCalmerUptoSaid : Prop := anchorsCalmerUptoRow.holds Try.pinned (OpenSpec.upto anchorsCalmerSpec)

/-- 'almadrabalaw02.AnchorsHeavier', WHERE WHAT IT READS IS OF BULK AT MOST 1048576: true; the input reads as it did. -/
def anchorsHeavierUptoRow : OpenClaim := { program := "ytpflneddfhifkaa", sum := "a92227c0b11ba73bf5dd129576b7fc957ebf540f6f776e6d5a40b0692546b3ab", func := "almadraba/almadrabalaw02.AnchorsHeavier", spec := "anchorsHeavier", unfollowed := true, recurses := true, apart := false, narrowed := true }
def AnchorsHeavierUptoSaid : Prop := anchorsHeavierUptoRow.holds Try.pinned (OpenSpec.upto anchorsHeavierSpec)

/-- 'almadrabalaw02.AnchorsPulled', WHERE WHAT IT READS IS OF BULK AT MOST 1048576: true; the input reads as it did. -/
def anchorsPulledUptoRow : OpenClaim := { program := "ytpflneddfhifkaa", sum := "a92227c0b11ba73bf5dd129576b7fc957ebf540f6f776e6d5a40b0692546b3ab", func := "almadraba/almadrabalaw02.AnchorsPulled", spec := "anchorsPulled", unfollowed := true, recurses := true, apart := false, narrowed := true }
def AnchorsPulledUptoSaid : Prop := anchorsPulledUptoRow.holds Try.pinned (OpenSpec.upto anchorsPulledSpec)

/-- 'almadrabalaw02.AnchorsBack', WHERE WHAT IT READS IS OF BULK AT MOST 1048576: true; the input reads as it did. -/
def anchorsBackUptoRow : OpenClaim := { program := "ytpflneddfhifkaa", sum := "a92227c0b11ba73bf5dd129576b7fc957ebf540f6f776e6d5a40b0692546b3ab", func := "almadraba/almadrabalaw02.AnchorsBack", spec := "anchorsBack", unfollowed := true, recurses := true, apart := false, narrowed := true }
def AnchorsBackUptoSaid : Prop := anchorsBackUptoRow.holds Try.pinned (OpenSpec.upto anchorsBackSpec)

/-- 'almadrabalaw02.AnchorsNeed', WHERE WHAT IT READS IS OF BULK AT MOST 1048576: true; the input reads as it did. -/
def anchorsNeedUptoRow : OpenClaim := { program := "ytpflneddfhifkaa", sum := "a92227c0b11ba73bf5dd129576b7fc957ebf540f6f776e6d5a40b0692546b3ab", func := "almadraba/almadrabalaw02.AnchorsNeed", spec := "anchorsNeed", unfollowed := true, recurses := true, apart := false, narrowed := true }
def AnchorsNeedUptoSaid : Prop := anchorsNeedUptoRow.holds Try.pinned (OpenSpec.upto anchorsNeedSpec)

/-- 'almadrabalaw02.AnchorsApart', WHERE WHAT IT READS IS OF BULK AT MOST 1048576: true; the input reads as it did. -/
def anchorsApartUptoRow : OpenClaim := { program := "ytpflneddfhifkaa", sum := "a92227c0b11ba73bf5dd129576b7fc957ebf540f6f776e6d5a40b0692546b3ab", func := "almadraba/almadrabalaw02.AnchorsApart", spec := "anchorsApart", unfollowed := true, recurses := true, apart := false, narrowed := true }
def AnchorsApartUptoSaid : Prop := anchorsApartUptoRow.holds Try.pinned (OpenSpec.upto anchorsApartSpec)

end Rows
end Go.Proofs.Ytpflneddfhifkaa
