/-
  No cell of these rows narrows 'for every input' (looked for: loops, veiled, ifaces, maps, wideKeys, modest, calm, conditions, laid).
  DERIVED. THE GIVEN ROWS OF THIS SEAT. 12 by the template 'for every input the law returns true; each argument reads behind the call as it read before'; 0 by the template 'total and deterministic' (their statements: YtfknojncfbahpaaGreatTotals.lean).
  GIVEN WITH THE SEED: the statements are not yours to turn. If you find one false, say at which input.
  Laid BY PROGRAM, IN A SANDBOX (cutbox-rows.mjs): the forced cells as the released guide's own fill.sh prints them over the translation de8bc6718c1e790f… (all of the seat's roots in one cut). By AI agents, Wed Nov 11 2026. No macro, syntax, notation, axiom, sorry.
-/
import Derived.Test.YtfknojncfbahpaaGreatChecked
import GoSem.Claim
import GoSem.ClaimJoined
import GoSem.ClaimMapViews
import Derived.JoinedTies
import Derived.KernelRfl
namespace Go.Proofs.YtfknojncfbahpaaGreat
/- THE CELL 'sum', in the pinned program and in every row, IS THE sha256 OF THE DUMP (.gsa) THAT YtfknojncfbahpaaGreatProg.lean LOADS. Nothing in Lean hashes anything: it is a label: what it is worth is what the hold of that sum in a sandbox is worth. -/
noncomputable def Tryz.pinned : Pinned := { name := "ytfknojncfbahpaagreat", sum := "de8bc6718c1e790f144af6b6f811e83ba5262c529adf813652c75b1a71b0ecad", checked := Tryz.checked }
namespace Rows
def none {H : Type} : Left H := { results := [], args := [] }

/-- 'almadrabalaw11.WatchEach': WHATEVER THE INPUT: true; the input reads as it did. -/
def watchEachSpec : ChangeSpec := { name := "watchEach", fn := fun _ => fun
  | [d1, d2] => { results := [.lit (.bool true)], args := [d1, d2] }
  | _ => none }
def watchEachRow : OpenClaim := { program := "ytfknojncfbahpaagreat", sum := "de8bc6718c1e790f144af6b6f811e83ba5262c529adf813652c75b1a71b0ecad", func := "almadraba/almadrabalaw11.WatchEach", spec := "watchEach", unfollowed := true, recurses := true, apart := false }
def WatchEachSaid : Prop := watchEachRow.holds Tryz.pinned (OpenSpec.ofChange watchEachSpec)

/-- ITS FALSE NEIGHBOUR: 'it returns false'. Refute it at one input. -/
def watchEachWrong : ChangeSpec := { name := "watchEach", fn := fun _ => fun
  | [d1, d2] => { results := [.lit (.bool false)], args := [d1, d2] }
  | _ => none }
def WatchEachWrongFalsely : Prop := watchEachRow.holds Tryz.pinned (OpenSpec.ofChange watchEachWrong)

/-- 'almadrabalaw11.WatchStories': WHATEVER THE INPUT: true; the input reads as it did. -/
def watchStoriesSpec : ChangeSpec := { name := "watchStories", fn := fun _ => fun
  | [d1, d2, d3] => { results := [.lit (.bool true)], args := [d1, d2, d3] }
  | _ => none }
def watchStoriesRow : OpenClaim := { program := "ytfknojncfbahpaagreat", sum := "de8bc6718c1e790f144af6b6f811e83ba5262c529adf813652c75b1a71b0ecad", func := "almadraba/almadrabalaw11.WatchStories", spec := "watchStories", unfollowed := true, recurses := true, apart := false }
def WatchStoriesSaid : Prop := watchStoriesRow.holds Tryz.pinned (OpenSpec.ofChange watchStoriesSpec)

/-- ITS FALSE NEIGHBOUR: 'it returns false'. Refute it at one input. -/
def watchStoriesWrong : ChangeSpec := { name := "watchStories", fn := fun _ => fun
  | [d1, d2, d3] => { results := [.lit (.bool false)], args := [d1, d2, d3] }
  | _ => none }
def WatchStoriesWrongFalsely : Prop := watchStoriesRow.holds Tryz.pinned (OpenSpec.ofChange watchStoriesWrong)

/-- 'almadrabalaw11.WatchSober': WHATEVER THE INPUT: true; the input reads as it did. -/
def watchSoberSpec : ChangeSpec := { name := "watchSober", fn := fun _ => fun
  | [d] => { results := [.lit (.bool true)], args := [d] }
  | _ => none }
def watchSoberRow : OpenClaim := { program := "ytfknojncfbahpaagreat", sum := "de8bc6718c1e790f144af6b6f811e83ba5262c529adf813652c75b1a71b0ecad", func := "almadraba/almadrabalaw11.WatchSober", spec := "watchSober", unfollowed := true, recurses := true, apart := false }
def WatchSoberSaid : Prop := watchSoberRow.holds Tryz.pinned (OpenSpec.ofChange watchSoberSpec)

/-- ITS FALSE NEIGHBOUR: 'it returns false'. Refute it at one input. -/
def watchSoberWrong : ChangeSpec := { name := "watchSober", fn := fun _ => fun
  | [d] => { results := [.lit (.bool false)], args := [d] }
  | _ => none }
def WatchSoberWrongFalsely : Prop := watchSoberRow.holds Tryz.pinned (OpenSpec.ofChange watchSoberWrong)

/-- 'almadrabalaw11.WatchMore': WHATEVER THE INPUT: true; the input reads as it did. -/
def watchMoreSpec : ChangeSpec := { name := "watchMore", fn := fun _ => fun
  | [d1, d2, d3] => { results := [.lit (.bool true)], args := [d1, d2, d3] }
  | _ => none }
def watchMoreRow : OpenClaim := { program := "ytfknojncfbahpaagreat", sum := "de8bc6718c1e790f144af6b6f811e83ba5262c529adf813652c75b1a71b0ecad", func := "almadraba/almadrabalaw11.WatchMore", spec := "watchMore", unfollowed := true, recurses := true, apart := false }
def WatchMoreSaid : Prop := watchMoreRow.holds Tryz.pinned (OpenSpec.ofChange watchMoreSpec)

/-- ITS FALSE NEIGHBOUR: 'it returns false'. Refute it at one input. -/
def watchMoreWrong : ChangeSpec := { name := "watchMore", fn := fun _ => fun
  | [d1, d2, d3] => { results := [.lit (.bool false)], args := [d1, d2, d3] }
  | _ => none }
def WatchMoreWrongFalsely : Prop := watchMoreRow.holds Tryz.pinned (OpenSpec.ofChange watchMoreWrong)

/-- 'almadrabalaw11.WatchWord': WHATEVER THE INPUT: true; the input reads as it did. -/
def watchWordSpec : ChangeSpec := { name := "watchWord", fn := fun _ => fun
  | [d1, d2] => { results := [.lit (.bool true)], args := [d1, d2] }
  | _ => none }
def watchWordRow : OpenClaim := { program := "ytfknojncfbahpaagreat", sum := "de8bc6718c1e790f144af6b6f811e83ba5262c529adf813652c75b1a71b0ecad", func := "almadraba/almadrabalaw11.WatchWord", spec := "watchWord", unfollowed := true, recurses := true, apart := false }
def WatchWordSaid : Prop := watchWordRow.holds Tryz.pinned (OpenSpec.ofChange watchWordSpec)

/-- ITS FALSE NEIGHBOUR: 'it returns false'. Refute it at one input. -/
def watchWordWrong : ChangeSpec := { name := "watchWord", fn := fun _ => fun
  | [d1, d2] => { results := [.lit (.bool false)], args := [d1, d2] }
  | _ => none }
def WatchWordWrongFalsely : Prop := watchWordRow.holds Tryz.pinned (OpenSpec.ofChange watchWordWrong)

/-- 'almadrabalaw11.WatchAnswer': WHATEVER THE INPUT: true; the input reads as it did. -/
def watchAnswerSpec : ChangeSpec := { name := "watchAnswer", fn := fun _ => fun
  | [d1, d2] => { results := [.lit (.bool true)], args := [d1, d2] }
  | _ => none }
def watchAnswerRow : OpenClaim := { program := "ytfknojncfbahpaagreat", sum := "de8bc6718c1e790f144af6b6f811e83ba5262c529adf813652c75b1a71b0ecad", func := "almadraba/almadrabalaw11.WatchAnswer", spec := "watchAnswer", unfollowed := true, recurses := true, apart := false }
def WatchAnswerSaid : Prop := watchAnswerRow.holds Tryz.pinned (OpenSpec.ofChange watchAnswerSpec)

/-- ITS FALSE NEIGHBOUR: 'it returns false'. Refute it at one input. -/
def watchAnswerWrong : ChangeSpec := { name := "watchAnswer", fn := fun _ => fun
  | [d1, d2] => { results := [.lit (.bool false)], args := [d1, d2] }
  | _ => none }
def WatchAnswerWrongFalsely : Prop := watchAnswerRow.holds Tryz.pinned (OpenSpec.ofChange watchAnswerWrong)

/-- 'almadrabalaw11.WatchBlame': WHATEVER THE INPUT: true; the input reads as it did. -/
def watchBlameSpec : ChangeSpec := { name := "watchBlame", fn := fun _ => fun
  | [d1, d2] => { results := [.lit (.bool true)], args := [d1, d2] }
  | _ => none }
def watchBlameRow : OpenClaim := { program := "ytfknojncfbahpaagreat", sum := "de8bc6718c1e790f144af6b6f811e83ba5262c529adf813652c75b1a71b0ecad", func := "almadraba/almadrabalaw11.WatchBlame", spec := "watchBlame", unfollowed := true, recurses := true, apart := false }
def WatchBlameSaid : Prop := watchBlameRow.holds Tryz.pinned (OpenSpec.ofChange watchBlameSpec)

/-- ITS FALSE NEIGHBOUR: 'it returns false'. Refute it at one input. -/
def watchBlameWrong : ChangeSpec := { name := "watchBlame", fn := fun _ => fun
  | [d1, d2] => { results := [.lit (.bool false)], args := [d1, d2] }
  | _ => none }
def WatchBlameWrongFalsely : Prop := watchBlameRow.holds Tryz.pinned (OpenSpec.ofChange watchBlameWrong)

/-- 'almadrabalaw11.WatchWithout': WHATEVER THE INPUT: true; the input reads as it did. -/
def watchWithoutSpec : ChangeSpec := { name := "watchWithout", fn := fun _ => fun
  | [d1, d2, d3] => { results := [.lit (.bool true)], args := [d1, d2, d3] }
  | _ => none }
def watchWithoutRow : OpenClaim := { program := "ytfknojncfbahpaagreat", sum := "de8bc6718c1e790f144af6b6f811e83ba5262c529adf813652c75b1a71b0ecad", func := "almadraba/almadrabalaw11.WatchWithout", spec := "watchWithout", unfollowed := true, recurses := true, apart := false }
def WatchWithoutSaid : Prop := watchWithoutRow.holds Tryz.pinned (OpenSpec.ofChange watchWithoutSpec)

/-- ITS FALSE NEIGHBOUR: 'it returns false'. Refute it at one input. -/
def watchWithoutWrong : ChangeSpec := { name := "watchWithout", fn := fun _ => fun
  | [d1, d2, d3] => { results := [.lit (.bool false)], args := [d1, d2, d3] }
  | _ => none }
def WatchWithoutWrongFalsely : Prop := watchWithoutRow.holds Tryz.pinned (OpenSpec.ofChange watchWithoutWrong)

/-- 'almadrabalaw11.WatchGood': WHATEVER THE INPUT: true; the input reads as it did. -/
def watchGoodSpec : ChangeSpec := { name := "watchGood", fn := fun _ => fun
  | [d1, d2] => { results := [.lit (.bool true)], args := [d1, d2] }
  | _ => none }
def watchGoodRow : OpenClaim := { program := "ytfknojncfbahpaagreat", sum := "de8bc6718c1e790f144af6b6f811e83ba5262c529adf813652c75b1a71b0ecad", func := "almadraba/almadrabalaw11.WatchGood", spec := "watchGood", unfollowed := true, recurses := true, apart := false }
def WatchGoodSaid : Prop := watchGoodRow.holds Tryz.pinned (OpenSpec.ofChange watchGoodSpec)

/-- ITS FALSE NEIGHBOUR: 'it returns false'. Refute it at one input. -/
def watchGoodWrong : ChangeSpec := { name := "watchGood", fn := fun _ => fun
  | [d1, d2] => { results := [.lit (.bool false)], args := [d1, d2] }
  | _ => none }
def WatchGoodWrongFalsely : Prop := watchGoodRow.holds Tryz.pinned (OpenSpec.ofChange watchGoodWrong)

/-- 'almadrabalaw11.WatchDrunk': WHATEVER THE INPUT: true; the input reads as it did. -/
def watchDrunkSpec : ChangeSpec := { name := "watchDrunk", fn := fun _ => fun
  | [d1, d2] => { results := [.lit (.bool true)], args := [d1, d2] }
  | _ => none }
def watchDrunkRow : OpenClaim := { program := "ytfknojncfbahpaagreat", sum := "de8bc6718c1e790f144af6b6f811e83ba5262c529adf813652c75b1a71b0ecad", func := "almadraba/almadrabalaw11.WatchDrunk", spec := "watchDrunk", unfollowed := true, recurses := true, apart := false }
def WatchDrunkSaid : Prop := watchDrunkRow.holds Tryz.pinned (OpenSpec.ofChange watchDrunkSpec)

/-- ITS FALSE NEIGHBOUR: 'it returns false'. Refute it at one input. -/
def watchDrunkWrong : ChangeSpec := { name := "watchDrunk", fn := fun _ => fun
  | [d1, d2] => { results := [.lit (.bool false)], args := [d1, d2] }
  | _ => none }
def WatchDrunkWrongFalsely : Prop := watchDrunkRow.holds Tryz.pinned (OpenSpec.ofChange watchDrunkWrong)

/-- 'almadrabalaw11.WatchLies': WHATEVER THE INPUT: true; the input reads as it did. -/
def watchLiesSpec : ChangeSpec := { name := "watchLies", fn := fun _ => fun
  | [d1, d2] => { results := [.lit (.bool true)], args := [d1, d2] }
  | _ => none }
def watchLiesRow : OpenClaim := { program := "ytfknojncfbahpaagreat", sum := "de8bc6718c1e790f144af6b6f811e83ba5262c529adf813652c75b1a71b0ecad", func := "almadraba/almadrabalaw11.WatchLies", spec := "watchLies", unfollowed := true, recurses := true, apart := false }
def WatchLiesSaid : Prop := watchLiesRow.holds Tryz.pinned (OpenSpec.ofChange watchLiesSpec)

/-- ITS FALSE NEIGHBOUR: 'it returns false'. Refute it at one input. -/
def watchLiesWrong : ChangeSpec := { name := "watchLies", fn := fun _ => fun
  | [d1, d2] => { results := [.lit (.bool false)], args := [d1, d2] }
  | _ => none }
def WatchLiesWrongFalsely : Prop := watchLiesRow.holds Tryz.pinned (OpenSpec.ofChange watchLiesWrong)

/-- 'almadrabalaw11.WatchFish': WHATEVER THE INPUT: true; the input reads as it did. -/
def watchFishSpec : ChangeSpec := { name := "watchFish", fn := fun _ => fun
  | [d1, d2, d3] => { results := [.lit (.bool true)], args := [d1, d2, d3] }
  | _ => none }
def watchFishRow : OpenClaim := { program := "ytfknojncfbahpaagreat", sum := "de8bc6718c1e790f144af6b6f811e83ba5262c529adf813652c75b1a71b0ecad", func := "almadraba/almadrabalaw11.WatchFish", spec := "watchFish", unfollowed := true, recurses := true, apart := false }
def WatchFishSaid : Prop := watchFishRow.holds Tryz.pinned (OpenSpec.ofChange watchFishSpec)

/-- ITS FALSE NEIGHBOUR: 'it returns false'. Refute it at one input. -/
def watchFishWrong : ChangeSpec := { name := "watchFish", fn := fun _ => fun
  | [d1, d2, d3] => { results := [.lit (.bool false)], args := [d1, d2, d3] }
  | _ => none }
def WatchFishWrongFalsely : Prop := watchFishRow.holds Tryz.pinned (OpenSpec.ofChange watchFishWrong)

/- THE SECOND FORM. 'bulk': how many values and letters a reading holds, each counted each time it is reached (what is shared counts as often as it is met; a slice's spare places count too). A statement '..UptoSaid' is the law's where the arguments, and the package variables that the reading takes, are together of bulk at most 1048576: NARROWER than '..Said'. Prove '..Said' where nothing that the law and all that it calls make is longer than what came in: it says more and counts as full. Else prove '..UptoSaid'. A law counts once. -/
mutual
def uptoBulk {H : Type} : DataW H → Nat
  | .lit (.string bytes) => bytes.length + 1
  | .lit _ => 1
  | .nil => 1
  | .ptr d => uptoBulk d + 1
  | .slice elems spare => uptoBulkAll elems + uptoBulkAll spare + 1
  | .agg parts => uptoBulkAll parts + 1
  | .iface _ d => uptoBulk d + 1
  | .map entries => uptoBulkEntries entries + 1
  | .held _ => 1
def uptoBulkAll {H : Type} : List (DataW H) → Nat
  | [] => 0
  | d :: r => uptoBulk d + uptoBulkAll r
def uptoBulkEntries {H : Type} : List (Lit × DataW H) → Nat
  | [] => 0
  | x :: r => uptoBulkEntry x + uptoBulkEntries r
def uptoBulkEntry {H : Type} : Lit × DataW H → Nat
  | (.string bytes, d) => bytes.length + uptoBulk d + 1
  | (_, d) => uptoBulk d + 1
 end
def uptoSmall : (H : Type) → List (DataW H) → Bool := fun _ ds => decide (uptoBulkAll ds ≤ 1048576)
def OpenSpec.upto (s : _root_.Go.ChangeSpec) : _root_.Go.OpenSpec := { _root_.Go.OpenSpec.ofChange s with cond := some uptoSmall }

/-- 'almadrabalaw11.WatchEach', WHERE WHAT IT READS IS OF BULK AT MOST 1048576: true; the input reads as it did. -/
def watchEachUptoRow : OpenClaim := { program := "ytfknojncfbahpaagreat", sum := "de8bc6718c1e790f144af6b6f811e83ba5262c529adf813652c75b1a71b0ecad", func := "almadraba/almadrabalaw11.WatchEach", spec := "watchEach", unfollowed := true, recurses := true, apart := false, narrowed := true }
def WatchEachUptoSaid : Prop := watchEachUptoRow.holds Tryz.pinned (OpenSpec.upto watchEachSpec)

/-- 'almadrabalaw11.WatchStories', WHERE WHAT IT READS IS OF BULK AT MOST 1048576: true; the input reads as it did. -/
def watchStoriesUptoRow : OpenClaim := { program := "ytfknojncfbahpaagreat", sum := "de8bc6718c1e790f144af6b6f811e83ba5262c529adf813652c75b1a71b0ecad", func := "almadraba/almadrabalaw11.WatchStories", spec := "watchStories", unfollowed := true, recurses := true, apart := false, narrowed := true }
def WatchStoriesUptoSaid : Prop := watchStoriesUptoRow.holds Tryz.pinned (OpenSpec.upto watchStoriesSpec)

/-- 'almadrabalaw11.WatchSober', WHERE WHAT IT READS IS OF BULK AT MOST 1048576: true; the input reads as it did. -/
def watchSoberUptoRow : OpenClaim := { program := "ytfknojncfbahpaagreat", sum := "de8bc6718c1e790f144af6b6f811e83ba5262c529adf813652c75b1a71b0ecad", func := "almadraba/almadrabalaw11.WatchSober", spec := "watchSober", unfollowed := true, recurses := true, apart := false, narrowed := true }
def WatchSoberUptoSaid : Prop := watchSoberUptoRow.holds Tryz.pinned (OpenSpec.upto watchSoberSpec)

/-- 'almadrabalaw11.WatchMore', WHERE WHAT IT READS IS OF BULK AT MOST 1048576: true; the input reads as it did. -/
def watchMoreUptoRow : OpenClaim := { program := "ytfknojncfbahpaagreat", sum := "de8bc6718c1e790f144af6b6f811e83ba5262c529adf813652c75b1a71b0ecad", func := "almadraba/almadrabalaw11.WatchMore", spec := "watchMore", unfollowed := true, recurses := true, apart := false, narrowed := true }
def WatchMoreUptoSaid : Prop := watchMoreUptoRow.holds Tryz.pinned (OpenSpec.upto watchMoreSpec)

/-- 'almadrabalaw11.WatchWord', WHERE WHAT IT READS IS OF BULK AT MOST 1048576: true; the input reads as it did. -/
def watchWordUptoRow : OpenClaim := { program := "ytfknojncfbahpaagreat", sum := "de8bc6718c1e790f144af6b6f811e83ba5262c529adf813652c75b1a71b0ecad", func := "almadraba/almadrabalaw11.WatchWord", spec := "watchWord", unfollowed := true, recurses := true, apart := false, narrowed := true }
def WatchWordUptoSaid : Prop := watchWordUptoRow.holds Tryz.pinned (OpenSpec.upto watchWordSpec)

/-- 'almadrabalaw11.WatchAnswer', WHERE WHAT IT READS IS OF BULK AT MOST 1048576: true; the input reads as it did. -/
def watchAnswerUptoRow : OpenClaim := { program := "ytfknojncfbahpaagreat", sum := "de8bc6718c1e790f144af6b6f811e83ba5262c529adf813652c75b1a71b0ecad", func := "almadraba/almadrabalaw11.WatchAnswer", spec := "watchAnswer", unfollowed := true, recurses := true, apart := false, narrowed := true }
def WatchAnswerUptoSaid : Prop := watchAnswerUptoRow.holds Tryz.pinned (OpenSpec.upto watchAnswerSpec)

/-- 'almadrabalaw11.WatchBlame', WHERE WHAT IT READS IS OF BULK AT MOST 1048576: true; the input reads as it did. -/
def watchBlameUptoRow : OpenClaim := { program := "ytfknojncfbahpaagreat", sum := "de8bc6718c1e790f144af6b6f811e83ba5262c529adf813652c75b1a71b0ecad", func := "almadraba/almadrabalaw11.WatchBlame", spec := "watchBlame", unfollowed := true, recurses := true, apart := false, narrowed := true }
def WatchBlameUptoSaid : Prop := watchBlameUptoRow.holds Tryz.pinned (OpenSpec.upto watchBlameSpec)

/-- 'almadrabalaw11.WatchWithout', WHERE WHAT IT READS IS OF BULK AT MOST 1048576: true; the input reads as it did. -/
def watchWithoutUptoRow : OpenClaim := { program := "ytfknojncfbahpaagreat", sum := "de8bc6718c1e790f144af6b6f811e83ba5262c529adf813652c75b1a71b0ecad", func := "almadraba/almadrabalaw11.WatchWithout", spec := "watchWithout", unfollowed := true, recurses := true, apart := false, narrowed := true }
def WatchWithoutUptoSaid : Prop := watchWithoutUptoRow.holds Tryz.pinned (OpenSpec.upto watchWithoutSpec)

/-- 'almadrabalaw11.WatchGood', WHERE WHAT IT READS IS OF BULK AT MOST 1048576: true; the input reads as it did. -/
def watchGoodUptoRow : OpenClaim := { program := "ytfknojncfbahpaagreat", sum := "de8bc6718c1e790f144af6b6f811e83ba5262c529adf813652c75b1a71b0ecad", func := "almadraba/almadrabalaw11.WatchGood", spec := "watchGood", unfollowed := true, recurses := true, apart := false, narrowed := true }
def WatchGoodUptoSaid : Prop := watchGoodUptoRow.holds Tryz.pinned (OpenSpec.upto watchGoodSpec)

/-- 'almadrabalaw11.WatchDrunk', WHERE WHAT IT READS IS OF BULK AT MOST 1048576: true; the input reads as it did. -/
def watchDrunkUptoRow : OpenClaim := { program := "ytfknojncfbahpaagreat", sum := "de8bc6718c1e790f144af6b6f811e83ba5262c529adf813652c75b1a71b0ecad", func := "almadraba/almadrabalaw11.WatchDrunk", spec := "watchDrunk", unfollowed := true, recurses := true, apart := false, narrowed := true }
def WatchDrunkUptoSaid : Prop := watchDrunkUptoRow.holds Tryz.pinned (OpenSpec.upto watchDrunkSpec)

/-- 'almadrabalaw11.WatchLies', WHERE WHAT IT READS IS OF BULK AT MOST 1048576: true; the input reads as it did. -/
def watchLiesUptoRow : OpenClaim := { program := "ytfknojncfbahpaagreat", sum := "de8bc6718c1e790f144af6b6f811e83ba5262c529adf813652c75b1a71b0ecad", func := "almadraba/almadrabalaw11.WatchLies", spec := "watchLies", unfollowed := true, recurses := true, apart := false, narrowed := true }
def WatchLiesUptoSaid : Prop := watchLiesUptoRow.holds Tryz.pinned (OpenSpec.upto watchLiesSpec)

/-- 'almadrabalaw11.WatchFish', WHERE WHAT IT READS IS OF BULK AT MOST 1048576: true; the input reads as it did. -/
def watchFishUptoRow : OpenClaim := { program := "ytfknojncfbahpaagreat", sum := "de8bc6718c1e790f144af6b6f811e83ba5262c529adf813652c75b1a71b0ecad", func := "almadraba/almadrabalaw11.WatchFish", spec := "watchFish", unfollowed := true, recurses := true, apart := false, narrowed := true }
def WatchFishUptoSaid : Prop := watchFishUptoRow.holds Tryz.pinned (OpenSpec.upto watchFishSpec)

end Rows
end Go.Proofs.YtfknojncfbahpaaGreat
