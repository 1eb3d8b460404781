/-
  No cell of these rows narrows 'for every input' (looked for: loops, veiled, ifaces, maps, wideKeys, modest, calm, conditions, laid).
  DERIVED. THE GIVEN ROWS OF THIS SEAT. 13 by the template 'for every input the law returns true; each argument reads behind the call as it read before'; 0 by the template 'total and deterministic' (their statements: YtjaaefdhdggnkaaTotals.lean).
  GIVEN WITH THE SEED: the statements are not yours to turn. If you find one false, say at which input.
  Laid BY PROGRAM, IN A SANDBOX (cutbox-rows.mjs): the forced cells as the released guide's own fill.sh prints them over the translation 127b2ac9455eb65e… (all of the seat's roots in one cut). By AI agents, Wed Nov 11 2026. No macro, syntax, notation, axiom, sorry.
-/
import Derived.Test.YtjaaefdhdggnkaaChecked
import GoSem.Claim
import GoSem.ClaimJoined
import GoSem.ClaimMapViews
import Derived.JoinedTies
import Derived.KernelRfl
namespace Go.Proofs.Ytjaaefdhdggnkaa
/- THE CELL 'sum', in the pinned program and in every row, IS THE sha256 OF THE DUMP (.gsa) THAT YtjaaefdhdggnkaaProg.lean LOADS. Nothing in Lean hashes anything: it is a label: what it is worth is what the hold of that sum in a sandbox is worth. -/
noncomputable def Try.pinned : Pinned := { name := "ytjaaefdhdggnkaa", sum := "127b2ac9455eb65e07e446b9114258aebc44d2538b75020545b55d3ebcdbabeb", checked := Try.checked }
namespace Rows
def none {H : Type} : Left H := { results := [], args := [] }

/-- 'almadrabalaw01.CountsEach': WHATEVER THE INPUT: true; the input reads as it did. -/
def countsEachSpec : ChangeSpec := { name := "countsEach", fn := fun _ => fun
  | [d1, d2, d3] => { results := [.lit (.bool true)], args := [d1, d2, d3] }
  | _ => none }
def countsEachRow : OpenClaim := { program := "ytjaaefdhdggnkaa", sum := "127b2ac9455eb65e07e446b9114258aebc44d2538b75020545b55d3ebcdbabeb", func := "almadraba/almadrabalaw01.CountsEach", spec := "countsEach", unfollowed := true, recurses := true, apart := false }
def CountsEachSaid : Prop := countsEachRow.holds Try.pinned (OpenSpec.ofChange countsEachSpec)

/-- ITS FALSE NEIGHBOUR: 'it returns false'. Refute it at one input. -/
def countsEachWrong : ChangeSpec := { name := "countsEach", fn := fun _ => fun
  | [d1, d2, d3] => { results := [.lit (.bool false)], args := [d1, d2, d3] }
  | _ => none }
def CountsEachWrongFalsely : Prop := countsEachRow.holds Try.pinned (OpenSpec.ofChange countsEachWrong)

/-- 'almadrabalaw01.CountsEnds': WHATEVER THE INPUT: true; the input reads as it did. -/
def countsEndsSpec : ChangeSpec := { name := "countsEnds", fn := fun _ => fun
  | [d1, d2] => { results := [.lit (.bool true)], args := [d1, d2] }
  | _ => none }
def countsEndsRow : OpenClaim := { program := "ytjaaefdhdggnkaa", sum := "127b2ac9455eb65e07e446b9114258aebc44d2538b75020545b55d3ebcdbabeb", func := "almadraba/almadrabalaw01.CountsEnds", spec := "countsEnds", unfollowed := true, recurses := true, apart := false }
def CountsEndsSaid : Prop := countsEndsRow.holds Try.pinned (OpenSpec.ofChange countsEndsSpec)

/-- ITS FALSE NEIGHBOUR: 'it returns false'. Refute it at one input. -/
def countsEndsWrong : ChangeSpec := { name := "countsEnds", fn := fun _ => fun
  | [d1, d2] => { results := [.lit (.bool false)], args := [d1, d2] }
  | _ => none }
def CountsEndsWrongFalsely : Prop := countsEndsRow.holds Try.pinned (OpenSpec.ofChange countsEndsWrong)

/-- 'almadrabalaw01.CountsMore': WHATEVER THE INPUT: true; the input reads as it did. -/
def countsMoreSpec : ChangeSpec := { name := "countsMore", fn := fun _ => fun
  | [d1, d2, d3] => { results := [.lit (.bool true)], args := [d1, d2, d3] }
  | _ => none }
def countsMoreRow : OpenClaim := { program := "ytjaaefdhdggnkaa", sum := "127b2ac9455eb65e07e446b9114258aebc44d2538b75020545b55d3ebcdbabeb", func := "almadraba/almadrabalaw01.CountsMore", spec := "countsMore", unfollowed := true, recurses := true, apart := false }
def CountsMoreSaid : Prop := countsMoreRow.holds Try.pinned (OpenSpec.ofChange countsMoreSpec)

/-- ITS FALSE NEIGHBOUR: 'it returns false'. Refute it at one input. -/
def countsMoreWrong : ChangeSpec := { name := "countsMore", fn := fun _ => fun
  | [d1, d2, d3] => { results := [.lit (.bool false)], args := [d1, d2, d3] }
  | _ => none }
def CountsMoreWrongFalsely : Prop := countsMoreRow.holds Try.pinned (OpenSpec.ofChange countsMoreWrong)

/-- 'almadrabalaw01.CountsDoor': WHATEVER THE INPUT: true; the input reads as it did. -/
def countsDoorSpec : ChangeSpec := { name := "countsDoor", fn := fun _ => fun
  | [d1, d2, d3] => { results := [.lit (.bool true)], args := [d1, d2, d3] }
  | _ => none }
def countsDoorRow : OpenClaim := { program := "ytjaaefdhdggnkaa", sum := "127b2ac9455eb65e07e446b9114258aebc44d2538b75020545b55d3ebcdbabeb", func := "almadraba/almadrabalaw01.CountsDoor", spec := "countsDoor", unfollowed := true, recurses := true, apart := false }
def CountsDoorSaid : Prop := countsDoorRow.holds Try.pinned (OpenSpec.ofChange countsDoorSpec)

/-- ITS FALSE NEIGHBOUR: 'it returns false'. Refute it at one input. -/
def countsDoorWrong : ChangeSpec := { name := "countsDoor", fn := fun _ => fun
  | [d1, d2, d3] => { results := [.lit (.bool false)], args := [d1, d2, d3] }
  | _ => none }
def CountsDoorWrongFalsely : Prop := countsDoorRow.holds Try.pinned (OpenSpec.ofChange countsDoorWrong)

/-- 'almadrabalaw01.CountsTime': WHATEVER THE INPUT: true; the input reads as it did. -/
def countsTimeSpec : ChangeSpec := { name := "countsTime", fn := fun _ => fun
  | [d1, d2, d3, d4] => { results := [.lit (.bool true)], args := [d1, d2, d3, d4] }
  | _ => none }
def countsTimeRow : OpenClaim := { program := "ytjaaefdhdggnkaa", sum := "127b2ac9455eb65e07e446b9114258aebc44d2538b75020545b55d3ebcdbabeb", func := "almadraba/almadrabalaw01.CountsTime", spec := "countsTime", unfollowed := true, recurses := true, apart := false }
def CountsTimeSaid : Prop := countsTimeRow.holds Try.pinned (OpenSpec.ofChange countsTimeSpec)

/-- ITS FALSE NEIGHBOUR: 'it returns false'. Refute it at one input. -/
def countsTimeWrong : ChangeSpec := { name := "countsTime", fn := fun _ => fun
  | [d1, d2, d3, d4] => { results := [.lit (.bool false)], args := [d1, d2, d3, d4] }
  | _ => none }
def CountsTimeWrongFalsely : Prop := countsTimeRow.holds Try.pinned (OpenSpec.ofChange countsTimeWrong)

/-- 'almadrabalaw01.CountsEnough': WHATEVER THE INPUT: true; the input reads as it did. -/
def countsEnoughSpec : ChangeSpec := { name := "countsEnough", fn := fun _ => fun
  | [d1, d2, d3] => { results := [.lit (.bool true)], args := [d1, d2, d3] }
  | _ => none }
def countsEnoughRow : OpenClaim := { program := "ytjaaefdhdggnkaa", sum := "127b2ac9455eb65e07e446b9114258aebc44d2538b75020545b55d3ebcdbabeb", func := "almadraba/almadrabalaw01.CountsEnough", spec := "countsEnough", unfollowed := true, recurses := true, apart := false }
def CountsEnoughSaid : Prop := countsEnoughRow.holds Try.pinned (OpenSpec.ofChange countsEnoughSpec)

/-- ITS FALSE NEIGHBOUR: 'it returns false'. Refute it at one input. -/
def countsEnoughWrong : ChangeSpec := { name := "countsEnough", fn := fun _ => fun
  | [d1, d2, d3] => { results := [.lit (.bool false)], args := [d1, d2, d3] }
  | _ => none }
def CountsEnoughWrongFalsely : Prop := countsEnoughRow.holds Try.pinned (OpenSpec.ofChange countsEnoughWrong)

/-- 'almadrabalaw01.CountsTell': WHATEVER THE INPUT: true; the input reads as it did. -/
def countsTellSpec : ChangeSpec := { name := "countsTell", fn := fun _ => fun
  | [d1, d2, d3] => { results := [.lit (.bool true)], args := [d1, d2, d3] }
  | _ => none }
def countsTellRow : OpenClaim := { program := "ytjaaefdhdggnkaa", sum := "127b2ac9455eb65e07e446b9114258aebc44d2538b75020545b55d3ebcdbabeb", func := "almadraba/almadrabalaw01.CountsTell", spec := "countsTell", unfollowed := true, recurses := true, apart := false }
def CountsTellSaid : Prop := countsTellRow.holds Try.pinned (OpenSpec.ofChange countsTellSpec)

/-- ITS FALSE NEIGHBOUR: 'it returns false'. Refute it at one input. -/
def countsTellWrong : ChangeSpec := { name := "countsTell", fn := fun _ => fun
  | [d1, d2, d3] => { results := [.lit (.bool false)], args := [d1, d2, d3] }
  | _ => none }
def CountsTellWrongFalsely : Prop := countsTellRow.holds Try.pinned (OpenSpec.ofChange countsTellWrong)

/-- 'almadrabalaw01.CountsIdle': WHATEVER THE INPUT: true; the input reads as it did. -/
def countsIdleSpec : ChangeSpec := { name := "countsIdle", fn := fun _ => fun
  | [d1, d2] => { results := [.lit (.bool true)], args := [d1, d2] }
  | _ => none }
def countsIdleRow : OpenClaim := { program := "ytjaaefdhdggnkaa", sum := "127b2ac9455eb65e07e446b9114258aebc44d2538b75020545b55d3ebcdbabeb", func := "almadraba/almadrabalaw01.CountsIdle", spec := "countsIdle", unfollowed := true, recurses := true, apart := false }
def CountsIdleSaid : Prop := countsIdleRow.holds Try.pinned (OpenSpec.ofChange countsIdleSpec)

/-- ITS FALSE NEIGHBOUR: 'it returns false'. Refute it at one input. -/
def countsIdleWrong : ChangeSpec := { name := "countsIdle", fn := fun _ => fun
  | [d1, d2] => { results := [.lit (.bool false)], args := [d1, d2] }
  | _ => none }
def CountsIdleWrongFalsely : Prop := countsIdleRow.holds Try.pinned (OpenSpec.ofChange countsIdleWrong)

/-- 'almadrabalaw01.CountsHolds': WHATEVER THE INPUT: true; the input reads as it did. -/
def countsHoldsSpec : ChangeSpec := { name := "countsHolds", fn := fun _ => fun
  | [d1, d2] => { results := [.lit (.bool true)], args := [d1, d2] }
  | _ => none }
def countsHoldsRow : OpenClaim := { program := "ytjaaefdhdggnkaa", sum := "127b2ac9455eb65e07e446b9114258aebc44d2538b75020545b55d3ebcdbabeb", func := "almadraba/almadrabalaw01.CountsHolds", spec := "countsHolds", unfollowed := true, recurses := true, apart := false }
def CountsHoldsSaid : Prop := countsHoldsRow.holds Try.pinned (OpenSpec.ofChange countsHoldsSpec)

/-- ITS FALSE NEIGHBOUR: 'it returns false'. Refute it at one input. -/
def countsHoldsWrong : ChangeSpec := { name := "countsHolds", fn := fun _ => fun
  | [d1, d2] => { results := [.lit (.bool false)], args := [d1, d2] }
  | _ => none }
def CountsHoldsWrongFalsely : Prop := countsHoldsRow.holds Try.pinned (OpenSpec.ofChange countsHoldsWrong)

/-- 'almadrabalaw01.CountsFish': WHATEVER THE INPUT: true; the input reads as it did. -/
def countsFishSpec : ChangeSpec := { name := "countsFish", fn := fun _ => fun
  | [d1, d2, d3] => { results := [.lit (.bool true)], args := [d1, d2, d3] }
  | _ => none }
def countsFishRow : OpenClaim := { program := "ytjaaefdhdggnkaa", sum := "127b2ac9455eb65e07e446b9114258aebc44d2538b75020545b55d3ebcdbabeb", func := "almadraba/almadrabalaw01.CountsFish", spec := "countsFish", unfollowed := true, recurses := true, apart := false }
def CountsFishSaid : Prop := countsFishRow.holds Try.pinned (OpenSpec.ofChange countsFishSpec)

/-- ITS FALSE NEIGHBOUR: 'it returns false'. Refute it at one input. -/
def countsFishWrong : ChangeSpec := { name := "countsFish", fn := fun _ => fun
  | [d1, d2, d3] => { results := [.lit (.bool false)], args := [d1, d2, d3] }
  | _ => none }
def CountsFishWrongFalsely : Prop := countsFishRow.holds Try.pinned (OpenSpec.ofChange countsFishWrong)

/-- 'almadrabalaw01.CountsCame': WHATEVER THE INPUT: true; the input reads as it did. -/
def countsCameSpec : ChangeSpec := { name := "countsCame", fn := fun _ => fun
  | [d1, d2, d3] => { results := [.lit (.bool true)], args := [d1, d2, d3] }
  | _ => none }
def countsCameRow : OpenClaim := { program := "ytjaaefdhdggnkaa", sum := "127b2ac9455eb65e07e446b9114258aebc44d2538b75020545b55d3ebcdbabeb", func := "almadraba/almadrabalaw01.CountsCame", spec := "countsCame", unfollowed := true, recurses := true, apart := false }
def CountsCameSaid : Prop := countsCameRow.holds Try.pinned (OpenSpec.ofChange countsCameSpec)

/-- ITS FALSE NEIGHBOUR: 'it returns false'. Refute it at one input. -/
def countsCameWrong : ChangeSpec := { name := "countsCame", fn := fun _ => fun
  | [d1, d2, d3] => { results := [.lit (.bool false)], args := [d1, d2, d3] }
  | _ => none }
def CountsCameWrongFalsely : Prop := countsCameRow.holds Try.pinned (OpenSpec.ofChange countsCameWrong)

/-- 'almadrabalaw01.CountsJudge': WHATEVER THE INPUT: true; the input reads as it did. -/
def countsJudgeSpec : ChangeSpec := { name := "countsJudge", fn := fun _ => fun
  | [d1, d2, d3] => { results := [.lit (.bool true)], args := [d1, d2, d3] }
  | _ => none }
def countsJudgeRow : OpenClaim := { program := "ytjaaefdhdggnkaa", sum := "127b2ac9455eb65e07e446b9114258aebc44d2538b75020545b55d3ebcdbabeb", func := "almadraba/almadrabalaw01.CountsJudge", spec := "countsJudge", unfollowed := true, recurses := true, apart := false }
def CountsJudgeSaid : Prop := countsJudgeRow.holds Try.pinned (OpenSpec.ofChange countsJudgeSpec)

/-- ITS FALSE NEIGHBOUR: 'it returns false'. Refute it at one input. -/
def countsJudgeWrong : ChangeSpec := { name := "countsJudge", fn := fun _ => fun
  | [d1, d2, d3] => { results := [.lit (.bool false)], args := [d1, d2, d3] }
  | _ => none }
def CountsJudgeWrongFalsely : Prop := countsJudgeRow.holds Try.pinned (OpenSpec.ofChange countsJudgeWrong)

/-- 'almadrabalaw01.CountsAsk': WHATEVER THE INPUT: true; the input reads as it did. -/
def countsAskSpec : ChangeSpec := { name := "countsAsk", fn := fun _ => fun
  | [d1, d2] => { results := [.lit (.bool true)], args := [d1, d2] }
  | _ => none }
def countsAskRow : OpenClaim := { program := "ytjaaefdhdggnkaa", sum := "127b2ac9455eb65e07e446b9114258aebc44d2538b75020545b55d3ebcdbabeb", func := "almadraba/almadrabalaw01.CountsAsk", spec := "countsAsk", unfollowed := true, recurses := true, apart := false }
def CountsAskSaid : Prop := countsAskRow.holds Try.pinned (OpenSpec.ofChange countsAskSpec)

/-- ITS FALSE NEIGHBOUR: 'it returns false'. Refute it at one input. -/
def countsAskWrong : ChangeSpec := { name := "countsAsk", fn := fun _ => fun
  | [d1, d2] => { results := [.lit (.bool false)], args := [d1, d2] }
  | _ => none }
def CountsAskWrongFalsely : Prop := countsAskRow.holds Try.pinned (OpenSpec.ofChange countsAskWrong)

/- THE SECOND FORM. 'bulk': how many values and letters a reading holds, each counted each time it is reached (what is shared counts as often as it is met; a slice's spare places count too). A statement '..UptoSaid' is the law's where the arguments, and the package variables that the reading takes, are together of bulk at most 1048576: NARROWER than '..Said'. Prove '..Said' where nothing that the law and all that it calls make is longer than what came in: it says more and counts as full. Else prove '..UptoSaid'. A law counts once. -/
mutual
def uptoBulk {H : Type} : DataW H → Nat
  | .lit (.string bytes) => bytes.length + 1
  | .lit _ => 1
  | .nil => 1
  | .ptr d => uptoBulk d + 1
  | .slice elems spare => uptoBulkAll elems + uptoBulkAll spare + 1
  | .agg parts => uptoBulkAll parts + 1
  | .iface _ d => uptoBulk d + 1
  | .map entries => uptoBulkEntries entries + 1
  | .held _ => 1
def uptoBulkAll {H : Type} : List (DataW H) → Nat
  | [] => 0
  | d :: r => uptoBulk d + uptoBulkAll r
def uptoBulkEntries {H : Type} : List (Lit × DataW H) → Nat
  | [] => 0
  | x :: r => uptoBulkEntry x + uptoBulkEntries r
def uptoBulkEntry {H : Type} : Lit × DataW H → Nat
  | (.string bytes, d) => bytes.length + uptoBulk d + 1
  | (_, d) => uptoBulk d + 1
 end
def uptoSmall : (H : Type) → List (DataW H) → Bool := fun _ ds => decide (uptoBulkAll ds ≤ 1048576)
def OpenSpec.upto (s : _root_.Go.ChangeSpec) : _root_.Go.OpenSpec := { _root_.Go.OpenSpec.ofChange s with cond := some uptoSmall }

/-- 'almadrabalaw01.CountsEach', WHERE WHAT IT READS IS OF BULK AT MOST 1048576: true; the input reads as it did. -/
def countsEachUptoRow : OpenClaim := { program := "ytjaaefdhdggnkaa", sum := "127b2ac9455eb65e07e446b9114258aebc44d2538b75020545b55d3ebcdbabeb", func := "almadraba/almadrabalaw01.CountsEach", spec := "countsEach", unfollowed := true, recurses := true, apart := false, narrowed := true }
def CountsEachUptoSaid : Prop := countsEachUptoRow.holds Try.pinned (OpenSpec.upto countsEachSpec)

/-- 'almadrabalaw01.CountsEnds', WHERE WHAT IT READS IS OF BULK AT MOST 1048576: true; the input reads as it did. -/
def countsEndsUptoRow : OpenClaim := { program := "ytjaaefdhdggnkaa", sum := "127b2ac9455eb65e07e446b9114258aebc44d2538b75020545b55d3ebcdbabeb", func := "almadraba/almadrabalaw01.CountsEnds", spec := "countsEnds", unfollowed := true, recurses := true, apart := false, narrowed := true }
def CountsEndsUptoSaid : Prop := countsEndsUptoRow.holds Try.pinned (OpenSpec.upto countsEndsSpec)

/-- 'almadrabalaw01.CountsMore', WHERE WHAT IT READS IS OF BULK AT MOST 1048576: true; the input reads as it did. -/
def countsMoreUptoRow : OpenClaim := { program := "ytjaaefdhdggnkaa", sum := "127b2ac9455eb65e07e446b9114258aebc44d2538b75020545b55d3ebcdbabeb", func := "almadraba/almadrabalaw01.CountsMore", spec := "countsMore", unfollowed := true, recurses := true, apart := false, narrowed := true }
def CountsMoreUptoSaid : Prop := countsMoreUptoRow.holds Try.pinned (OpenSpec.upto countsMoreSpec)

/-- 'almadrabalaw01.CountsDoor', WHERE WHAT IT READS IS OF BULK AT MOST 1048576: true; the input reads as it did. -/
def countsDoorUptoRow : OpenClaim := { program := "ytjaaefdhdggnkaa", sum := "127b2ac9455eb65e07e446b9114258aebc44d2538b75020545b55d3ebcdbabeb", func := "almadraba/almadrabalaw01.CountsDoor", spec := "countsDoor", unfollowed := true, recurses := true, apart := false, narrowed := true }
def CountsDoorUptoSaid : Prop := countsDoorUptoRow.holds Try.pinned (OpenSpec.upto countsDoorSpec)

/-- 'almadrabalaw01.CountsTime', WHERE WHAT IT READS IS OF BULK AT MOST 1048576: true; the input reads as it did. -/
def countsTimeUptoRow : OpenClaim := { program := "ytjaaefdhdggnkaa", sum := "127b2ac9455eb65e07e446b9114258aebc44d2538b75020545b55d3ebcdbabeb", func := "almadraba/almadrabalaw01.CountsTime", spec := "countsTime", unfollowed := true, recurses := true, apart := false, narrowed := true }
def CountsTimeUptoSaid : Prop := countsTimeUptoRow.holds Try.pinned (OpenSpec.upto countsTimeSpec)

/-- 'almadrabalaw01.CountsEnough', WHERE WHAT IT READS IS OF BULK AT MOST 1048576: true; the input reads as it did. -/
def countsEnoughUptoRow : OpenClaim := { program := "ytjaaefdhdggnkaa", sum := "127b2ac9455eb65e07e446b9114258aebc44d2538b75020545b55d3ebcdbabeb", func := "almadraba/almadrabalaw01.CountsEnough", spec := "countsEnough", unfollowed := true, recurses := true, apart := false, narrowed := true }
def CountsEnoughUptoSaid : Prop := countsEnoughUptoRow.holds Try.pinned (OpenSpec.upto countsEnoughSpec)

/-- 'almadrabalaw01.CountsTell', WHERE WHAT IT READS IS OF BULK AT MOST 1048576: true; the input reads as it did. -/
def countsTellUptoRow : OpenClaim := { program := "ytjaaefdhdggnkaa", sum := "127b2ac9455eb65e07e446b9114258aebc44d2538b75020545b55d3ebcdbabeb", func := "almadraba/almadrabalaw01.CountsTell", spec := "countsTell", unfollowed := true, recurses := true, apart := false, narrowed := true }
def CountsTellUptoSaid : Prop := countsTellUptoRow.holds Try.pinned (OpenSpec.upto countsTellSpec)

/-- 'almadrabalaw01.CountsIdle', WHERE WHAT IT READS IS OF BULK AT MOST 1048576: true; the input reads as it did. -/
def countsIdleUptoRow : OpenClaim := { program := "ytjaaefdhdggnkaa", sum := "127b2ac9455eb65e07e446b9114258aebc44d2538b75020545b55d3ebcdbabeb", func := "almadraba/almadrabalaw01.CountsIdle", spec := "countsIdle", unfollowed := true, recurses := true, apart := false, narrowed := true }
def CountsIdleUptoSaid : Prop := countsIdleUptoRow.holds Try.pinned (OpenSpec.upto countsIdleSpec)

/-- 'almadrabalaw01.CountsHolds', WHERE WHAT IT READS IS OF BULK AT MOST 1048576: true; the input reads as it did. -/
def countsHoldsUptoRow : OpenClaim := { program := "ytjaaefdhdggnkaa", sum := "127b2ac9455eb65e07e446b9114258aebc44d2538b75020545b55d3ebcdbabeb", func := "almadraba/almadrabalaw01.CountsHolds", spec := "countsHolds", unfollowed := true, recurses := true, apart := false, narrowed := true }
def CountsHoldsUptoSaid : Prop := countsHoldsUptoRow.holds Try.pinned (OpenSpec.upto countsHoldsSpec)

/-- 'almadrabalaw01.CountsFish', WHERE WHAT IT READS IS OF BULK AT MOST 1048576: true; the input reads as it did. -/
def countsFishUptoRow : OpenClaim := { program := "ytjaaefdhdggnkaa", sum := "127b2ac9455eb65e07e446b9114258aebc44d2538b75020545b55d3ebcdbabeb", func := "almadraba/almadrabalaw01.CountsFish", spec := "countsFish", unfollowed := true, recurses := true, apart := false, narrowed := true }
def CountsFishUptoSaid : Prop := countsFishUptoRow.holds Try.pinned (OpenSpec.upto countsFishSpec)

/-- 'almadrabalaw01.CountsCame', WHERE WHAT IT READS IS OF BULK AT MOST 1048576: true; the input reads as it did. -/
def countsCameUptoRow : OpenClaim := { program := "ytjaaefdhdggnkaa", sum := "127b2ac9455eb65e07e446b9114258aebc44d2538b75020545b55d3ebcdbabeb", func := "almadraba/almadrabalaw01.CountsCame", spec := "countsCame", unfollowed := true, recurses := true, apart := false, narrowed := true }
def CountsCameUptoSaid : Prop := countsCameUptoRow.holds Try.pinned (OpenSpec.upto countsCameSpec)

/-- 'almadrabalaw01.CountsJudge', WHERE WHAT IT READS IS OF BULK AT MOST 1048576: true; the input reads as it did. -/
def countsJudgeUptoRow : OpenClaim := { program := "ytjaaefdhdggnkaa", sum := "127b2ac9455eb65e07e446b9114258aebc44d2538b75020545b55d3ebcdbabeb", func := "almadraba/almadrabalaw01.CountsJudge", spec := "countsJudge", unfollowed := true, recurses := true, apart := false, narrowed := true }
def CountsJudgeUptoSaid : Prop := countsJudgeUptoRow.holds Try.pinned (OpenSpec.upto countsJudgeSpec)

/-- 'almadrabalaw01.CountsAsk', WHERE WHAT IT READS IS OF BULK AT MOST 1048576: true; the input reads as it did. -/
def countsAskUptoRow : OpenClaim := { program := "ytjaaefdhdggnkaa", sum := "127b2ac9455eb65e07e446b9114258aebc44d2538b75020545b55d3ebcdbabeb", func := "almadraba/almadrabalaw01.CountsAsk", spec := "countsAsk", unfollowed := true, recurses := true, apart := false, narrowed := true }
def CountsAskUptoSaid : Prop := countsAskUptoRow.holds Try.pinned (OpenSpec.upto countsAskSpec)

end Rows
end Go.Proofs.Ytjaaefdhdggnkaa
