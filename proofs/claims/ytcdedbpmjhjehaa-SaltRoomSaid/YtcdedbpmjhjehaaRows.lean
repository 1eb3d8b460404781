/-
  No cell of these rows narrows 'for every input' (looked for: loops, veiled, ifaces, maps, wideKeys, modest, calm, conditions, laid).
  DERIVED. THE GIVEN ROWS OF THIS SEAT. 12 by the template 'for every input the law returns true; each argument reads behind the call as it read before'; 0 by the template 'total and deterministic' (their statements: YtcdedbpmjhjehaaTotals.lean).
  GIVEN WITH THE SEED: the statements are not yours to turn. If you find one false, say at which input.
  Laid BY PROGRAM, IN A SANDBOX (cutbox-rows.mjs): the forced cells as the released guide's own fill.sh prints them over the translation 0e0d24def57de0bd… (all of the seat's roots in one cut). By AI agents, Wed Nov 11 2026. No macro, syntax, notation, axiom, sorry.
-/
import Derived.Test.YtcdedbpmjhjehaaChecked
import GoSem.Claim
import GoSem.ClaimJoined
import GoSem.ClaimMapViews
import Derived.JoinedTies
import Derived.KernelRfl
namespace Go.Proofs.Ytcdedbpmjhjehaa
/- THE CELL 'sum', in the pinned program and in every row, IS THE sha256 OF THE DUMP (.gsa) THAT YtcdedbpmjhjehaaProg.lean LOADS. Nothing in Lean hashes anything: it is a label: what it is worth is what the hold of that sum in a sandbox is worth. -/
noncomputable def Try.pinned : Pinned := { name := "ytcdedbpmjhjehaa", sum := "0e0d24def57de0bd6205bc6130f77386341270be3c4c6e3c14880985e0bad1d2", checked := Try.checked }
namespace Rows
def none {H : Type} : Left H := { results := [], args := [] }

/-- 'almadrabalaw08.SaltParts': WHATEVER THE INPUT: true; the input reads as it did. -/
def saltPartsSpec : ChangeSpec := { name := "saltParts", fn := fun _ => fun
  | [d1, d2] => { results := [.lit (.bool true)], args := [d1, d2] }
  | _ => none }
def saltPartsRow : OpenClaim := { program := "ytcdedbpmjhjehaa", sum := "0e0d24def57de0bd6205bc6130f77386341270be3c4c6e3c14880985e0bad1d2", func := "almadraba/almadrabalaw08.SaltParts", spec := "saltParts", unfollowed := true, recurses := true, apart := false }
def SaltPartsSaid : Prop := saltPartsRow.holds Try.pinned (OpenSpec.ofChange saltPartsSpec)

/-- ITS FALSE NEIGHBOUR: 'it returns false'. Refute it at one input. -/
def saltPartsWrong : ChangeSpec := { name := "saltParts", fn := fun _ => fun
  | [d1, d2] => { results := [.lit (.bool false)], args := [d1, d2] }
  | _ => none }
def SaltPartsWrongFalsely : Prop := saltPartsRow.holds Try.pinned (OpenSpec.ofChange saltPartsWrong)

/-- 'almadrabalaw08.SaltLeast': WHATEVER THE INPUT: true; the input reads as it did. -/
def saltLeastSpec : ChangeSpec := { name := "saltLeast", fn := fun _ => fun
  | [d] => { results := [.lit (.bool true)], args := [d] }
  | _ => none }
def saltLeastRow : OpenClaim := { program := "ytcdedbpmjhjehaa", sum := "0e0d24def57de0bd6205bc6130f77386341270be3c4c6e3c14880985e0bad1d2", func := "almadraba/almadrabalaw08.SaltLeast", spec := "saltLeast", unfollowed := true, recurses := true, apart := false }
def SaltLeastSaid : Prop := saltLeastRow.holds Try.pinned (OpenSpec.ofChange saltLeastSpec)

/-- ITS FALSE NEIGHBOUR: 'it returns false'. Refute it at one input. -/
def saltLeastWrong : ChangeSpec := { name := "saltLeast", fn := fun _ => fun
  | [d] => { results := [.lit (.bool false)], args := [d] }
  | _ => none }
def SaltLeastWrongFalsely : Prop := saltLeastRow.holds Try.pinned (OpenSpec.ofChange saltLeastWrong)

/-- 'almadrabalaw08.SaltWhere': WHATEVER THE INPUT: true; the input reads as it did. -/
def saltWhereSpec : ChangeSpec := { name := "saltWhere", fn := fun _ => fun
  | [d1, d2, d3] => { results := [.lit (.bool true)], args := [d1, d2, d3] }
  | _ => none }
def saltWhereRow : OpenClaim := { program := "ytcdedbpmjhjehaa", sum := "0e0d24def57de0bd6205bc6130f77386341270be3c4c6e3c14880985e0bad1d2", func := "almadraba/almadrabalaw08.SaltWhere", spec := "saltWhere", unfollowed := true, recurses := true, apart := false }
def SaltWhereSaid : Prop := saltWhereRow.holds Try.pinned (OpenSpec.ofChange saltWhereSpec)

/-- ITS FALSE NEIGHBOUR: 'it returns false'. Refute it at one input. -/
def saltWhereWrong : ChangeSpec := { name := "saltWhere", fn := fun _ => fun
  | [d1, d2, d3] => { results := [.lit (.bool false)], args := [d1, d2, d3] }
  | _ => none }
def SaltWhereWrongFalsely : Prop := saltWhereRow.holds Try.pinned (OpenSpec.ofChange saltWhereWrong)

/-- 'almadrabalaw08.SaltStock': WHATEVER THE INPUT: true; the input reads as it did. -/
def saltStockSpec : ChangeSpec := { name := "saltStock", fn := fun _ => fun
  | [d1, d2] => { results := [.lit (.bool true)], args := [d1, d2] }
  | _ => none }
def saltStockRow : OpenClaim := { program := "ytcdedbpmjhjehaa", sum := "0e0d24def57de0bd6205bc6130f77386341270be3c4c6e3c14880985e0bad1d2", func := "almadraba/almadrabalaw08.SaltStock", spec := "saltStock", unfollowed := true, recurses := true, apart := false }
def SaltStockSaid : Prop := saltStockRow.holds Try.pinned (OpenSpec.ofChange saltStockSpec)

/-- ITS FALSE NEIGHBOUR: 'it returns false'. Refute it at one input. -/
def saltStockWrong : ChangeSpec := { name := "saltStock", fn := fun _ => fun
  | [d1, d2] => { results := [.lit (.bool false)], args := [d1, d2] }
  | _ => none }
def SaltStockWrongFalsely : Prop := saltStockRow.holds Try.pinned (OpenSpec.ofChange saltStockWrong)

/-- 'almadrabalaw08.SaltEach': WHATEVER THE INPUT: true; the input reads as it did. -/
def saltEachSpec : ChangeSpec := { name := "saltEach", fn := fun _ => fun
  | [d1, d2, d3] => { results := [.lit (.bool true)], args := [d1, d2, d3] }
  | _ => none }
def saltEachRow : OpenClaim := { program := "ytcdedbpmjhjehaa", sum := "0e0d24def57de0bd6205bc6130f77386341270be3c4c6e3c14880985e0bad1d2", func := "almadraba/almadrabalaw08.SaltEach", spec := "saltEach", unfollowed := true, recurses := true, apart := false }
def SaltEachSaid : Prop := saltEachRow.holds Try.pinned (OpenSpec.ofChange saltEachSpec)

/-- ITS FALSE NEIGHBOUR: 'it returns false'. Refute it at one input. -/
def saltEachWrong : ChangeSpec := { name := "saltEach", fn := fun _ => fun
  | [d1, d2, d3] => { results := [.lit (.bool false)], args := [d1, d2, d3] }
  | _ => none }
def SaltEachWrongFalsely : Prop := saltEachRow.holds Try.pinned (OpenSpec.ofChange saltEachWrong)

/-- 'almadrabalaw08.SaltRoom': WHATEVER THE INPUT: true; the input reads as it did. -/
def saltRoomSpec : ChangeSpec := { name := "saltRoom", fn := fun _ => fun
  | [d1, d2, d3] => { results := [.lit (.bool true)], args := [d1, d2, d3] }
  | _ => none }
def saltRoomRow : OpenClaim := { program := "ytcdedbpmjhjehaa", sum := "0e0d24def57de0bd6205bc6130f77386341270be3c4c6e3c14880985e0bad1d2", func := "almadraba/almadrabalaw08.SaltRoom", spec := "saltRoom", unfollowed := true, recurses := true, apart := false }
def SaltRoomSaid : Prop := saltRoomRow.holds Try.pinned (OpenSpec.ofChange saltRoomSpec)

/-- ITS FALSE NEIGHBOUR: 'it returns false'. Refute it at one input. -/
def saltRoomWrong : ChangeSpec := { name := "saltRoom", fn := fun _ => fun
  | [d1, d2, d3] => { results := [.lit (.bool false)], args := [d1, d2, d3] }
  | _ => none }
def SaltRoomWrongFalsely : Prop := saltRoomRow.holds Try.pinned (OpenSpec.ofChange saltRoomWrong)

/-- 'almadrabalaw08.SaltLess': WHATEVER THE INPUT: true; the input reads as it did. -/
def saltLessSpec : ChangeSpec := { name := "saltLess", fn := fun _ => fun
  | [d1, d2] => { results := [.lit (.bool true)], args := [d1, d2] }
  | _ => none }
def saltLessRow : OpenClaim := { program := "ytcdedbpmjhjehaa", sum := "0e0d24def57de0bd6205bc6130f77386341270be3c4c6e3c14880985e0bad1d2", func := "almadraba/almadrabalaw08.SaltLess", spec := "saltLess", unfollowed := true, recurses := true, apart := false }
def SaltLessSaid : Prop := saltLessRow.holds Try.pinned (OpenSpec.ofChange saltLessSpec)

/-- ITS FALSE NEIGHBOUR: 'it returns false'. Refute it at one input. -/
def saltLessWrong : ChangeSpec := { name := "saltLess", fn := fun _ => fun
  | [d1, d2] => { results := [.lit (.bool false)], args := [d1, d2] }
  | _ => none }
def SaltLessWrongFalsely : Prop := saltLessRow.holds Try.pinned (OpenSpec.ofChange saltLessWrong)

/-- 'almadrabalaw08.SaltTogether': WHATEVER THE INPUT: true; the input reads as it did. -/
def saltTogetherSpec : ChangeSpec := { name := "saltTogether", fn := fun _ => fun
  | [d1, d2, d3] => { results := [.lit (.bool true)], args := [d1, d2, d3] }
  | _ => none }
def saltTogetherRow : OpenClaim := { program := "ytcdedbpmjhjehaa", sum := "0e0d24def57de0bd6205bc6130f77386341270be3c4c6e3c14880985e0bad1d2", func := "almadraba/almadrabalaw08.SaltTogether", spec := "saltTogether", unfollowed := true, recurses := true, apart := false }
def SaltTogetherSaid : Prop := saltTogetherRow.holds Try.pinned (OpenSpec.ofChange saltTogetherSpec)

/-- ITS FALSE NEIGHBOUR: 'it returns false'. Refute it at one input. -/
def saltTogetherWrong : ChangeSpec := { name := "saltTogether", fn := fun _ => fun
  | [d1, d2, d3] => { results := [.lit (.bool false)], args := [d1, d2, d3] }
  | _ => none }
def SaltTogetherWrongFalsely : Prop := saltTogetherRow.holds Try.pinned (OpenSpec.ofChange saltTogetherWrong)

/-- 'almadrabalaw08.SaltOrder': WHATEVER THE INPUT: true; the input reads as it did. -/
def saltOrderSpec : ChangeSpec := { name := "saltOrder", fn := fun _ => fun
  | [d1, d2] => { results := [.lit (.bool true)], args := [d1, d2] }
  | _ => none }
def saltOrderRow : OpenClaim := { program := "ytcdedbpmjhjehaa", sum := "0e0d24def57de0bd6205bc6130f77386341270be3c4c6e3c14880985e0bad1d2", func := "almadraba/almadrabalaw08.SaltOrder", spec := "saltOrder", unfollowed := true, recurses := true, apart := false }
def SaltOrderSaid : Prop := saltOrderRow.holds Try.pinned (OpenSpec.ofChange saltOrderSpec)

/-- ITS FALSE NEIGHBOUR: 'it returns false'. Refute it at one input. -/
def saltOrderWrong : ChangeSpec := { name := "saltOrder", fn := fun _ => fun
  | [d1, d2] => { results := [.lit (.bool false)], args := [d1, d2] }
  | _ => none }
def SaltOrderWrongFalsely : Prop := saltOrderRow.holds Try.pinned (OpenSpec.ofChange saltOrderWrong)

/-- 'almadrabalaw08.SaltStocks': WHATEVER THE INPUT: true; the input reads as it did. -/
def saltStocksSpec : ChangeSpec := { name := "saltStocks", fn := fun _ => fun
  | [d1, d2, d3] => { results := [.lit (.bool true)], args := [d1, d2, d3] }
  | _ => none }
def saltStocksRow : OpenClaim := { program := "ytcdedbpmjhjehaa", sum := "0e0d24def57de0bd6205bc6130f77386341270be3c4c6e3c14880985e0bad1d2", func := "almadraba/almadrabalaw08.SaltStocks", spec := "saltStocks", unfollowed := true, recurses := true, apart := false }
def SaltStocksSaid : Prop := saltStocksRow.holds Try.pinned (OpenSpec.ofChange saltStocksSpec)

/-- ITS FALSE NEIGHBOUR: 'it returns false'. Refute it at one input. -/
def saltStocksWrong : ChangeSpec := { name := "saltStocks", fn := fun _ => fun
  | [d1, d2, d3] => { results := [.lit (.bool false)], args := [d1, d2, d3] }
  | _ => none }
def SaltStocksWrongFalsely : Prop := saltStocksRow.holds Try.pinned (OpenSpec.ofChange saltStocksWrong)

/-- 'almadrabalaw08.SaltBuy': WHATEVER THE INPUT: true; the input reads as it did. -/
def saltBuySpec : ChangeSpec := { name := "saltBuy", fn := fun _ => fun
  | [d1, d2] => { results := [.lit (.bool true)], args := [d1, d2] }
  | _ => none }
def saltBuyRow : OpenClaim := { program := "ytcdedbpmjhjehaa", sum := "0e0d24def57de0bd6205bc6130f77386341270be3c4c6e3c14880985e0bad1d2", func := "almadraba/almadrabalaw08.SaltBuy", spec := "saltBuy", unfollowed := true, recurses := true, apart := false }
def SaltBuySaid : Prop := saltBuyRow.holds Try.pinned (OpenSpec.ofChange saltBuySpec)

/-- ITS FALSE NEIGHBOUR: 'it returns false'. Refute it at one input. -/
def saltBuyWrong : ChangeSpec := { name := "saltBuy", fn := fun _ => fun
  | [d1, d2] => { results := [.lit (.bool false)], args := [d1, d2] }
  | _ => none }
def SaltBuyWrongFalsely : Prop := saltBuyRow.holds Try.pinned (OpenSpec.ofChange saltBuyWrong)

/-- 'almadrabalaw08.SaltLater': WHATEVER THE INPUT: true; the input reads as it did. -/
def saltLaterSpec : ChangeSpec := { name := "saltLater", fn := fun _ => fun
  | [d1, d2, d3] => { results := [.lit (.bool true)], args := [d1, d2, d3] }
  | _ => none }
def saltLaterRow : OpenClaim := { program := "ytcdedbpmjhjehaa", sum := "0e0d24def57de0bd6205bc6130f77386341270be3c4c6e3c14880985e0bad1d2", func := "almadraba/almadrabalaw08.SaltLater", spec := "saltLater", unfollowed := true, recurses := true, apart := false }
def SaltLaterSaid : Prop := saltLaterRow.holds Try.pinned (OpenSpec.ofChange saltLaterSpec)

/-- ITS FALSE NEIGHBOUR: 'it returns false'. Refute it at one input. -/
def saltLaterWrong : ChangeSpec := { name := "saltLater", fn := fun _ => fun
  | [d1, d2, d3] => { results := [.lit (.bool false)], args := [d1, d2, d3] }
  | _ => none }
def SaltLaterWrongFalsely : Prop := saltLaterRow.holds Try.pinned (OpenSpec.ofChange saltLaterWrong)

/- THE SECOND FORM. 'bulk': how many values and letters a reading holds, each counted each time it is reached (what is shared counts as often as it is met; a slice's spare places count too). A statement '..UptoSaid' is the law's where the arguments, and the package variables that the reading takes, are together of bulk at most 1048576: NARROWER than '..Said'. Prove '..Said' where nothing that the law and all that it calls make is longer than what came in: it says more and counts as full. Else prove '..UptoSaid'. A law counts once. -/
mutual
def uptoBulk {H : Type} : DataW H → Nat
  | .lit (.string bytes) => bytes.length + 1
  | .lit _ => 1
  | .nil => 1
  | .ptr d => uptoBulk d + 1
  | .slice elems spare => uptoBulkAll elems + uptoBulkAll spare + 1
  | .agg parts => uptoBulkAll parts + 1
  | .iface _ d => uptoBulk d + 1
  | .map entries => uptoBulkEntries entries + 1
  | .held _ => 1
def uptoBulkAll {H : Type} : List (DataW H) → Nat
  | [] => 0
  | d :: r => uptoBulk d + uptoBulkAll r
def uptoBulkEntries {H : Type} : List (Lit × DataW H) → Nat
  | [] => 0
  | x :: r => uptoBulkEntry x + uptoBulkEntries r
def uptoBulkEntry {H : Type} : Lit × DataW H → Nat
  | (.string bytes, d) => bytes.length + uptoBulk d + 1
  | (_, d) => uptoBulk d + 1
 end
def uptoSmall : (H : Type) → List (DataW H) → Bool := fun _ ds => decide (uptoBulkAll ds ≤ 1048576)
def OpenSpec.upto (s : _root_.Go.ChangeSpec) : _root_.Go.OpenSpec := { _root_.Go.OpenSpec.ofChange s with cond := some uptoSmall }

/-- 'almadrabalaw08.SaltParts', WHERE WHAT IT READS IS OF BULK AT MOST 1048576: true; the input reads as it did. -/
def saltPartsUptoRow : OpenClaim := { program := "ytcdedbpmjhjehaa", sum := "0e0d24def57de0bd6205bc6130f77386341270be3c4c6e3c14880985e0bad1d2", func := "almadraba/almadrabalaw08.SaltParts", spec := "saltParts", unfollowed := true, recurses := true, apart := false, narrowed := true }
def SaltPartsUptoSaid : Prop := saltPartsUptoRow.holds Try.pinned (OpenSpec.upto saltPartsSpec)

/-- 'almadrabalaw08.SaltLeast', WHERE WHAT IT READS IS OF BULK AT MOST 1048576: true; the input reads as it did. -/
def saltLeastUptoRow : OpenClaim := { program := "ytcdedbpmjhjehaa", sum := "0e0d24def57de0bd6205bc6130f77386341270be3c4c6e3c14880985e0bad1d2", func := "almadraba/almadrabalaw08.SaltLeast", spec := "saltLeast", unfollowed := true, recurses := true, apart := false, narrowed := true }
def SaltLeastUptoSaid : Prop := saltLeastUptoRow.holds Try.pinned (OpenSpec.upto saltLeastSpec)

/-- 'almadrabalaw08.SaltWhere', WHERE WHAT IT READS IS OF BULK AT MOST 1048576: true; the input reads as it did. -/
def saltWhereUptoRow : OpenClaim := { program := "ytcdedbpmjhjehaa", sum := "0e0d24def57de0bd6205bc6130f77386341270be3c4c6e3c14880985e0bad1d2", func := "almadraba/almadrabalaw08.SaltWhere", spec := "saltWhere", unfollowed := true, recurses := true, apart := false, narrowed := true }
def SaltWhereUptoSaid : Prop := saltWhereUptoRow.holds Try.pinned (OpenSpec.upto saltWhereSpec)

/-- 'almadrabalaw08.SaltStock', WHERE WHAT IT READS IS OF BULK AT MOST 1048576: true; the input reads as it did. -/
def saltStockUptoRow : OpenClaim := { program := "ytcdedbpmjhjehaa", sum := "0e0d24def57de0bd6205bc6130f77386341270be3c4c6e3c14880985e0bad1d2", func := "almadraba/almadrabalaw08.SaltStock", spec := "saltStock", unfollowed := true, recurses := true, apart := false, narrowed := true }
def SaltStockUptoSaid : Prop := saltStockUptoRow.holds Try.pinned (OpenSpec.upto saltStockSpec)

/-- 'almadrabalaw08.SaltEach', WHERE WHAT IT READS IS OF BULK AT MOST 1048576: true; the input reads as it did. -/
def saltEachUptoRow : OpenClaim := { program := "ytcdedbpmjhjehaa", sum := "0e0d24def57de0bd6205bc6130f77386341270be3c4c6e3c14880985e0bad1d2", func := "almadraba/almadrabalaw08.SaltEach", spec := "saltEach", unfollowed := true, recurses := true, apart := false, narrowed := true }
def SaltEachUptoSaid : Prop := saltEachUptoRow.holds Try.pinned (OpenSpec.upto saltEachSpec)

/-- 'almadrabalaw08.SaltRoom', WHERE WHAT IT READS IS OF BULK AT MOST 1048576: true; the input reads as it did. -/
def saltRoomUptoRow : OpenClaim := { program := "ytcdedbpmjhjehaa", sum := "0e0d24def57de0bd6205bc6130f77386341270be3c4c6e3c14880985e0bad1d2", func := "almadraba/almadrabalaw08.SaltRoom", spec := "saltRoom", unfollowed := true, recurses := true, apart := false, narrowed := true }
def SaltRoomUptoSaid : Prop := saltRoomUptoRow.holds Try.pinned (OpenSpec.upto saltRoomSpec)

/-- 'almadrabalaw08.SaltLess', WHERE WHAT IT READS IS OF BULK AT MOST 1048576: true; the input reads as it did. -/
def saltLessUptoRow : OpenClaim := { program := "ytcdedbpmjhjehaa", sum := "0e0d24def57de0bd6205bc6130f77386341270be3c4c6e3c14880985e0bad1d2", func := "almadraba/almadrabalaw08.SaltLess", spec := "saltLess", unfollowed := true, recurses := true, apart := false, narrowed := true }
def SaltLessUptoSaid : Prop := saltLessUptoRow.holds Try.pinned (OpenSpec.upto saltLessSpec)

/-- 'almadrabalaw08.SaltTogether', WHERE WHAT IT READS IS OF BULK AT MOST 1048576: true; the input reads as it did. -/
def saltTogetherUptoRow : OpenClaim := { program := "ytcdedbpmjhjehaa", sum := "0e0d24def57de0bd6205bc6130f77386341270be3c4c6e3c14880985e0bad1d2", func := "almadraba/almadrabalaw08.SaltTogether", spec := "saltTogether", unfollowed := true, recurses := true, apart := false, narrowed := true }
def SaltTogetherUptoSaid : Prop := saltTogetherUptoRow.holds Try.pinned (OpenSpec.upto saltTogetherSpec)

/-- 'almadrabalaw08.SaltOrder', WHERE WHAT IT READS IS OF BULK AT MOST 1048576: true; the input reads as it did. -/
def saltOrderUptoRow : OpenClaim := { program := "ytcdedbpmjhjehaa", sum := "0e0d24def57de0bd6205bc6130f77386341270be3c4c6e3c14880985e0bad1d2", func := "almadraba/almadrabalaw08.SaltOrder", spec := "saltOrder", unfollowed := true, recurses := true, apart := false, narrowed := true }
def SaltOrderUptoSaid : Prop := saltOrderUptoRow.holds Try.pinned (OpenSpec.upto saltOrderSpec)

/-- 'almadrabalaw08.SaltStocks', WHERE WHAT IT READS IS OF BULK AT MOST 1048576: true; the input reads as it did. -/
def saltStocksUptoRow : OpenClaim := { program := "ytcdedbpmjhjehaa", sum := "0e0d24def57de0bd6205bc6130f77386341270be3c4c6e3c14880985e0bad1d2", func := "almadraba/almadrabalaw08.SaltStocks", spec := "saltStocks", unfollowed := true, recurses := true, apart := false, narrowed := true }
def SaltStocksUptoSaid : Prop := saltStocksUptoRow.holds Try.pinned (OpenSpec.upto saltStocksSpec)

/-- 'almadrabalaw08.SaltBuy', WHERE WHAT IT READS IS OF BULK AT MOST 1048576: true; the input reads as it did. -/
def saltBuyUptoRow : OpenClaim := { program := "ytcdedbpmjhjehaa", sum := "0e0d24def57de0bd6205bc6130f77386341270be3c4c6e3c14880985e0bad1d2", func := "almadraba/almadrabalaw08.SaltBuy", spec := "saltBuy", unfollowed := true, recurses := true, apart := false, narrowed := true }
def SaltBuyUptoSaid : Prop := saltBuyUptoRow.holds Try.pinned (OpenSpec.upto saltBuySpec)

/-- 'almadrabalaw08.SaltLater', WHERE WHAT IT READS IS OF BULK AT MOST 1048576: true; the input reads as it did. -/
def saltLaterUptoRow : OpenClaim := { program := "ytcdedbpmjhjehaa", sum := "0e0d24def57de0bd6205bc6130f77386341270be3c4c6e3c14880985e0bad1d2", func := "almadraba/almadrabalaw08.SaltLater", spec := "saltLater", unfollowed := true, recurses := true, apart := false, narrowed := true }
def SaltLaterUptoSaid : Prop := saltLaterUptoRow.holds Try.pinned (OpenSpec.upto saltLaterSpec)

end Rows
end Go.Proofs.Ytcdedbpmjhjehaa
