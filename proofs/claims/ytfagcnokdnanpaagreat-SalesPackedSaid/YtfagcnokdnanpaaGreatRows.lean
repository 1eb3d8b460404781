/-
  No cell of these rows narrows 'for every input' (looked for: loops, veiled, ifaces, maps, wideKeys, modest, calm, conditions, laid).
  DERIVED. THE GIVEN ROWS OF THIS SEAT. 10 by the template 'for every input the law returns true; each argument reads behind the call as it read before'; 0 by the template 'total and deterministic' (their statements: YtfagcnokdnanpaaGreatTotals.lean).
  GIVEN WITH THE SEED: the statements are not yours to turn. If you find one false, say at which input.
  Laid BY PROGRAM, IN A SANDBOX (cutbox-rows.mjs): the forced cells as the released guide's own fill.sh prints them over the translation 5c5ca10a805b5ae4… (all of the seat's roots in one cut). By AI agents, Wed Nov 11 2026. No macro, syntax, notation, axiom, sorry.
-/
import Derived.Test.YtfagcnokdnanpaaGreatChecked
import GoSem.Claim
import GoSem.ClaimJoined
import GoSem.ClaimMapViews
import Derived.JoinedTies
import Derived.KernelRfl
namespace Go.Proofs.YtfagcnokdnanpaaGreat
/- THE CELL 'sum', in the pinned program and in every row, IS THE sha256 OF THE DUMP (.gsa) THAT YtfagcnokdnanpaaGreatProg.lean LOADS. Nothing in Lean hashes anything: it is a label: what it is worth is what the hold of that sum in a sandbox is worth. -/
noncomputable def Tryz.pinned : Pinned := { name := "ytfagcnokdnanpaagreat", sum := "5c5ca10a805b5ae4709bfd3af9eba2097b0b81c934cd424ca8be31db3f9fc53c", checked := Tryz.checked }
namespace Rows
def none {H : Type} : Left H := { results := [], args := [] }

/-- 'almadrabalaw09.SalesEach': WHATEVER THE INPUT: true; the input reads as it did. -/
def salesEachSpec : ChangeSpec := { name := "salesEach", fn := fun _ => fun
  | [d1, d2] => { results := [.lit (.bool true)], args := [d1, d2] }
  | _ => none }
def salesEachRow : OpenClaim := { program := "ytfagcnokdnanpaagreat", sum := "5c5ca10a805b5ae4709bfd3af9eba2097b0b81c934cd424ca8be31db3f9fc53c", func := "almadraba/almadrabalaw09.SalesEach", spec := "salesEach", unfollowed := true, recurses := true, plainKeys := false, apart := false }
def SalesEachSaid : Prop := salesEachRow.holds Tryz.pinned (OpenSpec.ofChange salesEachSpec)

/-- ITS FALSE NEIGHBOUR: 'it returns false'. Refute it at one input. -/
def salesEachWrong : ChangeSpec := { name := "salesEach", fn := fun _ => fun
  | [d1, d2] => { results := [.lit (.bool false)], args := [d1, d2] }
  | _ => none }
def SalesEachWrongFalsely : Prop := salesEachRow.holds Tryz.pinned (OpenSpec.ofChange salesEachWrong)

/-- 'almadrabalaw09.SalesPaid': WHATEVER THE INPUT: true; the input reads as it did. -/
def salesPaidSpec : ChangeSpec := { name := "salesPaid", fn := fun _ => fun
  | [d] => { results := [.lit (.bool true)], args := [d] }
  | _ => none }
def salesPaidRow : OpenClaim := { program := "ytfagcnokdnanpaagreat", sum := "5c5ca10a805b5ae4709bfd3af9eba2097b0b81c934cd424ca8be31db3f9fc53c", func := "almadraba/almadrabalaw09.SalesPaid", spec := "salesPaid", unfollowed := true, recurses := true, plainKeys := false, apart := false }
def SalesPaidSaid : Prop := salesPaidRow.holds Tryz.pinned (OpenSpec.ofChange salesPaidSpec)

/-- ITS FALSE NEIGHBOUR: 'it returns false'. Refute it at one input. -/
def salesPaidWrong : ChangeSpec := { name := "salesPaid", fn := fun _ => fun
  | [d] => { results := [.lit (.bool false)], args := [d] }
  | _ => none }
def SalesPaidWrongFalsely : Prop := salesPaidRow.holds Tryz.pinned (OpenSpec.ofChange salesPaidWrong)

/-- 'almadrabalaw09.SalesHonest': WHATEVER THE INPUT: true; the input reads as it did. -/
def salesHonestSpec : ChangeSpec := { name := "salesHonest", fn := fun _ => fun
  | [d1, d2, d3] => { results := [.lit (.bool true)], args := [d1, d2, d3] }
  | _ => none }
def salesHonestRow : OpenClaim := { program := "ytfagcnokdnanpaagreat", sum := "5c5ca10a805b5ae4709bfd3af9eba2097b0b81c934cd424ca8be31db3f9fc53c", func := "almadraba/almadrabalaw09.SalesHonest", spec := "salesHonest", unfollowed := true, recurses := true, plainKeys := false, apart := false }
def SalesHonestSaid : Prop := salesHonestRow.holds Tryz.pinned (OpenSpec.ofChange salesHonestSpec)

/-- ITS FALSE NEIGHBOUR: 'it returns false'. Refute it at one input. -/
def salesHonestWrong : ChangeSpec := { name := "salesHonest", fn := fun _ => fun
  | [d1, d2, d3] => { results := [.lit (.bool false)], args := [d1, d2, d3] }
  | _ => none }
def SalesHonestWrongFalsely : Prop := salesHonestRow.holds Tryz.pinned (OpenSpec.ofChange salesHonestWrong)

/-- 'almadrabalaw09.SalesPacked': WHATEVER THE INPUT: true; the input reads as it did. -/
def salesPackedSpec : ChangeSpec := { name := "salesPacked", fn := fun _ => fun
  | [d1, d2] => { results := [.lit (.bool true)], args := [d1, d2] }
  | _ => none }
def salesPackedRow : OpenClaim := { program := "ytfagcnokdnanpaagreat", sum := "5c5ca10a805b5ae4709bfd3af9eba2097b0b81c934cd424ca8be31db3f9fc53c", func := "almadraba/almadrabalaw09.SalesPacked", spec := "salesPacked", unfollowed := true, recurses := true, plainKeys := false, apart := false }
def SalesPackedSaid : Prop := salesPackedRow.holds Tryz.pinned (OpenSpec.ofChange salesPackedSpec)

/-- ITS FALSE NEIGHBOUR: 'it returns false'. Refute it at one input. -/
def salesPackedWrong : ChangeSpec := { name := "salesPacked", fn := fun _ => fun
  | [d1, d2] => { results := [.lit (.bool false)], args := [d1, d2] }
  | _ => none }
def SalesPackedWrongFalsely : Prop := salesPackedRow.holds Tryz.pinned (OpenSpec.ofChange salesPackedWrong)

/-- 'almadrabalaw09.SalesOrder': WHATEVER THE INPUT: true; the input reads as it did. -/
def salesOrderSpec : ChangeSpec := { name := "salesOrder", fn := fun _ => fun
  | [d1, d2, d3] => { results := [.lit (.bool true)], args := [d1, d2, d3] }
  | _ => none }
def salesOrderRow : OpenClaim := { program := "ytfagcnokdnanpaagreat", sum := "5c5ca10a805b5ae4709bfd3af9eba2097b0b81c934cd424ca8be31db3f9fc53c", func := "almadraba/almadrabalaw09.SalesOrder", spec := "salesOrder", unfollowed := true, recurses := true, plainKeys := false, apart := false }
def SalesOrderSaid : Prop := salesOrderRow.holds Tryz.pinned (OpenSpec.ofChange salesOrderSpec)

/-- ITS FALSE NEIGHBOUR: 'it returns false'. Refute it at one input. -/
def salesOrderWrong : ChangeSpec := { name := "salesOrder", fn := fun _ => fun
  | [d1, d2, d3] => { results := [.lit (.bool false)], args := [d1, d2, d3] }
  | _ => none }
def SalesOrderWrongFalsely : Prop := salesOrderRow.holds Tryz.pinned (OpenSpec.ofChange salesOrderWrong)

/-- 'almadrabalaw09.SalesWithout': WHATEVER THE INPUT: true; the input reads as it did. -/
def salesWithoutSpec : ChangeSpec := { name := "salesWithout", fn := fun _ => fun
  | [d1, d2] => { results := [.lit (.bool true)], args := [d1, d2] }
  | _ => none }
def salesWithoutRow : OpenClaim := { program := "ytfagcnokdnanpaagreat", sum := "5c5ca10a805b5ae4709bfd3af9eba2097b0b81c934cd424ca8be31db3f9fc53c", func := "almadraba/almadrabalaw09.SalesWithout", spec := "salesWithout", unfollowed := true, recurses := true, plainKeys := false, apart := false }
def SalesWithoutSaid : Prop := salesWithoutRow.holds Tryz.pinned (OpenSpec.ofChange salesWithoutSpec)

/-- ITS FALSE NEIGHBOUR: 'it returns false'. Refute it at one input. -/
def salesWithoutWrong : ChangeSpec := { name := "salesWithout", fn := fun _ => fun
  | [d1, d2] => { results := [.lit (.bool false)], args := [d1, d2] }
  | _ => none }
def SalesWithoutWrongFalsely : Prop := salesWithoutRow.holds Tryz.pinned (OpenSpec.ofChange salesWithoutWrong)

/-- 'almadrabalaw09.SalesGood': WHATEVER THE INPUT: true; the input reads as it did. -/
def salesGoodSpec : ChangeSpec := { name := "salesGood", fn := fun _ => fun
  | [d1, d2] => { results := [.lit (.bool true)], args := [d1, d2] }
  | _ => none }
def salesGoodRow : OpenClaim := { program := "ytfagcnokdnanpaagreat", sum := "5c5ca10a805b5ae4709bfd3af9eba2097b0b81c934cd424ca8be31db3f9fc53c", func := "almadraba/almadrabalaw09.SalesGood", spec := "salesGood", unfollowed := true, recurses := true, plainKeys := false, apart := false }
def SalesGoodSaid : Prop := salesGoodRow.holds Tryz.pinned (OpenSpec.ofChange salesGoodSpec)

/-- ITS FALSE NEIGHBOUR: 'it returns false'. Refute it at one input. -/
def salesGoodWrong : ChangeSpec := { name := "salesGood", fn := fun _ => fun
  | [d1, d2] => { results := [.lit (.bool false)], args := [d1, d2] }
  | _ => none }
def SalesGoodWrongFalsely : Prop := salesGoodRow.holds Tryz.pinned (OpenSpec.ofChange salesGoodWrong)

/-- 'almadrabalaw09.SalesMost': WHATEVER THE INPUT: true; the input reads as it did. -/
def salesMostSpec : ChangeSpec := { name := "salesMost", fn := fun _ => fun
  | [d1, d2] => { results := [.lit (.bool true)], args := [d1, d2] }
  | _ => none }
def salesMostRow : OpenClaim := { program := "ytfagcnokdnanpaagreat", sum := "5c5ca10a805b5ae4709bfd3af9eba2097b0b81c934cd424ca8be31db3f9fc53c", func := "almadraba/almadrabalaw09.SalesMost", spec := "salesMost", unfollowed := true, recurses := true, plainKeys := false, apart := false }
def SalesMostSaid : Prop := salesMostRow.holds Tryz.pinned (OpenSpec.ofChange salesMostSpec)

/-- ITS FALSE NEIGHBOUR: 'it returns false'. Refute it at one input. -/
def salesMostWrong : ChangeSpec := { name := "salesMost", fn := fun _ => fun
  | [d1, d2] => { results := [.lit (.bool false)], args := [d1, d2] }
  | _ => none }
def SalesMostWrongFalsely : Prop := salesMostRow.holds Tryz.pinned (OpenSpec.ofChange salesMostWrong)

/-- 'almadrabalaw09.SalesPays': WHATEVER THE INPUT: true; the input reads as it did. -/
def salesPaysSpec : ChangeSpec := { name := "salesPays", fn := fun _ => fun
  | [d1, d2, d3] => { results := [.lit (.bool true)], args := [d1, d2, d3] }
  | _ => none }
def salesPaysRow : OpenClaim := { program := "ytfagcnokdnanpaagreat", sum := "5c5ca10a805b5ae4709bfd3af9eba2097b0b81c934cd424ca8be31db3f9fc53c", func := "almadraba/almadrabalaw09.SalesPays", spec := "salesPays", unfollowed := true, recurses := true, plainKeys := false, apart := false }
def SalesPaysSaid : Prop := salesPaysRow.holds Tryz.pinned (OpenSpec.ofChange salesPaysSpec)

/-- ITS FALSE NEIGHBOUR: 'it returns false'. Refute it at one input. -/
def salesPaysWrong : ChangeSpec := { name := "salesPays", fn := fun _ => fun
  | [d1, d2, d3] => { results := [.lit (.bool false)], args := [d1, d2, d3] }
  | _ => none }
def SalesPaysWrongFalsely : Prop := salesPaysRow.holds Tryz.pinned (OpenSpec.ofChange salesPaysWrong)

/-- 'almadrabalaw09.SalesRepack': WHATEVER THE INPUT: true; the input reads as it did. -/
def salesRepackSpec : ChangeSpec := { name := "salesRepack", fn := fun _ => fun
  | [d] => { results := [.lit (.bool true)], args := [d] }
  | _ => none }
def salesRepackRow : OpenClaim := { program := "ytfagcnokdnanpaagreat", sum := "5c5ca10a805b5ae4709bfd3af9eba2097b0b81c934cd424ca8be31db3f9fc53c", func := "almadraba/almadrabalaw09.SalesRepack", spec := "salesRepack", unfollowed := true, recurses := true, plainKeys := false, apart := false }
def SalesRepackSaid : Prop := salesRepackRow.holds Tryz.pinned (OpenSpec.ofChange salesRepackSpec)

/-- ITS FALSE NEIGHBOUR: 'it returns false'. Refute it at one input. -/
def salesRepackWrong : ChangeSpec := { name := "salesRepack", fn := fun _ => fun
  | [d] => { results := [.lit (.bool false)], args := [d] }
  | _ => none }
def SalesRepackWrongFalsely : Prop := salesRepackRow.holds Tryz.pinned (OpenSpec.ofChange salesRepackWrong)

/- THE SECOND FORM. 'bulk': how many values and letters a reading holds, each counted each time it is reached (what is shared counts as often as it is met; a slice's spare places count too). A statement '..UptoSaid' is the law's where the arguments, and the package variables that the reading takes, are together of bulk at most 1048576: NARROWER than '..Said'. Prove '..Said' where nothing that the law and all that it calls make is longer than what came in: it says more and counts as full. Else prove '..UptoSaid'. A law counts once. -/
mutual
def uptoBulk {H : Type} : DataW H → Nat
  | .lit (.string bytes) => bytes.length + 1
  | .lit _ => 1
  | .nil => 1
  | .ptr d => uptoBulk d + 1
  | .slice elems spare => uptoBulkAll elems + uptoBulkAll spare + 1
  | .agg parts => uptoBulkAll parts + 1
  | .iface _ d => uptoBulk d + 1
  | .map entries => uptoBulkEntries entries + 1
  | .held _ => 1
def uptoBulkAll {H : Type} : List (DataW H) → Nat
  | [] => 0
  | d :: r => uptoBulk d + uptoBulkAll r
def uptoBulkEntries {H : Type} : List (Lit × DataW H) → Nat
  | [] => 0
  | x :: r => uptoBulkEntry x + uptoBulkEntries r
def uptoBulkEntry {H : Type} : Lit × DataW H → Nat
  | (.string bytes, d) => bytes.length + uptoBulk d + 1
  | (_, d) => uptoBulk d + 1
 end
def uptoSmall : (H : Type) → List (DataW H) → Bool := fun _ ds => decide (uptoBulkAll ds ≤ 1048576)
def OpenSpec.upto (s : _root_.Go.ChangeSpec) : _root_.Go.OpenSpec := { _root_.Go.OpenSpec.ofChange s with cond := some uptoSmall }

/-- 'almadrabalaw09.SalesEach', WHERE WHAT IT READS IS OF BULK AT MOST 1048576: true; the input reads as it did. -/
def salesEachUptoRow : OpenClaim := { program := "ytfagcnokdnanpaagreat", sum := "5c5ca10a805b5ae4709bfd3af9eba2097b0b81c934cd424ca8be31db3f9fc53c", func := "almadraba/almadrabalaw09.SalesEach", spec := "salesEach", unfollowed := true, recurses := true, plainKeys := false, apart := false, narrowed := true }
def SalesEachUptoSaid : Prop := salesEachUptoRow.holds Tryz.pinned (OpenSpec.upto salesEachSpec)

/-- 'almadrabalaw09.SalesPaid', WHERE WHAT IT READS IS OF BULK AT MOST 1048576: true; the input reads as it did. -/
def salesPaidUptoRow : OpenClaim := { program := "ytfagcnokdnanpaagreat", sum := "5c5ca10a805b5ae4709bfd3af9eba2097b0b81c934cd424ca8be31db3f9fc53c", func := "almadraba/almadrabalaw09.SalesPaid", spec := "salesPaid", unfollowed := true, recurses := true, plainKeys := false, apart := false, narrowed := true }
def SalesPaidUptoSaid : Prop := salesPaidUptoRow.holds Tryz.pinned (OpenSpec.upto salesPaidSpec)

/-- 'almadrabalaw09.SalesHonest', WHERE WHAT IT READS IS OF BULK AT MOST 1048576: true; the input reads as it did. -/
def salesHonestUptoRow : OpenClaim := { program := "ytfagcnokdnanpaagreat", sum := "5c5ca10a805b5ae4709bfd3af9eba2097b0b81c934cd424ca8be31db3f9fc53c", func := "almadraba/almadrabalaw09.SalesHonest", spec := "salesHonest", unfollowed := true, recurses := true, plainKeys := false, apart := false, narrowed := true }
def SalesHonestUptoSaid : Prop := salesHonestUptoRow.holds Tryz.pinned (OpenSpec.upto salesHonestSpec)

/-- 'almadrabalaw09.SalesPacked', WHERE WHAT IT READS IS OF BULK AT MOST 1048576: true; the input reads as it did. -/
def salesPackedUptoRow : OpenClaim := { program := "ytfagcnokdnanpaagreat", sum := "5c5ca10a805b5ae4709bfd3af9eba2097b0b81c934cd424ca8be31db3f9fc53c", func := "almadraba/almadrabalaw09.SalesPacked", spec := "salesPacked", unfollowed := true, recurses := true, plainKeys := false, apart := false, narrowed := true }
def SalesPackedUptoSaid : Prop := salesPackedUptoRow.holds Tryz.pinned (OpenSpec.upto salesPackedSpec)

/-- 'almadrabalaw09.SalesOrder', WHERE WHAT IT READS IS OF BULK AT MOST 1048576: true; the input reads as it did. -/
def salesOrderUptoRow : OpenClaim := { program := "ytfagcnokdnanpaagreat", sum := "5c5ca10a805b5ae4709bfd3af9eba2097b0b81c934cd424ca8be31db3f9fc53c", func := "almadraba/almadrabalaw09.SalesOrder", spec := "salesOrder", unfollowed := true, recurses := true, plainKeys := false, apart := false, narrowed := true }
def SalesOrderUptoSaid : Prop := salesOrderUptoRow.holds Tryz.pinned (OpenSpec.upto salesOrderSpec)

/-- 'almadrabalaw09.SalesWithout', WHERE WHAT IT READS IS OF BULK AT MOST 1048576: true; the input reads as it did. -/
def salesWithoutUptoRow : OpenClaim := { program := "ytfagcnokdnanpaagreat", sum := "5c5ca10a805b5ae4709bfd3af9eba2097b0b81c934cd424ca8be31db3f9fc53c", func := "almadraba/almadrabalaw09.SalesWithout", spec := "salesWithout", unfollowed := true, recurses := true, plainKeys := false, apart := false, narrowed := true }
def SalesWithoutUptoSaid : Prop := salesWithoutUptoRow.holds Tryz.pinned (OpenSpec.upto salesWithoutSpec)

/-- 'almadrabalaw09.SalesGood', WHERE WHAT IT READS IS OF BULK AT MOST 1048576: true; the input reads as it did. -/
def salesGoodUptoRow : OpenClaim := { program := "ytfagcnokdnanpaagreat", sum := "5c5ca10a805b5ae4709bfd3af9eba2097b0b81c934cd424ca8be31db3f9fc53c", func := "almadraba/almadrabalaw09.SalesGood", spec := "salesGood", unfollowed := true, recurses := true, plainKeys := false, apart := false, narrowed := true }
def SalesGoodUptoSaid : Prop := salesGoodUptoRow.holds Tryz.pinned (OpenSpec.upto salesGoodSpec)

/-- 'almadrabalaw09.SalesMost', WHERE WHAT IT READS IS OF BULK AT MOST 1048576: true; the input reads as it did. -/
def salesMostUptoRow : OpenClaim := { program := "ytfagcnokdnanpaagreat", sum := "5c5ca10a805b5ae4709bfd3af9eba2097b0b81c934cd424ca8be31db3f9fc53c", func := "almadraba/almadrabalaw09.SalesMost", spec := "salesMost", unfollowed := true, recurses := true, plainKeys := false, apart := false, narrowed := true }
def SalesMostUptoSaid : Prop := salesMostUptoRow.holds Tryz.pinned (OpenSpec.upto salesMostSpec)

/-- 'almadrabalaw09.SalesPays', WHERE WHAT IT READS IS OF BULK AT MOST 1048576: true; the input reads as it did. -/
def salesPaysUptoRow : OpenClaim := { program := "ytfagcnokdnanpaagreat", sum := "5c5ca10a805b5ae4709bfd3af9eba2097b0b81c934cd424ca8be31db3f9fc53c", func := "almadraba/almadrabalaw09.SalesPays", spec := "salesPays", unfollowed := true, recurses := true, plainKeys := false, apart := false, narrowed := true }
def SalesPaysUptoSaid : Prop := salesPaysUptoRow.holds Tryz.pinned (OpenSpec.upto salesPaysSpec)

/-- 'almadrabalaw09.SalesRepack', WHERE WHAT IT READS IS OF BULK AT MOST 1048576: true; the input reads as it did. -/
def salesRepackUptoRow : OpenClaim := { program := "ytfagcnokdnanpaagreat", sum := "5c5ca10a805b5ae4709bfd3af9eba2097b0b81c934cd424ca8be31db3f9fc53c", func := "almadraba/almadrabalaw09.SalesRepack", spec := "salesRepack", unfollowed := true, recurses := true, plainKeys := false, apart := false, narrowed := true }
def SalesRepackUptoSaid : Prop := salesRepackUptoRow.holds Tryz.pinned (OpenSpec.upto salesRepackSpec)

end Rows
end Go.Proofs.YtfagcnokdnanpaaGreat
