/-
  No cell of these rows narrows 'for every input' (looked for: loops, veiled, ifaces, maps, wideKeys, modest, calm, conditions, laid).
  DERIVED. THE GIVEN ROWS OF THIS SEAT. 3 by the template 'for every input the law returns true; each argument reads behind the call as it read before'; 0 by the template 'total and deterministic' (their statements: YtfagcnokdnanpaaTotals.lean).
  GIVEN WITH THE SEED: the statements are not yours to turn. If you find one false, say at which input.
  Laid BY PROGRAM, IN A SANDBOX (cutbox-rows.mjs): the forced cells as the released guide's own fill.sh prints them over the translation aa16702c24d43546… (all of the seat's roots in one cut). By AI agents, Wed Nov 11 2026. No macro, syntax, notation, axiom, sorry.
-/
import Derived.Test.YtfagcnokdnanpaaChecked
import GoSem.Claim
import GoSem.ClaimJoined
import GoSem.ClaimMapViews
import Derived.JoinedTies
import Derived.KernelRfl
namespace Go.Proofs.Ytfagcnokdnanpaa
/- THE CELL 'sum', in the pinned program and in every row, IS THE sha256 OF THE DUMP (.gsa) THAT YtfagcnokdnanpaaProg.lean LOADS. Nothing in Lean hashes anything: it is a label: what it is worth is what the hold of that sum in a sandbox is worth. -/
noncomputable def Try.pinned : Pinned := { name := "ytfagcnokdnanpaa", sum := "aa16702c24d43546f6209e50483f136d8fa3c7fb65e883af8162b951fdf34d24", checked := Try.checked }
namespace Rows
def none {H : Type} : Left H := { results := [], args := [] }

/-- 'almadrabalaw09.SalesMore': WHATEVER THE INPUT: true; the input reads as it did. -/
def salesMoreSpec : ChangeSpec := { name := "salesMore", fn := fun _ => fun
  | [d1, d2, d3] => { results := [.lit (.bool true)], args := [d1, d2, d3] }
  | _ => none }
def salesMoreRow : OpenClaim := { program := "ytfagcnokdnanpaa", sum := "aa16702c24d43546f6209e50483f136d8fa3c7fb65e883af8162b951fdf34d24", func := "almadraba/almadrabalaw09.SalesMore", spec := "salesMore", unfollowed := true, recurses := true, plainKeys := false, apart := false }
def SalesMoreSaid : Prop := salesMoreRow.holds Try.pinned (OpenSpec.ofChange salesMoreSpec)

/-- ITS FALSE NEIGHBOUR: 'it returns false'. Refute it at one input. -/
def salesMoreWrong : ChangeSpec := { name := "salesMore", fn := fun _ => fun
  | [d1, d2, d3] => { results := [.lit (.bool false)], args := [d1, d2, d3] }
  | _ => none }
def SalesMoreWrongFalsely : Prop := salesMoreRow.holds Try.pinned (OpenSpec.ofChange salesMoreWrong)

/-- 'almadrabalaw09.SalesNeed': WHATEVER THE INPUT: true; the input reads as it did. -/
def salesNeedSpec : ChangeSpec := { name := "salesNeed", fn := fun _ => fun
  | [d1, d2] => { results := [.lit (.bool true)], args := [d1, d2] }
  | _ => none }
def salesNeedRow : OpenClaim := { program := "ytfagcnokdnanpaa", sum := "aa16702c24d43546f6209e50483f136d8fa3c7fb65e883af8162b951fdf34d24", func := "almadraba/almadrabalaw09.SalesNeed", spec := "salesNeed", unfollowed := true, recurses := true, plainKeys := false, apart := false }
def SalesNeedSaid : Prop := salesNeedRow.holds Try.pinned (OpenSpec.ofChange salesNeedSpec)

/-- ITS FALSE NEIGHBOUR: 'it returns false'. Refute it at one input. -/
def salesNeedWrong : ChangeSpec := { name := "salesNeed", fn := fun _ => fun
  | [d1, d2] => { results := [.lit (.bool false)], args := [d1, d2] }
  | _ => none }
def SalesNeedWrongFalsely : Prop := salesNeedRow.holds Try.pinned (OpenSpec.ofChange salesNeedWrong)

/-- 'almadrabalaw09.SalesLater': WHATEVER THE INPUT: true; the input reads as it did. -/
def salesLaterSpec : ChangeSpec := { name := "salesLater", fn := fun _ => fun
  | [d1, d2, d3] => { results := [.lit (.bool true)], args := [d1, d2, d3] }
  | _ => none }
def salesLaterRow : OpenClaim := { program := "ytfagcnokdnanpaa", sum := "aa16702c24d43546f6209e50483f136d8fa3c7fb65e883af8162b951fdf34d24", func := "almadraba/almadrabalaw09.SalesLater", spec := "salesLater", unfollowed := true, recurses := true, plainKeys := false, apart := false }
def SalesLaterSaid : Prop := salesLaterRow.holds Try.pinned (OpenSpec.ofChange salesLaterSpec)

/-- ITS FALSE NEIGHBOUR: 'it returns false'. Refute it at one input. -/
def salesLaterWrong : ChangeSpec := { name := "salesLater", fn := fun _ => fun
  | [d1, d2, d3] => { results := [.lit (.bool false)], args := [d1, d2, d3] }
  | _ => none }
def SalesLaterWrongFalsely : Prop := salesLaterRow.holds Try.pinned (OpenSpec.ofChange salesLaterWrong)

/- THE SECOND FORM. 'bulk': how many values and letters a reading holds, each counted each time it is reached (what is shared counts as often as it is met; a slice's spare places count too). A statement '..UptoSaid' is the law's where the arguments, and the package variables that the reading takes, are together of bulk at most 1048576: NARROWER than '..Said'. Prove '..Said' where nothing that the law and all that it calls make is longer than what came in: it says more and counts as full. Else prove '..UptoSaid'. A law counts once. -/
mutual
def uptoBulk {H : Type} : DataW H → Nat
  | .lit (.string bytes) => bytes.length + 1
  | .lit _ => 1
  | .nil => 1
  | .ptr d => uptoBulk d + 1
  | .slice elems spare => uptoBulkAll elems + uptoBulkAll spare + 1
  | .agg parts => uptoBulkAll parts + 1
  | .iface _ d => uptoBulk d + 1
  | .map entries => uptoBulkEntries entries + 1
  | .held _ => 1
def uptoBulkAll {H : Type} : List (DataW H) → Nat
  | [] => 0
  | d :: r => uptoBulk d + uptoBulkAll r
def uptoBulkEntries {H : Type} : List (Lit × DataW H) → Nat
  | [] => 0
  | x :: r => uptoBulkEntry x + uptoBulkEntries r
def uptoBulkEntry {H : Type} : Lit × DataW H → Nat
  | (.string bytes, d) => bytes.length + uptoBulk d + 1
  | (_, d) => uptoBulk d + 1
 end
def uptoSmall : (H : Type) → List (DataW H) → Bool := fun _ ds => decide (uptoBulkAll ds ≤ 1048576)
def OpenSpec.upto (s : _root_.Go.ChangeSpec) : _root_.Go.OpenSpec := { _root_.Go.OpenSpec.ofChange s with cond := some uptoSmall }

/-- 'almadrabalaw09.SalesMore', WHERE WHAT IT READS IS OF BULK AT MOST 1048576: true; the input reads as it did. -/
def salesMoreUptoRow : OpenClaim := { program := "ytfagcnokdnanpaa", sum := "aa16702c24d43546f6209e50483f136d8fa3c7fb65e883af8162b951fdf34d24", func := "almadraba/almadrabalaw09.SalesMore", spec := "salesMore", unfollowed := true, recurses := true, plainKeys := false, apart := false, narrowed := true }
def SalesMoreUptoSaid : Prop := salesMoreUptoRow.holds Try.pinned (OpenSpec.upto salesMoreSpec)

/-- 'almadrabalaw09.SalesNeed', WHERE WHAT IT READS IS OF BULK AT MOST 1048576: true; the input reads as it did. -/
def salesNeedUptoRow : OpenClaim := { program := "ytfagcnokdnanpaa", sum := "aa16702c24d43546f6209e50483f136d8fa3c7fb65e883af8162b951fdf34d24", func := "almadraba/almadrabalaw09.SalesNeed", spec := "salesNeed", unfollowed := true, recurses := true, plainKeys := false, apart := false, narrowed := true }
def SalesNeedUptoSaid : Prop := salesNeedUptoRow.holds Try.pinned (OpenSpec.upto salesNeedSpec)

/-- 'almadrabalaw09.SalesLater', WHERE WHAT IT READS IS OF BULK AT MOST 1048576: true; the input reads as it did. -/
def salesLaterUptoRow : OpenClaim := { program := "ytfagcnokdnanpaa", sum := "aa16702c24d43546f6209e50483f136d8fa3c7fb65e883af8162b951fdf34d24", func := "almadraba/almadrabalaw09.SalesLater", spec := "salesLater", unfollowed := true, recurses := true, plainKeys := false, apart := false, narrowed := true }
def SalesLaterUptoSaid : Prop := salesLaterUptoRow.holds Try.pinned (OpenSpec.upto salesLaterSpec)

end Rows
end Go.Proofs.Ytfagcnokdnanpaa
