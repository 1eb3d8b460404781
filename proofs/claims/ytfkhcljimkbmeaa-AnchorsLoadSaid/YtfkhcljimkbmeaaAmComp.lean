/-
From the model's code to the abstract machine's: types are looked up once; a region whose order is open is taken only
where every order comes to the same.
-/
import Derived.Test.YtfkhcljimkbmeaaAmDef
namespace Go.Am
open Go

def toAV : Nat → Value → Option AV
  | _, .bool b => some (.bool b)
  | _, .int k n => some (.int k n)
  | _, .string s => some (.str s)
  | _, .pointer none => some .nilp
  | _, .slice none 0 0 => some .nils
  | _, .nilFunc => some .nilf
  | _, .nilIface => some .nili
  | n + 1, .agg c => (c.toList.mapM (toAV n)).map .agg
  | n + 1, .tuple c => (c.toList.mapM (toAV n)).map .tup
  | _, _ => none

def szP (P : Program) (t : TypeId) : Option Nat := (P.info? t).map (·.size)
def ebP (P : Program) (t : TypeId) : Option Nat := (P.info? t).map (·.bytes)
def aggP (P : Program) (t : TypeId) : Option Bool :=
  match P.underlying t with
  | some (.struct _) | some (.array _ _) => some true
  | some _ => some false
  | none => none
def zeroP (P : Program) (t : TypeId) : Option AV := ((P.info? t).bind (·.zero)).bind (toAV 2)

def cOpd : Operand → Option Opd
  | .tmp t => some (.t t)
  | .const v => (toAV 2 v).map .c
  | .func f => some (.c (.fn f [] []))
  | .global _ => none

def cParts (f : Nat → Option (Nat × Nat)) : List (Nat × Operand) → Option (List (Nat × Nat × Opd))
  | [] => some []
  | (i, x) :: r => do
    let (o, s) ← f i
    let y ← cOpd x
    let l ← cParts f r
    some ((o, s, y) :: l)

def cPartsI : List (Nat × Operand) → Option (List (Nat × Opd))
  | [] => some []
  | (i, x) :: r => do
    let y ← cOpd x
    let l ← cPartsI r
    some ((i, y) :: l)

def cOpdO : Option Operand → Option (Option Opd)
  | none => some none
  | some x => (cOpd x).map some

def plainKinds (P : Program) : Nat → List Field → Option (List Bool)
  | _, [] => some []
  | i, f :: r =>
    if f.name ≠ "_" ∧ f.offset = i then
      match P.underlying f.type, plainKinds P (i + 1) r with
      | some (.int _), some l => some (true :: l)
      | some .bool, some l => some (false :: l)
      | _, _ => none
    else none

/-- a struct whose parts are integers and bools, a cell each -/
def plainStruct (P : Program) (t : TypeId) : Option (List Bool) :=
  match P.underlying t with
  | some (.struct fs) => if P.stoodInHeld t = false ∧ P.eqGuardType P.depth t = false then plainKinds P 0 fs.toList else none
  | _ => none

def binOk : BinOp → Bool
  | .add | .sub | .mul | .quo | .rem | .eql | .neq | .lss | .leq | .gtr | .geq => true
  | _ => false

def cOp (P : Program) (mode : Nat → Nat) : Op → Option AOp
  | .move x | .assign x => do some (.p (.move (← cOpd x)))
  | .pick c a b => do some (.p (.pick (← cOpd c) (← cOpd a) (← cOpd b)))
  | .alloc e => do some (.alloc (← zeroP P e).cells)
  | .box _ x => do some (.box (← cOpd x))
  | .build t parts => do
    let z ← zeroP P t
    match P.underlying t with
    | some (.struct fs) =>
      let l ← cParts (fun i => do let f ← fs[i]?; let s ← szP P f.type; some (f.offset, s)) parts.toList
      if fs.toList.all fun f => (szP P f.type).isSome then some (.p (.build z.cells l)) else none
    | some (.array _ e) =>
      let s ← szP P e
      let l ← cParts (fun i => some (i * s, s)) parts.toList
      some (.p (.build z.cells l))
    | _ => none
  | .buildSlice t len parts => do
    match P.underlying t with
    | some (.slice e) =>
      let s ← szP P e
      let z ← zeroP P e
      let l ← cPartsI parts.toList
      if len * s ≤ 16777216 ∧ z.cells.length = s ∧ 1 ≤ s then some (.buildSlice s len z.cells l) else none
    | _ => none
  | .load t a => do some (.load (← aggP P t) (← szP P t) (← cOpd a))
  | .store t a x => do some (.store (← szP P t) (← cOpd a) (← cOpd x))
  | .nilCheck x => do some (.p (.nilCheck (← cOpd x)))
  | .binOp op t x y _ => do
    let a ← cOpd x
    let b ← cOpd y
    match P.underlying t, op with
    | some (.int _), op => if binOk op then some (.p (.bin op a b)) else none
    | some .bool, .eql => some (.p (.eqB false a b))
    | some .bool, .neq => some (.p (.eqB true a b))
    | some (.struct _), .eql => do some (.p (.eqS false (← plainStruct P t) a b))
    | some (.struct _), .neq => do some (.p (.eqS true (← plainStruct P t) a b))
    | _, _ => none
  | .unOp .neg _ x => do some (.p (.un .neg (← cOpd x)))
  | .unOp .not _ x => do some (.p (.un .not (← cOpd x)))
  | .convert src dst x => do
    match P.underlying src, P.underlying dst with
    | some (.int _), some (.int k) => some (.p (.conv k (← cOpd x)))
    | _, _ => none
  | .makeFunc (.func f) first captured => do
    some (.p (.mkFn f (← first.toList.mapM cOpd) (← captured.toList.mapM cOpd)))
  | .makeSlice t l c => do
    match P.underlying t with
    | some (.slice e) =>
      let s ← szP P e
      let eb ← ebP P e
      let z ← zeroP P e
      if z.cells.length = s ∧ 1 ≤ s then some (.makeSlice s eb z.cells (← cOpd l) (← cOpd c)) else none
    | _ => none
  | .slice t x lo hi none => do
    match P.underlying t with
    | some (.slice e) => some (.p (.slice (← szP P e) (← cOpd x) (← cOpdO lo) (← cOpdO hi)))
    | _ => none
  | .fieldAddr t x f => do
    match P.underlying t with
    | some (.struct fs) =>
      let g ← fs[f]?
      if (← szP P g.type) = 0 then none else some (.p (.fieldAddr g.offset (← cOpd x)))
    | _ => none
  | .field t x f => do
    match P.underlying t with
    | some (.struct fs) =>
      let g ← fs[f]?
      some (.p (.field (← aggP P g.type) g.offset (← szP P g.type) (← cOpd x)))
    | _ => none
  | .indexAddr t x i => do
    match P.underlying t with
    | some (.array n e) => some (.p (.idxArr n (← szP P e) (← cOpd x) (← cOpd i)))
    | some (.slice e) => some (.p (.idxSl (← szP P e) (← cOpd x) (← cOpd i)))
    | _ => none
  | .index t x i => do
    match P.underlying t with
    | some (.array n e) => some (.p (.idx (← aggP P e) n (← szP P e) (← cOpd x) (← cOpd i)))
    | _ => none
  | .extract x ix => do some (.p (.extract (← cOpd x) ix))
  | .call c => do
    let as ← c.args.toList.mapM cOpd
    match c.callee with
    | .value (.func f) => some (.call (mode f) f as)
    | .value x => some (.callv (mode 1000000 == 3) (← cOpd x) as)
    | .builtin .append => do
      match (c.argTypes[0]?).bind P.underlying, (c.argTypes[1]?).bind P.underlying, as with
      | some (.slice e), some (.slice _), [s, x] =>
        let z ← zeroP P e
        let s' ← szP P e
        if z.cells.length = s' ∧ 1 ≤ s' ∧ c.argTypes = #[c.argTypes.getD 0 0, c.argTypes.getD 0 0] then some (.append false s' (← ebP P e) s x) else none
      | some (.slice e), some (.int .i64), [s, x] =>
        let z ← zeroP P e
        let s' ← szP P e
        if z.cells.length = s' ∧ 1 ≤ s' then some (.appendZ s' (← ebP P e) z.cells s x) else none
      | _, _, _ => none
    | .builtin .cap =>
      match (c.argTypes[0]?).bind P.underlying, as with
      | some (.slice _), [x] => some (.p (.capS x))
      | _, _ => none
    | .builtin .len =>
      match (c.argTypes[0]?).bind P.underlying, as with
      | some (.slice _), [x] => some (.p (.lenS x))
      | some (.array n _), [_] => some (.p (.lenA n))
      | some (.pointer a), [_] => match P.underlying a with
        | some (.array n _) => some (.p (.lenA n))
        | _ => none
      | _, _ => none
    | .builtin .min => match as with
      | x :: xs => some (.p (.minmax false x xs))
      | _ => none
    | .builtin .max => match as with
      | x :: xs => some (.p (.minmax true x xs))
      | _ => none
    | _ => none
  | _ => none

def cGuard (ops : Array Oper) : Option (Nat × Bool) → Option (Option (Nat × Bool))
  | none => some none
  | some (j, want) => match (ops[j]?).bind (·.dst) with
    | some d => some (some (d, want))
    | none => none

def cOpers (P : Program) (mode : Nat → Nat) (ops : Array Oper) : List Oper → Option (List AOper)
  | [] => some []
  | o :: r => do
    let a := (cOp P mode o.op).getD (.p .bad)
    let g ← cGuard ops o.guard
    let l ← cOpers P mode ops r
    some (⟨o.dst, a, g, none, []⟩ :: l)

/-! regions whose order is open -/

def Opd.tmps : Opd → List Nat
  | .t i => [i]
  | .c _ => []

def POp.opds : POp → List Opd
  | .move x | .nilCheck x | .un _ x | .conv _ x | .fieldAddr _ x | .field _ _ _ x | .extract x _ | .lenS x | .capS x => [x]
  | .pick c a b => [c, a, b]
  | .build _ parts => parts.map fun (_, _, x) => x
  | .bin _ x y | .eqB _ x y | .eqS _ _ x y | .idxArr _ _ x y | .idxSl _ x y | .idx _ _ _ x y => [x, y]
  | .mkFn _ a b => a ++ b
  | .slice _ x lo hi => x :: (lo.toList ++ hi.toList)
  | .lenA _ | .bad => []
  | .minmax _ x xs => x :: xs

def AOp.opds : AOp → List Opd
  | .p o => o.opds
  | .load _ _ x | .box x => [x]
  | .store _ a x => [a, x]
  | .alloc _ => []
  | .buildSlice _ _ _ parts => parts.map fun (_, x) => x
  | .makeSlice _ _ _ a b | .append _ _ _ a b | .appendZ _ _ _ a b => [a, b]
  | .call _ _ as => as
  | .callv _ f as => f :: as

def AOper.looks (o : AOper) : List Nat :=
  o.op.opds.flatMap Opd.tmps ++ (match o.guard with | some (t, _) => [t] | none => [])

/-- p: looks at its operands alone · r: reads · q: reads, in a call · k: a call that adds objects · e: writes · a: makes one new object · x: an append -/
inductive Cls where
  | p | r | q | k | e | a | x
  deriving DecidableEq

def AOp.cls : AOp → Cls
  | .p _ => .p
  | .load .. | .call 1 _ _ => .r
  | .call 2 _ _ => .k
  | .call 3 _ _ => .q
  | .callv true _ _ => .q
  | .alloc _ | .box _ | .buildSlice .. | .makeSlice .. | .appendZ .. => .a
  | .append .. => .x
  | _ => .e

def Cls.makes : Cls → Bool
  | .a | .x => true
  | _ => false

/-- what must have come before each operation -/
def closure (ops : List Oper) : List (List Nat) :=
  ops.foldl (fun acc o => acc ++ [o.after.toList.flatMap fun e => if Region.binds .any e then e.on :: acc.getD e.on [] else []]) []

def edgesBack (ops : List Oper) : Bool :=
  ops.zipIdx.all fun (o, i) => o.after.toList.all fun e => !Region.binds .any e || e.on < i

def AOp.kept : AOp → AOp
  | .append _ esz eb s x => .append true esz eb s x
  | o => o

/-- places for the objects that a region of open order makes: one an operation; a store through the temporary of an 'alloc' of the region writes its place -/
def slotsOf (as : List AOper) : List AOper :=
  let al : List (Option Nat × Nat) := ((as.filter (fun o => o.op.cls.makes)).zipIdx.filter (fun (o, _) => match o.op with | .alloc _ => true | _ => false)).map fun (o, n) => (o.dst, n)
  let nth (i : Nat) : Nat := ((as.take i).filter (fun o => o.op.cls.makes)).length
  as.zipIdx.map fun (o, i) => match o.op with
    | .store _ (.t t) _ => match al.find? (fun x => x.1 == some t) with
      | some (_, n) => { o with slot := some n }
      | none => o
    | op => if op.cls.makes then { o with slot := some (nth i), op := op.kept } else o

def masksOf (cl : List (List Nat)) (as : List AOper) : List AOper :=
  as.zipIdx.map fun (o, i) =>
    if o.op.cls == .p || o.op.cls == .a || (o.slot.isSome && o.op.cls == .e) then o else
      { o with mask := as.zipIdx.filterMap fun (x, j) => if x.op.cls.makes && i != j && !(cl.getD i []).contains j then x.slot else none }

/-- an append that no reading may come behind need not keep what it leaves behind -/
def relaxOf (cl : List (List Nat)) (as : List AOper) : List AOper :=
  as.zipIdx.map fun (o, i) => match o.op with
    | .append true esz eb s x =>
      if as.zipIdx.all (fun (y, j) => y.op.cls != .r || (cl.getD i []).contains j) then { o with op := .append false esz eb s x } else o
    | _ => o

def drawn (ops : List Oper) (as : List AOper) : List AOper := relaxOf (closure ops) (masksOf (closure ops) (slotsOf as))

def slotCount (as : List AOper) : Nat := (as.filter (fun o => o.op.cls.makes)).length

def AOp.keeps : AOp → Bool
  | .append k _ _ _ _ => k
  | _ => false

/-- may x, the first of the two in the text, come behind y, if neither waits for the other? -/
def swapOk (x y : AOper) : Bool :=
  (match x.dst with | some d => !y.looks.contains d && y.dst != some d | none => true) &&
  (match y.dst with | some d => !x.looks.contains d | none => true) &&
  (x.op.cls == .p || y.op.cls == .p ||
   match x.slot, y.slot with
   | some s, some t => s != t && (x.op.cls != .x || (y.op.cls != .x && x.mask.contains t)) && (y.op.cls != .x || y.mask.contains s)
   | some s, none => y.mask.contains s && (x.op.cls != .x || (y.op.cls == .r && x.op.keeps))
   | none, some t => x.mask.contains t && (y.op.cls != .x || (x.op.cls == .r && y.op.keeps))
   | none, none => (x.op.cls == .r || x.op.cls == .q) && (y.op.cls == .r || y.op.cls == .q) || (x.op.cls == .r && y.op.cls == .k))

def isStore : AOp → Bool
  | .store .. => true
  | _ => false

/-- the place that an operation fills -/
def AOper.made (o : AOper) : Option Nat :=
  match o.slot, o.op with
  | some _, .store .. => none
  | sl, _ => sl

/-- only what makes an object, or writes one that the region makes, has a place -/
def shapeOk (as : List AOper) : Bool :=
  as.all fun o => match o.slot with
    | some s => !o.mask.contains s && (o.op.cls == .a || o.op.cls == .x || isStore o.op) && as.any (fun x => x.made == some s)
    | none => true

def okDraw (ops : List Oper) (as : List AOper) : Bool :=
  let cl := closure ops
  edgesBack ops && shapeOk as && as.zipIdx.all fun (o, i) => as.zipIdx.all fun (x, j) =>
    !(i < j) || (cl.getD j []).contains i || swapOk o x

def slotsOk (k : Nat) (as : List AOper) : Bool :=
  as.zipIdx.all fun (o, i) => o.mask.all (fun s => s < k && o.made != some s) && (match o.made with | some s => s < k | none => true) &&
    as.zipIdx.all fun (x, j) => i == j || o.made.isNone || o.made != x.made

def cCode (P : Program) (mode : Nat → Nat) : Code → Option ACode
  | .skip => some .skip
  | .label _ => some .skip
  | .region _ ops draw => do
    let l ← cOpers P mode ops ops.toList
    if !draw then some (.region 0 l) else
    let d := drawn ops.toList l
    if P.follows .mixedOrders && okDraw ops.toList d && slotsOk (slotCount l) d then some (.region (slotCount l) d) else none
  | .seq a b => do some (.seq (← cCode P mode a) (← cCode P mode b))
  | .cond c a b => do some (.cond (← cOpd c) (← cCode P mode a) (← cCode P mode b))
  | .block id c => do some (.block id (← cCode P mode c))
  | .loop c => do some (.loop (← cCode P mode c))
  | .rangeFunc f ps as bd => do some (.rangeFunc (← cOpd f) ps.toList (← cCode P mode as) (← cCode P mode bd))
  | .exit id => some (.exit id)
  | .scope c => do some (.scope (← cCode P mode c))
  | .ret => some .ret
  | _ => none

def cRes (P : Program) : ResultVar → Option ARes
  | .tmp t => some (.tmp t)
  | .cell a t => do some (.cell (← aggP P t) (← szP P t) a)

def cFn (P : Program) (mode : Nat → Nat) (f : Nat) : Option AFn := do
  let fn ← P.funcs[f]?
  let b ← fn.body
  if fn.name = "runtime.NumGoroutine" then none else
  some { ntmps := fn.ntmps, results := ← fn.results.toList.mapM (cRes P), body := ← cCode P mode b }

end Go.Am
