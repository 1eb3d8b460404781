/-
An abstract machine for the Go code of the model, proved sound, and rules to run code in it (AmW).
-/
import GoSem.Dispatch
import Derived.DeepKeys3
import Derived.WalkKit
/-
An abstract machine for the Go code of the model: values without addresses of the model's memory,lists in place of
arrays,no tape. What it answers is proved (in the texts behind this one) to be what the model's machine answers,
whatever order and whatever capacity the tape picks.
-/
namespace Go.Am
open Go
inductive AV where
 | bool (b : Bool)
 | int (k : IntKind) (n : Int)
 | str (s : ByteArray)
 | nilp
 | ptr (o off : Nat)
 | cptr (cells : List AV)
 | nils
 | cs (esz len : Nat) (cells : List AV)
 | ms (esz o off len : Nat)
 | mc (esz o off len : Nat)
 | mr (esz o off len room : Nat)
 | fn (f : Nat) (first captured : List AV)
 | yld (o : Nat)
 | nilf
 | agg (cells : List AV)
 | tup (vs : List AV)
 | iface (t : Nat) (v : AV)
 | nili
 | mp (o : Nat)
 | nilm
 deriving Inhabited
def AV.undef : AV:=.tup []
def AV.cells : AV → List AV
 | .agg c => c
 | v => [v]
def AV.scalar : AV → Bool
 | .agg _ | .tup _ => false
 | _ => true
inductive KT where
 | i (k : IntKind)
 | a (cs : List (Option IntKind))
 deriving Inhabited,DecidableEq
inductive Opd where
 | t (i : Nat)
 | c (v : AV)
 deriving Inhabited
def Opd.ev (ts : List AV) : Opd → AV
 | .t i => ts.getD i .undef
 | .c v => v
inductive POp where
 | move (x : Opd)
 | pick (c a b : Opd)
 | build (zero : List AV) (parts : List (Nat × Nat × Opd))
 | nilCheck (x : Opd)
 | bin (op : BinOp) (x y : Opd)
 | eqB (neg : Bool) (x y : Opd)
 | eqS (neg : Bool) (ks : List Bool) (x y : Opd)
 | un (op : UnOp) (x : Opd)
 | conv (k : IntKind) (x : Opd)
 | mkFn (f : Nat) (first captured : List Opd)
 | slice (esz : Nat) (x : Opd) (lo hi : Option Opd)
 | slice3 (esz : Nat) (x hi mx : Opd)
 | sliceR (esz : Nat) (x : Opd) (lo hi mx : Option Opd)
 | fieldAddr (off : Nat) (x : Opd)
 | field (agg : Bool) (off size : Nat) (x : Opd)
 | idxArr (len esz : Nat) (x i : Opd)
 | idxSl (esz : Nat) (x i : Opd)
 | idx (agg : Bool) (len esz : Nat) (x i : Opd)
 | idxStr (x i : Opd)
 | extract (x : Opd) (ix : Nat)
 | lenA (n : Nat)
 | isNil (x y : Opd)
 | lenS (x : Opd)
 | capS (x : Opd)
 | bad
 | minmax (mx : Bool) (x : Opd) (xs : List Opd)
 deriving Inhabited
inductive WOp where
 | app (esz : Nat) (s x : Opd) (r : Option Nat)
 | cpy (esz : Nat) (d x : Opd)
 | clr (esz : Nat) (zero : List AV) (x : Opd)
 | mln (x : Opd)
 deriving Inhabited
inductive AOp where
 | p (o : POp)
 | load (agg : Bool) (size : Nat) (a : Opd)
 | store (size : Nat) (a x : Opd)
 | alloc (zero : List AV)
 | box (x : Opd)
 | buildSlice (esz len : Nat) (zero : List AV) (parts : List (Nat × Opd))
 | litS (esz len : Nat) (zero : List AV) (parts : List (Nat × Opd))
 | makeSlice (rm : Bool) (esz eb : Nat) (zero : List AV) (l c : Opd)
 | w (o : WOp)
 | append (keep : Bool) (esz eb : Nat) (s x : Opd)
 | appendZ (esz eb : Nat) (zero : List AV) (s x : Opd)
 | call (mode f : Nat) (args : List Opd)
 | callv (q : Bool) (f : Opd) (args : List Opd)
 | sliceA (n esz : Nat) (x : Opd) (hm : Option (Opd × Option Opd))
 | loadR (agg : Bool) (size : Nat) (a : Opd) (r : Nat)
 | loadN (agg : Bool) (size : Nat) (a : Opd) (rs : List Nat)
 | storeR (size : Nat) (a x : Opd) (rs : List Nat)
 | makeMap (ks : KT)
 | mapGet (kt : KT) (zero : AV) (ok : Bool) (m k : Opd)
 | mapSet (kt : KT) (m k x : Opd) (rs : List Nat)
 deriving Inhabited
structure AOper where
 dst : Option Nat
 op : AOp
 guard : Option (Nat × Bool)
 slot : Option Nat
 mask : List Nat
 deriving Inhabited
inductive Ex where
 | nrm
 | exit (id : Nat)
 | ret
 deriving Inhabited,DecidableEq
inductive ACode where
 | skip
 | region (k : Nat) (ops : List AOper)
 | seq (a b : ACode)
 | cond (c : Opd) (a b : ACode)
 | block (id : Nat) (c : ACode)
 | loop (c : ACode)
 | rangeFunc (f : Opd) (params : List Nat) (assign body : ACode)
 | exit (id : Nat)
 | scope (c : ACode)
 | ret
 deriving Inhabited
inductive AO where
 | cells (c : List AV) (sh : Bool)
 | ro (c : List AV)
 | tomb
 | mpo (ks : KT) (es : List (List Int × AV))
 | dfr
 | loop (state : LoopState) (pending : Option Ex) (fid : Nat) (tmps : List AV) (params : List Nat) (assign body : ACode) (d : Nat)
 deriving Inhabited
def AO.row? : AO → Option (List AV)
 | .cells c _ => some c
 | .ro c => some c
 | _ => none
def rowAt (h : List AO) (o : Nat) : Option (List AV):=(h[o]?).bind AO.row?
inductive ARes where
 | tmp (t : Nat)
 | cell (agg : Bool) (size t : Nat)
 deriving Inhabited
structure AFn where
 ntmps : Nat
 results : List ARes
 body : ACode
 deriving Inhabited
inductive Tgt where
 | fn (f : Nat)
 | rnd (o : Nat)
 deriving Inhabited
abbrev Callee:=Tgt → List AV → List AO → Nat → Option (AV × List AO)
def wr (k : IntKind) (n : Int) : Int :=
 match k with
 | .i64 => if -9223372036854775808 ≤ n ∧ n ≤ 9223372036854775807 then n else k.wrap n
 | _ => k.wrap n
def splice (c : List AV) (off : Nat) (vs : List AV) : List AV:=c.take off ++ vs ++ c.drop (off + vs.length)
def fillL (acc : List AV) : List (Nat × Nat × AV) → Option (List AV)
 | [] => some acc
 |
  (off,size,v) :: rest =>
  if v.cells.length = size ∧ off + size ≤ acc.length then fillL (splice acc off v.cells) rest else none
def part (agg : Bool) (size : Nat) (l : List AV) : Option AV :=
 if agg then (let x:=l.take size; if x.length = size then some (.agg x) else none) else l.head?
def eqCells : List Bool → List AV → List AV → Option Bool
 | [],_,_ => some true
 | true :: n,.int k x :: r,.int k' y :: s => if k = k' then (if x = y then eqCells n r s else some false) else none
 | false :: n,.bool x :: r,.bool y :: s => if x = y then eqCells n r s else some false
 | _,_,_ => none
def bitI (op : BinOp) (k : IntKind) (x y : Int) : Int :=
 match op with
 | .and => k.wrap (BitVec.ofInt k.bits x &&& BitVec.ofInt k.bits y).toNat
 | .or => k.wrap (BitVec.ofInt k.bits x ||| BitVec.ofInt k.bits y).toNat
 | .xor => k.wrap (BitVec.ofInt k.bits x ^^^ BitVec.ofInt k.bits y).toNat
 | _ => k.wrap (BitVec.ofInt k.bits x &&& ~~~BitVec.ofInt k.bits y).toNat
def isSh : BinOp → Bool
 | .shl | .shr => true
 | _ => false
def binI (op : BinOp) (k : IntKind) (x y : Int) : Option AV :=
 match op with
 | .add => some (.int k (wr k (x + y)))
 | .sub => some (.int k (wr k (x - y)))
 | .mul => some (.int k (wr k (x * y)))
 | .quo => if y = 0 then none else some (.int k (wr k (x.tdiv y)))
 | .rem => if y = 0 then none else some (.int k (x.tmod y))
 | .eql => some (.bool (x == y))
 | .neq => some (.bool (x != y))
 | .lss => some (.bool (decide (x < y)))
 | .leq => some (.bool (decide (x ≤ y)))
 | .gtr => some (.bool (decide (x > y)))
 | .geq => some (.bool (decide (x ≥ y)))
 | .and => some (.int k (bitI .and k x y))
 | .or => some (.int k (bitI .or k x y))
 | .xor => some (.int k (bitI .xor k x y))
 | .andNot => some (.int k (bitI .andNot k x y))
 | .shl => if y < 0 then none else some (.int k (wr k (x * 2 ^ (min y.toNat k.bits))))
 | .shr => if y < 0 then none else some (.int k (x.fdiv (2 ^ (min y.toNat k.bits))))
def mmx (mx : Bool) (x y : Int) : Int:=if mx then (if y > x then y else x) else (if y < x then y else x)
def mmAll (mx : Bool) : AV → List AV → Option AV
 | v,[] => some v
 | .int k x,.int _ y :: r => mmAll mx (.int k (mmx mx x y)) r
 | _,_ => none
def sliceB (v : Option AV) (most dflt : Nat) : Option Nat :=
 match v with
 | none => some dflt
 | some (.int _ i) => if 0 ≤ i ∧ i ≤ most then some i.toNat else none
 | _ => none
def sliceV (esz : Nat) (x : AV) (lo hi : Option AV) : Option AV :=
 match x with
 |
  .nils =>
  match sliceB hi 0 0,sliceB lo 0 0 with
  | some _,some _ => some .nils
  | _,_ => none
 |
  .cs e len cells =>
  if e = esz then
   match sliceB hi len len with
   | none => none
   |
    some h =>
    match sliceB lo h 0 with
    | none => none
    | some l => some (.cs esz (h - l) ((cells.drop (l * esz)).take ((h - l) * esz)))
  else none
 |
  .ms e o off len =>
  if e = esz then
   match sliceB hi len len with
   | none => none
   |
    some h =>
    match sliceB lo h 0 with
    | none => none
    | some l => if l < h ∨ l = 0 then some (.ms esz o (off + l * esz) (h - l)) else some (.cs esz 0 [])
  else none
 | _ => none
def slice3V (esz : Nat) (x hi mx : AV) : Option AV :=
 match x,hi,mx with
 | .nils,.int _ i,.int _ j => if i = 0 ∧ j = 0 then some .nils else none
 | .ms e o off len,.int _ i,.int _ j => if e = esz ∧ i = len ∧ j = len then some (.mc esz o off len) else none
 | _,_,_ => none
def AV.toR : AV → AV
 | .ms e o off len => .mr e o off len len
 | v => v
def sliceRV (esz : Nat) (x : AV) (lo hi mx : Option AV) : Option AV :=
 match x.toR with
 |
  .mr e o off len room =>
  if e = esz then
   match sliceB mx room room with
   | none => none
   |
    some m =>
    match sliceB hi m len with
    | none => none
    |
     some h =>
     match sliceB lo h 0 with
     | none => none
     | some l => if h ≤ m ∧ (mx.isSome → hi.isSome) then (if l < m ∨ l = 0 then some (.mr esz o (off + l * esz) (h - l) (m - l)) else some (.cs esz 0 [])) else none
  else none
 | _ => none
def elemAt (esz : Nat) (x i : AV) : Option AV :=
 match x,i with
 |
  .cs e len cells,.int _ n =>
  if e = esz ∧ 0 ≤ n ∧ n < len then some (.cptr ((cells.drop (n.toNat * esz)).take esz)) else none
 |
  .ms e o off len,.int _ n =>
  if e = esz ∧ 0 ≤ n ∧ n < len then some (.ptr o (off + n.toNat * esz)) else none
 |
  .mr e o off len _,.int _ n =>
  if e = esz ∧ 0 ≤ n ∧ n < len then some (.ptr o (off + n.toNat * esz)) else none
 | _,_ => none
def addOff (x : AV) (n : Nat) : Option AV :=
 match x with
 | .ptr o off => some (.ptr o (off + n))
 | .cptr cells => some (.cptr (cells.drop n))
 | _ => none
def pex (ρ : Opd → AV) : POp → Option AV
 | .move x => some (ρ x)
 |
  .pick c a b => match ρ c with
  | .bool t => some (if t then ρ a else ρ b)
  | _ => none
 | .build zero parts => (fillL zero (parts.map fun (o,s,x) => (o,s,ρ x))).map .agg
 |
  .nilCheck x => match ρ x with
  | .ptr o off => some (.ptr o off)
  | .cptr c => some (.cptr c)
  | .fn f a b => some (.fn f a b)
  | .yld o => some (.yld o)
  | _ => none
 |
  .bin op x y => match ρ x,ρ y with
  | .int k a,.int k' b => if k = k' ∨ isSh op = true then binI op k a b else none
  | _,_ => none
 |
  .eqB neg x y => match ρ x,ρ y with
  | .bool a,.bool b => some (.bool (if neg then !(a == b) else a == b))
  | _,_ => none
 |
  .eqS neg ks x y => match ρ x,ρ y with
  | .agg a,.agg b => (eqCells ks a b).map fun e => .bool (if neg then !e else e)
  | _,_ => none
 |
  .un op x => match op,ρ x with
  | .neg,.int k n => some (.int k (wr k (0 - n)))
  | .not,.bool b => some (.bool !b)
  | _,_ => none
 |
  .conv k x => match ρ x with
  | .int _ n => some (.int k (wr k n))
  | _ => none
 | .mkFn f a b => some (.fn f (a.map ρ) (b.map ρ))
 | .slice esz x lo hi => sliceV esz (ρ x) (lo.map ρ) (hi.map ρ)
 | .slice3 esz x hi mx => slice3V esz (ρ x) (ρ hi) (ρ mx)
 | .sliceR esz x lo hi mx => sliceRV esz (ρ x) (lo.map ρ) (hi.map ρ) (mx.map ρ)
 | .fieldAddr off x => addOff (ρ x) off
 |
  .field agg off size x => match ρ x with
  | .agg c => part agg size (c.drop off)
  | _ => none
 |
  .idxArr len esz x i => match ρ i with
  | .int _ n => if 0 ≤ n ∧ n < len then addOff (ρ x) (n.toNat * esz) else none
  | _ => none
 | .idxSl esz x i => elemAt esz (ρ x) (ρ i)
 |
  .idx agg len esz x i => match ρ x,ρ i with
  | .agg c,.int _ n => if 0 ≤ n ∧ n < len then part agg esz (c.drop (n.toNat * esz)) else none
  | _,_ => none
 |
  .idxStr x i => match ρ x,ρ i with
  | .str s,.int _ n => if 0 ≤ n then (s[n.toNat]?).map fun b => .int .u8 b.toNat else none
  | _,_ => none
 |
  .extract x ix => match ρ x with
  | .tup vs => vs[ix]?
  | _ => none
 | .lenA n => some (.int .i64 n)
 |
  .isNil x y => match ρ x,ρ y with
  | .nils,.nils => some (.bool true)
  | .cs _ _ _,.nils => some (.bool false)
  | .ms _ _ _ _,.nils => some (.bool false)
  | .mr _ _ _ _ _,.nils => some (.bool false)
  | _,_ => none
 |
  .lenS x => match ρ x with
  | .nils => some (.int .i64 0)
  | .cs _ len _ => some (.int .i64 len)
  | .ms _ _ _ len => some (.int .i64 len)
  | .mr _ _ _ len _ => some (.int .i64 len)
  | _ => none
 |
  .capS x => match ρ x with
  | .nils => some (.int .i64 0)
  | _ => none
 | .bad => none
 | .minmax mx x xs => mmAll mx (ρ x) (xs.map ρ)
def rowOf (h : List AO) : AV → Option (List AV)
 | .nils => some []
 | .cs _ _ cells => some cells
 |
  .ms esz o off len => match rowAt h o with
  | some c => let x:=(c.drop off).take (len * esz); if x.length = len * esz then some x else none
  | none => none
 |
  .mr esz o off len _ => match rowAt h o with
  | some c => let x:=(c.drop off).take (len * esz); if x.length = len * esz then some x else none
  | none => none
 | _ => none
def lenOf : AV → Option Nat
 | .nils => some 0
 | .cs _ len _ => some len
 | .ms _ _ _ len => some len
 | .mc _ _ _ len => some len
 | .mr _ _ _ len _ => some len
 | _ => none
def AV.pureV : AV → Bool
 | .ptr .. | .ms .. | .mc .. | .mr .. | .yld .. | .mp .. => false
 | .fn _ a b => go a && go b
 | .agg c => go c
 | .tup c => go c
 | .iface _ v => v.pureV
 | _ => true
where
 go : List AV → Bool
  | [] => true
  | v :: r => v.pureV && go r
def AV.under (n : Nat) : AV → Bool
 | .ptr o _ | .ms _ o _ _ | .mc _ o _ _ | .mr _ o _ _ _ | .yld o | .mp o => o < n
 | .fn _ a b => go a && go b
 | .agg c => go c
 | .tup c => go c
 | .iface _ v => v.under n
 | _ => true
where
 go : List AV → Bool
  | [] => true
  | v :: r => v.under n && go r
def view (strict : Bool) (h : List AO) : Nat → AV → Option AV
 | _,.nilp => some .nilp
 | _,.nils => some .nils
 | _,.nilf => some .nilf
 | _,.nili => some .nili
 | _,.nilm => some .nilm
 | _,.bool b => some (.bool b)
 | _,.int k n => some (.int k n)
 | _,.str s => some (.str s)
 | _,.cptr c => if strict then none else some (.cptr c)
 | _,.cs e l c => if strict && l != 0 then none else some (.cs e l c)
 | 0,.fn f a b => if a.isEmpty && b.isEmpty then some (.fn f [] []) else none
 | 0,_ => none
 |
  n + 1,.fn f a b => match a.mapM (view strict h n),b.mapM (view strict h n) with
  | some a',some b' => some (.fn f a' b')
  | _,_ => none
 | n + 1,.agg c => (c.mapM (view strict h n)).map .agg
 | n + 1,.tup c => (c.mapM (view strict h n)).map .tup
 |
  n + 1,.ms esz o off len => match rowOf h (.ms esz o off len) with
  | some x => (x.mapM (view strict h n)).map (.cs esz len)
  | none => none
 |
  n + 1,.mr esz o off len room => match rowOf h (.mr esz o off len room) with
  | some x => (x.mapM (view strict h n)).map (.cs esz len)
  | none => none
 | _,_ => none
def AV.shift (n : Nat) : AV → AV
 | .ptr o off => .ptr (o + n) off
 | .ms e o off len => .ms e (o + n) off len
 | .mc e o off len => .mc e (o + n) off len
 | .mr e o off len room => .mr e (o + n) off len room
 | .yld o => .yld (o + n)
 | .mp o => .mp (o + n)
 | .fn f a b => .fn f (go a) (go b)
 | .agg c => .agg (go c)
 | .tup c => .tup (go c)
 | .iface t v => .iface t (v.shift n)
 | v => v
where
 go : List AV → List AV
  | [] => []
  | v :: r => v.shift n :: go r
def AO.shift (n : Nat) : AO → AO
 | .cells c sh => .cells (c.map (AV.shift n)) sh
 | .ro c => .ro (c.map (AV.shift n))
 | .tomb => .tomb
 | .mpo ks es => .mpo ks es
 | .dfr => .dfr
 | .loop .. => .tomb
def zeros (n : Nat) (zero : List AV) : List AV:=(List.replicate n zero).flatten
def newAt (pl : Option Nat) (h : List AO) (c : List AV) : List AO :=
 match pl with
 | none => h ++ [.cells c false]
 | some i => h.set i (.cells c false)
def newObj' (pl : Option Nat) (h : List AO) (c : AO) : List AO :=
 match pl with
 | none => h ++ [c]
 | some i => h.set i c
def sliceAV (n esz o off : Nat) : Option (AV × Option AV) → Option AV
 | none => some (.ms esz o off n)
 | some (.int _ i,some (.int _ j)) => if 0 ≤ i ∧ i = j ∧ j ≤ n then some (.ms esz o off i.toNat) else none
 | some (.int _ i,none) => if 0 ≤ i ∧ i ≤ n then some (.ms esz o off i.toNat) else none
 | _ => none
def objIs (o : Nat) : AV → Bool
 | .ptr p _ => p == o
 | _ => false
def objNot (o : Nat) : AV → Bool
 | .ptr p _ => p != o
 | _ => false
def keyCells : List (Option IntKind) → List AV → Option (List Int)
 | [],[] => some []
 | some k :: cs,.int k' n :: r => if k = k' ∧ (Lit.int k n).wf = true then (keyCells cs r).map (n :: ·) else none
 | none :: cs,.bool b :: r => (keyCells cs r).map ((if b then 1 else 0) :: ·)
 | _,_ => none
def keyOf : KT → AV → Option (List Int)
 | .i k,.int k' n => if k = k' then some [n] else none
 | .a cs,.agg c => keyCells cs c
 | _,_ => none
def keyAs (kt ks : KT) (v : AV) : Option (List Int):=if kt = ks then keyOf ks v else none
theorem keyAs_some {kt ks : KT} {v : AV} {n : List Int} (h : keyAs kt ks v = some n) : kt = ks ∧ keyOf ks v = some n:=by
 unfold keyAs at h
 split at h
 ·exact ⟨by assumption,h⟩
 ·cases h
def ltK : List Int → List Int → Bool
 | [],[] => false
 | [],_ :: _ => true
 | _ :: _,[] => false
 | a :: l,b :: m => decide (a < b) || (decide (a = b) && ltK l m)
def findM (k : List Int) : List (List Int × AV) → Option AV
 | [] => none
 | (k',v) :: r => if k = k' then some v else findM k r
def putM (k : List Int) (v : AV) : List (List Int × AV) → List (List Int × AV)
 | [] => [(k,v)]
 | (k',v') :: r => if k = k' then (k,v) :: r else if ltK k k' then (k,v) :: (k',v') :: r else (k',v') :: putM k v r
def getMap (h : List AO) : AV → Option (KT × List (List Int × AV))
 |
  .mp o => match h[o]? with
  | some (.mpo ks es) => some (ks,es)
  | _ => none
 | _ => none
def keysNot (ks : KT) (k : List Int) (vs : List AV) : Bool:=vs.all fun v => match keyOf ks v with
 | some k' => k != k'
 | none => false
def objIsA (o : Nat) : AV → Bool
 | .ptr p _ | .ms _ p _ _ | .mr _ p _ _ _ => p == o
 | _ => false
def objNotA (o : Nat) : AV → Bool
 | .ptr p _ | .ms _ p _ _ | .mr _ p _ _ _ => p != o
 | _ => false
def optIs (o : Nat) (ρ : Opd → AV) : Option Nat → Bool
 | none => true
 | some r => objIsA o (ρ (.t r))
theorem obj_apart {o p : Nat} {v : AV} (h1 : objIsA o v = true) (h2 : objNotA p v = true) : o ≠ p:=by
 intro e; subst e
 cases v <;> simp [objIsA,objNotA] at h1 h2 <;> exact h2 h1
def putR (lim : Nat) (h : List AO) (o off : Nat) (xs : List AV) : Option (List AO) :=
 match h[o]? with
 | some (.cells c false) => if off + xs.length ≤ c.length ∧ lim ≤ o ∧ xs.all AV.scalar = true then some (h.set o (.cells (splice c off xs) false)) else none
 | _ => none
def destOf : AV → Option (Nat × Nat × Nat × Nat)
 | .ms e o off len => some (e,o,off,len)
 | .mr e o off len _ => some (e,o,off,len)
 | _ => none
def wex (lim : Nat) (ρ : Opd → AV) (h : List AO) : WOp → Option (AV × List AO)
 |
  .app esz s x r => match ρ s,lenOf (ρ x),rowOf h (ρ x) with
  |
   .mr e o off len room,some n,some xs =>
   if e = esz ∧ off = 0 ∧ xs.length = n * esz ∧ len + n ≤ room ∧ optIs o ρ r = true then
    if n = 0 then some (ρ s,h) else (putR lim h o (off + len * esz) xs).map fun h' => (.mr esz o off (len + n) room,h')
   else none
  | _,_,_ => none
 |
  .cpy esz d x => match lenOf (ρ d),lenOf (ρ x),rowOf h (ρ x) with
  |
   some k,some n,some xs =>
   if xs.length = n * esz then
    if min n k = 0 then some (.int .i64 0,h) else
    match destOf (ρ d) with
    | some (e,o,off,_) => if e = esz then (putR lim h o off (xs.take (min n k * esz))).map fun h' => (.int .i64 (min n k),h') else none
    | none => none
   else none
  | _,_,_ => none
 |
  .clr esz zero x => match lenOf (ρ x) with
  |
   some k => if k = 0 then some (.undef,h) else
   match destOf (ρ x) with
   | some (e,o,off,_) => if e = esz then (putR lim h o off (zeros k zero)).map fun h' => (.undef,h') else none
   | none => none
  | none => none
 |
  .mln x => match getMap h (ρ x) with
  | some (_,es) => some (.int .i64 es.length,h)
  | none => none
def exOp (call : Callee) (lim : Nat) (pl : Option Nat) (ρ : Opd → AV) (h : List AO) : AOp → Option (AV × List AO)
 | .p o => (pex ρ o).map fun v => (v,h)
 |
  .load agg size a => match ρ a with
  |
   .ptr o off => match rowAt h o with
   | some c => (part agg size (c.drop off)).map fun v => (v,h)
   | none => none
  | .cptr c => (part agg size c).map fun v => (v,h)
  | _ => none
 |
  .sliceA n esz x hm => match ρ x with
  |
   .ptr o off => match rowAt h o with
   | some c => if off + n * esz ≤ c.length then (sliceAV n esz o off (hm.map fun (a,b) => (ρ a,b.map ρ))).map fun v => (v,h) else none
   | none => none
  | _ => none
 |
  .store size a x => match ρ a with
  |
   .ptr o off => match h[o]? with
   |
    some (.cells c false) =>
    let vs:=(ρ x).cells
    if vs.length = size ∧ off + size ≤ c.length ∧ vs.all AV.scalar ∧ lim ≤ o then some (.undef,h.set o (.cells (splice c off vs) false)) else none
   | _ => none
  | _ => none
 |
  .loadN agg size a rs => match ρ a with
  |
   .ptr o off => if rs.all (fun r => objNotA o (ρ (.t r))) then (match rowAt h o with
   | some c => (part agg size (c.drop off)).map fun v => (v,h)
   | none => none) else none
  | .cptr c => (part agg size c).map fun v => (v,h)
  | _ => none
 |
  .loadR agg size a r => match ρ a with
  |
   .ptr o off => if objIs o (ρ (.t r)) then (match rowAt h o with
   | some c => (part agg size (c.drop off)).map fun v => (v,h)
   | none => none) else none
  | _ => none
 |
  .storeR size a x rs => match ρ a with
  |
   .ptr o off => if rs.all (fun r => objNot o (ρ (.t r))) then (match h[o]? with
   |
    some (.cells c false) =>
    let vs:=(ρ x).cells
    if vs.length = size ∧ off + size ≤ c.length ∧ vs.all AV.scalar ∧ lim ≤ o then some (.undef,h.set o (.cells (splice c off vs) false)) else none
   | _ => none) else none
  | _ => none
 | .makeMap ks => some (.mp (pl.getD h.length),newObj' pl h (.mpo ks []))
 |
  .mapGet kt zero ok m k => match getMap h (ρ m) with
  | some (ks,es) => (keyAs kt ks (ρ k)).map fun n => (if ok then .tup [(findM n es).getD zero,.bool (findM n es).isSome] else (findM n es).getD zero,h)
  | none => none
 |
  .mapSet kt m k x rs => match ρ m with
  |
   .mp o => match h[o]? with
   |
    some (.mpo ks es) => match keyAs kt ks (ρ k) with
    | some n => if keysNot ks n (rs.map fun r => ρ (.t r)) = true ∧ (ρ x).pureV = true ∧ lim ≤ o then some (.undef,h.set o (.mpo ks (putM n (ρ x) es))) else none
    | none => none
   | _ => none
  | _ => none
 | .w o => wex lim ρ h o
 | .alloc zero => some (.ptr (pl.getD h.length) 0,newAt pl h zero)
 | .box x => some (.ptr (pl.getD h.length) 0,newAt pl h (ρ x).cells)
 |
  .buildSlice esz len zero parts =>
  (fillL (zeros len zero) (parts.map fun (i,x) => (i * esz,esz,ρ x))).map fun c => (.ms esz (pl.getD h.length) 0 len,newAt pl h c)
 |
  .litS esz len zero parts => match fillL (zeros len zero) (parts.map fun (i,x) => (i * esz,esz,ρ x)) with
  | some c => if AV.pureV.go c then some (.cs esz len c,h) else none
  | none => none
 |
  .makeSlice rm esz eb zero l c => match ρ l,ρ c with
  |
   .int _ l,.int _ c =>
   if 0 ≤ l ∧ l ≤ c ∧ eb * c ≤ 140737488355328 ∧ 1 ≤ eb then some (if rm then .mr esz (pl.getD h.length) 0 l.toNat c.toNat else .ms esz (pl.getD h.length) 0 l.toNat,newAt pl h (zeros (if rm then c.toNat else l.toNat) zero)) else none
  | _,_ => none
 |
  .append keep esz eb s x => match lenOf (ρ s),lenOf (ρ x),rowOf h (ρ x) with
  |
   some sl,some n,some xs =>
   if xs.length = n * esz then
    if n = 0 then some (ρ s,h) else
    if (sl + n) * eb ≤ 140737488355328 ∧ 1 ≤ eb ∧ xs.all AV.scalar then
     match ρ s with
     | .nils => some (.ms esz (pl.getD h.length) 0 n,newAt pl h xs)
     |
      .ms e o off len =>
      match h[o]? with
      |
       some (.cells c sh) =>
       if e = esz ∧ off = 0 ∧ lim ≤ o ∧ (len * esz = c.length ∨ (keep = false ∧ sh = false ∧ len * esz ≤ c.length)) then
        some (.ms esz (pl.getD h.length) 0 (len + n),newObj' pl (h.set o (if keep then .ro c else .tomb)) (.cells (c.take (len * esz) ++ xs) ((keep && len != 0) || sh)))
       else none
      | _ => none
     |
      .mc e o off len =>
      match rowAt h o with
      | some c => if e = esz ∧ off = 0 ∧ len * esz ≤ c.length then some (.ms esz (pl.getD h.length) 0 (len + n),newObj' pl h (.cells (c.take (len * esz) ++ xs) false)) else none
      | none => none
     | _ => none
    else none
   else none
  | _,_,_ => none
 |
  .appendZ esz eb zero s x => match ρ s,ρ x with
  | .nils,.int .i64 n => if 1 ≤ n ∧ eb * n ≤ 140737488355328 ∧ 1 ≤ eb then some (.ms esz (pl.getD h.length) 0 n.toNat,newAt pl h (zeros n.toNat zero)) else none
  | _,_ => none
 |
  .call mode f args =>
  let as:=args.map ρ
  match mode with
  | 0 => call (.fn f) as h lim
  |
   1 => match as.mapM (view false h 8) with
   |
    some vs => match call (.fn f) vs [] 0 with
    | some (r,h') => (view (!AV.pureV.go as) h' 8 r).map fun r' => (r',h)
    | none => none
   | none => none
  |
   2
    => if AV.pureV.go as then
    match call (.fn f) as [] 0 with
    | some (r,h') => some (r.shift h.length,h ++ h'.map (AO.shift h.length))
    | none => none
   else match as.mapM (view false h 8) with
   |
    some vs => match call (.fn f) vs [] 0 with
    | some (r,h') => (view true h' 8 r).map fun r' => (r',h)
    | none => none
   | none => none
  |
   _ => match call (.fn f) as h h.length with
   | some (r,_) => if r.under h.length then some (r,h) else none
   | none => none
 |
  .callv q f args => match ρ f with
  |
   .fn g first captured =>
   if q then
    match call (.fn g) (first ++ args.map ρ ++ captured) h h.length with
    | some (r,_) => if r.under h.length then some (r,h) else none
    | none => none
   else call (.fn g) (first ++ args.map ρ ++ captured) h lim
  | .yld o => if q then none else call (.rnd o) (args.map ρ) h lim
  | _ => none
theorem loadN_load {call : Callee} {lim : Nat} {pl : Option Nat} {ρ : Opd → AV} {h : List AO} {agg : Bool} {size : Nat} {rs : List Nat} {a : Opd} {y : AV × List AO} (hx : exOp call lim pl ρ h (.loadN agg size a rs) = some y) :
  exOp call lim pl ρ h (.load agg size a) = some y ∧ ∀ o off,ρ a = .ptr o off → rs.all (fun r => objNotA o (ρ (.t r))) = true:=by
 simp only [exOp] at hx ⊢
 split at hx
 ·rename_i o off e
  split at hx
  ·rename_i hi
   refine ⟨by first | exact hx | (simp only [e]; exact hx),fun o' off' e' => ?_⟩
   first
    | (cases e'; exact hi)
    | (rw [e] at e'; cases e'; exact hi)
  ·cases hx
 ·rename_i c e
  refine ⟨by first | exact hx | (simp only [e]; exact hx),fun o' off' e' => ?_⟩
  first
   | (cases e'; done)
   | (rw [e] at e'; cases e')
 ·cases hx
theorem loadN_of {call : Callee} {lim : Nat} {pl : Option Nat} {ρ : Opd → AV} {h : List AO} {agg : Bool} {size : Nat} {rs : List Nat} {a : Opd} {y : AV × List AO} (hx : exOp call lim pl ρ h (.load agg size a) = some y) (hi : ∀ o off,ρ a = .ptr o off → rs.all (fun r => objNotA o (ρ (.t r))) = true) :
  exOp call lim pl ρ h (.loadN agg size a rs) = some y:=by
 simp only [exOp] at hx ⊢
 cases e : ρ a with
 | ptr o off => rw [e] at hx; simp only at hx ⊢; rw [if_pos (hi o off e)]; exact hx
 | cptr c => rw [e] at hx; exact hx
 | _ => rw [e] at hx; cases hx
theorem loadR_load {call : Callee} {lim : Nat} {pl : Option Nat} {ρ : Opd → AV} {h : List AO} {agg : Bool} {size r : Nat} {a : Opd} {y : AV × List AO} (hx : exOp call lim pl ρ h (.loadR agg size a r) = some y) :
  exOp call lim pl ρ h (.load agg size a) = some y ∧ ∃ o off,ρ a = .ptr o off ∧ objIs o (ρ (.t r)) = true:=by
 simp only [exOp] at hx ⊢
 split at hx
 ·rename_i o off e
  split at hx
  ·rename_i hi
   exact ⟨by first | exact hx | (simp only [e]; exact hx),o,off,e,hi⟩
  ·cases hx
 ·cases hx
theorem loadR_of {call : Callee} {lim : Nat} {pl : Option Nat} {ρ : Opd → AV} {h : List AO} {agg : Bool} {size r : Nat} {a : Opd} {y : AV × List AO} (hx : exOp call lim pl ρ h (.load agg size a) = some y) {o off : Nat} (e : ρ a = .ptr o off) (hi : objIs o (ρ (.t r)) = true) :
  exOp call lim pl ρ h (.loadR agg size a r) = some y:=by
 simp only [exOp,e,hi,if_true] at hx ⊢; exact hx
theorem storeR_store {call : Callee} {lim : Nat} {pl : Option Nat} {ρ : Opd → AV} {h : List AO} {size : Nat} {a x : Opd} {rs : List Nat} {y : AV × List AO} (hx : exOp call lim pl ρ h (.storeR size a x rs) = some y) :
  exOp call lim pl ρ h (.store size a x) = some y ∧ ∃ o off,ρ a = .ptr o off ∧ rs.all (fun r => objNot o (ρ (.t r))) = true:=by
 simp only [exOp] at hx ⊢
 split at hx
 ·rename_i o off e
  split at hx
  ·rename_i hi
   exact ⟨by first | exact hx | (simp only [e]; exact hx),o,off,e,hi⟩
  ·cases hx
 ·cases hx
theorem storeR_of {call : Callee} {lim : Nat} {pl : Option Nat} {ρ : Opd → AV} {h : List AO} {size : Nat} {a x : Opd} {rs : List Nat} {y : AV × List AO} (hx : exOp call lim pl ρ h (.store size a x) = some y) {o off : Nat} (e : ρ a = .ptr o off) (hi : rs.all (fun r => objNot o (ρ (.t r))) = true) :
  exOp call lim pl ρ h (.storeR size a x rs) = some y:=by
 simp only [exOp,e,hi,if_true] at hx ⊢; exact hx
def wanted (ts : List AV) : Option (Nat × Bool) → Bool
 | none => true
 |
  some (t,want) => match ts[t]? with
  | some (.bool b) => b == want
  | _ => false
def putT (ts : List AV) (dst : Option Nat) (v : AV) : List AV :=
 match dst with
 | some d => ts.set d v
 | none => ts
def hide (base : Nat) : List Nat → List AO → List AO
 | [],h => h
 | s :: r,h => (hide base r h).set (base + s) .tomb
def unhide (base : Nat) (h : List AO) : List Nat → List AO → List AO
 | [],g => g
 | s :: r,g => (unhide base h r g).set (base + s) (h.getD (base + s) .tomb)
def exMask (call : Callee) (lim base : Nat) (pl : Option Nat) (ρ : Opd → AV) (h : List AO) (op : AOp) (m : List Nat) : Option (AV × List AO) :=
 match m with
 | [] => exOp call lim pl ρ h op
 |
  m => match exOp call lim pl ρ (hide base m h) op with
  | some (v,h') => some (v,unhide base h m h')
  | none => none
def exOper (call : Callee) (lim base : Nat) (ts : List AV) (h : List AO) (o : AOper) : Option (AV × List AO) :=
 match o.slot,o.op with
 |
  some s,.store size a x => match Opd.ev ts a with
  | .ptr p _ => if p = base + s then exOp call lim none (Opd.ev ts) h (.store size a x) else none
  | _ => none
 |
  some s,.mapSet kt m k x rs => match Opd.ev ts m with
  | .mp p => if p = base + s then exOp call lim none (Opd.ev ts) h (.mapSet kt m k x rs) else none
  | _ => none
 | sl,op => exMask call lim base (sl.map (base + ·)) (Opd.ev ts) h op o.mask
def stepOp (call : Callee) (lim base : Nat) (o : AOper) (ts : List AV) (h : List AO) : Option (List AV × List AO) :=
 if wanted ts o.guard then
  match exOper call lim base ts h o with
  | some (v,h') => some (putT ts o.dst v,h')
  | none => none
 else some (putT ts o.dst .undef,h)
def evOps (call : Callee) (lim base : Nat) : List AOper → List AV → List AO → Option (List AV × List AO)
 | [],ts,h => some (ts,h)
 |
  o :: rest,ts,h => match stepOp call lim base o ts h with
  | some (ts',h') => evOps call lim base rest ts' h'
  | none => none
structure St where
 tmps : List AV
 heap : List AO
 marks : List Nat
 deriving Inhabited
def iter (f : St → Option (Ex × St)) : Nat → St → Option (Ex × St)
 | 0,_ => none
 |
  n + 1,s => match f s with
  | some (.nrm,s') => iter f n s'
  | r => r
def evCode (call : Callee) (lim n : Nat) (rnd : Option Nat) (fid : Nat) : ACode → St → Option (Ex × St)
 | .skip,s => some (.nrm,s)
 |
  .region k ops,s => match evOps call lim s.heap.length ops s.tmps (s.heap ++ List.replicate k .tomb) with
  | some (ts,h) => some (.nrm,{ s with tmps:=ts,heap:=h })
  | none => none
 |
  .seq a b,s => match evCode call lim n rnd fid a s with
  | some (.nrm,s') => evCode call lim n rnd fid b s'
  | r => r
 |
  .cond c a b,s => match c.ev s.tmps with
  | .bool true => evCode call lim n rnd fid a s
  | .bool false => evCode call lim n rnd fid b s
  | _ => none
 |
  .block id c,s => match evCode call lim n rnd fid c s with
  | some (.exit id',s') => if id' = id then some (.nrm,s') else some (.exit id',s')
  | r => r
 | .loop c,s => iter (evCode call lim n rnd fid c) n s
 | .scope c,s => evCode call lim n rnd fid c s
 | .exit id,s => some (.exit id,s)
 | .ret,s => some (.ret,s)
 |
  .rangeFunc f params assign body,s =>
  match rnd with
  | some _ => none
  |
   none =>
   let d:=s.heap.length
   let l:=d + 1
   match f.ev s.tmps with
   |
    .fn g first captured =>
    match call (.fn g) (first ++ [.yld l] ++ captured) (s.heap ++ [.dfr,.loop .ready none fid s.tmps params assign body d]) lim with
    |
     some (_,h3) =>
     match h3[l]? with
     | some (.loop .ready pend fid ts ps as bd d') => some (pend.getD .nrm,{ s with heap:=h3.set l (.loop .exhausted pend fid ts ps as bd d'),marks:=d :: s.marks })
     | some (.loop .done pend fid ts ps as bd d') => some (pend.getD .nrm,{ s with heap:=h3.set l (.loop .exhausted pend fid ts ps as bd d'),marks:=d :: s.marks })
     | _ => none
    | none => none
   | _ => none
def takeMarks : List Nat → List AO → Option (List AO)
 | [],h => some h
 |
  m :: r,h => match h[m]? with
  | some .dfr => takeMarks r (h.set m .tomb)
  | _ => none
def getRes (ts : List AV) (h : List AO) : ARes → Option AV
 | .tmp t => some (ts.getD t .undef)
 |
  .cell agg size t => match ts.getD t .undef with
  |
   .ptr o off => match rowAt h o with
   | some c => part agg size (c.drop off)
   | none => none
  | _ => none
def finish (lim : Nat) (rs : List ARes) (s : St) : Option (AV × List AO) :=
 match (if s.marks.all (fun m => decide (lim ≤ m)) then takeMarks s.marks s.heap else none) with
 | none => none
 |
  some h => match rs.mapM (getRes s.tmps h) with
  | some [v] => some (v,h)
  | some vs => some (.tup vs,h)
  | none => none
structure Env where
 fn : Nat → Option AFn
 spec : Nat → List AV → List AO → Nat → Option (AV × List AO)
def setAll : List AV → List Nat → List AV → List AV
 | ts,p :: ps,v :: vs => setAll (ts.set p v) ps vs
 | ts,_,_ => ts
def callN (E : Env) : Nat → Callee
 | 0,_,_,_,_ => none
 |
  n + 1,.fn f,args,h,lim =>
  match E.spec f args h lim with
  | some r => some r
  |
   none => match E.fn f with
   | none => none
   |
    some fn => match evCode (callN E n) lim n none f fn.body ⟨args ++ List.replicate (fn.ntmps - args.length) .undef,h,[]⟩ with
    | some (.nrm,s) => finish lim fn.results s
    | some (.ret,s) => finish lim fn.results s
    | _ => none
 |
  n + 1,.rnd o,args,h,lim =>
  match h[o]? with
  |
   some (.loop .ready _ fid ts ps as bd _) =>
   if args.length = ps.length ∧ lim ≤ o then
    match evCode (callN E n) lim n (some o) fid as ⟨setAll ts ps args,h,[]⟩ with
    |
     some (.nrm,s1) =>
     match s1.heap[o]? with
     |
      some (.loop .ready pend fid1 ts1 ps1 as1 bd1 d1) =>
      match evCode (callN E n) lim n (some o) fid bd ⟨s1.tmps,s1.heap.set o (.loop .busy pend fid1 ts1 ps1 as1 bd1 d1),s1.marks⟩ with
      |
       some (ex,s2) =>
       match s2.heap[o]? with
       |
        some (.loop _ _ fid ts ps as bd d) =>
        some (.bool (ex == .nrm),s2.heap.set o (.loop (if ex == .nrm then .ready else .done) (if ex == .nrm then none else some ex) fid ts ps as bd d))
       | _ => none
      | none => none
     | _ => none
    | _ => none
   else none
  | _ => none
end Go.Am
/-
From the model's code to the abstract machine's: types are looked up once; a region whose order is open is taken only
where every order comes to the same.
-/
namespace Go.Am
open Go
def toAV : Nat → Value → Option AV
 | _,.bool b => some (.bool b)
 | _,.int k n => some (.int k n)
 | _,.string s => some (.str s)
 | _,.pointer none => some .nilp
 | _,.slice none 0 0 => some .nils
 | _,.nilFunc => some .nilf
 | _,.nilIface => some .nili
 | _,.map none => some .nilm
 | n + 1,.agg c => (c.toList.mapM (toAV n)).map .agg
 | n + 1,.tuple c => (c.toList.mapM (toAV n)).map .tup
 | _,_ => none
def szP (P : Program) (t : TypeId) : Option Nat:=(P.info? t).map (·.size)
def ebP (P : Program) (t : TypeId) : Option Nat:=(P.info? t).map (·.bytes)
def aggP (P : Program) (t : TypeId) : Option Bool :=
 match P.underlying t with
 | some (.struct _) | some (.array _ _) => some true
 | some _ => some false
 | none => none
def zeroP (P : Program) (t : TypeId) : Option AV:=((P.info? t).bind (·.zero)).bind (toAV 2)
def cOpd : Operand → Option Opd
 | .tmp t => some (.t t)
 | .const v => (toAV 2 v).map .c
 | .func f => some (.c (.fn f [] []))
 | .global _ => none
def cParts (f : Nat → Option (Nat × Nat)) : List (Nat × Operand) → Option (List (Nat × Nat × Opd))
 | [] => some []
 |
  (i,x) :: r => do
  let (o,s) ← f i
  let y ← cOpd x
  let l ← cParts f r
  some ((o,s,y) :: l)
def cPartsI : List (Nat × Operand) → Option (List (Nat × Opd))
 | [] => some []
 |
  (i,x) :: r => do
  let y ← cOpd x
  let l ← cPartsI r
  some ((i,y) :: l)
def cOpdO : Option Operand → Option (Option Opd)
 | none => some none
 | some x => (cOpd x).map some
def plainKinds1 (P : Program) : Nat → List Field → Option (List Bool)
 | _,[] => some []
 |
  i,f :: r =>
  if f.name ≠ "_" ∧ f.offset = i then
   match P.underlying f.type,plainKinds1 P (i + 1) r with
   | some (.int _),some l => some (true :: l)
   | some .bool,some l => some (false :: l)
   | _,_ => none
  else none
def plainKinds (P : Program) : Nat → List Field → Option (List Bool)
 | _,[] => some []
 |
  i,f :: r =>
  if f.name ≠ "_" ∧ f.offset = i then
   match P.underlying f.type with
   | some (.int _) => (plainKinds P (i + 1) r).map (true :: ·)
   | some .bool => (plainKinds P (i + 1) r).map (false :: ·)
   |
    some (.struct fs) =>
    if P.stoodInHeld f.type = false then
     match plainKinds1 P 0 fs.toList,szP P f.type with
     | some l,some s => if l.length = s then (plainKinds P (i + s) r).map (l ++ ·) else none
     | _,_ => none
    else none
   | _ => none
  else none
def plainStruct (P : Program) (t : TypeId) : Option (List Bool) :=
 match P.underlying t with
 | some (.struct fs) => if P.stoodInHeld t = false ∧ P.eqGuardType P.depth t = false then plainKinds P 0 fs.toList else none
 | _ => none
def keyShape (P : Program) : Nat → TypeId → Option (List (Option IntKind))
 | 0,_ => none
 |
  m + 1,t =>
  match P.underlying t with
  | some .bool => some [none]
  | some (.int k) => some [some k]
  |
   some (.array n e) =>
   let S:=(List.replicate n ((keyShape P m e).getD [])).flatten
   if S.length = P.cellsOf t ∧ (List.range n).all (fun i => decide (keyShape P m e = some ((S.drop (i * P.cellsOf e)).take (P.cellsOf e)))) = true then some S else none
  |
   some (.struct fs) =>
   let S:=fs.toList.flatMap fun f => (keyShape P m f.type).getD []
   if S.length = P.cellsOf t ∧ fs.all (·.name != "_") = true ∧ fs.toList.all (fun f => decide (keyShape P m f.type = some ((S.drop f.offset).take (P.cellsOf f.type)))) = true then some S else none
  | _ => none
def keyP (P : Program) (t : TypeId) : Option KT :=
 match P.underlying t with
 | some (.int k) => some (.i k)
 | some (.array _ _) | some (.struct _) => if P.keyTypeAt 8 t = true ∧ P.tiled 8 t = true then (keyShape P 8 t).map .a else none
 | _ => none
def binOk : BinOp → Bool
 | _ => true
def cOp (P : Program) (mode : Nat → Nat) : Op → Option AOp
 | .move x | .assign x => do some (.p (.move (← cOpd x)))
 | .pick c a b => do some (.p (.pick (← cOpd c) (← cOpd a) (← cOpd b)))
 | .alloc e => do some (.alloc (← zeroP P e).cells)
 | .box _ x => do some (.box (← cOpd x))
 |
  .build t parts => do
  let z ← zeroP P t
  match P.underlying t with
  |
   some (.struct fs) =>
   let l ← cParts (fun i => do let f ← fs[i]?; let s ← szP P f.type; some (f.offset,s)) parts.toList
   if fs.toList.all fun f => (szP P f.type).isSome then some (.p (.build z.cells l)) else none
  |
   some (.array _ e) =>
   let s ← szP P e
   let l ← cParts (fun i => some (i * s,s)) parts.toList
   some (.p (.build z.cells l))
  | _ => none
 |
  .buildSlice t len parts => do
  match P.underlying t with
  |
   some (.slice e) =>
   let s ← szP P e
   let z ← zeroP P e
   let l ← cPartsI parts.toList
   if len * s ≤ 16777216 ∧ z.cells.length = s ∧ 1 ≤ s then some (if mode 1000001 == 1 && len != 0 then .litS s len z.cells l else .buildSlice s len z.cells l) else none
  | _ => none
 | .load t a => do some (.load (← aggP P t) (← szP P t) (← cOpd a))
 | .store t a x => do some (.store (← szP P t) (← cOpd a) (← cOpd x))
 | .nilCheck x => do some (.p (.nilCheck (← cOpd x)))
 |
  .binOp op t x y _ => do
  let a ← cOpd x
  let b ← cOpd y
  match P.underlying t,op with
  | some (.int _),op => if binOk op then some (.p (.bin op a b)) else none
  | some .bool,.eql => some (.p (.eqB false a b))
  | some .bool,.neq => some (.p (.eqB true a b))
  | some (.struct _),.eql => do some (.p (.eqS false (← plainStruct P t) a b))
  | some (.slice _),.eql => some (.p (.isNil a b))
  | some (.struct _),.neq => do some (.p (.eqS true (← plainStruct P t) a b))
  | _,_ => none
 | .unOp .neg _ x => do some (.p (.un .neg (← cOpd x)))
 | .unOp .not _ x => do some (.p (.un .not (← cOpd x)))
 |
  .convert src dst x => do
  match P.underlying src,P.underlying dst with
  | some (.int _),some (.int k) => some (.p (.conv k (← cOpd x)))
  | _,_ => none
 |
  .makeFunc (.func f) first captured => do
  some (.p (.mkFn f (← first.toList.mapM cOpd) (← captured.toList.mapM cOpd)))
 |
  .makeSlice t l c => do
  match P.underlying t with
  |
   some (.slice e) =>
   let s ← szP P e
   let eb ← ebP P e
   let z ← zeroP P e
   if z.cells.length = s ∧ 1 ≤ s then some (.makeSlice (mode 1000002 == 1) s eb z.cells (← cOpd l) (← cOpd c)) else none
  | _ => none
 |
  .slice t x lo hi none => do
  match P.underlying t with
  | some (.slice e) => if mode 1000002 == 1 then some (.p (.sliceR (← szP P e) (← cOpd x) (← cOpdO lo) (← cOpdO hi) none)) else some (.p (.slice (← szP P e) (← cOpd x) (← cOpdO lo) (← cOpdO hi)))
  | some (.array n e) => if lo.isNone then (match hi with | none => do some (.sliceA n (← szP P e) (← cOpd x) none) | some y => do some (.sliceA n (← szP P e) (← cOpd x) (some (← cOpd y,none)))) else none
  | _ => none
 |
  .slice t x none (some hi) (some mx) => do
  match P.underlying t with
  | some (.slice e) => some (.p (.slice3 (← szP P e) (← cOpd x) (← cOpd hi) (← cOpd mx)))
  | some (.array n e) => some (.sliceA n (← szP P e) (← cOpd x) (some (← cOpd hi,some (← cOpd mx))))
  | _ => none
 |
  .slice t x (some lo) (some hi) (some mx) => do
  match P.underlying t with
  | some (.slice e) => some (.p (.sliceR (← szP P e) (← cOpd x) (some (← cOpd lo)) (some (← cOpd hi)) (some (← cOpd mx))))
  | _ => none
 |
  .fieldAddr t x f => do
  match P.underlying t with
  |
   some (.struct fs) =>
   let g ← fs[f]?
   if (← szP P g.type) = 0 then none else some (.p (.fieldAddr g.offset (← cOpd x)))
  | _ => none
 |
  .field t x f => do
  match P.underlying t with
  |
   some (.struct fs) =>
   let g ← fs[f]?
   some (.p (.field (← aggP P g.type) g.offset (← szP P g.type) (← cOpd x)))
  | _ => none
 |
  .indexAddr t x i => do
  match P.underlying t with
  | some (.array n e) => some (.p (.idxArr n (← szP P e) (← cOpd x) (← cOpd i)))
  | some (.slice e) => some (.p (.idxSl (← szP P e) (← cOpd x) (← cOpd i)))
  | _ => none
 |
  .index t x i => do
  match P.underlying t with
  | some (.array n e) => some (.p (.idx (← aggP P e) n (← szP P e) (← cOpd x) (← cOpd i)))
  | some .string => some (.p (.idxStr (← cOpd x) (← cOpd i)))
  | _ => none
 |
  .makeMap t none => match P.underlying t with
  | some (.map k _) => do some (.makeMap (← keyP P k))
  | _ => none
 |
  .lookup t x i ok => match P.underlying t with
  | some (.map k e) => do some (.mapGet (← keyP P k) (← zeroP P e) ok (← cOpd x) (← cOpd i))
  | _ => none
 |
  .mapUpdate t m k x | .insert t m k x => match P.underlying t with
  | some (.map kt _) => do some (.mapSet (← keyP P kt) (← cOpd m) (← cOpd k) (← cOpd x) [])
  | _ => none
 | .extract x ix => do some (.p (.extract (← cOpd x) ix))
 |
  .call c => do
  let as ← c.args.toList.mapM cOpd
  match c.callee with
  | .value (.func f) => some (.call (mode f) f as)
  | .value x => some (.callv (mode 1000000 == 3) (← cOpd x) as)
  |
   .builtin .append => do
   match (c.argTypes[0]?).bind P.underlying,(c.argTypes[1]?).bind P.underlying,as with
   |
    some (.slice e),some (.slice _),[s,x] =>
    let z ← zeroP P e
    let s' ← szP P e
    if z.cells.length = s' ∧ 1 ≤ s' ∧ c.argTypes = #[c.argTypes.getD 0 0,c.argTypes.getD 0 0] then (ebP P e).bind (fun eb => if mode 1000003 == 1 then some (.w (.app s' s x none)) else some (.append false s' eb s x)) else none
   |
    some (.slice e),some (.int .i64),[s,x] =>
    let z ← zeroP P e
    let s' ← szP P e
    if z.cells.length = s' ∧ 1 ≤ s' then some (.appendZ s' (← ebP P e) z.cells s x) else none
   | _,_,_ => none
  |
   .builtin .copy =>
   match (c.argTypes[0]?).bind P.underlying,(c.argTypes[1]?).bind P.underlying,as with
   |
    some (.slice e),some (.slice _),[d,x] => do
    let s' ← szP P e
    if 1 ≤ s' then some (.w (.cpy s' d x)) else none
   | _,_,_ => none
  |
   .builtin .clear =>
   match (c.argTypes[0]?).bind P.underlying,as with
   |
    some (.slice e),[x] => do
    let z ← zeroP P e
    let s' ← szP P e
    if z.cells.length = s' ∧ 1 ≤ s' then some (.w (.clr s' z.cells x)) else none
   | _,_ => none
  |
   .builtin .cap =>
   match (c.argTypes[0]?).bind P.underlying,as with
   | some (.slice _),[x] => some (.p (.capS x))
   | _,_ => none
  |
   .builtin .len =>
   match (c.argTypes[0]?).bind P.underlying,as with
   | some (.slice _),[x] => some (.p (.lenS x))
   | some (.array n _),[_] => some (.p (.lenA n))
   | some (.map _ _),[x] => some (.w (.mln x))
   |
    some (.pointer a),[_] => match P.underlying a with
    | some (.array n _) => some (.p (.lenA n))
    | _ => none
   | _,_ => none
  |
   .builtin .min => match as with
   | x :: xs => some (.p (.minmax false x xs))
   | _ => none
  |
   .builtin .max => match as with
   | x :: xs => some (.p (.minmax true x xs))
   | _ => none
  | _ => none
 | _ => none
def cGuard (ops : Array Oper) : Option (Nat × Bool) → Option (Option (Nat × Bool))
 | none => some none
 |
  some (j,want) => match (ops[j]?).bind (·.dst) with
  | some d => some (some (d,want))
  | none => none
def cOpers (P : Program) (mode : Nat → Nat) (ops : Array Oper) : List Oper → Option (List AOper)
 | [] => some []
 |
  o :: r => do
  let a:=(cOp P mode o.op).getD (.p .bad)
  let g ← cGuard ops o.guard
  let l ← cOpers P mode ops r
  some (⟨o.dst,a,g,none,[]⟩ :: l)
def Opd.tmps : Opd → List Nat
 | .t i => [i]
 | .c _ => []
def POp.opds : POp → List Opd
 | .move x | .nilCheck x | .un _ x | .conv _ x | .fieldAddr _ x | .field _ _ _ x | .extract x _ | .lenS x | .capS x => [x]
 | .pick c a b => [c,a,b]
 | .build _ parts => parts.map fun (_,_,x) => x
 | .isNil x y | .bin _ x y | .eqB _ x y | .eqS _ _ x y | .idxArr _ _ x y | .idxSl _ x y | .idx _ _ _ x y | .idxStr x y => [x,y]
 | .mkFn _ a b => a ++ b
 | .slice _ x lo hi => x :: (lo.toList ++ hi.toList)
 | .slice3 _ x hi mx => [x,hi,mx]
 | .sliceR _ x lo hi mx => x :: (lo.toList ++ hi.toList ++ mx.toList)
 | .lenA _ | .bad => []
 | .minmax _ x xs => x :: xs
def WOp.opds : WOp → List Opd
 | .app _ s x r => s :: x :: r.toList.map Opd.t
 | .cpy _ d x => [d,x]
 | .clr _ _ x => [x]
 | .mln x => [x]
def AOp.opds : AOp → List Opd
 | .w o => o.opds
 | .p o => o.opds
 | .load _ _ x | .box x => [x]
 | .store _ a x => [a,x]
 | .alloc _ => []
 | .buildSlice _ _ _ parts | .litS _ _ _ parts => parts.map fun (_,x) => x
 | .makeSlice _ _ _ _ a b | .append _ _ _ a b | .appendZ _ _ _ a b => [a,b]
 | .call _ _ as => as
 | .callv _ f as => f :: as
 | .loadR _ _ x r => [x,.t r]
 | .loadN _ _ x rs => x :: rs.map Opd.t
 | .storeR _ a x rs => a :: x :: rs.map Opd.t
 | .sliceA _ _ x none => [x]
 | .sliceA _ _ x (some (a,b)) => x :: a :: b.toList
 | .makeMap _ => []
 | .mapGet _ _ _ m k => [m,k]
 | .mapSet _ m k x rs => m :: k :: x :: rs.map Opd.t
def AOper.looks (o : AOper) : List Nat :=
 o.op.opds.flatMap Opd.tmps ++ (match o.guard with | some (t,_) => [t] | none => [])
inductive Cls where
 | p | r | q | k | e | a | x
 deriving DecidableEq
def AOp.cls : AOp → Cls
 | .p _ | .litS .. => .p
 | .load .. | .loadR .. | .loadN .. | .sliceA .. | .call 1 _ _ => .r
 | .call 2 _ _ => .k
 | .call 3 _ _ => .q
 | .callv true _ _ | .mapGet .. => .q
 | .alloc _ | .box _ | .buildSlice .. | .makeSlice .. | .appendZ .. | .makeMap _ => .a
 | .append .. => .x
 | _ => .e
def Cls.makes : Cls → Bool
 | .a | .x => true
 | _ => false
def addTo (l : List Nat) (a : Nat) : List Nat:=if l.contains a then l else a :: l
def closure (ops : List Oper) : List (List Nat) :=
 ops.foldl (fun acc o => acc ++ [(o.after.toList.flatMap fun e => if Region.binds .any e then e.on :: acc.getD e.on [] else []).foldl addTo []]) []
def edgesBack (ops : List Oper) : Bool :=
 ops.zipIdx.all fun (o,i) => o.after.toList.all fun e => !Region.binds .any e || e.on < i
def WOp.kept : WOp → WOp
 | .app e s x _ => .app e s x none
 | o => o
def AOp.kept : AOp → AOp
 | .append _ esz eb s x => .append true esz eb s x
 | .loadR agg size a _ => .load agg size a
 | .loadN agg size a _ => .load agg size a
 | .w o => .w o.kept
 | .storeR size a x _ => .store size a x
 | .mapSet kt m k x _ => .mapSet kt m k x []
 | o => o
def slotsOf (as : List AOper) : List AOper :=
 let al : List (Option Nat × Nat):=((as.filter (fun o => o.op.cls.makes)).zipIdx.filter (fun (o,_) => match o.op with | .alloc _ => true | .makeMap _ => true | _ => false)).map fun (o,n) => (o.dst,n)
 let nth (i : Nat) : Nat:=((as.take i).filter (fun o => o.op.cls.makes)).length
 as.zipIdx.map fun (o,i) => match o.op with
  |
   .store _ (.t t) _ => match al.find? (fun x => x.1 == some t) with
   | some (_,n) => { o with slot:=some n }
   | none => o
  |
   .mapSet _ (.t t) _ _ _ => match al.find? (fun x => x.1 == some t) with
   | some (_,n) => { o with slot:=some n }
   | none => o
  | op => if op.cls.makes then { o with slot:=some (nth i),op:=op.kept } else o
def masksOf (cl : List (List Nat)) (as : List AOper) : List AOper :=
 as.zipIdx.map fun (o,i) =>
  if o.op.cls == .p || o.op.cls == .a || (o.slot.isSome && o.op.cls == .e) then o else
   { o with mask:=as.zipIdx.filterMap fun (x,j) => if x.op.cls.makes && i != j && !(cl.getD i []).contains j then x.slot else none }
def relaxOf (cl : List (List Nat)) (as : List AOper) : List AOper :=
 as.zipIdx.map fun (o,i) => match o.op with
  |
   .append true esz eb s x =>
   if as.zipIdx.all (fun (y,j) => y.op.cls != .r || (cl.getD i []).contains j) then { o with op:=.append false esz eb s x } else o
  | _ => o
def rootOf (as : List AOper) : Nat → Nat → Nat
 | 0,t => t
 |
  n + 1,t => match as.find? (fun o => o.dst == some t) with
  | some ⟨_,.p (.fieldAddr _ (.t t')),_,_,_⟩ => rootOf as n t'
  | _ => t
def clash (cl : List (List Nat)) (x : AOper) (i : Nat) (y : AOper) (j : Nat) : Option Nat :=
 match x.op,y.op with
 | .load _ _ (.t t),.store .. => if i < j && !(cl.getD j []).contains i && x.slot.isNone && y.slot.isNone && x.mask.isEmpty && y.mask.isEmpty then some t else none
 | _,_ => none
def inReg (as : List AOper) (t : Nat) : Bool:=as.any fun o => o.dst == some t
def rootM (as : List AOper) : Nat → Nat → Nat
 | 0,t => t
 |
  n + 1,t => match as.find? (fun o => o.dst == some t) with
  | some ⟨_,.p (.move (.t t')),_,_,_⟩ => rootM as n t'
  | _ => t
def wRoot (as : List AOper) : AOp → Option Nat
 | .store _ (.t t) _ => if inReg as t then none else some t
 | .w (.app _ (.t t) _ _) => if inReg as (rootM as as.length t) then none else some (rootM as as.length t)
 | _ => none
def free2 (cl : List (List Nat)) (x : AOper) (i : Nat) (y : AOper) (j : Nat) : Bool :=
 i != j && !(cl.getD j []).contains i && !(cl.getD i []).contains j && x.slot.isNone && y.slot.isNone && x.mask.isEmpty && y.mask.isEmpty
def isApp : AOp → Bool
 | .w (.app ..) => true
 | _ => false
def needN (cl : List (List Nat)) (as : List AOper) (o : AOper) (i : Nat) (t : Nat) : Bool :=
 as.zipIdx.any (fun (y,j) => isApp y.op && free2 cl o i y j) || (inReg as (rootOf as as.length t) && as.zipIdx.any (fun (y,j) => (clash cl o i y j).isSome))
def apartOf (cl : List (List Nat)) (as : List AOper) : List AOper :=
 as.zipIdx.map fun (o,i) => match o.op with
  |
   .load agg size (.t t) =>
   if needN cl as o i t then { o with op:=.loadN agg size (.t t) (as.zipIdx.filterMap fun (y,j) => if free2 cl o i y j then wRoot as y.op else none) }
   else if as.zipIdx.any (fun (y,j) => (clash cl o i y j).isSome) then { o with op:=.loadR agg size (.t t) (rootOf as as.length t) } else o
  |
   .store size a x =>
   match as.zipIdx.filterMap (fun (y,j) => (clash cl y j o i).bind fun t => if needN cl as y j t then none else some (rootOf as as.length t)) with
   | [] => o
   | rs => { o with op:=.storeR size a x rs }
  | .w (.app e s x _) => if as.zipIdx.any (fun (y,j) => (match y.op with | .load .. => true | _ => false) && free2 cl y j o i) then { o with op:=.w (.app e s x (wRoot as o.op)) } else o
  | .mapSet kt m k x _ => { o with op:=.mapSet kt m k x (as.zipIdx.filterMap fun (y,j) => match y.op with | .mapSet _ _ (.t t) _ _ => if j < i && !(cl.getD i []).contains j then some t else none | _ => none) }
  | _ => o
def drawn (ops : List Oper) (as : List AOper) : List AOper:=apartOf (closure ops) (relaxOf (closure ops) (masksOf (closure ops) (slotsOf as)))
def apartOk (x y : AOper) : Bool :=
 match x.op,y.op with
 | .loadR _ _ _ r,.storeR _ _ _ rs => rs.contains r && x.mask.isEmpty && y.mask.isEmpty
 | .loadN _ _ _ rs,.store _ (.t t) _ => rs.contains t && x.mask.isEmpty && y.mask.isEmpty
 | .loadN _ _ _ rs,.storeR _ (.t t) _ _ => rs.contains t && x.mask.isEmpty && y.mask.isEmpty
 | .loadN _ _ _ rs,.w (.app _ _ _ (some r)) => rs.contains r && x.mask.isEmpty && y.mask.isEmpty
 | .w (.app _ _ _ (some r)),.loadN _ _ _ rs => rs.contains r && x.mask.isEmpty && y.mask.isEmpty
 | _,_ => false
def mapsOk (x y : AOper) : Bool :=
 match x.op,y.op with
 | .mapSet _ (.t m) (.t k) _ _,.mapSet _ (.t m') (.t _) _ rs => m == m' && rs.contains k && x.slot == y.slot && x.slot.isSome
 | _,_ => false
def slotCount (as : List AOper) : Nat:=(as.filter (fun o => o.op.cls.makes)).length
def AOp.keeps : AOp → Bool
 | .append k _ _ _ _ => k
 | _ => false
def swapOk (x y : AOper) : Bool :=
 (match x.dst with | some d => !y.looks.contains d && y.dst != some d | none => true) &&
 (match y.dst with | some d => !x.looks.contains d | none => true) &&
 (
  mapsOk x y || x.op.cls == .p || y.op.cls == .p ||
  match x.slot,y.slot with
  | some s,some t => s != t && (x.op.cls != .x || (y.op.cls != .x && x.mask.contains t)) && (y.op.cls != .x || y.mask.contains s)
  | some s,none => y.mask.contains s && (x.op.cls != .x || (y.op.cls == .r && x.op.keeps))
  | none,some t => x.mask.contains t && (y.op.cls != .x || (x.op.cls == .r && y.op.keeps))
  | none,none => (x.op.cls == .r || x.op.cls == .q) && (y.op.cls == .r || y.op.cls == .q) || (x.op.cls == .r && y.op.cls == .k) || apartOk x y)
def isStore : AOp → Bool
 | .store .. => true
 | .mapSet .. => true
 | _ => false
def AOper.made (o : AOper) : Option Nat :=
 match o.slot,o.op with
 | some _,.store .. => none
 | some _,.mapSet .. => none
 | sl,_ => sl
def shapeOk (as : List AOper) : Bool :=
 as.all fun o => match o.slot with
  | some s => !o.mask.contains s && (o.op.cls == .a || o.op.cls == .x || isStore o.op) && as.any (fun x => x.made == some s)
  | none => true
def permIx (n : Nat) (p : Nat → Bool) : List Nat:=(List.range n).filter p ++ (List.range n).filter (fun i => !p i)
def permA (as : List AOper) (p : Nat → Bool) : List AOper:=(permIx as.length p).filterMap (as[·]?)
def ahead (p : Nat → Bool) (i j : Nat) : Bool:=(p i && !p j) || (p i == p j && decide (i < j))
def frontOf (cl : List (List Nat)) (as : List AOper) : Nat → Bool :=
 let ok:=as.map fun o => o.op.cls == .r || o.op.cls == .p
 fun i => ok.getD i false && (cl.getD i []).all fun j => ok.getD j false
def okDraw (ops : List Oper) (as : List AOper) (p : Nat → Bool) : Bool :=
 let cl:=closure ops
 edgesBack ops && shapeOk as && as.zipIdx.all fun (o,i) => as.zipIdx.all fun (x,j) =>
  !(ahead p i j) || (cl.getD j []).contains i || swapOk o x
def slotsOk (k : Nat) (as : List AOper) : Bool :=
 as.zipIdx.all fun (o,i) => o.mask.all (fun s => s < k && o.made != some s) && (match o.made with | some s => s < k | none => true) &&
  as.zipIdx.all fun (x,j) => i == j || o.made.isNone || o.made != x.made
def drawM (mode : Nat → Nat) (draw : Bool) : Nat → Nat:=if draw then fun g => mode (2000000 + g) else mode
def cCode (P : Program) (mode : Nat → Nat) : Code → Option ACode
 | .skip => some .skip
 | .label _ => some .skip
 |
  .region _ ops draw => do
  let l ← cOpers P (drawM mode draw) ops ops.toList
  if !draw then some (.region 0 l) else
  let d:=drawn ops.toList l
  if P.follows .mixedOrders && slotsOk (slotCount l) d then
   if okDraw ops.toList d (fun _ => true) then some (.region (slotCount l) d)
   else if okDraw ops.toList d (frontOf (closure ops.toList) d) then some (.region (slotCount l) (permA d (frontOf (closure ops.toList) d))) else none
  else none
 | .seq a b => do some (.seq (← cCode P mode a) (← cCode P mode b))
 | .cond c a b => do some (.cond (← cOpd c) (← cCode P mode a) (← cCode P mode b))
 | .block id c => do some (.block id (← cCode P mode c))
 | .loop c => do some (.loop (← cCode P mode c))
 | .rangeFunc f ps as bd => do some (.rangeFunc (← cOpd f) ps.toList (← cCode P mode as) (← cCode P mode bd))
 | .exit id => some (.exit id)
 | .scope c => do some (.scope (← cCode P mode c))
 | .ret => some .ret
 | _ => none
def cRes (P : Program) : ResultVar → Option ARes
 | .tmp t => some (.tmp t)
 | .cell a t => do some (.cell (← aggP P t) (← szP P t) a)
def cFn (P : Program) (mode : Nat → Nat) (f : Nat) : Option AFn:=do
 let fn ← P.funcs[f]?
 let b ← fn.body
 if fn.name = "runtime.NumGoroutine" then none else
 some { ntmps:=fn.ntmps,results:=← fn.results.toList.mapM (cRes P),body:=← cCode P mode b }
end Go.Am
/-
What a value,a heap of the abstract machine say of the model's memory; how they abide what the machine does.
-/
namespace Go.Am
open Go
set_option linter.unusedVariables false
set_option linter.unusedSimpArgs false
abbrev Fz:=Nat → Option (Array Value)
abbrev Mp:=Nat → Option (Nat × Nat)
def Mp.no : Mp:=fun _ => none
def Mp.le (φ φ' : Mp) : Prop:=∀ o x,φ o = some x → φ' o = some x
theorem Mp.le_refl (φ : Mp) : Mp.le φ φ:=fun _ _ h => h
theorem Mp.le_trans {a b c : Mp} (h : Mp.le a b) (h' : Mp.le b c) : Mp.le a c:=fun o x e => h' o x (h o x e)
inductive Rel (S : Fz) : Mp → AV → Value → Prop
 | bool (φ : Mp) (b : Bool) : Rel S φ (.bool b) (.bool b)
 | int (φ : Mp) (k : IntKind) (n : Int) : Rel S φ (.int k n) (.int k n)
 | str (φ : Mp) (s : ByteArray) : Rel S φ (.str s) (.string s)
 | nilp (φ : Mp) : Rel S φ .nilp (.pointer none)
 | ptr (φ : Mp) (o off b z : Nat) (h : φ o = some (b,z)) : Rel S φ (.ptr o off) (.pointer (some ⟨b,off,none⟩))
 | cptr (φ : Mp) (cells : List AV) (b off : Nat) (c : Array Value) (vs : Nat → Value) (hS : S b = some c)
   (h : ∀ j a,cells[j]? = some a → c[off + j]? = some (vs j)) (hr : ∀ j a,cells[j]? = some a → Rel S Mp.no a (vs j)) :
   Rel S φ (.cptr cells) (.pointer (some ⟨b,off,none⟩))
 | nils (φ : Mp) : Rel S φ .nils (.slice none 0 0)
 | cs0 (φ : Mp) (esz : Nat) (a : Addr) (cap : Nat) : Rel S φ (.cs esz 0 []) (.slice (some a) 0 cap)
 | cs (φ : Mp) (esz len : Nat) (cells : List AV) (b off cap : Nat) (c : Array Value) (vs : Nat → Value) (hS : S b = some c) (hl : cells.length = len * esz) (hc : len ≤ cap)
   (h : ∀ j a,cells[j]? = some a → c[off + j]? = some (vs j)) (hr : ∀ j a,cells[j]? = some a → Rel S Mp.no a (vs j)) :
   Rel S φ (.cs esz len cells) (.slice (some ⟨b,off,none⟩) len cap)
 | ms (φ : Mp) (esz o off len b z cap : Nat) (h : φ o = some (b,z)) (hc : len ≤ cap) (hz : off + cap * esz ≤ z) :
   Rel S φ (.ms esz o off len) (.slice (some ⟨b,off,none⟩) len cap)
 | mc (φ : Mp) (esz o off len b z : Nat) (h : φ o = some (b,z)) (hz : off + len * esz ≤ z) :
   Rel S φ (.mc esz o off len) (.slice (some ⟨b,off,none⟩) len len)
 | mr (φ : Mp) (esz o off len room b z cap : Nat) (h : φ o = some (b,z)) (hl : len ≤ room) (hc : room ≤ cap) (hz : off + cap * esz ≤ z) :
   Rel S φ (.mr esz o off len room) (.slice (some ⟨b,off,none⟩) len cap)
 | fn (φ : Mp) (f : Nat) (a b : List AV) (va vb : Array Value) (ha : a.length = va.size) (hb : b.length = vb.size)
   (hra : ∀ (j : Nat) x v,a[j]? = some x → va[j]? = some v → Rel S φ x v) (hrb : ∀ (j : Nat) x v,b[j]? = some x → vb[j]? = some v → Rel S φ x v) :
   Rel S φ (.fn f a b) (.func (.func f) va vb)
 | yld (φ : Mp) (o l z : Nat) (h : φ o = some (l,z)) : Rel S φ (.yld o) (.func (.yield l) #[] #[])
 | nilf (φ : Mp) : Rel S φ .nilf .nilFunc
 | agg (φ : Mp) (a : List AV) (va : Array Value) (ha : a.length = va.size) (hra : ∀ (j : Nat) x v,a[j]? = some x → va[j]? = some v → Rel S φ x v) : Rel S φ (.agg a) (.agg va)
 | tup (φ : Mp) (a : List AV) (va : Array Value) (ha : a.length = va.size) (hra : ∀ (j : Nat) x v,a[j]? = some x → va[j]? = some v → Rel S φ x v) : Rel S φ (.tup a) (.tuple va)
 | iface (φ : Mp) (t : Nat) (a : AV) (v : Value) (h : Rel S φ a v) : Rel S φ (.iface t a) (.iface t v)
 | nili (φ : Mp) : Rel S φ .nili .nilIface
 | mp (φ : Mp) (o b z : Nat) (h : φ o = some (b,z)) : Rel S φ (.mp o) (.map (some b))
 | nilm (φ : Mp) : Rel S φ .nilm (.map none)
def RelL (S : Fz) (φ : Mp) (a : List AV) (v : List Value) : Prop:=a.length = v.length ∧ ∀ (j : Nat) x u,a[j]? = some x → v[j]? = some u → Rel S φ x u
theorem Rel.mono {S S' : Fz} (hS : ∀ b c,S b = some c → S' b = some c) {φ : Mp} {a : AV} {v : Value} (h : Rel S φ a v) :
  ∀ φ' : Mp,Mp.le φ φ' → Rel S' φ' a v:=by
 induction h with
 | bool φ b => exact fun φ' _ => .bool φ' b
 | int φ k n => exact fun φ' _ => .int φ' k n
 | str φ s => exact fun φ' _ => .str φ' s
 | nilp φ => exact fun φ' _ => .nilp φ'
 | ptr φ o off b z h => exact fun φ' hp => .ptr φ' o off b z (hp _ _ h)
 | cptr φ cells b off c vs hs h hr ih => exact fun φ' _ => .cptr φ' cells b off c vs (hS _ _ hs) h (fun j a hj => ih j a hj Mp.no (Mp.le_refl _))
 | nils φ => exact fun φ' _ => .nils φ'
 | cs0 φ esz a cap => exact fun φ' _ => .cs0 φ' esz a cap
 | cs φ esz len cells b off cap c vs hs hl hc h hr ih => exact fun φ' _ => .cs φ' esz len cells b off cap c vs (hS _ _ hs) hl hc h (fun j a hj => ih j a hj Mp.no (Mp.le_refl _))
 | ms φ esz o off len b z cap h hc hz => exact fun φ' hp => .ms φ' esz o off len b z cap (hp _ _ h) hc hz
 | mc φ esz o off len b z h hz => exact fun φ' hp => .mc φ' esz o off len b z (hp _ _ h) hz
 | mr φ esz o off len room b z cap h hl hc hz => exact fun φ' hp => .mr φ' esz o off len room b z cap (hp _ _ h) hl hc hz
 | fn φ f a b va vb ha hb hra hrb iha ihb => exact fun φ' hp => .fn φ' f a b va vb ha hb (fun j x v h1 h2 => iha j x v h1 h2 φ' hp) (fun j x v h1 h2 => ihb j x v h1 h2 φ' hp)
 | yld φ o l z h => exact fun φ' hp => .yld φ' o l z (hp _ _ h)
 | nilf φ => exact fun φ' _ => .nilf φ'
 | agg φ a va ha hra ih => exact fun φ' hp => .agg φ' a va ha (fun j x v h1 h2 => ih j x v h1 h2 φ' hp)
 | tup φ a va ha hra ih => exact fun φ' hp => .tup φ' a va ha (fun j x v h1 h2 => ih j x v h1 h2 φ' hp)
 | iface φ t a v h ih => exact fun φ' hp => .iface φ' t a v (ih φ' hp)
 | nili φ => exact fun φ' _ => .nili φ'
 | mp φ o b z h => exact fun φ' hp => .mp φ' o b z (hp _ _ h)
 | nilm φ => exact fun φ' _ => .nilm φ'
theorem Rel.up {S : Fz} {φ φ' : Mp} {a : AV} {v : Value} (h : Rel S φ a v) (hp : Mp.le φ φ') : Rel S φ' a v :=
 h.mono (fun _ _ h => h) φ' hp
theorem RelL.mono {S S' : Fz} (hS : ∀ b c,S b = some c → S' b = some c) {φ φ' : Mp} (hp : Mp.le φ φ') {a : List AV} {v : List Value} (h : RelL S φ a v) : RelL S' φ' a v :=
 ⟨h.1,fun j x u h1 h2 => ((h.2 j x u h1 h2).up hp).mono hS _ (Mp.le_refl _)⟩
theorem RelL.nil {S : Fz} {φ : Mp} : RelL S φ [] []:=⟨rfl,fun j x u h => by simp at h⟩
theorem RelL.cons {S : Fz} {φ : Mp} {a : AV} {v : Value} {as : List AV} {vs : List Value} (h : Rel S φ a v) (hs : RelL S φ as vs) : RelL S φ (a :: as) (v :: vs):=by
 refine ⟨by simp [hs.1],fun j x u h1 h2 => ?_⟩
 cases j with
 | zero => simp at h1 h2; subst h1; subst h2; exact h
 | succ j => simp at h1 h2; exact hs.2 j x u h1 h2
theorem RelL.cons_inv {S : Fz} {φ : Mp} {a : AV} {as : List AV} {vs : List Value} (h : RelL S φ (a :: as) vs) : ∃ v r,vs = v :: r ∧ Rel S φ a v ∧ RelL S φ as r:=by
 cases vs with
 | nil => have:=h.1; simp at this
 | cons v r => exact ⟨v,r,rfl,h.2 0 a v rfl rfl,by have:=h.1; simpa using this,fun j x u h1 h2 => h.2 (j + 1) x u (by simpa using h1) (by simpa using h2)⟩
theorem RelL.append {S : Fz} {φ : Mp} {a b : List AV} {v u : List Value} (h : RelL S φ a v) (h' : RelL S φ b u) : RelL S φ (a ++ b) (v ++ u):=by
 refine ⟨by simp [h.1,h'.1],fun j x y h1 h2 => ?_⟩
 by_cases hj : j < a.length
 ·rw [List.getElem?_append_left hj] at h1
  rw [List.getElem?_append_left (by rw [← h.1]; exact hj)] at h2
  exact h.2 j x y h1 h2
 ·rw [List.getElem?_append_right (by omega)] at h1
  rw [List.getElem?_append_right (by have:=h.1; omega),← h.1] at h2
  exact h'.2 _ x y h1 h2
theorem RelL.take {S : Fz} {φ : Mp} {a : List AV} {v : List Value} (h : RelL S φ a v) (n : Nat) : RelL S φ (a.take n) (v.take n):=by
 refine ⟨by simp [h.1],fun j x y h1 h2 => ?_⟩
 rw [List.getElem?_take] at h1 h2
 split at h1
 ·rw [if_pos (by assumption)] at h2; exact h.2 j x y h1 h2
 ·cases h1
theorem RelL.drop {S : Fz} {φ : Mp} {a : List AV} {v : List Value} (h : RelL S φ a v) (n : Nat) : RelL S φ (a.drop n) (v.drop n):=by
 refine ⟨by simp [h.1],fun j x y h1 h2 => ?_⟩
 rw [List.getElem?_drop] at h1 h2
 exact h.2 _ x y h1 h2
theorem RelL.set {S : Fz} {φ : Mp} {a : List AV} {v : List Value} (h : RelL S φ a v) (n : Nat) {x : AV} {u : Value} (hx : Rel S φ x u) : RelL S φ (a.set n x) (v.set n u):=by
 refine ⟨by simp [h.1],fun j y w h1 h2 => ?_⟩
 rw [List.getElem?_set] at h1 h2
 by_cases e : n = j
 ·subst e
  simp only [if_true] at h1 h2
  split at h1
  ·split at h2
   ·cases h1; cases h2; exact hx
   ·cases h2
  ·cases h1
 ·simp only [e,if_false] at h1 h2; exact h.2 j y w h1 h2
theorem RelL.getD {S : Fz} {φ : Mp} {a : List AV} {v : List Value} (h : RelL S φ a v) (n : Nat) : Rel S φ (a.getD n .undef) (v.getD n undef):=by
 by_cases hn : n < a.length
 ·have hv : n < v.length:=by rw [← h.1]; exact hn
  exact h.2 n _ _ (by simp [List.getElem?_eq_getElem hn]) (by simp [List.getElem?_eq_getElem hv])
 ·have hv : ¬ n < v.length:=by rw [← h.1]; exact hn
  simp only [List.getD_eq_getElem?_getD,List.getElem?_eq_none (Nat.le_of_not_lt hn),List.getElem?_eq_none (Nat.le_of_not_lt hv),Option.getD_none]
  exact .tup φ [] #[] rfl (fun j x v h => by simp at h)
theorem RelL.get {S : Fz} {φ : Mp} {a : List AV} {v : List Value} (h : RelL S φ a v) {n : Nat} {x : AV} (hx : a[n]? = some x) : ∃ u,v[n]? = some u ∧ Rel S φ x u:=by
 have hn:=(List.getElem?_eq_some_iff.1 hx).1
 have hv : n < v.length:=by rw [← h.1]; exact hn
 exact ⟨v[n],List.getElem?_eq_getElem hv,h.2 n x _ hx (List.getElem?_eq_getElem hv)⟩
theorem Rel.cells {S : Fz} {φ : Mp} {a : AV} {v : Value} (h : Rel S φ a v) : RelL S φ a.cells v.cells.toList:=by
 cases h with
 | agg φ a va ha hra => exact ⟨by simpa [AV.cells,Value.cells] using ha,fun j x u h1 h2 => hra j x u h1 (by simpa [Value.cells] using h2)⟩
 | bool φ b => exact .cons (.bool _ _) .nil
 | int φ k n => exact .cons (.int _ _ _) .nil
 | str φ s => exact .cons (.str _ _) .nil
 | nilp φ => exact .cons (.nilp _) .nil
 | ptr φ o off b z h => exact .cons (.ptr _ _ _ _ _ h) .nil
 | cptr φ cells b off c vs hs h hr => exact .cons (.cptr _ _ _ _ _ _ hs h hr) .nil
 | nils φ => exact .cons (.nils _) .nil
 | cs0 φ esz a cap => exact .cons (.cs0 _ _ _ _) .nil
 | cs φ esz len cells b off cap c vs hs hl hc h hr => exact .cons (.cs _ _ _ _ _ _ _ _ _ hs hl hc h hr) .nil
 | ms φ esz o off len b z cap h hc hz => exact .cons (.ms _ _ _ _ _ _ _ _ h hc hz) .nil
 | mc φ esz o off len b z h hz => exact .cons (.mc _ _ _ _ _ _ _ h hz) .nil
 | mr φ esz o off len room b z cap h hl hc hz => exact .cons (.mr _ _ _ _ _ _ _ _ _ h hl hc hz) .nil
 | fn φ f a b va vb ha hb hra hrb => exact .cons (.fn _ _ _ _ _ _ ha hb hra hrb) .nil
 | yld φ o l z h => exact .cons (.yld _ _ _ _ h) .nil
 | nilf φ => exact .cons (.nilf _) .nil
 | tup φ a va ha hra => exact .cons (.tup _ _ _ ha hra) .nil
 | iface φ t a v h => exact .cons (.iface _ _ _ _ h) .nil
 | nili φ => exact .cons (.nili _) .nil
 | mp φ o b z h => exact .cons (.mp _ _ _ _ h) .nil
 | nilm φ => exact .cons (.nilm _) .nil
theorem Rel.one {S : Fz} {φ : Mp} {a : AV} {v : Value} (h : Rel S φ a v) (hs : a.scalar = true) : v.oneCell' = true:=by
 cases h <;> first | rfl | simp [AV.scalar] at hs
theorem Rel.agg_iff {S : Fz} {φ : Mp} {a : List AV} {va : Array Value} : Rel S φ (.agg a) (.agg va) ↔ RelL S φ a va.toList :=
 ⟨
  fun h => by cases h with | agg φ a va ha hra => exact ⟨by simpa using ha,fun j x u h1 h2 => hra j x u h1 (by simpa using h2)⟩,
  fun h => .agg φ a va (by simpa using h.1) (fun j x v h1 h2 => h.2 j x v h1 (by simpa using h2))⟩
theorem Rel.tup_iff {S : Fz} {φ : Mp} {a : List AV} {va : Array Value} : Rel S φ (.tup a) (.tuple va) ↔ RelL S φ a va.toList :=
 ⟨
  fun h => by cases h with | tup φ a va ha hra => exact ⟨by simpa using ha,fun j x u h1 h2 => hra j x u h1 (by simpa using h2)⟩,
  fun h => .tup φ a va (by simpa using h.1) (fun j x v h1 h2 => h.2 j x v h1 (by simpa using h2))⟩
theorem Rel.undef {S : Fz} {φ : Mp} : Rel S φ .undef Go.undef:=Rel.tup_iff.2 .nil
theorem mapM_some {α β : Type} {f : α → Option β} : ∀ {l : List α} {r : List β},l.mapM f = some r → r.length = l.length ∧ ∀ (j : Nat) x,l[j]? = some x → ∃ y,r[j]? = some y ∧ f x = some y
 | [],r,h => by simp at h; subst h; exact ⟨rfl,fun j x hx => by simp at hx⟩
 |
  a :: l,r,h => by
  simp only [List.mapM_cons,Option.bind_eq_bind,Option.bind_eq_some_iff,Option.pure_def,Option.some.injEq] at h
  obtain ⟨y,hy,s,hs,rfl⟩:=h
  obtain ⟨h1,h2⟩:=mapM_some hs
  refine ⟨by simp [h1],fun j x hx => ?_⟩
  cases j with
  | zero => simp at hx; subst hx; exact ⟨y,rfl,hy⟩
  | succ j => simp at hx; simpa using h2 j x hx
theorem toAV_rel {S : Fz} {φ : Mp} : ∀ (n : Nat) (v : Value) (a : AV),toAV n v = some a → Rel S φ a v:=by
 intro n
 induction n with
 |
  zero =>
  intro v a h
  cases v with
  | bool b => simp [toAV] at h; subst h; exact .bool _ _
  | int k n => simp [toAV] at h; subst h; exact .int _ _ _
  | string s => simp [toAV] at h; subst h; exact .str _ _
  | pointer p => cases p <;> simp [toAV] at h; subst h; exact .nilp _
  |
   slice p l c =>
   cases p <;> cases l <;> cases c <;> simp [toAV] at h
   subst h; exact .nils _
  | nilFunc => simp [toAV] at h; subst h; exact .nilf _
  | nilIface => simp [toAV] at h; subst h; exact .nili _
  | map r => cases r <;> simp [toAV] at h; subst h; exact .nilm _
  | _ => simp [toAV] at h
 |
  succ n ih =>
  intro v a h
  cases v with
  | bool b => simp [toAV] at h; subst h; exact .bool _ _
  | int k n => simp [toAV] at h; subst h; exact .int _ _ _
  | string s => simp [toAV] at h; subst h; exact .str _ _
  | pointer p => cases p <;> simp [toAV] at h; subst h; exact .nilp _
  |
   slice p l c =>
   cases p <;> cases l <;> cases c <;> simp [toAV] at h
   subst h; exact .nils _
  | nilFunc => simp [toAV] at h; subst h; exact .nilf _
  | nilIface => simp [toAV] at h; subst h; exact .nili _
  | map r => cases r <;> simp [toAV] at h; subst h; exact .nilm _
  |
   agg c =>
   simp only [toAV,Option.map_eq_some_iff] at h
   obtain ⟨l,hl,rfl⟩:=h
   obtain ⟨h1,h2⟩:=mapM_some hl
   exact Rel.agg_iff.2 ⟨h1,fun j x u hx hu => by obtain ⟨y,hy,hf⟩:=h2 j u hu; rw [hx] at hy; cases hy; exact ih _ _ hf⟩
  |
   tuple c =>
   simp only [toAV,Option.map_eq_some_iff] at h
   obtain ⟨l,hl,rfl⟩:=h
   obtain ⟨h1,h2⟩:=mapM_some hl
   exact Rel.tup_iff.2 ⟨h1,fun j x u hx hu => by obtain ⟨y,hy,hf⟩:=h2 j u hu; rw [hx] at hy; cases hy; exact ih _ _ hf⟩
  | _ => simp [toAV] at h
end Go.Am
/-
The abstract heap against the model's world.
-/
namespace Go.Am
open Go
set_option linter.unusedVariables false
set_option linter.unusedSimpArgs false
def exCode : Ex → Option Code
 | .nrm => none
 | .exit id => some (.exit id)
 | .ret => some .ret
def ORow (S : Fz) (φ : Mp) (w : World) (c : List AV) (b z : Nat) : Prop :=
 ∃ cs e,w.heap[b]? = some (.cells cs e (0,0)) ∧ cs.size = z ∧ c.length ≤ z ∧ ∀ (j : Nat) x,c[j]? = some x → ∃ v,cs[j]? = some v ∧ Rel S φ x v
def RelM (S : Fz) (ks : KT) : List (List Int × AV) → List MapEntry → Prop
 | [],[] => True
 | x :: r,e :: s => (∃ a,keyOf ks a = some x.1 ∧ Rel S Mp.no a e.key) ∧ Rel S Mp.no x.2 e.val ∧ RelM S ks r s
 | _,_ => False
theorem RelM.mono {S S' : Fz} {ks : KT} (hS : ∀ b c,S b = some c → S' b = some c) : ∀ {es : List (List Int × AV)} {ents : List MapEntry},RelM S ks es ents → RelM S' ks es ents
 | [],[],_ => trivial
 | _ :: _,_ :: _,h => ⟨by obtain ⟨a,h1,h2⟩:=h.1; exact ⟨a,h1,h2.mono hS _ (Mp.le_refl _)⟩,h.2.1.mono hS _ (Mp.le_refl _),RelM.mono hS h.2.2⟩
def OMap (S : Fz) (w : World) (ks : KT) (es : List (List Int × AV)) (b : Nat) : Prop :=
 ∃ ents clock l,w.heap[b]? = some (.map ents clock) ∧ List.Perm l ents.toList ∧ RelM S ks es l ∧ (es.Pairwise fun a b => ltK a.1 b.1 = true) ∧ MapKept.Stamped ents clock
def OR (P : Program) (mode : Nat → Nat → Nat) (S : Fz) (φ : Mp) (w : World) (b z : Nat) : AO → Prop
 | .cells c _ => ORow S φ w c b z
 | .ro c => ORow S φ w c b z
 | .tomb => True
 | .mpo ks es => OMap S w ks es b
 | .dfr => w.heap[b]? = some (.deferred (some []))
 | .loop st pend fid ts ps as bd d => ∃ l : Loop,w.heap[b]? = some (.loop l) ∧ l.state = st ∧ l.pending = pend.bind exCode ∧ l.fn = fid ∧ RelL S φ ts l.tmps.toList ∧
   l.params.toList = ps ∧ cCode P (mode fid) l.assign = some as ∧ cCode P (mode fid) l.body = some bd ∧ ∃ z,φ d = some (l.defers,z)
def mayShare : AO → AO → Prop
 | .tomb,_ => True
 | _,.tomb => True
 | .ro _,.ro _ => True
 | .cells c sh,.ro c' => c'.length ≤ c.length ∧ (c' = [] ∨ sh = true)
 | .ro c',.cells c sh => c'.length ≤ c.length ∧ (c' = [] ∨ sh = true)
 | _,_ => False
theorem mayShare_comm {a b : AO} (h : mayShare a b) : mayShare b a:=by
 cases a <;> cases b <;> simp_all [mayShare]
structure HR (P : Program) (mode : Nat → Nat → Nat) (S : Fz) (φ : Mp) (B : Nat) (h : List AO) (w : World) : Prop where
 bs : B ≤ w.heap.size
 dom : ∀ o x,φ o = some x → o < h.length
 lt : ∀ o b z,φ o = some (b,z) → b < w.heap.size ∧ B ≤ b
 fro : ∀ b c,S b = some c → ∃ e fr,w.heap[b]? = some (.cells c e fr)
 obj : ∀ (o : Nat) a,h[o]? = some a → a = .tomb ∨ ∃ b z,φ o = some (b,z) ∧ S b = none ∧ OR P mode S φ w b z a
 inj : ∀ (o o' : Nat) a a' b z z',h[o]? = some a → h[o']? = some a' → φ o = some (b,z) → φ o' = some (b,z') → o ≠ o' → mayShare a a'
structure Fx (B : Nat) (w w' : World) : Prop where
 tape : w'.tape = w.tape
 os : w'.os = w.os
 out : w'.output = w.output
 size : w.heap.size ≤ w'.heap.size
 old : ∀ b,b < B → w'.heap[b]? = w.heap[b]?
theorem Fx.refl (B : Nat) (w : World) : Fx B w w:=⟨rfl,rfl,rfl,Nat.le_refl _,fun _ _ => rfl⟩
theorem Fx.trans {B : Nat} {a b c : World} (h : Fx B a b) (h' : Fx B b c) : Fx B a c :=
 ⟨h'.tape.trans h.tape,h'.os.trans h.os,h'.out.trans h.out,Nat.le_trans h.size h'.size,fun x hx => (h'.old x hx).trans (h.old x hx)⟩
theorem Fx.mono {B B' : Nat} {a b : World} (h : Fx B a b) (hb : B' ≤ B) : Fx B' a b :=
 ⟨h.tape,h.os,h.out,h.size,fun x hx => h.old x (Nat.lt_of_lt_of_le hx hb)⟩
structure Post (P : Program) (mode : Nat → Nat → Nat) (S : Fz) (φ : Mp) (B lim : Nat) (h : List AO) (w : World) (pl : Option Nat) (S' : Fz) (φ' : Mp) (h' : List AO) (w' : World) : Prop where
 hr : HR P mode S' φ' B h' w'
 le : Mp.le φ φ'
 sle : ∀ b,b < w.heap.size → S' b = S b
 fx : Fx B w w'
 len : h.length ≤ h'.length
 keep : ∀ o,o < lim → o < h.length → some o ≠ pl → h'[o]? = h[o]?
 none : ∀ o,o < h.length → some o ≠ pl → φ o = Option.none → φ' o = Option.none
variable {P : Program} {mode : Nat → Nat → Nat} {S : Fz} {φ : Mp} {B : Nat} {h : List AO} {w : World}
theorem HR.slt (H : HR P mode S φ B h w) {b : Nat} {c : Array Value} (hs : S b = some c) : b < w.heap.size:=by
 obtain ⟨e,fr,he⟩:=H.fro b c hs
 exact (Array.getElem?_eq_some_iff.1 he).1
theorem Post.smono (H : HR P mode S φ B h w) {lim : Nat} {pl : Option Nat} {S' : Fz} {φ' : Mp} {h' : List AO} {w' : World} (q : Post P mode S φ B lim h w pl S' φ' h' w') :
  ∀ b c,S b = some c → S' b = some c:=fun b c hs => by rw [q.sle b (H.slt hs)]; exact hs
theorem Post.refl (H : HR P mode S φ B h w) (lim : Nat) (pl : Option Nat) : Post P mode S φ B lim h w pl S φ h w :=
 ⟨H,Mp.le_refl _,fun _ _ => rfl,Fx.refl _ _,Nat.le_refl _,fun _ _ _ _ => rfl,fun _ _ _ h => h⟩
theorem Post.trans {lim : Nat} {S1 S2 : Fz} {φ1 φ2 : Mp} {h1 h2 : List AO} {w1 w2 : World} {pl : Option Nat}
  (q : Post P mode S φ B lim h w pl S1 φ1 h1 w1) (q' : Post P mode S1 φ1 B lim h1 w1 pl S2 φ2 h2 w2) : Post P mode S φ B lim h w pl S2 φ2 h2 w2 :=
 ⟨
  q'.hr,Mp.le_trans q.le q'.le,fun b hb => (q'.sle b (Nat.lt_of_lt_of_le hb q.fx.size)).trans (q.sle b hb),q.fx.trans q'.fx,Nat.le_trans q.len q'.len,
  fun o ho hl hp => (q'.keep o ho (Nat.lt_of_lt_of_le hl q.len) hp).trans (q.keep o ho hl hp),fun o hl hp hn => q'.none o (Nat.lt_of_lt_of_le hl q.len) hp (q.none o hl hp hn)⟩
theorem Post.wk {lim : Nat} {S1 : Fz} {φ1 : Mp} {h1 : List AO} {w1 : World} (q : Post P mode S φ B lim h w .none S1 φ1 h1 w1) (pl : Option Nat) : Post P mode S φ B lim h w pl S1 φ1 h1 w1 :=
 ⟨q.hr,q.le,q.sle,q.fx,q.len,fun o a b _ => q.keep o a b (by simp),fun o a _ c => q.none o a (by simp) c⟩
theorem Post.rel (H : HR P mode S φ B h w) {lim : Nat} {pl : Option Nat} {S' : Fz} {φ' : Mp} {h' : List AO} {w' : World} (q : Post P mode S φ B lim h w pl S' φ' h' w')
  {a : AV} {v : Value} (r : Rel S φ a v) : Rel S' φ' a v:=(r.up q.le).mono (q.smono H) _ (Mp.le_refl _)
theorem Post.relL (H : HR P mode S φ B h w) {lim : Nat} {pl : Option Nat} {S' : Fz} {φ' : Mp} {h' : List AO} {w' : World} (q : Post P mode S φ B lim h w pl S' φ' h' w')
  {a : List AV} {v : List Value} (r : RelL S φ a v) : RelL S' φ' a v:=r.mono (q.smono H) q.le
theorem ORow.mono {S' : Fz} {φ' : Mp} {w' : World} {c : List AV} {b z : Nat} (r : ORow S φ w c b z) (hS : ∀ b c,S b = some c → S' b = some c) (hφ : Mp.le φ φ')
  (hw : w'.heap[b]? = w.heap[b]?) : ORow S' φ' w' c b z:=by
 obtain ⟨cs,e,h1,h2,h3,h4⟩:=r
 exact ⟨cs,e,hw.trans h1,h2,h3,fun j x hx => by obtain ⟨v,hv,hr⟩:=h4 j x hx; exact ⟨v,hv,(hr.up hφ).mono hS _ (Mp.le_refl _)⟩⟩
theorem OR.mono {S' : Fz} {φ' : Mp} {w' : World} {a : AO} {b z : Nat} (r : OR P mode S φ w b z a) (hS : ∀ b c,S b = some c → S' b = some c) (hφ : Mp.le φ φ')
  (hw : w'.heap[b]? = w.heap[b]?) : OR P mode S' φ' w' b z a:=by
 cases a with
 | cells c sh => exact ORow.mono r hS hφ hw
 | ro c => exact ORow.mono r hS hφ hw
 | tomb => trivial
 |
  mpo ks es =>
  obtain ⟨ents,ck,l,h1,h2,h3,h4⟩:=r
  exact ⟨ents,ck,l,hw.trans h1,h2,h3.mono hS,h4⟩
 | dfr => exact hw.trans r
 |
  loop st pend fid ts ps as bd d =>
  obtain ⟨l,h1,h2,h3,h4,h5,h6,h7,h8,z',h9⟩:=r
  exact ⟨l,hw.trans h1,h2,h3,h4,h5.mono hS hφ,h6,h7,h8,z',hφ _ _ h9⟩
theorem HR.heap {w' : World} (H : HR P mode S φ B h w) (hw : w'.heap = w.heap) : HR P mode S φ B h w' :=
 ⟨
  by rw [hw]; exact H.bs,H.dom,fun o b z e => by rw [hw]; exact H.lt o b z e,fun b c hs => by rw [hw]; exact H.fro b c hs,
  fun o a ho => (H.obj o a ho).imp id fun ⟨b,z,h1,h2,h3⟩ => ⟨b,z,h1,h2,h3.mono (fun _ _ h => h) (Mp.le_refl _) (by rw [hw])⟩,H.inj⟩
theorem heap_old (w : World) (o : Obj) {i : Nat} (h : i < w.heap.size) : (w.alloc o).heap[i]? = w.heap[i]?:=heap_alloc_old w o h
theorem heap_new (w : World) (o : Obj) : (w.alloc o).heap[w.heap.size]? = some o:=heap_alloc_new w o
def Mp.set (φ : Mp) (o : Nat) (x : Nat × Nat) : Mp:=fun q => if q = o then some x else φ q
theorem Mp.set_same (φ : Mp) (o : Nat) (x : Nat × Nat) : φ.set o x o = some x:=by simp [Mp.set]
theorem Mp.set_other (φ : Mp) {o q : Nat} (x : Nat × Nat) (h : q ≠ o) : φ.set o x q = φ q:=by simp [Mp.set,h]
theorem Mp.le_set {φ : Mp} {o : Nat} (x : Nat × Nat) (h : φ o = none) : Mp.le φ (φ.set o x):=fun q y hy => by
 by_cases e : q = o
 ·subst e; rw [h] at hy; cases hy
 ·rw [Mp.set_other φ x e]; exact hy
structure PlOk (φ : Mp) (h : List AO) (pl : Option Nat) : Prop where
 ok : ∀ i,pl = some i → i < h.length ∧ φ i = none
theorem newObj'_len (pl : Option Nat) (h : List AO) (a : AO) : h.length ≤ (newObj' pl h a).length:=by cases pl <;> simp [newObj']
theorem newObj'_get (pl : Option Nat) (h : List AO) (a : AO) (hp : PlOk φ h pl) : (newObj' pl h a)[pl.getD h.length]? = some a:=by
 cases pl with
 | none => simp [newObj']
 | some i => have:=(hp.ok i rfl).1; simp [newObj',this]
theorem newObj'_other (pl : Option Nat) (h : List AO) (a : AO) {o : Nat} (ho : o ≠ pl.getD h.length) : (newObj' pl h a)[o]? = h[o]?:=by
 cases pl with
 |
  none =>
  simp only [Option.getD_none] at ho
  simp only [newObj']
  by_cases hl : o < h.length
  ·rw [List.getElem?_append_left hl]
  ·rw [List.getElem?_eq_none (by simp; omega),List.getElem?_eq_none (by omega)]
 | some i => simp only [Option.getD_some] at ho; simp [newObj',List.getElem?_set,Ne.symm ho]
theorem newAt_eq (pl : Option Nat) (h : List AO) (c : List AV) : newAt pl h c = newObj' pl h (.cells c false):=by cases pl <;> rfl
theorem pl_none {pl : Option Nat} (hd : ∀ o x,φ o = some x → o < h.length) (hp : PlOk φ h pl) : φ (pl.getD h.length) = none:=by
 cases pl with
 |
  none =>
  cases e : φ h.length with
  | none => simpa using e
  | some x => have:=hd _ _ e; omega
 | some i => exact (hp.ok i rfl).2
theorem pl_lt {pl : Option Nat} (hp : PlOk φ h pl) (a : AO) : pl.getD h.length < (newObj' pl h a).length:=by
 cases pl with
 | none => simp [newObj']
 | some i => have:=(hp.ok i rfl).1; simpa [newObj'] using this
theorem HR.newObj {a : AO} (H : HR P mode S φ B h w) (pl : Option Nat) (hp : PlOk φ h pl) (o : Obj) (z lim : Nat)
  (hO : OR P mode S (φ.set (pl.getD h.length) (w.heap.size,z)) (w.alloc o) w.heap.size z a) :
  Post P mode S φ B lim h w pl S (φ.set (pl.getD h.length) (w.heap.size,z)) (newObj' pl h a) (w.alloc o):=by
 have hB:=H.bs
 have hn:=pl_none H.dom hp
 have hle:=Mp.le_set (w.heap.size,z) hn
 have hsnone : S w.heap.size = none:=by
  cases e : S w.heap.size with
  | none => rfl
  | some c => have:=H.slt e; omega
 refine ⟨⟨by simp; omega,?_,?_,?_,?_,?_⟩,hle,fun _ _ => rfl,⟨rfl,rfl,rfl,by simp,fun b hb => heap_old w o (by have:=H.bs; omega)⟩,newObj'_len _ _ _,?_,?_⟩
 ·intro q x hx
  by_cases e : q = pl.getD h.length
  ·subst e; exact pl_lt hp a
  ·rw [Mp.set_other _ _ e] at hx; exact Nat.lt_of_lt_of_le (H.dom q x hx) (newObj'_len _ _ _)
 ·intro q b z' hx
  by_cases e : q = pl.getD h.length
  ·subst e; rw [Mp.set_same] at hx; cases hx; simp; exact hB
  ·rw [Mp.set_other _ _ e] at hx; have:=H.lt q b z' hx; simp; omega
 ·intro b c hs
  obtain ⟨e,fr,he⟩:=H.fro b c hs
  exact ⟨e,fr,by rw [heap_old w o (H.slt hs)]; exact he⟩
 ·intro q x hx
  by_cases e : q = pl.getD h.length
  ·subst e; rw [newObj'_get _ _ _ hp] at hx; cases hx
   exact .inr ⟨_,_,Mp.set_same _ _ _,hsnone,hO⟩
  ·rw [newObj'_other _ _ _ e] at hx
   refine (H.obj q x hx).imp id fun ⟨b,z',h1,h2,h3⟩ => ⟨b,z',by rw [Mp.set_other _ _ e]; exact h1,h2,h3.mono (fun _ _ h => h) hle (heap_old w o (H.lt q b z' h1).1)⟩
 ·intro q q' x x' b z1 z2 hx hx' hb hb' hne
  by_cases e : q = pl.getD h.length
  ·by_cases e' : q' = pl.getD h.length
   ·exact absurd (e.trans e'.symm) hne
   ·rw [e,Mp.set_same] at hb; cases hb
    rw [Mp.set_other _ _ e'] at hb'; have:=(H.lt q' _ _ hb').1; omega
  ·by_cases e' : q' = pl.getD h.length
   ·rw [e',Mp.set_same] at hb'; cases hb'
    rw [Mp.set_other _ _ e] at hb; have:=(H.lt q _ _ hb).1; omega
   ·rw [newObj'_other _ _ _ e] at hx; rw [newObj'_other _ _ _ e'] at hx'
    rw [Mp.set_other _ _ e] at hb; rw [Mp.set_other _ _ e'] at hb'
    exact H.inj q q' x x' b z1 z2 hx hx' hb hb' hne
 ·intro q _ hl hpq
  refine newObj'_other _ _ _ ?_
  cases pl with
  | none => simp; omega
  | some i => simp at hpq ⊢; exact hpq
 ·intro q hl hpq hnn
  rw [Mp.set_other]
  ·exact hnn
  ·cases pl with
   | none => simp; omega
   | some i => simp at hpq ⊢; exact hpq
theorem HR.weaken (H : HR P mode S φ B h w) {o : Nat} {a a' : AO} (ho : h[o]? = some a)
  (hor : ∀ b z,OR P mode S φ w b z a → OR P mode S φ w b z a') (hsh : ∀ x,mayShare a x → mayShare a' x) : HR P mode S φ B (h.set o a') w:=by
 have hl:=(List.getElem?_eq_some_iff.1 ho).1
 refine ⟨H.bs,fun q x hx => by simpa using H.dom q x hx,H.lt,H.fro,?_,?_⟩
 ·intro q x hx
  by_cases e : q = o
  ·subst e
   simp [hl] at hx; subst hx
   rcases H.obj q a ho with rfl | ⟨b,z,h1,h2,h3⟩
   ·by_cases ht : a' = .tomb
    ·exact .inl ht
    ·exfalso
     have h0:=hsh (.cells [] false) (by simp [mayShare])
     have h1:=hsh (.loop .ready none 0 [] [] .skip .skip 0) (by simp [mayShare])
     cases a' <;> simp_all [mayShare]
   ·exact .inr ⟨b,z,h1,h2,hor b z h3⟩
  ·rw [List.getElem?_set_ne (Ne.symm e)] at hx; exact H.obj q x hx
 ·intro q q' x x' b z z' hx hx' hb hb' hne
  by_cases e : q = o
  ·subst e
   have e' : q' ≠ q:=Ne.symm hne
   rw [List.getElem?_set_ne (Ne.symm e')] at hx'
   simp [hl] at hx; subst hx
   exact hsh x' (H.inj q q' a x' b z z' ho hx' hb hb' hne)
  ·rw [List.getElem?_set_ne (Ne.symm e)] at hx
   by_cases e' : q' = o
   ·subst e'
    simp [hl] at hx'; subst hx'
    exact mayShare_comm (hsh x (mayShare_comm (H.inj q q' x a b z z' hx ho hb hb' hne)))
   ·rw [List.getElem?_set_ne (Ne.symm e')] at hx'
    exact H.inj q q' x x' b z z' hx hx' hb hb' hne
theorem HR.bury (H : HR P mode S φ B h w) {o : Nat} {a : AO} (ho : h[o]? = some a) : HR P mode S φ B (h.set o .tomb) w :=
 H.weaken ho (fun _ _ _ => trivial) (fun x _ => by cases x <;> trivial)
theorem HR.toRo (H : HR P mode S φ B h w) {o : Nat} {c : List AV} {sh : Bool} (ho : h[o]? = some (.cells c sh)) : HR P mode S φ B (h.set o (.ro c)) w :=
 H.weaken ho (fun _ _ h => h) (fun x hx => by cases x <;> simp_all [mayShare])
end Go.Am
/-
Operations that look at their operands alone: what the abstract machine says of them is so.
-/
namespace Go.Am
open Go
set_option linter.unusedVariables false
set_option linter.unusedSimpArgs false
variable {P : Program} {S : Fz} {φ : Mp} {w : World}
theorem wr_eq (k : IntKind) (n : Int) : wr k n = k.wrap n:=by
 cases k <;> simp only [wr]
 split
 ·rename_i h
  rw [IntKind.wrap_i64]; omega
 ·rfl
theorem run_szP {t : TypeId} {n : Nat} (h : szP P t = some n) (w : World) : (sizeOf t).run P w = .ok n w:=by
 simp only [szP,Option.map_eq_some_iff] at h
 obtain ⟨i,hi,rfl⟩:=h
 simp [sizeOf,typeInfo,hi]
theorem run_aggP {t : TypeId} {b : Bool} (h : aggP P t = some b) (w : World) : (isAgg t).run P w = .ok b w:=by
 unfold aggP at h
 cases hu : P.underlying t with
 | none => simp [hu] at h
 |
  some d =>
  simp only [hu] at h
  simp only [isAgg,Sem.run_bind,run_underlying hu,Result.andThen_ok]
  cases d <;> simp_all
theorem run_zeroP {t : TypeId} {z : AV} (h : zeroP P t = some z) (w : World) : ∃ v,(zeroValue t).run P w = .ok v w ∧ ∀ S φ,Rel S φ z v:=by
 simp only [zeroP,Option.bind_eq_some_iff] at h
 obtain ⟨v,⟨i,hi,hz⟩,ha⟩:=h
 exact ⟨v,by simp [zeroValue,typeInfo,hi,hz],fun S φ => toAV_rel 2 v z ha⟩
theorem part_snd {ag : Bool} {size : Nat} {row : List AV} {vs : List Value} {r : AV} (hr : RelL S φ row vs) (hp : part ag size row = some r) :
  (ag = true → size ≤ vs.length ∧ Rel S φ r (.agg (vs.take size).toArray)) ∧ (ag = false → ∃ v,vs[0]? = some v ∧ Rel S φ r v):=by
 unfold part at hp
 constructor
 ·intro e
  subst e
  simp only [if_true] at hp
  split at hp
  ·rename_i hl
   cases hp
   refine ⟨?_,Rel.agg_iff.2 (by simpa using hr.take size)⟩
   rw [← hr.1]; simp at hl; omega
  ·cases hp
 ·intro e
  subst e
  simp only [Bool.false_eq_true,if_false] at hp
  rw [List.head?_eq_getElem?] at hp
  obtain ⟨u,hu,hr'⟩:=hr.get hp
  exact ⟨u,hu,hr'⟩
theorem run_part {t : TypeId} {ag : Bool} {size off : Nat} (hag : aggP P t = some ag) (hsz : szP P t = some size) {row : List AV} {cs : Array Value} {r : AV}
  (hr : RelL S φ row cs.toList) (hp : part ag size (row.drop off) = some r) (w : World) : ∃ v,(Go.part t cs off).run P w = .ok v w ∧ Rel S φ r v:=by
 obtain ⟨h1,h2⟩:=part_snd (hr.drop off) hp
 cases ag with
 |
  true =>
  obtain ⟨hl,hrel⟩:=h1 rfl
  refine ⟨.agg (cs.extract off (off + size)),?_,?_⟩
  ·simp [Go.part,run_aggP hag,run_szP hsz]
  ·have e : (cs.extract off (off + size)) = ((cs.toList.drop off).take size).toArray:=by
    apply Array.ext'
    simp [Array.toList_extract,List.extract_eq_take_drop]
   rw [e]; exact hrel
 |
  false =>
  obtain ⟨v,hv,hrel⟩:=h2 rfl
  refine ⟨v,?_,hrel⟩
  have hv' : cs[off]? = some v:=by simpa using hv
  simp [Go.part,run_aggP hag,hv']
theorem fold_splice (off : Nat) : ∀ (vs : List Value) (k : Nat) (cs : Array Value),off + k + vs.length ≤ cs.size →
  ((vs.zipIdx k).foldl (fun cs (x : Value × Nat) => cs.setIfInBounds (off + x.2) x.1) cs).toList = cs.toList.take (off + k) ++ vs ++ cs.toList.drop (off + k + vs.length)
 | [],k,cs,_ => by simp
 |
  v :: r,k,cs,h => by
  simp only [List.zipIdx_cons,List.foldl_cons]
  rw [fold_splice off r (k + 1) _ (by simp at h ⊢; omega)]
  have hk : off + k < cs.toList.length:=by simp at h ⊢; omega
  have e0 : (cs.setIfInBounds (off + k) v).toList = (cs.toList.take (off + k) ++ [v]) ++ cs.toList.drop (off + k + 1):=by
   rw [Array.toList_setIfInBounds,List.set_eq_take_append_cons_drop,if_pos hk]; simp
  have e1 : (cs.toList.take (off + k) ++ [v]).length = off + k + 1:=by simp; simp at hk; omega
  rw [e0,show off + (k + 1) = off + k + 1 by omega,List.take_left' e1,List.drop_append,List.drop_eq_nil_of_le (by omega),e1,List.nil_append,List.drop_drop,
   show off + k + 1 + (off + k + 1 + r.length - (off + k + 1)) = off + k + (v :: r).length by simp; omega]
  simp
theorem splice_rel {row : List AV} {cs : List Value} {off : Nat} {vs : List AV} {us : List Value} (h : RelL S φ row cs) (h' : RelL S φ vs us) :
  RelL S φ (splice row off vs) (cs.take off ++ us ++ cs.drop (off + us.length)):=by
 unfold splice
 rw [h'.1]
 exact ((h.take off).append h').append (h.drop _)
theorem fill_snd {place : Nat → Option (Nat × Nat)} : ∀ (parts : List (Nat × Value)) (ps : List (Nat × Nat × AV)) (row : List AV) (cs : Array Value) (r : List AV),
  ps.length = parts.length → (∀ (j : Nat) p q,ps[j]? = some p → parts[j]? = some q → place q.1 = some (p.1,p.2.1) ∧ Rel S φ p.2.2 q.2) →
  RelL S φ row cs.toList → fillL row ps = some r → ∃ c',Instr.fill place cs parts = some c' ∧ RelL S φ r c'.toList ∧ c'.size = cs.size
 | [],[],row,cs,r,_,_,hr,hf => by simp [fillL] at hf; subst hf; exact ⟨cs,rfl,hr,rfl⟩
 | [],p :: ps,_,_,_,hl,_,_,_ => by simp at hl
 | q :: parts,[],_,_,_,hl,_,_,_ => by simp at hl
 |
  (i,v) :: parts,(off,size,a) :: ps,row,cs,r,hl,hp,hr,hf => by
  obtain ⟨h1,h2⟩:=hp 0 _ _ rfl rfl
  simp only [fillL] at hf
  split at hf
  ·rename_i hc
   have hcell:=h2.cells
   have e1 : v.cells.size = size:=by have:=hcell.1; simp at this; omega
   have e2 : off + v.cells.size ≤ cs.size:=by have:=hr.1; simp at this; omega
   have e3 : ((v.cells.zipIdx.foldl (fun cs (x : Value × Nat) => cs.setIfInBounds (off + x.2) x.1) cs)).toList = cs.toList.take off ++ v.cells.toList ++ cs.toList.drop (off + v.cells.toList.length):=by
    rw [← Array.foldl_toList,Array.toList_zipIdx]
    have:=fold_splice off v.cells.toList 0 cs (by simpa using e2)
    simpa using this
   obtain ⟨c',hc',hr',hs⟩:=fill_snd parts ps (splice row off a.cells) (v.cells.zipIdx.foldl (fun cs (x : Value × Nat) => cs.setIfInBounds (off + x.2) x.1) cs) r
    (by simpa using hl) (fun j p q hj hq => hp (j + 1) p q (by simpa using hj) (by simpa using hq)) (by rw [e3]; exact splice_rel hr hcell) hf
   refine ⟨c',?_,hr',?_⟩
   ·simp only [Instr.fill,h1]
    rw [if_neg (by simp; omega)]
    exact hc'
   ·rw [hs]
    have : (v.cells.zipIdx.foldl (fun cs (x : Value × Nat) => cs.setIfInBounds (off + x.2) x.1) cs).toList.length = cs.toList.length:=by
     rw [e3]; simp; omega
    simpa using this
  ·cases hf
end Go.Am
/-
Operations that look at their operands alone,each.
-/
namespace Go.Am
open Go
set_option linter.unusedVariables false
set_option linter.unusedSimpArgs false
variable {P : Program} {S : Fz} {φ : Mp} {w : World}
theorem plainStruct_spec {t : TypeId} {ks : List Bool} (h : plainStruct P t = some ks) :
  ∃ fs,P.underlying t = some (.struct fs) ∧ P.stoodInHeld t = false ∧ P.eqGuardType P.depth t = false ∧ plainKinds P 0 fs.toList = some ks:=by
 unfold plainStruct at h
 split at h
 ·rename_i fs hu
  split at h
  ·rename_i hc; exact ⟨fs,hu,hc.1,hc.2,h⟩
  ·cases h
 ·cases h
theorem part_cell {t : TypeId} (ht : (∃ k,P.underlying t = some (.int k)) ∨ P.underlying t = some .bool) {xs : Array Value} {i : Nat} {v : Value} (hv : xs[i]? = some v) (w : World) :
  (Go.part t xs i).run P w = .ok v w:=by
 have : aggP P t = some false:=by
  rcases ht with ⟨k,hk⟩ | hk <;> simp [aggP,hk]
 simp [Go.part,run_aggP this,hv]
theorem eqFields1_snd (d : Nat) {xs ys : Array Value} : ∀ (fs : List Field) (ks : List Bool) (i : Nat) (a b : List AV) (e : Bool),plainKinds1 P i fs = some ks →
  (∀ (j : Nat) x,a[j]? = some x → ∃ v,xs[i + j]? = some v ∧ Rel S φ x v) → (∀ (j : Nat) x,b[j]? = some x → ∃ v,ys[i + j]? = some v ∧ Rel S φ x v) →
  eqCells ks a b = some e → (Op.eqFields (d + 1) xs ys fs).run P w = .ok e w
 | [],ks,i,a,b,e,hk,_,_,he => by simp [plainKinds1] at hk; subst hk; simp [eqCells] at he; subst he; simp [Op.eqFields]
 |
  f :: fs,ks,i,a,b,e,hk,ha,hb,he => by
  simp only [plainKinds1] at hk
  split at hk
  ·rename_i hc
   obtain ⟨hn,ho⟩:=hc
   have main : ∀ (l : List Bool) (x y : AV) (a' b' : List AV),a = x :: a' → b = y :: b' → ((∃ k,P.underlying f.type = some (.int k)) ∨ P.underlying f.type = some .bool) →
     plainKinds1 P (i + 1) fs = some l → ∀ r,(∀ v u,xs[i]? = some v → ys[i]? = some u → Rel S φ x v → Rel S φ y u → (Op.equalIn (d + 1) f.type v u).run P w = .ok r w) →
     (if r then eqCells l a' b' else some false) = some e → (Op.eqFields (d + 1) xs ys (f :: fs)).run P w = .ok e w:=by
    intro l x y a' b' ea eb ht hl r hr h2
    subst ea; subst eb
    obtain ⟨v,hv,hrv⟩:=ha 0 x rfl
    obtain ⟨u,hu,hru⟩:=hb 0 y rfl
    rw [Nat.add_zero] at hv hu
    have h1:=hr v u hv hu hrv hru
    simp only [Op.eqFields,ne_eq,hn,not_false_eq_true,if_true,ho,Sem.run_bind,part_cell ht hv,part_cell ht hu,Result.andThen_ok,h1]
    cases r
    ·simp at h2; subst h2; simp
    ·simp only [if_true] at h2
     simp only [Bool.not_true,Bool.false_eq_true,if_false]
     exact eqFields1_snd d fs l (i + 1) a' b' e hl
      (fun j x' hj => by have:=ha (j + 1) x' (by simpa using hj); rwa [show i + (j + 1) = i + 1 + j by omega] at this)
      (fun j x' hj => by have:=hb (j + 1) x' (by simpa using hj); rwa [show i + (j + 1) = i + 1 + j by omega] at this) h2
   split at hk
   ·rename_i k l hu hl
    cases hk
    unfold eqCells at he
    split at he <;> try (simp at he; done)
    ·rename_i h0; cases h0
    ·rename_i n k1 x1 r1 k2 y1 s1 h0
     cases h0
     split at he
     ·rename_i hk12; subst hk12
      refine main l (.int k1 x1) (.int k1 y1) r1 s1 rfl rfl (.inl ⟨k,hu⟩) hl (x1 == y1) (fun v u _ _ h3 h4 => by cases h3; cases h4; exact run_equalIn_int w d f.type k1 k x1 y1 hu) ?_
      by_cases hxy : x1 = y1
      ·rw [if_pos hxy] at he; simpa [hxy] using he
      ·rw [if_neg hxy] at he; simpa [hxy] using he
     ·cases he
    ·rename_i h0; cases h0
   ·rename_i l hu hl
    cases hk
    unfold eqCells at he
    split at he <;> try (simp at he; done)
    ·rename_i h0; cases h0
    ·rename_i h0; cases h0
    ·rename_i n x1 r1 y1 s1 h0
     cases h0
     refine main l (.bool x1) (.bool y1) r1 s1 rfl rfl (.inr hu) hl (x1 == y1) (fun v u _ _ h3 h4 => by cases h3; cases h4; exact run_equalIn_bool' w d f.type x1 y1 hu) ?_
     by_cases hxy : x1 = y1
     ·rw [if_pos hxy] at he; simpa [hxy] using he
     ·rw [if_neg hxy] at he; simpa [hxy] using he
   ·cases hk
  ·cases hk
theorem eqCells_append : ∀ (k1 k2 : List Bool) (a b : List AV) (e : Bool),eqCells (k1 ++ k2) a b = some e →
  ∃ e1,eqCells k1 (a.take k1.length) (b.take k1.length) = some e1 ∧ (e1 = false → e = false) ∧ (e1 = true → eqCells k2 (a.drop k1.length) (b.drop k1.length) = some e)
 | [],k2,a,b,e,h => ⟨true,by simp [eqCells],by simp,fun _ => by simpa using h⟩
 |
  k :: k1,k2,a,b,e,h => by
  rw [List.cons_append] at h
  unfold eqCells at h
  split at h
  ·rename_i h0; cases h0
  ·rename_i n k3 x r k4 y s h0
   cases h0
   split at h
   ·rename_i hk; subst hk
    split at h
    ·rename_i hxy
     obtain ⟨e1,g1,g2,g3⟩:=eqCells_append k1 k2 r s e h
     exact ⟨e1,by simpa [eqCells,hxy] using g1,g2,fun h9 => by simpa using g3 h9⟩
    ·rename_i hxy
     cases h
     exact ⟨false,by simp [eqCells,hxy],by simp,by simp⟩
   ·cases h
  ·rename_i n x r y s h0
   cases h0
   split at h
   ·rename_i hxy
    obtain ⟨e1,g1,g2,g3⟩:=eqCells_append k1 k2 r s e h
    exact ⟨e1,by simpa [eqCells,hxy] using g1,g2,fun h9 => by simpa using g3 h9⟩
   ·rename_i hxy
    cases h
    exact ⟨false,by simp [eqCells,hxy],by simp,by simp⟩
  ·cases h
theorem eqFields_snd (d : Nat) {xs ys : Array Value} : ∀ (fs : List Field) (ks : List Bool) (i : Nat) (a b : List AV) (e : Bool),plainKinds P i fs = some ks →
  (∀ (j : Nat) x,a[j]? = some x → ∃ v,xs[i + j]? = some v ∧ Rel S φ x v) → (∀ (j : Nat) x,b[j]? = some x → ∃ v,ys[i + j]? = some v ∧ Rel S φ x v) →
  eqCells ks a b = some e → (Op.eqFields (d + 2) xs ys fs).run P w = .ok e w
 | [],ks,i,a,b,e,hk,_,_,he => by simp [plainKinds] at hk; subst hk; simp [eqCells] at he; subst he; simp [Op.eqFields]
 |
  f :: fs,ks,i,a,b,e,hk,ha,hb,he => by
  simp only [plainKinds] at hk
  split at hk
  ·rename_i hc
   obtain ⟨hn,ho⟩:=hc
   have main : ∀ (l : List Bool) (x y : AV) (a' b' : List AV),a = x :: a' → b = y :: b' → ((∃ k,P.underlying f.type = some (.int k)) ∨ P.underlying f.type = some .bool) →
     plainKinds P (i + 1) fs = some l → ∀ r,(∀ v u,xs[i]? = some v → ys[i]? = some u → Rel S φ x v → Rel S φ y u → (Op.equalIn (d + 2) f.type v u).run P w = .ok r w) →
     (if r then eqCells l a' b' else some false) = some e → (Op.eqFields (d + 2) xs ys (f :: fs)).run P w = .ok e w:=by
    intro l x y a' b' ea eb ht hl r hr h2
    subst ea; subst eb
    obtain ⟨v,hv,hrv⟩:=ha 0 x rfl
    obtain ⟨u,hu,hru⟩:=hb 0 y rfl
    rw [Nat.add_zero] at hv hu
    have h1:=hr v u hv hu hrv hru
    simp only [Op.eqFields,ne_eq,hn,not_false_eq_true,if_true,ho,Sem.run_bind,part_cell ht hv,part_cell ht hu,Result.andThen_ok,h1]
    cases r
    ·simp at h2; subst h2; simp
    ·simp only [if_true] at h2
     simp only [Bool.not_true,Bool.false_eq_true,if_false]
     exact eqFields_snd d fs l (i + 1) a' b' e hl
      (fun j x' hj => by have:=ha (j + 1) x' (by simpa using hj); rwa [show i + (j + 1) = i + 1 + j by omega] at this)
      (fun j x' hj => by have:=hb (j + 1) x' (by simpa using hj); rwa [show i + (j + 1) = i + 1 + j by omega] at this) h2
   split at hk
   ·rename_i k hu
    simp only [Option.map_eq_some_iff] at hk
    obtain ⟨l,hl,rfl⟩:=hk
    unfold eqCells at he
    split at he <;> try (simp at he; done)
    ·rename_i h0; cases h0
    ·rename_i n k1 x1 r1 k2 y1 s1 h0
     cases h0
     split at he
     ·rename_i hk12; subst hk12
      refine main l (.int k1 x1) (.int k1 y1) r1 s1 rfl rfl (.inl ⟨k,hu⟩) hl (x1 == y1) (fun v u _ _ h3 h4 => by cases h3; cases h4; exact run_equalIn_int w (d + 1) f.type k1 k x1 y1 hu) ?_
      by_cases hxy : x1 = y1
      ·rw [if_pos hxy] at he; simpa [hxy] using he
      ·rw [if_neg hxy] at he; simpa [hxy] using he
     ·cases he
    ·rename_i h0; cases h0
   ·rename_i hu
    simp only [Option.map_eq_some_iff] at hk
    obtain ⟨l,hl,rfl⟩:=hk
    unfold eqCells at he
    split at he <;> try (simp at he; done)
    ·rename_i h0; cases h0
    ·rename_i h0; cases h0
    ·rename_i n x1 r1 y1 s1 h0
     cases h0
     refine main l (.bool x1) (.bool y1) r1 s1 rfl rfl (.inr hu) hl (x1 == y1) (fun v u _ _ h3 h4 => by cases h3; cases h4; exact run_equalIn_bool' w (d + 1) f.type x1 y1 hu) ?_
     by_cases hxy : x1 = y1
     ·rw [if_pos hxy] at he; simpa [hxy] using he
     ·rw [if_neg hxy] at he; simpa [hxy] using he
   ·rename_i gs hu
    split at hk
    ·rename_i hst
     split at hk
     ·rename_i l s hl hs
      split at hk
      ·rename_i hls
       simp only [Option.map_eq_some_iff] at hk
       obtain ⟨l2,hl2,rfl⟩:=hk
       obtain ⟨e1,g1,g2,g3⟩:=eqCells_append l l2 a b e he
       have hag : aggP P f.type = some true:=by simp [aggP,hu]
       have hpx : ∀ zs : Array Value,(Go.part f.type zs i).run P w = .ok (.agg (zs.extract i (i + s))) w:=fun zs => by
        simp [Go.part,run_aggP hag,run_szP hs]
       have hfo : P.underlying f.type = some (.struct (P.fieldsOf f.type)):=by simp [Program.fieldsOf,hu]
       have hfo' : P.fieldsOf f.type = gs:=by simp [Program.fieldsOf,hu]
       have h1 : (Op.equalIn (d + 2) f.type (.agg (xs.extract i (i + s))) (.agg (ys.extract i (i + s)))).run P w = .ok e1 w:=by
        have:=run_equalIn_struct (P:=P) w (d + 1) f.type (xs.extract i (i + s)) (ys.extract i (i + s)) hfo hst
        rw [hfo'] at this
        refine this.trans (eqFields1_snd (S:=S) (φ:=φ) d gs.toList l 0 _ _ e1 hl (fun j x hj => ?_) (fun j x hj => ?_) g1)
        ·rw [List.getElem?_take] at hj
         split at hj
         ·rename_i hjl
          obtain ⟨v,hv,hr⟩:=ha j x hj
          refine ⟨v,?_,hr⟩
          rw [Array.getElem?_extract,if_pos (by have:=(Array.getElem?_eq_some_iff.1 hv).1; omega),Nat.zero_add]
          exact hv
         ·cases hj
        ·rw [List.getElem?_take] at hj
         split at hj
         ·rename_i hjl
          obtain ⟨v,hv,hr⟩:=hb j x hj
          refine ⟨v,?_,hr⟩
          rw [Array.getElem?_extract,if_pos (by have:=(Array.getElem?_eq_some_iff.1 hv).1; omega),Nat.zero_add]
          exact hv
         ·cases hj
       simp only [Op.eqFields,ne_eq,hn,not_false_eq_true,if_true,ho,Sem.run_bind,hpx,Result.andThen_ok,h1]
       cases e1
       ·have:=g2 rfl; subst this; simp
       ·simp only [Bool.not_true,Bool.false_eq_true,if_false]
        exact eqFields_snd d fs l2 (i + s) _ _ e hl2
         (fun j x' hj => by rw [List.getElem?_drop] at hj; have:=ha (l.length + j) x' hj; rwa [show i + (l.length + j) = i + s + j by omega] at this)
         (fun j x' hj => by rw [List.getElem?_drop] at hj; have:=hb (l.length + j) x' hj; rwa [show i + (l.length + j) = i + s + j by omega] at this) (g3 rfl)
      ·cases hk
     ·cases hk
    ·cases hk
   ·cases hk
  ·cases hk
end Go.Am
/-
Operations that look at their operands alone: all of them.
-/
namespace Go.Am
open Go
set_option linter.unusedVariables false
set_option linter.unusedSimpArgs false
variable {P : Program} {S : Fz} {φ : Mp} {w : World} {ρ : Operand → Value} {τ : Opd → AV} {m : Nat → Nat}
def VOk (P : Program) (S : Fz) (φ : Mp) (w : World) (s : Sem Next) (r : AV) : Prop:=∃ v,s.run P w = .ok (.value v) w ∧ Rel S φ r v
theorem VOk.of_run {s : Sem Value} {v : Value} {r : AV} (h : s.run P w = .ok v w) (hr : Rel S φ r v) :
  VOk P S φ w (do pure (.value (← s))) r:=⟨v,by simp [h],hr⟩
theorem shl_run {t : TypeId} {k k' : IntKind} {a b : Int} (hn : ¬ b < 0) : (binOp .shl t (.int k a) (.int k' b) : Sem Value).run P w = .ok (.int k (k.wrap (a * 2 ^ (min b.toNat k.bits)))) w:=by
 simp [binOp,Op.shift,hn]
theorem shr_run {t : TypeId} {k k' : IntKind} {a b : Int} (hn : ¬ b < 0) : (binOp .shr t (.int k a) (.int k' b) : Sem Value).run P w = .ok (.int k (a.fdiv (2 ^ (min b.toNat k.bits)))) w:=by
 simp [binOp,Op.shift,hn]
theorem binI_snd {op : BinOp} {t : TypeId} {x y : Operand} {k : IntKind} {a b : Int} {r : AV} (hb : binOk op = true) (h : binI op k a b = some r) :
  ∃ v,(do eqGuard op t x y (.int k a) (.int k b); binOp op t (.int k a) (.int k b) : Sem Value).run P w = .ok v w ∧ Rel S φ r v:=by
 have e0 : ∀ o : BinOp,(eqGuard o t x y (.int k a) (.int k b)).run P w = .ok () w:=by
  intro o; cases o <;> simp [eqGuard]
 simp only [Sem.run_bind,e0,Result.andThen_ok]
 cases op <;> simp only [binI] at h
 all_goals first
  | (split at h <;> first | (cases h; done) | (rename_i hn; cases h; first | exact ⟨_,shl_run hn,by rw [wr_eq]; exact .int _ _ _⟩ | exact ⟨_,shr_run hn,.int _ _ _⟩))
  | (cases h; exact ⟨_,by simp [binOp,Op.intBits]; rfl,by simp only [bitI]; exact .int _ _ _⟩)
  | (split at h <;> first | (cases h; done) | (cases h; rename_i hn; exact ⟨_,by simp [binOp,Op.intDiv,hn]; rfl,by first | (rw [wr_eq]; exact .int _ _ _) | exact .int _ _ _⟩))
  | (cases h; exact ⟨_,by simp [binOp,Op.intArith,Op.intCmp]; rfl,by first | (rw [wr_eq]; exact .int _ _ _) | exact .bool _ _ | exact .int _ _ _⟩)
theorem binS_snd {op : BinOp} {t : TypeId} {x y : Operand} {k k' : IntKind} {a b : Int} {r : AV} (hk : k = k' ∨ isSh op = true) (hb : binOk op = true) (h : binI op k a b = some r) :
  ∃ v,(do eqGuard op t x y (.int k a) (.int k' b); binOp op t (.int k a) (.int k' b) : Sem Value).run P w = .ok v w ∧ Rel S φ r v:=by
 rcases hk with rfl | hs
 ·exact binI_snd hb h
 have e0 : ∀ o : BinOp,isSh o = true → (eqGuard o t x y (.int k a) (.int k' b)).run P w = .ok () w:=by
  intro o ho; cases o <;> first | (cases ho; done) | simp [eqGuard]
 simp only [Sem.run_bind,e0 op hs,Result.andThen_ok]
 cases op <;> first
  | (cases hs; done)
  | (
    simp only [binI] at h
    split at h
    ·cases h
    ·rename_i hn; cases h; first | exact ⟨_,shl_run hn,by rw [wr_eq]; exact .int _ _ _⟩ | exact ⟨_,shr_run hn,.int _ _ _⟩)
theorem parts_snd {f : Nat → Option (Nat × Nat)} (hρ : ∀ x y,cOpd x = some y → Rel S φ (τ y) (ρ x)) : ∀ (ps : List (Nat × Operand)) (l : List (Nat × Nat × Opd)),cParts f ps = some l →
  l.length = ps.length ∧ ∀ (j : Nat) p q,(l.map fun (o,s,x) => (o,s,τ x))[j]? = some p → (ps.map fun (i,x) => (i,ρ x))[j]? = some q → f q.1 = some (p.1,p.2.1) ∧ Rel S φ p.2.2 q.2
 | [],l,h => by simp [cParts] at h; subst h; exact ⟨rfl,fun j p q hp => by simp at hp⟩
 |
  (i,x) :: r,l,h => by
  simp only [cParts,Option.bind_eq_bind,Option.bind_eq_some_iff,Option.some.injEq] at h
  obtain ⟨⟨o,s⟩,hf,y,hy,l',hl',rfl⟩:=h
  obtain ⟨h1,h2⟩:=parts_snd hρ r l' hl'
  refine ⟨by simp [h1],fun j p q hp hq => ?_⟩
  cases j with
  | zero => simp at hp hq; subst hp; subst hq; exact ⟨hf,hρ x y hy⟩
  | succ j => simp at hp hq; exact h2 j p q (by simpa using hp) (by simpa using hq)
theorem opds_snd (hρ : ∀ x y,cOpd x = some y → Rel S φ (τ y) (ρ x)) {xs : List Operand} {ys : List Opd} (h : xs.mapM cOpd = some ys) : RelL S φ (ys.map τ) (xs.map ρ):=by
 obtain ⟨h1,h2⟩:=mapM_some h
 refine ⟨by simp [h1],fun j a v ha hv => ?_⟩
 simp only [List.getElem?_map,Option.map_eq_some_iff] at ha hv
 obtain ⟨y,hy,rfl⟩:=ha
 obtain ⟨x,hx,rfl⟩:=hv
 obtain ⟨y',hy',hf⟩:=h2 j x hx
 rw [hy] at hy'; cases hy'
 exact hρ x y hf
theorem addOff_snd {x r : AV} {v : Value} {n : Nat} (hx : Rel S φ x v) (h : addOff x n = some r) : ∃ a,v = .pointer (some a) ∧ Rel S φ r (.pointer (some (a.add n))):=by
 unfold addOff at h
 split at h
 ·cases h; cases hx with
  | ptr _ o off b z hb => exact ⟨_,rfl,by rw [Addr.add_lit]; exact .ptr _ _ _ _ _ hb⟩
 ·cases h; cases hx with
  |
   cptr _ cells b off c vs hS hh hr =>
   refine ⟨_,rfl,?_⟩
   rw [Addr.add_lit]
   refine .cptr _ _ _ _ c (fun j => vs (n + j)) hS (fun j a hj => ?_) (fun j a hj => ?_)
   ·rw [List.getElem?_drop] at hj; have:=hh (n + j) a hj; rwa [← Nat.add_assoc] at this
   ·rw [List.getElem?_drop] at hj; exact hr (n + j) a hj
 ·cases h
theorem mm_snd (mx : Bool) : ∀ (xs : List AV) (vs : List Value) (x r : AV) (v : Value),RelL S φ xs vs → Rel S φ x v → mmAll mx x xs = some r →
  ∃ u,(vs.foldlM (if mx then Builtin.max2 else Builtin.min2) v).run P w = .ok u w ∧ Rel S φ r u
 |
  [],vs,x,r,v,h,hx,hm => by
  obtain rfl : vs = []:=by have:=h.1; cases vs <;> simp_all
  simp only [mmAll] at hm; cases hm
  exact ⟨v,by simp,hx⟩
 |
  a :: xs,vs,x,r,v,h,hx,hm => by
  obtain ⟨u,rest,rfl,hu,hrest⟩:=h.cons_inv
  unfold mmAll at hm
  split at hm
  ·rename_i h0; cases h0
  ·rename_i k n k' n' l h0
   cases h0
   cases hx; cases hu
   obtain ⟨u',h1,h2⟩:=mm_snd mx _ _ _ r (.int k (mmx mx n n')) hrest (.int _ _ _) hm
   refine ⟨u',?_,h2⟩
   cases mx with
   | true => simpa [List.foldlM_cons,Builtin.max2,mmx] using h1
   | false => simpa [List.foldlM_cons,Builtin.min2,mmx] using h1
  ·cases hm
theorem sliceB_snd {v : Option AV} {u : Option Value} {most dflt n : Nat} {code : BoundsCode} (hv : ∀ x,v = some x → ∃ y,u = some y ∧ Rel S φ x y) (hn : v = none → u = none) (h : sliceB v most dflt = some n) :
  (u = none ∧ n = dflt) ∨ (∃ y,u = some y ∧ n ≤ most ∧ (Instr.sliceBound y most code).run P w = .ok n w):=by
 unfold sliceB at h
 split at h
 ·cases h; exact .inl ⟨hn rfl,rfl⟩
 ·rename_i k i
  split at h
  ·rename_i hi
   cases h
   obtain ⟨y,rfl,hy⟩:=hv _ rfl
   cases hy
   exact .inr ⟨_,rfl,by omega,run_sliceBound _ k i most code hi.1 hi.2⟩
  ·cases h
 ·cases h
theorem sliceV_snd {t e : TypeId} {esz : Nat} {x r : AV} {v : Value} {lo hi : Option AV} {vl vh : Option Value} (ht : P.underlying t = some (.slice e)) (hs : szP P e = some esz)
  (hx : Rel S φ x v) (hlo : ∀ a,lo = some a → ∃ y,vl = some y ∧ Rel S φ a y) (hlo' : lo = none → vl = none) (hhi : ∀ a,hi = some a → ∃ y,vh = some y ∧ Rel S φ a y) (hhi' : hi = none → vh = none)
  (h : sliceV esz x lo hi = some r) : ∃ u,(Instr.sliceAt t v vl vh none).run P w = .ok u w ∧ Rel S φ r u:=by
 have main : ∀ (a : Option Addr) (len cap hh l : Nat),len ≤ cap → sliceB hi len len = some hh → sliceB lo hh 0 = some l →
   l ≤ hh ∧ hh ≤ len ∧ (Instr.sliceAt t (.slice a len cap) vl vh none).run P w = .ok (.slice (if cap = l then a else a.map (·.add (l * esz))) (hh - l) (cap - l)) w:=by
  intro a len cap hh l hc h1 h2
  have hsz:=run_szP hs w
  have g1:=sliceB_snd (w:=w) (P:=P) (code:=.sliceAcap) hhi hhi' h1
  have g2:=sliceB_snd (w:=w) (P:=P) (code:=.sliceB) hlo hlo' h2
  have g0 : (vh = none ∧ hh = len) ∨ (∃ y,vh = some y ∧ hh ≤ len ∧ (Instr.sliceBound y cap .sliceAcap).run P w = .ok hh w):=by
   rcases g1 with g1 | ⟨y,e1,e2,e3⟩
   ·exact .inl g1
   ·refine .inr ⟨y,e1,e2,?_⟩
    cases hi with
    | none => simp [sliceB] at h1; have:=hhi' rfl; rw [e1] at this; cases this
    |
     some a' =>
     obtain ⟨y',hy',hr'⟩:=hhi a' rfl
     rw [e1] at hy'; cases hy'
     unfold sliceB at h1
     split at h1
     ·rename_i h0; cases h0
     ·rename_i k i h0; cases h0
      split at h1
      ·rename_i hi'; cases h1; cases hr'; exact run_sliceBound _ k i cap _ hi'.1 (by omega)
      ·cases h1
     ·cases h1
  have hle : hh ≤ len:=by rcases g0 with ⟨_,e⟩ | ⟨_,_,e,_⟩ <;> omega
  have hle2 : l ≤ hh:=by rcases g2 with ⟨_,e⟩ | ⟨_,_,e,_⟩ <;> omega
  refine ⟨hle2,hle,?_⟩
  rcases g0 with ⟨rfl,rfl⟩ | ⟨y,rfl,_,e3⟩ <;> rcases g2 with ⟨rfl,rfl⟩ | ⟨y2,rfl,_,e4⟩ <;>
   simp [Instr.sliceAt,Instr.slice,run_underlying ht,Instr.sliceBounds,hsz, *]
 unfold sliceV at h
 split at h
 ·split at h
  ·rename_i h1 h2
   cases h
   cases hx
   obtain ⟨_,_,h3⟩:=main none 0 0 _ _ (Nat.le_refl _) h1 (by
    rename_i l
    have : sliceB hi 0 0 = some 0:=by
     cases hi with
     | none => rfl
     |
      some a =>
      unfold sliceB at h1 ⊢
      split at h1
      ·rename_i h0; cases h0
      ·rename_i h0; cases h0; split at h1
       ·rename_i hc; simp; omega
       ·cases h1
      ·cases h1
    rw [h1] at this; cases this; exact h2)
   refine ⟨_,h3,?_⟩
   have e1 : ∀ hh l,l ≤ hh → hh ≤ 0 → (Value.slice (if 0 = l then none else (none : Option Addr).map (·.add (l * esz))) (hh - l) (0 - l)) = .slice none 0 0:=by
    intro hh l a b
    obtain rfl : hh = 0:=by omega
    obtain rfl : l = 0:=by omega
    simp
   rw [e1 _ _ (by assumption) (by assumption)]
   exact .nils _
  ·cases h
 ·rename_i e' len cells
  split at h
  ·rename_i he
   have he:=he.symm
   subst he
   split at h
   ·cases h
   ·rename_i hh h1
    split at h
    ·cases h
    ·rename_i l h2
     cases h
     cases hx with
     |
      cs0 _ _ a cap =>
      obtain ⟨a1,a2,h3⟩:=main (some a) 0 cap hh l (by omega) h1 h2
      refine ⟨_,h3,?_⟩
      obtain rfl : hh = 0:=by omega
      obtain rfl : l = 0:=by omega
      by_cases hc0 : cap = 0
      ·rw [if_pos hc0]; simpa using Rel.cs0 φ esz a cap
      ·rw [if_neg hc0]; simpa using Rel.cs0 φ esz (a.add (0 * esz)) cap
     |
      cs _ _ _ _ b off cap c vs hS hl hc hcell hr =>
      obtain ⟨a1,a2,h3⟩:=main _ len cap hh l hc h1 h2
      refine ⟨_,h3,?_⟩
      by_cases hz : hh - l = 0
      ·rw [hz]
       by_cases hc0 : cap = l
       ·rw [if_pos hc0]; simpa using Rel.cs0 φ esz ⟨b,off,none⟩ (cap - l)
       ·rw [if_neg hc0]; simpa using Rel.cs0 φ esz ((⟨b,off,none⟩ : Addr).add (l * esz)) (cap - l)
      ·rw [if_neg (by omega)]
       simp only [Option.map_some,Addr.add_lit]
       have hlen : (List.take ((hh - l) * esz) (List.drop (l * esz) cells)).length = (hh - l) * esz:=by
        have e1 : l * esz + (hh - l) * esz = hh * esz:=by rw [← Nat.add_mul]; congr 1; omega
        have e2 : hh * esz ≤ len * esz:=Nat.mul_le_mul_right _ a2
        simp; omega
       have sub : ∀ (j : Nat) a,(List.take ((hh - l) * esz) (List.drop (l * esz) cells))[j]? = some a → cells[l * esz + j]? = some a:=by
        intro j a hj
        rw [List.getElem?_take] at hj
        split at hj
        ·rwa [List.getElem?_drop] at hj
        ·cases hj
       refine .cs _ _ _ _ _ _ _ c (fun j => vs (l * esz + j)) hS hlen (by omega) (fun j a hj => ?_) (fun j a hj => hr _ a (sub j a hj))
       have:=hcell _ a (sub j a hj); rwa [← Nat.add_assoc] at this
  ·cases h
 ·rename_i e' o off len
  split at h
  ·rename_i he
   have he:=he.symm
   subst he
   split at h
   ·cases h
   ·rename_i hh h1
    split at h
    ·cases h
    ·rename_i l h2
     cases hx with
     |
      ms _ _ _ _ _ b z cap hb hc hz =>
      obtain ⟨a1,a2,h3⟩:=main _ len cap hh l hc h1 h2
      refine ⟨_,h3,?_⟩
      split at h
      ·rename_i hlh
       cases h
       have e1 : l * esz + (cap - l) * esz = cap * esz:=by rw [← Nat.add_mul]; congr 1; omega
       have e2 : (if cap = l then some (⟨b,off,none⟩ : Addr) else (some (⟨b,off,none⟩ : Addr)).map (·.add (l * esz))) = some ⟨b,off + l * esz,none⟩:=by
        split
        ·rename_i e3
         have : l = 0:=by omega
         subst this; simp
        ·simp [Addr.add_lit]
       rw [e2]
       exact .ms _ _ _ _ _ _ _ _ hb (by omega) (by omega)
      ·cases h
       have : hh - l = 0:=by omega
       rw [this]
       by_cases hc0 : cap = l
       ·rw [if_pos hc0]; exact .cs0 _ _ _ _
       ·rw [if_neg hc0]; exact .cs0 _ _ _ _
  ·cases h
 ·cases h
theorem Rel.toR {x : AV} {v : Value} (h : Rel S φ x v) : Rel S φ x.toR v:=by
 cases x with
 | ms e o off len => cases h with | ms _ _ _ _ _ b z cap h hc hz => exact .mr _ _ _ _ _ _ _ _ _ h (Nat.le_refl _) hc hz
 | _ => exact h
theorem sliceB_le {v : Option AV} {u : Option Value} {most most' dflt n : Nat} {code : BoundsCode} (hv : ∀ x,v = some x → ∃ y,u = some y ∧ Rel S φ x y) (hn : v = none → u = none) (h : sliceB v most dflt = some n) (hm : most ≤ most') :
  (v = none ∧ u = none ∧ n = dflt) ∨ (∃ y,v.isSome = true ∧ u = some y ∧ n ≤ most ∧ (Instr.sliceBound y most' code).run P w = .ok n w):=by
 unfold sliceB at h
 split at h
 ·cases h; exact .inl ⟨rfl,hn rfl,rfl⟩
 ·rename_i k i
  split at h
  ·rename_i hi
   cases h
   obtain ⟨y,rfl,hy⟩:=hv _ rfl
   cases hy
   exact .inr ⟨_,rfl,rfl,by omega,run_sliceBound _ k i most' code hi.1 (by omega)⟩
  ·cases h
 ·cases h
theorem sliceRV_snd {t e : TypeId} {esz : Nat} {x r : AV} {v : Value} {lo hi mx : Option AV} {vl vh vm : Option Value} (ht : P.underlying t = some (.slice e)) (hs : szP P e = some esz)
  (hx : Rel S φ x v) (hlo : ∀ a,lo = some a → ∃ y,vl = some y ∧ Rel S φ a y) (hlo' : lo = none → vl = none) (hhi : ∀ a,hi = some a → ∃ y,vh = some y ∧ Rel S φ a y) (hhi' : hi = none → vh = none)
  (hmx : ∀ a,mx = some a → ∃ y,vm = some y ∧ Rel S φ a y) (hmx' : mx = none → vm = none) (h : sliceRV esz x lo hi mx = some r) : ∃ u,(Instr.sliceAt t v vl vh vm).run P w = .ok u w ∧ Rel S φ r u:=by
 have hx':=hx.toR
 unfold sliceRV at h
 split at h
 ·rename_i e' o off len room hq
  rw [hq] at hx'
  split at h
  ·rename_i he
   have he:=he.symm
   subst he
   split at h
   ·cases h
   rename_i m h3
   split at h
   ·cases h
   rename_i hh h2
   split at h
   ·cases h
   rename_i l h1
   split at h
   case isFalse => cases h
   rename_i hc
   cases hx' with
   |
    mr _ _ _ _ _ _ b z cap hb hl hcap hz =>
    have hsz:=run_szP hs w
    have key : ∀ M : Nat,m ≤ M → M ≤ cap → l ≤ hh → (Instr.sliceAt t (.slice (some ⟨b,off,none⟩) len cap) vl vh vm).run P w = .ok (.slice (if M = l then (some (⟨b,off,none⟩ : Addr)) else (some (⟨b,off,none⟩ : Addr)).map (·.add (l * esz))) (hh - l) (M - l)) w →
      ∃ u,(Instr.sliceAt t (.slice (some ⟨b,off,none⟩) len cap) vl vh vm).run P w = .ok u w ∧ Rel S φ r u:=by
     intro M hM hM2 hle hr
     refine ⟨_,hr,?_⟩
     have e1 : l * esz + (M - l) * esz = M * esz:=by rw [← Nat.add_mul]; congr 1; omega
     have e2 : M * esz ≤ cap * esz:=Nat.mul_le_mul_right _ hM2
     split at h
     ·cases h
      have e3 : (if M = l then (some (⟨b,off,none⟩ : Addr)) else (some (⟨b,off,none⟩ : Addr)).map (·.add (l * esz))) = some ⟨b,off + l * esz,none⟩:=by
       split
       ·have : l = 0:=by omega
        subst this; simp
       ·simp [Addr.add_lit]
      rw [e3]
      exact .mr _ _ _ _ _ _ _ _ _ hb (by omega) (by omega) (by omega)
     ·cases h
      have : hh - l = 0:=by omega
      rw [this]
      split <;> exact .cs0 _ _ _ _
    have g3:=sliceB_le (P:=P) (w:=w) (code:=.slice3Acap) hmx hmx' h3 hcap
    rcases g3 with ⟨hm0,rfl,rfl⟩ | ⟨ym,hm0,rfl,hm1,hm2⟩
    ·have g2:=sliceB_le (P:=P) (w:=w) (code:=.sliceAcap) hhi hhi' h2 hcap
     have g1:=sliceB_le (P:=P) (w:=w) (code:=.sliceB) hlo hlo' h1 (Nat.le_refl _)
     refine key cap hcap (Nat.le_refl _) ?_ ?_
     ·rcases g1 with ⟨_,_,e⟩ | ⟨_,_,_,e,_⟩ <;> omega
     ·rcases g2 with ⟨_,rfl,rfl⟩ | ⟨y,_,rfl,_,e3⟩ <;> rcases g1 with ⟨_,rfl,rfl⟩ | ⟨y2,_,rfl,_,e4⟩ <;>
       simp [Instr.sliceAt,Instr.slice,run_underlying ht,Instr.sliceBounds,hsz, *]
    ·have g2:=sliceB_le (P:=P) (w:=w) (code:=.slice3B) hhi hhi' h2 (Nat.le_refl _)
     have g1:=sliceB_le (P:=P) (w:=w) (code:=.slice3C) hlo hlo' h1 (Nat.le_refl _)
     refine key m (Nat.le_refl _) (by omega) ?_ ?_
     ·rcases g1 with ⟨_,_,e⟩ | ⟨_,_,_,e,_⟩ <;> omega
     ·rcases g2 with ⟨hn,rfl,rfl⟩ | ⟨y,_,rfl,_,e3⟩
      ·have:=hc.2 hm0
       rw [hn] at this; cases this
      ·rcases g1 with ⟨_,rfl,rfl⟩ | ⟨y2,_,rfl,_,e4⟩ <;>
       simp [Instr.sliceAt,Instr.slice,run_underlying ht,Instr.sliceBounds,hsz, *]
  ·cases h
 ·cases h
theorem slice3V_snd {t e : TypeId} {esz : Nat} {x hi mx r : AV} {v vh vm : Value} (ht : P.underlying t = some (.slice e)) (hs : szP P e = some esz)
  (hx : Rel S φ x v) (hh : Rel S φ hi vh) (hm : Rel S φ mx vm) (h : slice3V esz x hi mx = some r) : ∃ u,(Instr.sliceAt t v none (some vh) (some vm)).run P w = .ok u w ∧ Rel S φ r u:=by
 have hsz:=run_szP hs w
 unfold slice3V at h
 split at h
 ·rename_i k i k' j
  split at h
  ·rename_i hc
   obtain ⟨rfl,rfl⟩:=hc
   cases h
   cases hx; cases hh; cases hm
   have g1:=run_sliceBound (P:=P) w k' 0 0 .slice3Acap (by omega) (by omega)
   have g2:=run_sliceBound (P:=P) w k 0 0 .slice3B (by omega) (by omega)
   refine ⟨.slice none 0 0,?_,.nils _⟩
   simp [Instr.sliceAt,Instr.slice,run_underlying ht,Instr.sliceBounds,hsz,g1,g2]
  ·cases h
 ·rename_i e' o off len k i k' j
  split at h
  ·rename_i hc
   obtain ⟨rfl,rfl,rfl⟩:=hc
   cases h
   cases hh; cases hm
   cases hx with
   |
    ms _ _ _ _ _ b z cap hb hcap hz =>
    have g1:=run_sliceBound (P:=P) w k' len cap .slice3Acap (by omega) (by omega)
    have g2:=run_sliceBound (P:=P) w k len len .slice3B (by omega) (by omega)
    simp only [Int.toNat_natCast] at g1 g2
    refine ⟨.slice (some ⟨b,off,none⟩) len len,?_,.mc _ _ _ _ _ _ _ hb ?_⟩
    ·simp [Instr.sliceAt,Instr.slice,run_underlying ht,Instr.sliceBounds,hsz,g1,g2,Addr.add]
    ·have:=Nat.mul_le_mul_right e' hcap
     omega
  ·cases h
 ·cases h
theorem sliceA_none {t e : TypeId} {n esz o off b z : Nat} {v : Value} (ht : P.underlying t = some (.array n e)) (hs : szP P e = some esz) (hx : Rel S φ (.ptr o off) v) (hb : φ o = some (b,z)) (hz : off + n * esz ≤ z) :
  ∃ u,(Instr.sliceAt t v none none none).run P w = .ok u w ∧ Rel S φ (.ms esz o off n) u:=by
 have hsz:=run_szP hs w
 cases hx with
 |
  ptr _ _ _ b' z' hb' =>
  rw [hb] at hb'; cases hb'
  refine ⟨.slice (some ⟨b,off,none⟩) n n,?_,.ms _ _ _ _ _ _ _ _ hb (Nat.le_refl _) hz⟩
  simp [Instr.sliceAt,run_underlying ht,Instr.sureAddr,Instr.sliceBounds,hsz,Addr.add]
theorem sliceA_some {t e : TypeId} {n esz o off b z : Nat} {v vh vm : Value} {hi mx r : AV} (ht : P.underlying t = some (.array n e)) (hs : szP P e = some esz) (hx : Rel S φ (.ptr o off) v) (hb : φ o = some (b,z)) (hz : off + n * esz ≤ z)
  (hh : Rel S φ hi vh) (hm : Rel S φ mx vm) (h : sliceAV n esz o off (some (hi,some mx)) = some r) :
  ∃ u,(Instr.sliceAt t v none (some vh) (some vm)).run P w = .ok u w ∧ Rel S φ r u:=by
 have hsz:=run_szP hs w
 unfold sliceAV at h
 split at h
 ·rename_i heq; cases heq
 ·rename_i k i k' j heq
  cases heq
  split at h
  ·rename_i hc
   obtain ⟨h0,rfl,hn⟩:=hc
   cases h
   cases hh; cases hm
   cases hx with
   |
    ptr _ _ _ b' z' hb' =>
    rw [hb] at hb'; cases hb'
    have g1:=run_sliceBound (P:=P) w k' i n .slice3Alen h0 hn
    have g2:=run_sliceBound (P:=P) w k i i.toNat .slice3B h0 (by omega)
    refine ⟨.slice (some ⟨b,off,none⟩) i.toNat i.toNat,?_,.ms _ _ _ _ _ _ _ _ hb (Nat.le_refl _) ?_⟩
    ·simp [Instr.sliceAt,run_underlying ht,Instr.sureAddr,Instr.sliceBounds,hsz,g1,g2,Addr.add]
    ·have:=Nat.mul_le_mul_right esz (show i.toNat ≤ n by omega)
     omega
  ·cases h
 ·rename_i heq; cases heq
 ·cases h
theorem sliceA_hi {t e : TypeId} {n esz o off b z : Nat} {v vh : Value} {hi r : AV} (ht : P.underlying t = some (.array n e)) (hs : szP P e = some esz) (hx : Rel S φ (.ptr o off) v) (hb : φ o = some (b,z)) (hz : off + n * esz ≤ z)
  (hh : Rel S φ hi vh) (h : sliceAV n esz o off (some (hi,none)) = some r) :
  ∃ u,(Instr.sliceAt t v none (some vh) none).run P w = .ok u w ∧ Rel S φ r u:=by
 have hsz:=run_szP hs w
 unfold sliceAV at h
 split at h
 ·rename_i heq; cases heq
 ·rename_i heq; cases heq
 ·rename_i k i heq
  cases heq
  split at h
  ·rename_i hc
   obtain ⟨h0,hn⟩:=hc
   cases h
   cases hh
   cases hx with
   |
    ptr _ _ _ b' z' hb' =>
    rw [hb] at hb'; cases hb'
    have g1:=run_sliceBound (P:=P) w k i n .sliceAlen h0 hn
    refine ⟨.slice (some ⟨b,off,none⟩) i.toNat n,?_,.ms _ _ _ _ _ _ _ _ hb (by omega) hz⟩
    simp [Instr.sliceAt,run_underlying ht,Instr.sureAddr,Instr.sliceBounds,hsz,g1,Addr.add]
  ·cases h
 ·cases h
theorem elemAt_snd {t e : TypeId} {esz : Nat} {x i r : AV} {v u : Value} (ht : P.underlying t = some (.slice e)) (hs : szP P e = some esz)
  (hx : Rel S φ x v) (hi : Rel S φ i u) (h : elemAt esz x i = some r) : ∃ y,(Instr.indexAt t v u).run P w = .ok y w ∧ Rel S φ r y:=by
 have hsz:=run_szP hs w
 unfold elemAt at h
 split at h
 ·rename_i e' len cells k n
  split at h
  ·rename_i hc
   obtain ⟨he,h0,h1⟩:=hc
   have he:=he.symm
   subst he
   cases h
   cases hi
   cases hx with
   | cs0 => omega
   |
    cs _ _ _ _ b off cap c vs hS hl hc' hcell hr =>
    refine ⟨.pointer (some ⟨b,off + n.toNat * esz,none⟩),?_,?_⟩
    ·simp [Instr.indexAt,run_underlying ht,asIntOf,h0,h1,hsz,Addr.add_lit]
    ·refine .cptr _ _ _ _ c (fun j => vs (n.toNat * esz + j)) hS (fun j a hj => ?_) (fun j a hj => ?_)
     ·rw [List.getElem?_take] at hj
      split at hj
      ·rw [List.getElem?_drop] at hj; have:=hcell _ a hj; rwa [← Nat.add_assoc] at this
      ·cases hj
     ·rw [List.getElem?_take] at hj
      split at hj
      ·rw [List.getElem?_drop] at hj; exact hr _ a hj
      ·cases hj
  ·cases h
 ·rename_i e' o off len k n
  split at h
  ·rename_i hc
   obtain ⟨he,h0,h1⟩:=hc
   have he:=he.symm
   subst he
   cases h
   cases hi
   cases hx with
   |
    ms _ _ _ _ _ b z cap hb hc' hz =>
    refine ⟨.pointer (some ⟨b,off + n.toNat * esz,none⟩),?_,.ptr _ _ _ _ _ hb⟩
    simp [Instr.indexAt,run_underlying ht,asIntOf,h0,h1,hsz,Addr.add_lit]
  ·cases h
 ·rename_i e' o off len room k n
  split at h
  ·rename_i hc
   obtain ⟨he,h0,h1⟩:=hc
   have he:=he.symm
   subst he
   cases h
   cases hi
   cases hx with
   |
    mr _ _ _ _ _ _ b z cap hb hl' hc' hz =>
    refine ⟨.pointer (some ⟨b,off + n.toNat * esz,none⟩),?_,.ptr _ _ _ _ _ hb⟩
    simp [Instr.indexAt,run_underlying ht,asIntOf,h0,h1,hsz,Addr.add_lit]
  ·cases h
 ·cases h
theorem opd_opt (hρ : ∀ x y,cOpd x = some y → Rel S φ (τ y) (ρ x)) {x : Option Operand} {y : Option Opd} (h : cOpdO x = some y) :
  (∀ a,y.map τ = some a → ∃ u,x.map ρ = some u ∧ Rel S φ a u) ∧ (y.map τ = none → x.map ρ = none):=by
 cases x with
 | none => simp [cOpdO] at h; subst h; exact ⟨fun a ha => by simp at ha,fun _ => rfl⟩
 |
  some x =>
  simp only [cOpdO,Option.map_eq_some_iff] at h
  obtain ⟨z,hz,rfl⟩:=h
  refine ⟨fun a ha => ?_,fun ha => by simp at ha⟩
  simp at ha; subst ha
  exact ⟨_,rfl,hρ x z hz⟩
set_option maxHeartbeats 1000000 in
theorem run_eqNil1 {t e : TypeId} (d : Nat) (hu : P.underlying t = some (.slice e)) : (Op.equalIn (d + 1) t (.slice none 0 0) (.slice none 0 0)).run P w = .ok true w:=by
 simp [Op.equalIn,run_underlying hu]
theorem run_eqNil2 {t e : TypeId} {b : Addr} {l cap : Nat} (d : Nat) (hu : P.underlying t = some (.slice e)) : (Op.equalIn (d + 1) t (.slice (some b) l cap) (.slice none 0 0)).run P w = .ok false w:=by
 simp [Op.equalIn,run_underlying hu]
theorem pex_snd (hρ : ∀ x y,cOpd x = some y → Rel S φ (τ y) (ρ x)) {o : Oper} {p : POp} (hc : cOp P m o.op = some (.p p)) {r : AV} (h : pex τ p = some r) :
  VOk P S φ w (execOp ρ o) r:=by
 unfold execOp
 cases hop : o.op with
 |
  move x =>
  simp only [hop,cOp,Option.bind_eq_bind,Option.bind_eq_some_iff,Option.some.injEq,AOp.p.injEq] at hc
  obtain ⟨y,hy,rfl⟩:=hc
  simp only [pex,Option.some.injEq] at h; subst h
  exact ⟨_,rfl,hρ x y hy⟩
 |
  assign x =>
  simp only [hop,cOp,Option.bind_eq_bind,Option.bind_eq_some_iff,Option.some.injEq,AOp.p.injEq] at hc
  obtain ⟨y,hy,rfl⟩:=hc
  simp only [pex,Option.some.injEq] at h; subst h
  exact ⟨_,rfl,hρ x y hy⟩
 |
  pick c a b =>
  simp only [hop,cOp,Option.bind_eq_bind,Option.bind_eq_some_iff,Option.some.injEq,AOp.p.injEq] at hc
  obtain ⟨yc,hyc,ya,hya,yb,hyb,rfl⟩:=hc
  have r1:=hρ _ _ hyc
  have r2:=hρ _ _ hya
  have r3:=hρ _ _ hyb
  simp only [pex] at h
  split at h
  ·rename_i t ht
   rw [ht] at r1
   cases h
   cases hv : ρ c <;> rw [hv] at r1 <;> cases r1
   refine ⟨if t then ρ a else ρ b,by simp [asBool,hv],?_⟩
   cases t <;> simpa
  ·cases h
 |
  build t parts =>
  simp only [hop,cOp,Option.bind_eq_bind,Option.bind_eq_some_iff] at hc
  obtain ⟨z,hz,hc⟩:=hc
  obtain ⟨zv,hzv,hzr⟩:=run_zeroP hz w
  split at hc
  ·rename_i fs hu
   simp only [Option.bind_eq_some_iff] at hc
   obtain ⟨l,hl,hc⟩:=hc
   split at hc
   ·rename_i hall
    simp only [Option.some.injEq,AOp.p.injEq] at hc; subst hc
    simp only [pex,Option.map_eq_some_iff] at h
    obtain ⟨row,hrow,rfl⟩:=h
    obtain ⟨h1,h2⟩:=parts_snd hρ _ _ hl
    have hpl : ∀ (fl : List Field),(fl.all fun f => (szP P f.type).isSome) = true → ∀ (w : World),(fl.mapM fun f => do pure (f.offset,← sizeOf f.type) : Sem (List (Nat × Nat))).run P w = .ok (fl.map fun f => (f.offset,(szP P f.type).getD 0)) w:=by
     intro fl
     induction fl with
     | nil => intro _ w; simp
     |
      cons f fl ih =>
      intro ha w
      simp only [List.all_cons,Bool.and_eq_true] at ha
      obtain ⟨n,hn⟩:=Option.isSome_iff_exists.1 ha.1
      simp only [List.mapM_cons,Sem.run_bind,run_szP hn,Result.andThen_ok,Sem.run_pure,ih ha.2 w,List.map_cons,hn,Option.getD_some]
    have hpl' : (fs.mapM fun f => do pure (f.offset,← sizeOf f.type) : Sem (Array (Nat × Nat))).run P w = .ok (fs.toList.map fun f => (f.offset,(szP P f.type).getD 0)).toArray w:=by
     rw [Array.mapM_eq_mapM_toList]
     simp only [Sem.run_map,hpl fs.toList hall w,Result.andThen_ok]
    obtain ⟨c',hc',hr',hsz'⟩:=fill_snd (S:=S) (φ:=φ) (place:=((fs.toList.map fun f => (f.offset,(szP P f.type).getD 0)).toArray[·]?)) (parts.toList.map fun (i,x) => (i,ρ x)) _ z.cells zv.cells row (by simpa using h1) (by
     intro j p q hp hq
     obtain ⟨g1,g2⟩:=h2 j p q hp hq
     refine ⟨?_,g2⟩
     simp only [Option.bind_eq_some_iff,Option.some.injEq] at g1
     obtain ⟨f,hf,n,hn,hfn⟩:=g1
     have hf' : fs.toList[q.1]? = some f:=by simpa using hf
     simpa [hf,hn] using hfn) (hzr S φ).cells hrow
    refine ⟨.agg c',?_,Rel.agg_iff.2 hr'⟩
    simp only [Instr.build,Sem.run_bind,hzv,Result.andThen_ok,run_underlying hu,hpl',Array.toList_map,hc']
    rfl
   ·cases hc
  ·rename_i n e hu
   simp only [Option.bind_eq_some_iff,Option.some.injEq,AOp.p.injEq] at hc
   obtain ⟨s,hs,l,hl,rfl⟩:=hc
   simp only [pex,Option.map_eq_some_iff] at h
   obtain ⟨row,hrow,rfl⟩:=h
   obtain ⟨h1,h2⟩:=parts_snd hρ _ _ hl
   obtain ⟨c',hc',hr',hsz'⟩:=fill_snd (S:=S) (φ:=φ) (place:=fun i => some (i * s,s)) (parts.toList.map fun (i,x) => (i,ρ x)) _ z.cells zv.cells row (by simpa using h1) h2 (hzr S φ).cells hrow
   refine ⟨.agg c',?_,Rel.agg_iff.2 hr'⟩
   simp only [Instr.build,Sem.run_bind,hzv,Result.andThen_ok,run_underlying hu,run_szP hs,Array.toList_map,hc']
   rfl
  ·cases hc
 |
  nilCheck x =>
  simp only [hop,cOp,Option.bind_eq_bind,Option.bind_eq_some_iff,Option.some.injEq,AOp.p.injEq] at hc
  obtain ⟨y,hy,rfl⟩:=hc
  have r1:=hρ _ _ hy
  simp only [pex] at h
  split at h <;> first | (cases h; done) | skip
  all_goals
   rename_i ht
   rw [ht] at r1
   cases h
   cases hv : ρ x <;> rw [hv] at r1 <;> cases r1
   all_goals exact ⟨_,by simp only [hv]; rfl,by constructor <;> assumption⟩
 |
  binOp op t x y yt =>
  simp only [hop,cOp,Option.bind_eq_bind,Option.bind_eq_some_iff] at hc
  obtain ⟨a,ha,b,hb,hc⟩:=hc
  have r1:=hρ _ _ ha
  have r2:=hρ _ _ hb
  split at hc
  ·rename_i k hu
   split at hc
   ·rename_i hok
    simp only [Option.some.injEq,AOp.p.injEq] at hc; subst hc
    simp only [pex] at h
    split at h
    ·rename_i k1 n1 k2 n2 h1 h2
     rw [h1] at r1; rw [h2] at r2
     split at h
     ·rename_i hk
      cases hv1 : ρ x <;> rw [hv1] at r1 <;> cases r1
      cases hv2 : ρ y <;> rw [hv2] at r2 <;> cases r2
      obtain ⟨v,hv,hr⟩:=binS_snd (P:=P) (S:=S) (φ:=φ) (w:=w) (t:=t) (x:=x) (y:=y) hk hok h
      simp only [hv1,hv2]
      exact VOk.of_run hv hr
     ·cases h
    ·cases h
   ·cases hc
  all_goals first
   | (
     rename_i hu
     simp only [Option.some.injEq,AOp.p.injEq] at hc; subst hc
     simp only [pex] at h
     split at h
     ·rename_i n1 n2 h1 h2
      rw [h1] at r1; rw [h2] at r2
      cases h
      cases hv1 : ρ x <;> rw [hv1] at r1 <;> cases r1
      cases hv2 : ρ y <;> rw [hv2] at r2 <;> cases r2
      refine ⟨_,?_,.bool _ _⟩
      have hq : (Op.equal t (.bool n1) (.bool n2)).run P w = .ok (n1 == n2) w:=run_equalIn_bool' w 9999 t n1 n2 hu
      simp [eqGuard,binOp,hq,hv1,hv2]
     ·cases h)
   | (
     rename_i fs hu
     simp only [Option.bind_eq_some_iff,Option.some.injEq,AOp.p.injEq] at hc
     obtain ⟨ks,hks,rfl⟩:=hc
     obtain ⟨fs',hu',hh1,hh2,hk⟩:=plainStruct_spec hks
     rw [hu] at hu'; cases hu'
     simp only [pex] at h
     split at h
     ·rename_i n1 n2 h1 h2
      rw [h1] at r1; rw [h2] at r2
      simp only [Option.map_eq_some_iff] at h
      obtain ⟨e,he,rfl⟩:=h
      cases hv1 : ρ x <;> rw [hv1] at r1 <;> first | (cases r1; done) | skip
      rename_i xs
      cases hv2 : ρ y <;> rw [hv2] at r2 <;> first | (cases r2; done) | skip
      rename_i ys
      have q1:=Rel.agg_iff.1 r1
      have q2:=Rel.agg_iff.1 r2
      have hfo : P.underlying t = some (.struct (P.fieldsOf t)):=by simp [Program.fieldsOf,hu]
      have hfo' : P.fieldsOf t = fs:=by simp [Program.fieldsOf,hu]
      have hq : (Op.equal t (.agg xs) (.agg ys)).run P w = .ok e w:=by
       have:=run_equalIn_struct (P:=P) w 9999 t xs ys hfo hh1
       rw [hfo'] at this
       refine this.trans (eqFields_snd (S:=S) (φ:=φ) 9997 fs.toList ks 0 n1 n2 e hk (fun j a hj => ?_) (fun j a hj => ?_) he)
       ·obtain ⟨u,hu',hr'⟩:=q1.get hj; exact ⟨u,by simpa using hu',hr'⟩
       ·obtain ⟨u,hu',hr'⟩:=q2.get hj; exact ⟨u,by simpa using hu',hr'⟩
      refine ⟨_,?_,.bool _ _⟩
      simp [eqGuard,binOp,hq,hh2,hv1,hv2]
     ·cases h)
   | (
     rename_i e hu
     simp only [Option.some.injEq,AOp.p.injEq] at hc; subst hc
     simp only [pex] at h
     have hq1 : (Op.equal t (.slice none 0 0) (.slice none 0 0)).run P w = .ok true w:=run_eqNil1 9999 hu
     have hq2 : ∀ b l cap,(Op.equal t (.slice (some b) l cap) (.slice none 0 0)).run P w = .ok false w:=fun b l cap => run_eqNil2 9999 hu
     split at h
     all_goals first
      | (
       rename_i h1 h2
       rw [h1] at r1; rw [h2] at r2
       cases h
       cases hv1 : ρ x <;> rw [hv1] at r1 <;> cases r1
       all_goals
        cases hv2 : ρ y <;> rw [hv2] at r2 <;> cases r2
        refine ⟨_,?_,.bool _ _⟩
        simp [eqGuard,binOp,hq1,hq2,hv1,hv2])
      | cases h)
   | (cases hc; done)
 |
  unOp op t x =>
  have main : ∀ y,cOpd x = some y → (op = .neg ∨ op = .not) → pex τ (.un op y) = some r → VOk P S φ w (do pure (.value (← Op.unary op (ρ x)))) r:=by
   intro y hy hop2 h
   have r1:=hρ _ _ hy
   simp only [pex] at h
   split at h
   ·rename_i k n h1
    rw [h1] at r1
    cases h
    cases hv : ρ x <;> rw [hv] at r1 <;> cases r1
    exact ⟨_,by simp [Op.unary,Op.intArith]; rfl,by rw [wr_eq,show (0 : Int) - n = -n by omega]; exact .int _ _ _⟩
   ·rename_i b h1
    rw [h1] at r1
    cases h
    cases hv : ρ x <;> rw [hv] at r1 <;> cases r1
    exact ⟨.bool !b,by simp [Op.unary],.bool _ _⟩
   ·cases h
  cases op <;> simp only [hop,cOp,Option.bind_eq_bind,Option.bind_eq_some_iff,Option.some.injEq,AOp.p.injEq,reduceCtorEq] at hc
  ·obtain ⟨y,hy,rfl⟩:=hc; exact main y hy (.inl rfl) h
  ·obtain ⟨y,hy,rfl⟩:=hc; exact main y hy (.inr rfl) h
 |
  convert s d x =>
  simp only [hop,cOp,Option.bind_eq_bind,Option.bind_eq_some_iff] at hc
  split at hc
  ·rename_i k0 k hs hd
   simp only [Option.bind_eq_some_iff,Option.some.injEq,AOp.p.injEq] at hc
   obtain ⟨y,hy,rfl⟩:=hc
   have r1:=hρ _ _ hy
   simp only [pex] at h
   split at h
   ·rename_i k1 n h1
    rw [h1] at r1
    cases h
    cases hv : ρ x <;> rw [hv] at r1 <;> cases r1
    refine ⟨.int k (k.wrap n),?_,by rw [wr_eq]; exact .int _ _ _⟩
    simp [convert,run_underlying hs,run_underlying hd,Conv.intToInt,hv]
   ·cases h
  ·cases hc
 |
  makeFunc fn first captured =>
  cases fn <;> simp only [hop,cOp,Option.bind_eq_bind,Option.bind_eq_some_iff,Option.some.injEq,AOp.p.injEq,reduceCtorEq] at hc
  obtain ⟨a,ha,b,hb,rfl⟩:=hc
  simp only [pex,Option.some.injEq] at h; subst h
  have q1:=opds_snd hρ ha
  have q2:=opds_snd hρ hb
  refine ⟨_,by simp [Instr.makeFunc]; rfl,?_⟩
  exact .fn _ _ _ _ _ _ (by simpa using q1.1) (by simpa using q2.1) (fun j x v h1 h2 => q1.2 j x v h1 (by simpa using h2)) (fun j x v h1 h2 => q2.2 j x v h1 (by simpa using h2))
 |
  slice t x lo hi mx =>
  cases mx with
  |
   some m9 =>
   cases lo with
   |
    some l9 =>
    cases hi with
    | none => simp [hop,cOp] at hc
    |
     some h9 =>
     simp only [hop,cOp] at hc
     split at hc
     ·rename_i e hu
      simp only [Option.bind_eq_bind,Option.bind_eq_some_iff,Option.some.injEq,AOp.p.injEq] at hc
      obtain ⟨s,hs,y,hy,l,hl,hh,hhh,q,hq,rfl⟩:=hc
      simp only [pex,Option.map_some] at h
      have one : ∀ {x : Operand} {y : Opd},cOpd x = some y → ∀ a,some (τ y) = some a → ∃ u,(some x).map ρ = some u ∧ Rel S φ a u:=fun hxy a ha => by
       cases ha; exact ⟨_,rfl,hρ _ _ hxy⟩
      obtain ⟨u,hu',hr⟩:=sliceRV_snd (w:=w) hu hs (hρ _ _ hy) (one hl) (fun e => by cases e) (one hhh) (fun e => by cases e) (one hq) (fun e => by cases e) h
      exact VOk.of_run hu' hr
     ·cases hc
   |
    none =>
    cases hi with
    | none => simp [hop,cOp] at hc
    |
     some h9 =>
     simp only [hop,cOp] at hc
     split at hc
     ·rename_i e hu
      simp only [Option.bind_eq_bind,Option.bind_eq_some_iff,Option.some.injEq,AOp.p.injEq] at hc
      obtain ⟨s,hs,y,hy,l,hl,q,hq,rfl⟩:=hc
      simp only [pex] at h
      obtain ⟨u,hu',hr⟩:=slice3V_snd (w:=w) hu hs (hρ _ _ hy) (hρ _ _ hl) (hρ _ _ hq) h
      exact VOk.of_run hu' hr
     ·simp only [Option.bind_eq_bind,Option.bind_eq_some_iff,Option.some.injEq,reduceCtorEq,and_false,exists_false] at hc
     ·cases hc
  |
   none =>
   simp only [hop,cOp] at hc
   split at hc
   ·rename_i e hu
    split at hc
    ·simp only [Option.bind_eq_bind,Option.bind_eq_some_iff,Option.some.injEq,AOp.p.injEq] at hc
     obtain ⟨s,hs,y,hy,l,hl,hh,hhh,rfl⟩:=hc
     simp only [pex] at h
     obtain ⟨u,hu',hr⟩:=sliceRV_snd (w:=w) (vm:=none) hu hs (hρ _ _ hy) (opd_opt hρ hl).1 (opd_opt hρ hl).2 (opd_opt hρ hhh).1 (opd_opt hρ hhh).2 (fun a ha => by cases ha) (fun _ => rfl) h
     exact VOk.of_run hu' hr
    ·simp only [Option.bind_eq_bind,Option.bind_eq_some_iff,Option.some.injEq,AOp.p.injEq] at hc
     obtain ⟨s,hs,y,hy,l,hl,hh,hhh,rfl⟩:=hc
     simp only [pex] at h
     obtain ⟨u,hu',hr⟩:=sliceV_snd (w:=w) hu hs (hρ _ _ hy) (opd_opt hρ hl).1 (opd_opt hρ hl).2 (opd_opt hρ hhh).1 (opd_opt hρ hhh).2 h
     exact VOk.of_run hu' hr
   ·split at hc
    ·cases hi <;> simp only [Option.bind_eq_bind,Option.bind_eq_some_iff,Option.some.injEq,reduceCtorEq,and_false,exists_false] at hc
    ·cases hc
   ·cases hc
 |
  fieldAddr t x f =>
  simp only [hop,cOp] at hc
  split at hc
  ·rename_i fs hu
   simp only [Option.bind_eq_bind,Option.bind_eq_some_iff] at hc
   obtain ⟨g,hg,n,hn,hc⟩:=hc
   split at hc
   ·cases hc
   ·rename_i hn0
    simp only [Option.bind_eq_some_iff,Option.some.injEq,AOp.p.injEq] at hc
    obtain ⟨y,hy,rfl⟩:=hc
    simp only [pex] at h
    obtain ⟨a,ha,hr⟩:=addOff_snd (hρ _ _ hy) h
    refine ⟨_,?_,hr⟩
    simp [Instr.fieldAt,run_underlying hu,hg,ha,Instr.sureAddr,fieldPlace,run_szP hn,hn0]
  ·cases hc
 |
  field t x f =>
  simp only [hop,cOp] at hc
  split at hc
  ·rename_i fs hu
   simp only [Option.bind_eq_bind,Option.bind_eq_some_iff,Option.some.injEq,AOp.p.injEq] at hc
   obtain ⟨g,hg,ag,hag,n,hn,y,hy,rfl⟩:=hc
   have r1:=hρ _ _ hy
   simp only [pex] at h
   split at h
   ·rename_i c h1
    rw [h1] at r1
    cases hv : ρ x <;> rw [hv] at r1 <;> first | (cases r1; done) | skip
    rename_i cs
    obtain ⟨v,hv',hr⟩:=run_part hag hn (Rel.agg_iff.1 r1) h w
    refine ⟨v,?_,hr⟩
    simp [Instr.field,run_underlying hu,hg,asAgg,hv,hv']
   ·cases h
  ·cases hc
 |
  indexAddr t x i =>
  simp only [hop,cOp] at hc
  split at hc
  ·rename_i n e hu
   simp only [Option.bind_eq_bind,Option.bind_eq_some_iff,Option.some.injEq,AOp.p.injEq] at hc
   obtain ⟨s,hs,y,hy,z,hz,rfl⟩:=hc
   have r1:=hρ _ _ hz
   simp only [pex] at h
   split at h
   ·rename_i k j h1
    rw [h1] at r1
    split at h
    ·rename_i hj
     obtain ⟨a,ha,hr⟩:=addOff_snd (hρ _ _ hy) h
     cases hv : ρ i <;> rw [hv] at r1 <;> cases r1
     refine ⟨_,?_,hr⟩
     simp [Instr.indexAt,run_underlying hu,asIntOf,ha,Instr.sureAddr,hj.1,hj.2,run_szP hs,hv]
    ·cases h
   ·cases h
  ·rename_i e hu
   simp only [Option.bind_eq_bind,Option.bind_eq_some_iff,Option.some.injEq,AOp.p.injEq] at hc
   obtain ⟨s,hs,y,hy,z,hz,rfl⟩:=hc
   simp only [pex] at h
   obtain ⟨u,hu',hr⟩:=elemAt_snd (w:=w) hu hs (hρ _ _ hy) (hρ _ _ hz) h
   exact VOk.of_run hu' hr
  ·cases hc
 |
  index t x i =>
  simp only [hop,cOp] at hc
  split at hc
  ·rename_i n e hu
   simp only [Option.bind_eq_bind,Option.bind_eq_some_iff,Option.some.injEq,AOp.p.injEq] at hc
   obtain ⟨ag,hag,s,hs,y,hy,z,hz,rfl⟩:=hc
   have r1:=hρ _ _ hy
   have r2:=hρ _ _ hz
   simp only [pex] at h
   split at h
   ·rename_i c k j h1 h2
    rw [h1] at r1; rw [h2] at r2
    split at h
    ·rename_i hj
     cases hv : ρ x <;> rw [hv] at r1 <;> first | (cases r1; done) | skip
     rename_i cs
     cases hv2 : ρ i <;> rw [hv2] at r2 <;> cases r2
     obtain ⟨v,hv',hr⟩:=run_part hag hs (Rel.agg_iff.1 r1) h w
     refine ⟨v,?_,hr⟩
     simp [Instr.index,run_underlying hu,asIntOf,hj.1,hj.2,run_szP hs,hv,hv2,hv']
    ·cases h
   ·cases h
  ·rename_i hu
   simp only [Option.bind_eq_bind,Option.bind_eq_some_iff,Option.some.injEq,AOp.p.injEq] at hc
   obtain ⟨y,hy,z,hz,rfl⟩:=hc
   have r1:=hρ _ _ hy
   have r2:=hρ _ _ hz
   simp only [pex] at h
   split at h
   ·rename_i s k j h1 h2
    rw [h1] at r1; rw [h2] at r2
    split at h
    ·rename_i hj
     simp only [Option.map_eq_some_iff] at h
     obtain ⟨bt,hbt,rfl⟩:=h
     cases hv : ρ x <;> rw [hv] at r1 <;> cases r1
     cases hv2 : ρ i <;> rw [hv2] at r2 <;> cases r2
     refine ⟨.int .u8 bt.toNat,?_,.int _ _ _⟩
     simp [Instr.index,run_underlying hu,asIntOf,hj,hbt,hv,hv2]
    ·cases h
   ·cases h
  ·cases hc
 |
  extract x ix =>
  simp only [hop,cOp,Option.bind_eq_bind,Option.bind_eq_some_iff,Option.some.injEq,AOp.p.injEq] at hc
  obtain ⟨y,hy,rfl⟩:=hc
  have r1:=hρ _ _ hy
  simp only [pex] at h
  split at h
  ·rename_i vs h1
   rw [h1] at r1
   cases hv : ρ x <;> rw [hv] at r1 <;> first | (cases r1; done) | skip
   rename_i us
   obtain ⟨u,hu,hr⟩:=(Rel.tup_iff.1 r1).get h
   refine ⟨u,?_,hr⟩
   have hu' : us[ix]? = some u:=by simpa using hu
   simp [Instr.extract,hv,hu']
  ·cases h
 |
  call c =>
  simp only [hop,cOp,Option.bind_eq_bind,Option.bind_eq_some_iff] at hc
  obtain ⟨as,has,hc⟩:=hc
  have q:=opds_snd hρ has
  cases hcal : c.callee with
  | value x => cases x <;> simp [hcal,Option.bind_eq_some_iff] at hc
  | invoke r n => simp [hcal] at hc
  |
   builtin b =>
   have hargs : (c.args.map ρ).toList = c.args.toList.map ρ:=by simp
   have hgo : ∀ (f : Array TypeId → TypeId → Array Value → Sem Value) (v : Value),(∀ (ty : TypeId) (con : Array Bool),builtin b c.argTypes ty con (c.args.map ρ) = (do pure (.value (← f c.argTypes ty (c.args.map ρ))))) →
     (∀ ty,(f c.argTypes ty (c.args.map ρ)).run P w = .ok v w) → Rel S φ r v → VOk P S φ w (do let d ← resolve ρ c o.type; invoke d.target d.args) r:=by
    intro f v h1 h2 h3
    refine ⟨v,?_,h3⟩
    simp [resolve,hcal,invoke,h1,h2]
   cases b <;> simp only [hcal,reduceCtorEq] at hc
   case append =>
    split at hc
    ·simp only [Option.bind_eq_some_iff] at hc
     obtain ⟨_,_,_,_,hc⟩:=hc
     split at hc
     ·simp only [Option.bind_eq_some_iff] at hc
      obtain ⟨_,_,hc⟩:=hc
      split at hc <;> cases hc
     ·cases hc
    ·simp [Option.bind_eq_some_iff] at hc
    ·cases hc
   case copy =>
    split at hc
    ·simp only [Option.bind_eq_some_iff] at hc
     obtain ⟨_,_,hc⟩:=hc
     split at hc <;> cases hc
    ·cases hc
   case clear =>
    split at hc
    ·simp only [Option.bind_eq_some_iff] at hc
     obtain ⟨_,_,_,_,hc⟩:=hc
     split at hc <;> cases hc
    ·cases hc
   case cap =>
    split at hc
    ·rename_i hu
     simp only [Option.some.injEq,AOp.p.injEq] at hc; subst hc
     obtain ⟨v,rest,e1,hv,hrest⟩:=q.cons_inv
     obtain rfl : rest = []:=by have:=hrest.1; cases rest <;> simp_all
     have e2 : c.args.map ρ = #[v]:=by apply Array.ext'; rw [hargs,e1]
     simp only [Option.bind_eq_some_iff] at hu
     obtain ⟨t0,ht0,hu⟩:=hu
     simp only [pex] at h
     split at h
     ·rename_i h1
      rw [h1] at hv; cases hv; cases h
      refine hgo Builtin.cap_ (.int .i64 0) (fun _ _ => rfl) (fun ty => ?_) (.int _ _ _)
      simp [Builtin.cap_,ht0,e2,run_underlying hu,goInt]
     ·cases h
    ·cases hc
   case len =>
    split at hc
    ·rename_i hu
     simp only [Option.some.injEq,AOp.p.injEq] at hc; subst hc
     obtain ⟨v,rest,e1,hv,hrest⟩:=q.cons_inv
     obtain rfl : rest = []:=by have:=hrest.1; cases rest <;> simp_all
     have e2 : c.args.map ρ = #[v]:=by apply Array.ext'; rw [hargs,e1]
     simp only [Option.bind_eq_some_iff] at hu
     obtain ⟨t0,ht0,hu⟩:=hu
     simp only [pex] at h
     split at h
     ·rename_i h1
      rw [h1] at hv; cases hv; cases h
      refine hgo Builtin.len_ (.int .i64 0) (fun _ _ => rfl) (fun ty => ?_) (.int _ _ _)
      simp [Builtin.len_,ht0,e2,run_underlying hu,goInt]
     ·rename_i len _ h1
      rw [h1] at hv; cases h
      refine hgo Builtin.len_ (.int .i64 len) (fun _ _ => rfl) (fun ty => ?_) (.int _ _ _)
      cases hv <;> simp [Builtin.len_,ht0,e2,run_underlying hu,goInt]
     ·rename_i len h1
      rw [h1] at hv; cases h
      refine hgo Builtin.len_ (.int .i64 len) (fun _ _ => rfl) (fun ty => ?_) (.int _ _ _)
      cases hv <;> simp [Builtin.len_,ht0,e2,run_underlying hu,goInt]
     ·rename_i len _ h1
      rw [h1] at hv; cases h
      refine hgo Builtin.len_ (.int .i64 len) (fun _ _ => rfl) (fun ty => ?_) (.int _ _ _)
      cases hv <;> simp [Builtin.len_,ht0,e2,run_underlying hu,goInt]
     ·cases h
    ·rename_i n e x' hu
     simp only [Option.some.injEq,AOp.p.injEq] at hc; subst hc
     obtain ⟨v,rest,e1,hv,hrest⟩:=q.cons_inv
     obtain rfl : rest = []:=by have:=hrest.1; cases rest <;> simp_all
     have e2 : c.args.map ρ = #[v]:=by apply Array.ext'; rw [hargs,e1]
     simp only [Option.bind_eq_some_iff] at hu
     obtain ⟨t0,ht0,hu⟩:=hu
     simp only [pex,Option.some.injEq] at h; subst h
     refine hgo Builtin.len_ (.int .i64 n) (fun _ _ => rfl) (fun ty => ?_) (.int _ _ _)
     simp [Builtin.len_,ht0,e2,run_underlying hu,goInt]
    ·cases hc
    ·rename_i a x' hu
     split at hc
     ·rename_i n e hua
      simp only [Option.some.injEq,AOp.p.injEq] at hc; subst hc
      obtain ⟨v,rest,e1,hv,hrest⟩:=q.cons_inv
      obtain rfl : rest = []:=by have:=hrest.1; cases rest <;> simp_all
      have e2 : c.args.map ρ = #[v]:=by apply Array.ext'; rw [hargs,e1]
      simp only [Option.bind_eq_some_iff] at hu
      obtain ⟨t0,ht0,hu⟩:=hu
      simp only [pex,Option.some.injEq] at h; subst h
      refine hgo Builtin.len_ (.int .i64 n) (fun _ _ => rfl) (fun ty => ?_) (.int _ _ _)
      simp [Builtin.len_,ht0,e2,run_underlying hu,run_underlying hua,goInt]
     ·cases hc
    ·cases hc
   case max =>
    split at hc
    ·rename_i x' xs
     simp only [Option.some.injEq,AOp.p.injEq] at hc; subst hc
     obtain ⟨v,rest,e1,hv,hrest⟩:=q.cons_inv
     have e2 : (c.args.map ρ).toList = v :: rest:=by rw [hargs,e1]
     simp only [pex] at h
     obtain ⟨u,hu,hr⟩:=mm_snd (w:=w) (P:=P) true _ _ _ _ _ hrest hv h
     refine hgo Builtin.max_ u (fun _ _ => rfl) (fun ty => ?_) hr
     unfold Builtin.max_; rw [e2]; exact hu
    ·cases hc
   case min =>
    split at hc
    ·rename_i x' xs
     simp only [Option.some.injEq,AOp.p.injEq] at hc; subst hc
     obtain ⟨v,rest,e1,hv,hrest⟩:=q.cons_inv
     have e2 : (c.args.map ρ).toList = v :: rest:=by rw [hargs,e1]
     simp only [pex] at h
     obtain ⟨u,hu,hr⟩:=mm_snd (w:=w) (P:=P) false _ _ _ _ _ hrest hv h
     refine hgo Builtin.min_ u (fun _ _ => rfl) (fun ty => ?_) hr
     unfold Builtin.min_; rw [e2]; exact hu
    ·cases hc
 |
  buildSlice t len parts =>
  simp only [hop,cOp,Option.bind_eq_bind] at hc
  split at hc
  ·simp only [Option.bind_eq_some_iff] at hc
   obtain ⟨_,_,_,_,_,_,hc⟩:=hc
   split at hc
   ·simp only [Option.some.injEq] at hc
    split at hc <;> cases hc
   ·cases hc
  ·cases hc
 |
  makeSlice t l c =>
  simp only [hop,cOp] at hc
  split at hc <;> simp [Option.bind_eq_some_iff] at hc
 |
  makeMap t r =>
  cases r <;> simp only [hop,cOp,reduceCtorEq] at hc
  all_goals (repeat' split at hc) <;> simp [Option.bind_eq_some_iff] at hc
 |
  lookup t x i ok =>
  simp only [hop,cOp] at hc
  (repeat' split at hc) <;> simp [Option.bind_eq_some_iff] at hc
 |
  mapUpdate t m k x =>
  simp only [hop,cOp] at hc
  (repeat' split at hc) <;> simp [Option.bind_eq_some_iff] at hc
 |
  insert t m k x =>
  simp only [hop,cOp] at hc
  (repeat' split at hc) <;> simp [Option.bind_eq_some_iff] at hc
 | _ => simp [hop,cOp,Option.bind_eq_some_iff] at hc
end Go.Am
/-
Operations that read and write memory,but for calls.
-/
namespace Go.Am
open Go
set_option linter.unusedVariables false
set_option linter.unusedSimpArgs false
variable {P : Program} {mode : Nat → Nat → Nat} {S : Fz} {φ : Mp} {B : Nat} {h : List AO} {w : World} {ρ : Operand → Value} {τ : Opd → AV} {m : Nat → Nat}
def OpOk (P : Program) (mode : Nat → Nat → Nat) (S : Fz) (φ : Mp) (B lim : Nat) (h : List AO) (w : World) (pl : Option Nat) (s : Sem Next) (r : AV) (h' : List AO) : Prop :=
 ∃ n w' φ',s.run P w = .ok n w' ∧ ((n = .skip ∧ r = .undef) ∨ ∃ v,n = .value v ∧ Rel S φ' r v) ∧ Post P mode S φ B lim h w pl S φ' h' w'
theorem OpOk.of_run {lim : Nat} {pl : Option Nat} {s : Sem Value} {v : Value} {r : AV} {h' : List AO} {w' : World} {φ' : Mp} (hs : s.run P w = .ok v w') (hr : Rel S φ' r v)
  (hp : Post P mode S φ B lim h w pl S φ' h' w') : OpOk P mode S φ B lim h w pl (do pure (.value (← s))) r h' :=
 ⟨.value v,w',φ',by simp [hs],.inr ⟨v,rfl,hr⟩,hp⟩
theorem cell_row {c : List AV} {b z : Nat} (r : ORow S φ w c b z) {j : Nat} {x : AV} (hx : c[j]? = some x) : ∃ v,w.cell? ⟨b,j,none⟩ = some v ∧ Rel S φ x v:=by
 obtain ⟨cs,e,h1,h2,h3,h4⟩:=r
 obtain ⟨v,hv,hr⟩:=h4 j x hx
 exact ⟨v,by rw [cell_of_row w b j cs e (0,0) h1]; exact hv,hr⟩
theorem cells_list {b off : Nat} {l : List AV} (hl : ∀ (j : Nat) x,l[j]? = some x → ∃ v,w.cell? ⟨b,off + j,none⟩ = some v ∧ Rel S φ x v) :
  ∃ vs : List Value,RelL S φ l vs ∧ ∀ (j : Nat) v,vs[j]? = some v → w.cell? ((⟨b,off,none⟩ : Addr).add j) = some v:=by
 refine ⟨(List.range l.length).map fun j => (w.cell? ⟨b,off + j,none⟩).getD undef,⟨by simp,fun j x u hx hu => ?_⟩,fun j v hv => ?_⟩
 ·obtain ⟨v,hv,hr⟩:=hl j x hx
  have hj:=(List.getElem?_eq_some_iff.1 hx).1
  simp [hj,hv] at hu
  subst hu; exact hr
 ·simp only [List.getElem?_map,Option.map_eq_some_iff] at hv
  obtain ⟨i,hi,rfl⟩:=hv
  have hj : j < l.length:=by have:=(List.getElem?_eq_some_iff.1 hi).1; simpa using this
  have : i = j:=by rw [List.getElem?_range hj] at hi; cases hi; rfl
  subst this
  obtain ⟨v,hv,hr⟩:=hl i l[i] (List.getElem?_eq_getElem hj)
  rw [Addr.add_lit,hv]; rfl
theorem loadVar_snd {t : TypeId} {ag : Bool} {size b off : Nat} {l : List AV} {r : AV} (hag : aggP P t = some ag) (hsz : szP P t = some size)
  (hl : ∀ (j : Nat) x,l[j]? = some x → ∃ v,w.cell? ⟨b,off + j,none⟩ = some v ∧ Rel S φ x v) (hp : part ag size l = some r) :
  ∃ v,(loadVar t ⟨b,off,none⟩).run P w = .ok v w ∧ Rel S φ r v:=by
 unfold part at hp
 cases ag with
 |
  true =>
  simp only [if_true] at hp
  split at hp
  ·rename_i hlen
   cases hp
   obtain ⟨vs,hrel,hcell⟩:=cells_list (w:=w) (S:=S) (φ:=φ) (b:=b) (off:=off) (l:=l.take size) (fun j x hx => hl j x (by
    rw [List.getElem?_take] at hx
    split at hx
    ·exact hx
    ·cases hx))
   have hlen' : vs.length = size:=by rw [← hrel.1]; exact hlen
   have hld:=run_loadCells_list (P:=P) w ⟨b,off,none⟩ vs hcell
   rw [hlen'] at hld
   refine ⟨.agg vs.toArray,?_,Rel.agg_iff.2 (by simpa using hrel)⟩
   simp [loadVar,run_aggP hag,run_szP hsz,hld]
  ·cases hp
 |
  false =>
  simp only [Bool.false_eq_true,if_false] at hp
  rw [List.head?_eq_getElem?] at hp
  obtain ⟨v,hv,hr⟩:=hl 0 r hp
  refine ⟨v,?_,hr⟩
  rw [Nat.add_zero] at hv
  simp [loadVar,run_aggP hag,hv]
theorem row_of (H : HR P mode S φ B h w) {o : Nat} {c : List AV} (ho : rowAt h o = some c) : ∃ b z,φ o = some (b,z) ∧ ORow S φ w c b z:=by
 unfold rowAt at ho
 simp only [Option.bind_eq_some_iff] at ho
 obtain ⟨a,ha,hc⟩:=ho
 rcases H.obj o a ha with rfl | ⟨b,z,h1,h2,h3⟩
 ·simp [AO.row?] at hc
 ·refine ⟨b,z,h1,?_⟩
  cases a <;> simp [AO.row?] at hc <;> subst hc <;> exact h3
theorem ptr_cells (H : HR P mode S φ B h w) {o off : Nat} {c : List AV} (ho : rowAt h o = some c) {v : Value} (hv : Rel S φ (.ptr o off) v) :
  ∃ b,v = .pointer (some ⟨b,off,none⟩) ∧ ∀ (j : Nat) x,(c.drop off)[j]? = some x → ∃ u,w.cell? ⟨b,off + j,none⟩ = some u ∧ Rel S φ x u:=by
 obtain ⟨b,z,hb,hrow⟩:=row_of H ho
 cases hv with
 |
  ptr _ _ _ b' z' hb' =>
  rw [hb] at hb'; cases hb'
  refine ⟨b,rfl,fun j x hx => ?_⟩
  rw [List.getElem?_drop] at hx
  exact cell_row hrow hx
theorem cptr_cells (H : HR P mode S φ B h w) {l : List AV} {v : Value} (hv : Rel S φ (.cptr l) v) :
  ∃ b off,v = .pointer (some ⟨b,off,none⟩) ∧ ∀ (j : Nat) x,l[j]? = some x → ∃ u,w.cell? ⟨b,off + j,none⟩ = some u ∧ Rel S φ x u:=by
 cases hv with
 |
  cptr _ _ b off c vs hS hh hr =>
  refine ⟨b,off,rfl,fun j x hx => ?_⟩
  obtain ⟨e,fr,he⟩:=H.fro b c hS
  exact ⟨vs j,by rw [cell_of_row w b _ c e fr he]; exact hh j x hx,(hr j x hx).mono (fun _ _ h => h) _ (fun _ _ h => by cases h)⟩
theorem HR.store (H : HR P mode S φ B h w) {o off : Nat} {c vs : List AV} {us : List Value} (ho : h[o]? = some (.cells c false)) {b z : Nat} (hb : φ o = some (b,z))
  {cs : Array Value} {e : TypeId} (hcs : w.heap[b]? = some (.cells cs e (0,0))) (hfit : off + vs.length ≤ c.length) (hr : RelL S φ vs us) (lim : Nat) (hlim : lim ≤ o) (pl : Option Nat) :
  Post P mode S φ B lim h w pl S φ (h.set o (.cells (splice c off vs) false)) (w.setRow b (cs.toList.take off ++ us ++ cs.toList.drop (off + us.length)).toArray):=by
 have hl:=(List.getElem?_eq_some_iff.1 ho).1
 obtain ⟨b',z',hb',hS,hor⟩ : ∃ b z,φ o = some (b,z) ∧ S b = none ∧ ORow S φ w c b z:=by
  rcases H.obj o _ ho with hh | ⟨b,z,h1,h2,h3⟩
  ·cases hh
  ·exact ⟨b,z,h1,h2,h3⟩
 rw [hb] at hb'; cases hb'
 obtain ⟨cs',e',g1,g2,g3,g4⟩:=hor
 rw [hcs] at g1; cases g1
 have hother : ∀ k,k ≠ b → (w.setRow b (cs.toList.take off ++ us ++ cs.toList.drop (off + us.length)).toArray).heap[k]? = w.heap[k]?:=fun k hk => setRow_other w b k _ hk
 refine ⟨⟨by simpa using H.bs,?_,?_,?_,?_,?_⟩,Mp.le_refl _,fun _ _ => rfl,⟨rfl,rfl,rfl,by simp,fun k hk => hother k (by have:=(H.lt o b z hb).2; omega)⟩,by simp,?_,fun _ _ _ hn => hn⟩
 ·intro q x hx; simpa using H.dom q x hx
 ·intro q b1 z1 hq; simpa using H.lt q b1 z1 hq
 ·intro b1 c1 hs
  have : b1 ≠ b:=by intro e; subst e; rw [hS] at hs; cases hs
  obtain ⟨e1,fr,he⟩:=H.fro b1 c1 hs
  exact ⟨e1,fr,(hother b1 this).trans he⟩
 ·intro q a hq
  by_cases e1 : q = o
  ·subst e1
   simp [hl] at hq; subst hq
   refine .inr ⟨b,z,hb,hS,_,e,setRow_heap w b cs _ e _ hcs,?_,?_,?_⟩
   ·have:=hr.1; simp; omega
   ·have:=hr.1; simp [splice]; omega
   ·intro j x hx
    have hrow : RelL S φ c (cs.toList.take c.length):=by
     refine ⟨by simp; omega,fun j x u hx hu => ?_⟩
     obtain ⟨v,hv,hrv⟩:=g4 j x hx
     rw [List.getElem?_take] at hu
     split at hu
     ·have hv' : cs.toList[j]? = some v:=by simpa using hv
      rw [hv'] at hu; cases hu; exact hrv
     ·cases hu
    have hsp:=splice_rel (off:=off) hrow hr
    obtain ⟨u,hu,hru⟩:=hsp.get hx
    refine ⟨u,?_,hru⟩
    have hlen:=hr.1
    have e2 : (cs.toList.take c.length).take off = cs.toList.take off:=by rw [List.take_take]; congr 1; omega
    rw [e2] at hu
    have hjl : j < c.length:=by
     have h1:=(List.getElem?_eq_some_iff.1 hx).1
     have h2 : (splice c off vs).length = c.length:=by simp [splice]; omega
     omega
    have : (cs.toList.take off ++ us ++ (cs.toList.take c.length).drop (off + us.length))[j]? = (cs.toList.take off ++ us ++ cs.toList.drop (off + us.length))[j]?:=by
     have hAl : (cs.toList.take off ++ us).length = off + us.length:=by simp; omega
     generalize cs.toList.take off ++ us = X at hAl
     by_cases hj : j < off + us.length
     ·rw [List.getElem?_append_left (by omega),List.getElem?_append_left (by omega)]
     ·rw [List.getElem?_append_right (by omega),List.getElem?_append_right (by omega),List.getElem?_drop,List.getElem?_drop,List.getElem?_take,if_pos (by omega)]
    rw [this] at hu
    simpa using hu
  ·rw [List.getElem?_set_ne (Ne.symm e1)] at hq
   rcases H.obj q a hq with rfl | ⟨b1,z1,k1,k2,k3⟩
   ·exact .inl rfl
   ·by_cases hbb : b1 = b
    ·subst hbb
     have hsh:=H.inj o q _ a b1 z z1 ho hq hb k1 (Ne.symm e1)
     cases a with
     | tomb => exact .inl rfl
     |
      ro c' =>
      simp [mayShare] at hsh
      obtain ⟨_,rfl⟩:=hsh
      obtain ⟨cs1,e1',q1,q2,q3,q4⟩:=k3
      rw [hcs] at q1; cases q1
      refine .inr ⟨b1,z1,k1,k2,_,e,setRow_heap w b1 cs _ e _ hcs,?_,by simp,fun j x hx => by simp at hx⟩
      have:=hr.1; simp; omega
     | _ => simp [mayShare] at hsh
    ·exact .inr ⟨b1,z1,k1,k2,k3.mono (fun _ _ h => h) (Mp.le_refl _) (hother b1 hbb)⟩
 ·intro q q' a a' b1 z1 z2 hq hq' k1 k2 hne
  by_cases e1 : q = o
  ·subst e1
   simp [hl] at hq; subst hq
   rw [List.getElem?_set_ne hne] at hq'
   have:=H.inj q q' _ a' b1 z1 z2 ho hq' k1 k2 hne
   cases a' <;> simp_all [mayShare]
  ·rw [List.getElem?_set_ne (Ne.symm e1)] at hq
   by_cases e2 : q' = o
   ·subst e2
    simp [hl] at hq'; subst hq'
    have:=H.inj q q' a _ b1 z1 z2 hq ho k1 k2 hne
    cases a <;> simp_all [mayShare]
   ·rw [List.getElem?_set_ne (Ne.symm e2)] at hq'
    exact H.inj q q' a a' b1 z1 z2 hq hq' k1 k2 hne
 ·intro q hq _ _
  exact List.getElem?_set_ne (by omega)
end Go.Am
/-
Operations that read and write memory,but for calls: each.
-/
namespace Go.Am
open Go
set_option linter.unusedVariables false
set_option linter.unusedSimpArgs false
variable {P : Program} {mode : Nat → Nat → Nat} {S : Fz} {φ : Mp} {B : Nat} {h : List AO} {w : World} {ρ : Operand → Value} {τ : Opd → AV} {m : Nat → Nat}
theorem newRow_post (H : HR P mode S φ B h w) (pl : Option Nat) (hp : PlOk φ h pl) {c : List AV} {cs : Array Value} (e : TypeId) (hc : c.length ≤ cs.size)
  (hr : ∀ (j : Nat) x,c[j]? = some x → ∃ v,cs[j]? = some v ∧ Rel S φ x v) (sh : Bool) (lim : Nat) :
  Post P mode S φ B lim h w pl S (φ.set (pl.getD h.length) (w.heap.size,cs.size)) (newObj' pl h (.cells c sh)) (w.alloc (.cells cs e)):=by
 refine H.newObj pl hp _ _ lim ⟨cs,e,heap_new w _,rfl,hc,fun j x hx => ?_⟩
 obtain ⟨v,hv,hrv⟩:=hr j x hx
 exact ⟨v,hv,hrv.up (Mp.le_set _ (pl_none H.dom hp))⟩
theorem relL_row {c : List AV} {cs : Array Value} (h : RelL S φ c cs.toList) : c.length ≤ cs.size ∧ ∀ (j : Nat) x,c[j]? = some x → ∃ v,cs[j]? = some v ∧ Rel S φ x v :=
 ⟨by have:=h.1; simp at this; omega,fun j x hx => by obtain ⟨v,hv,hr⟩:=h.get hx; exact ⟨v,by simpa using hv,hr⟩⟩
theorem zeros_get (z : List AV) : ∀ (n j : Nat),j < n * z.length → (zeros n z)[j]? = z[j % z.length]?
 | 0,j,h => by omega
 |
  n + 1,j,h => by
  have e : zeros (n + 1) z = z ++ zeros n z:=by simp [zeros,List.replicate_succ]
  rw [e]
  by_cases hj : j < z.length
  ·rw [List.getElem?_append_left hj,Nat.mod_eq_of_lt hj]
  ·rw [List.getElem?_append_right (by omega),zeros_get z n _ (by rw [Nat.add_mul] at h; omega)]
   congr 1
   rw [Nat.mod_eq_sub_mod (a:=j) (by omega)]
theorem zeros_len (z : List AV) (n : Nat) : (zeros n z).length = n * z.length:=by simp [zeros]
theorem zeros_row {z : List AV} {zv : Array Value} (hz : RelL S φ z zv.toList) (n k : Nat) (hk : n * z.length ≤ k) {f : Nat → Value} (hf : ∀ j,j < n * z.length → f j = zv[j % zv.size]!) :
  ∀ (j : Nat) x,(zeros n z)[j]? = some x → ∃ v,((Array.range k).map f)[j]? = some v ∧ Rel S φ x v:=by
 intro j x hx
 have hj:=(List.getElem?_eq_some_iff.1 hx).1
 rw [zeros_len] at hj
 rw [zeros_get z n j hj] at hx
 obtain ⟨v,hv,hr⟩:=hz.get hx
 have hl : z.length = zv.size:=by have:=hz.1; simpa using this
 refine ⟨v,?_,hr⟩
 have hv' : zv[j % zv.size]? = some v:=by rw [← hl]; simpa using hv
 have : f j = v:=by rw [hf j hj,getElem!_def,hv']
 simp [show j < k by omega,this]
theorem szP_info {t : TypeId} {n : Nat} (h : szP P t = some n) : ∃ i,P.info? t = some i ∧ i.size = n:=by
 simp only [szP,Option.map_eq_some_iff] at h
 exact h
theorem zeroP_info {t : TypeId} {z : AV} {i : TypeInfo} (h : zeroP P t = some z) (hi : P.info? t = some i) : ∃ v,i.zero = some v ∧ ∀ S φ,Rel S φ z v:=by
 simp only [zeroP,hi,Option.bind_some,Option.bind_eq_some_iff] at h
 obtain ⟨v,hz,ha⟩:=h
 exact ⟨v,hz,fun S φ => toAV_rel 2 v z ha⟩
theorem rowOf_list (H : HR P mode S φ B h w) {x : AV} {v : Value} {xs : List AV} (hv : Rel S φ x v) (hx : rowOf h x = some xs) :
  (∃ n,lenOf x = some n ∧ ((xs = [] ∧ ∃ a cap,v = .slice a n cap) ∨
   ∃ b off cap vs,v = .slice (some ⟨b,off,none⟩) n cap ∧ RelL S φ xs vs ∧ ∀ (j : Nat) u,vs[j]? = some u → w.cell? ((⟨b,off,none⟩ : Addr).add j) = some u)):=by
 unfold rowOf at hx
 split at hx
 ·cases hx; cases hv; exact ⟨0,rfl,.inl ⟨rfl,_,_,rfl⟩⟩
 ·cases hx
  cases hv with
  | cs0 _ esz a cap => exact ⟨0,rfl,.inl ⟨rfl,_,_,rfl⟩⟩
  |
   cs _ esz len cells b off cap c vs hS hl hc hh hr =>
   obtain ⟨e,fr,he⟩:=H.fro b c hS
   obtain ⟨us,h1,h2⟩:=cells_list (w:=w) (S:=S) (φ:=φ) (b:=b) (off:=off) (l:=xs) (fun j x hj =>
    ⟨vs j,by rw [cell_of_row w b _ c e fr he]; exact hh j x hj,(hr j x hj).mono (fun _ _ h => h) _ (fun _ _ h => by cases h)⟩)
   exact ⟨_,rfl,.inr ⟨b,off,cap,us,rfl,h1,h2⟩⟩
 ·rename_i esz o off len
  split at hx
  ·rename_i c hc
   simp only at hx
   split at hx
   ·rename_i hlen
    cases hx
    cases hv with
    |
     ms _ _ _ _ _ b z cap hb hcap hz =>
     obtain ⟨b',z',hb',hrow⟩:=row_of H hc
     rw [hb] at hb'; cases hb'
     obtain ⟨us,h1,h2⟩:=cells_list (w:=w) (S:=S) (φ:=φ) (b:=b) (off:=off) (l:=(c.drop off).take (len * esz)) (fun j x hj => by
      rw [List.getElem?_take] at hj
      split at hj
      ·rw [List.getElem?_drop] at hj; exact cell_row hrow hj
      ·cases hj)
     exact ⟨_,rfl,.inr ⟨b,off,cap,us,rfl,h1,h2⟩⟩
   ·cases hx
  ·cases hx
 ·rename_i esz o off len room
  split at hx
  ·rename_i c hc
   simp only at hx
   split at hx
   ·rename_i hlen
    cases hx
    cases hv with
    |
     mr _ _ _ _ _ _ b z cap hb hl0 hc0 hz =>
     obtain ⟨b',z',hb',hrow⟩:=row_of H hc
     rw [hb] at hb'; cases hb'
     obtain ⟨us,h1,h2⟩:=cells_list (w:=w) (S:=S) (φ:=φ) (b:=b) (off:=off) (l:=(c.drop off).take (len * esz)) (fun j x hj => by
      rw [List.getElem?_take] at hj
      split at hj
      ·rw [List.getElem?_drop] at hj; exact cell_row hrow hj
      ·cases hj)
     exact ⟨_,rfl,.inr ⟨b,off,cap,us,rfl,h1,h2⟩⟩
   ·cases hx
  ·cases hx
 ·cases hx
end Go.Am
/-
An append in place.
-/
namespace Go.Am
open Go
set_option linter.unusedVariables false
set_option linter.unusedSimpArgs false
variable {P : Program} {mode : Nat → Nat → Nat} {S : Fz} {φ : Mp} {B : Nat} {h : List AO} {w : World} {ρ : Operand → Value} {τ : Opd → AV} {m : Nat → Nat}
theorem run_append_room' (t ty e e' : TypeId) (i : TypeInfo) (ht : P.underlying t = some (.slice e)) (hi : P.info? e = some i)
  (g sLen sCap : Nat) (cur : Array Value) (hg : w.heap[g]? = some (.cells cur e' (0,0)))
  (a : Addr) (m c : Nat) (news : List Value) (hl : news.length = m * i.size) (hnews : ∀ (j : Nat) u,news[j]? = some u → w.cell? (a.add j) = some u) (h1 : ∀ u ∈ news,u.oneCell' = true)
  (hroom : sLen + m ≤ sCap) (hfit : sLen * i.size + news.length ≤ cur.size) :
  (Builtin.append_ #[t,t] ty #[.slice (some ⟨g,0,none⟩) sLen sCap,.slice (some a) m c]).run P w =
   .ok (.slice (some ⟨g,0,none⟩) (sLen + m) sCap) (w.setRow g (cur.toList.take (sLen * i.size) ++ news ++ cur.toList.drop (sLen * i.size + news.length)).toArray):=by
 have hf:=run_firstCells_some (P:=P) w i.size m a m c news hl hnews
 have hst:=run_storeCells_at P g (sLen * i.size) e' news 0 cur w hg (by simpa using hfit) h1
 simp only [Nat.add_zero] at hst
 simp [Builtin.append_,run_underlying ht,sizeOf,typeInfo,hi,Builtin.lenOf,hroom,hf,Addr.add_lit,hst]
theorem HR.inPlace (H : HR P mode S φ B h w) (pl : Option Nat) (hp : PlOk φ h pl) {o k : Nat} {c xs : List AV} {us : List Value} {sh keep sh' : Bool} (ho : h[o]? = some (.cells c sh)) {b z : Nat} (hb : φ o = some (b,z))
  {cs : Array Value} {e : TypeId} (hcs : w.heap[b]? = some (.cells cs e (0,0))) (hk : k ≤ c.length) (hfull : k = c.length ∨ (keep = false ∧ sh = false)) (hfit : k + xs.length ≤ z) (hr : RelL S φ xs us)
  (hsh : sh = true → sh' = true) (hkeep : keep = true → c = [] ∨ sh' = true) (lim : Nat) (hlim : lim ≤ o) :
  Post P mode S φ B lim h w pl S (φ.set (pl.getD h.length) (b,z)) (newObj' pl (h.set o (if keep then .ro c else .tomb)) (.cells (c.take k ++ xs) sh')) (w.setRow b (cs.toList.take k ++ us ++ cs.toList.drop (k + us.length)).toArray):=by
 have hl:=(List.getElem?_eq_some_iff.1 ho).1
 obtain ⟨b',z',hb',hS,hor⟩ : ∃ b z,φ o = some (b,z) ∧ S b = none ∧ ORow S φ w c b z:=by
  rcases H.obj o _ ho with hh | ⟨b,z,h1,h2,h3⟩
  ·cases hh
  ·exact ⟨b,z,h1,h2,h3⟩
 rw [hb] at hb'; cases hb'
 obtain ⟨cs',e',g1,g2,g3,g4⟩:=hor
 rw [hcs] at g1; cases g1
 have hn:=pl_none H.dom hp
 have hle:=Mp.le_set (b,z) hn
 have hne : pl.getD h.length ≠ o:=by intro e1; rw [e1,hb] at hn; cases hn
 have hp' : PlOk φ (h.set o (if keep then AO.ro c else .tomb)) pl:=⟨fun i hi => by simpa using hp.ok i hi⟩
 have hlen : (h.set o (if keep then AO.ro c else .tomb)).length = h.length:=by simp
 have hother : ∀ q,q ≠ b → (w.setRow b (cs.toList.take k ++ us ++ cs.toList.drop (k + us.length)).toArray).heap[q]? = w.heap[q]?:=fun q hq => setRow_other w b q _ hq
 have hlen2:=hr.1
 have hX : (cs.toList.take k ++ us ++ cs.toList.drop (k + us.length)).length = cs.size:=by simp; omega
 have hget : ∀ j,j < k → (cs.toList.take k ++ us ++ cs.toList.drop (k + us.length))[j]? = cs.toList[j]?:=by
  intro j hj
  rw [List.append_assoc,List.getElem?_append_left (by simp; omega),List.getElem?_take,if_pos hj]
 have hset:=setRow_heap w b cs (cs.toList.take k ++ us ++ cs.toList.drop (k + us.length)).toArray e _ hcs
 have hshare : ∀ q a b1 z1,h[q]? = some a → φ q = some (b1,z1) → q ≠ o → b1 = b → a = .tomb ∨ ∃ c',a = .ro c' ∧ c'.length ≤ c.length ∧ (c' = [] ∨ (sh = true ∧ c'.length ≤ k)):=by
  intro q a b1 z1 hq hq2 hqo hbb
  subst hbb
  have hm:=H.inj o q _ a b1 z z1 ho hq hb hq2 (Ne.symm hqo)
  cases a with
  | tomb => exact .inl rfl
  |
   ro c' =>
   simp [mayShare] at hm
   refine .inr ⟨c',rfl,hm.1,hm.2.imp id fun e1 => ⟨e1,?_⟩⟩
   rcases hfull with rfl | ⟨_,e2⟩
   ·exact hm.1
   ·rw [e1] at e2; cases e2
  | _ => simp [mayShare] at hm
 refine ⟨⟨by simpa using H.bs,?_,?_,?_,?_,?_⟩,hle,fun _ _ => rfl,⟨rfl,rfl,rfl,by simp,fun q hq => hother q (by have:=(H.lt o b z hb).2; omega)⟩,?_,?_,?_⟩
 ·intro q x hx
  by_cases e1 : q = pl.getD h.length
  ·subst e1
   have:=pl_lt (pl:=pl) hp' (AO.cells (c.take k ++ xs) sh')
   rwa [hlen] at this
  ·rw [Mp.set_other _ _ e1] at hx
   have:=H.dom q x hx
   have h2:=newObj'_len pl (h.set o (if keep then AO.ro c else .tomb)) (AO.cells (c.take k ++ xs) sh')
   rw [hlen] at h2; omega
 ·intro q b1 z1 hx
  by_cases e1 : q = pl.getD h.length
  ·subst e1; rw [Mp.set_same] at hx; cases hx; simpa using H.lt o _ _ hb
  ·rw [Mp.set_other _ _ e1] at hx; simpa using H.lt q b1 z1 hx
 ·intro b1 c1 hs
  have : b1 ≠ b:=by intro e1; subst e1; rw [hS] at hs; cases hs
  obtain ⟨e1,fr,he⟩:=H.fro b1 c1 hs
  exact ⟨e1,fr,(hother b1 this).trans he⟩
 ·intro q a hq
  by_cases e1 : q = pl.getD h.length
  ·subst e1
   have h0:=newObj'_get pl (h.set o (if keep then AO.ro c else .tomb)) (AO.cells (c.take k ++ xs) sh') hp'
   rw [hlen] at h0
   rw [h0] at hq; cases hq
   refine .inr ⟨b,z,Mp.set_same _ _ _,hS,_,e,hset,by simpa using hX.trans g2,by simp; omega,fun j x hx => ?_⟩
   by_cases hj : j < k
   ·rw [List.getElem?_append_left (by simp; omega),List.getElem?_take,if_pos hj] at hx
    obtain ⟨v,hv,hrv⟩:=g4 j x hx
    refine ⟨v,?_,hrv.up hle⟩
    have h1:=hget j hj
    simp only [List.getElem?_toArray]
    rw [h1]; simpa using hv
   ·rw [List.getElem?_append_right (by simp; omega)] at hx
    simp only [List.length_take,Nat.min_eq_left hk] at hx
    obtain ⟨u,hu,hru⟩:=hr.get hx
    refine ⟨u,?_,hru.up hle⟩
    have hju:=(List.getElem?_eq_some_iff.1 hu).1
    have hkk : (cs.toList.take k).length = k:=by simp; omega
    simp only [List.getElem?_toArray,List.append_assoc]
    rw [List.getElem?_append_right (by omega),hkk,List.getElem?_append_left hju]
    exact hu
  ·have h0:=newObj'_other pl (h.set o (if keep then AO.ro c else .tomb)) (AO.cells (c.take k ++ xs) sh') (o:=q) (by rw [hlen]; exact e1)
   rw [h0] at hq
   rw [Mp.set_other _ _ e1]
   by_cases e2 : q = o
   ·subst e2
    simp [hl] at hq
    cases keep with
    | false => simp at hq; exact .inl hq.symm
    |
     true =>
     simp at hq; subst hq
     obtain rfl : k = c.length:=by rcases hfull with e3 | ⟨e3,_⟩; exact e3; cases e3
     refine .inr ⟨b,z,hb,hS,_,e,hset,by simpa using hX.trans g2,g3,fun j x hx => ?_⟩
     obtain ⟨v,hv,hrv⟩:=g4 j x hx
     refine ⟨v,?_,hrv.up hle⟩
     have h1:=hget j (List.getElem?_eq_some_iff.1 hx).1
     simp only [List.getElem?_toArray]
     rw [h1]; simpa using hv
   ·rw [List.getElem?_set_ne (Ne.symm e2)] at hq
    rcases H.obj q a hq with rfl | ⟨b1,z1,k1,k2,k3⟩
    ·exact .inl rfl
    ·by_cases hbb : b1 = b
     ·subst hbb
      rcases hshare q a b1 z1 hq k1 e2 rfl with rfl | ⟨c',rfl,hc1,hc2⟩
      ·exact .inl rfl
      ·obtain ⟨cs1,e1',q1,q2,q3,q4⟩:=k3
       rw [hcs] at q1; cases q1
       refine .inr ⟨b1,z1,k1,k2,_,e,hset,by simpa using hX.trans q2,q3,fun j x hx => ?_⟩
       rcases hc2 with rfl | ⟨_,hc3⟩
       ·simp at hx
       ·obtain ⟨v,hv,hrv⟩:=q4 j x hx
        refine ⟨v,?_,hrv.up hle⟩
        have h1:=hget j (by have:=(List.getElem?_eq_some_iff.1 hx).1; omega)
        simp only [List.getElem?_toArray]
        rw [h1]; simpa using hv
     ·exact .inr ⟨b1,z1,k1,k2,k3.mono (fun _ _ h => h) hle (hother b1 hbb)⟩
 ·-- which share
  have hnew : ∀ q a b1 z1,q ≠ pl.getD h.length → (newObj' pl (h.set o (if keep then AO.ro c else .tomb)) (AO.cells (c.take k ++ xs) sh'))[q]? = some a → φ q = some (b1,z1) → b1 = b → mayShare (.cells (c.take k ++ xs) sh') a:=by
   intro q a b1 z1 hq1 hq2 hq3 hbb
   subst hbb
   rw [newObj'_other pl _ _ (by rw [hlen]; exact hq1)] at hq2
   by_cases e2 : q = o
   ·subst e2
    simp [hl] at hq2
    cases keep with
    | false => simp at hq2; subst hq2; trivial
    |
     true =>
     simp at hq2; subst hq2
     obtain rfl : k = c.length:=by rcases hfull with e3 | ⟨e3,_⟩; exact e3; cases e3
     exact ⟨by simp,hkeep rfl⟩
   ·rw [List.getElem?_set_ne (Ne.symm e2)] at hq2
    rcases hshare q a b1 z1 hq2 hq3 e2 rfl with rfl | ⟨c',rfl,hc1,hc2⟩
    ·trivial
    ·refine ⟨?_,hc2.imp id fun hc3 => hsh hc3.1⟩
     rcases hc2 with rfl | ⟨_,hc3⟩
     ·simp
     ·simp; omega
  intro q q' a a' b1 z1 z2 hq hq' k1 k2 hqq
  by_cases e1 : q = pl.getD h.length
  ·have e2 : q' ≠ pl.getD h.length:=fun e2 => hqq (e1.trans e2.symm)
   have h0:=newObj'_get pl (h.set o (if keep then AO.ro c else .tomb)) (AO.cells (c.take k ++ xs) sh') hp'
   rw [hlen] at h0
   rw [e1] at hq k1
   rw [h0] at hq; cases hq
   rw [Mp.set_same] at k1; cases k1
   rw [Mp.set_other _ _ e2] at k2
   exact hnew q' a' _ _ e2 hq' k2 rfl
  ·rw [Mp.set_other _ _ e1] at k1
   by_cases e2 : q' = pl.getD h.length
   ·have h0:=newObj'_get pl (h.set o (if keep then AO.ro c else .tomb)) (AO.cells (c.take k ++ xs) sh') hp'
    rw [hlen] at h0
    rw [e2] at hq' k2
    rw [h0] at hq'; cases hq'
    rw [Mp.set_same] at k2; cases k2
    exact mayShare_comm (hnew q a _ _ e1 hq k1 rfl)
   ·rw [Mp.set_other _ _ e2] at k2
    rw [newObj'_other pl _ _ (by rw [hlen]; exact e1)] at hq
    rw [newObj'_other pl _ _ (by rw [hlen]; exact e2)] at hq'
    by_cases e3 : q = o
    ·subst e3
     simp [hl] at hq
     rw [List.getElem?_set_ne hqq] at hq'
     cases keep with
     | false => simp at hq; subst hq; trivial
     |
      true =>
      simp at hq; subst hq
      rw [hb] at k1; cases k1
      rcases hshare q' a' _ _ hq' k2 (Ne.symm hqq) rfl with rfl | ⟨c',rfl,_,_⟩ <;> trivial
    ·rw [List.getElem?_set_ne (Ne.symm e3)] at hq
     by_cases e4 : q' = o
     ·subst e4
      simp [hl] at hq'
      cases keep with
      | false => simp at hq'; subst hq'; cases a <;> trivial
      |
       true =>
       simp at hq'; subst hq'
       rw [hb] at k2; cases k2
       rcases hshare q a _ _ hq k1 e3 rfl with rfl | ⟨c',rfl,_,_⟩ <;> trivial
     ·rw [List.getElem?_set_ne (Ne.symm e4)] at hq'
      exact H.inj q q' a a' b1 z1 z2 hq hq' k1 k2 hqq
 ·have h2:=newObj'_len pl (h.set o (if keep then AO.ro c else .tomb)) (AO.cells (c.take k ++ xs) sh')
  rw [hlen] at h2; exact h2
 ·intro q hq hq2 hpq
  have e1 : q ≠ pl.getD h.length:=by
   cases pl with
   | none => simp; omega
   | some i => simp at hpq ⊢; exact hpq
  rw [newObj'_other pl _ _ (by rw [hlen]; exact e1)]
  exact List.getElem?_set_ne (by omega)
 ·intro q hq hpq hnn
  rw [Mp.set_other]
  ·exact hnn
  ·cases pl with
   | none => simp; omega
   | some i => simp at hpq ⊢; exact hpq
end Go.Am
/-
Operations that read and write memory,but for calls: all of them.
-/
namespace Go.Am
open Go
set_option linter.unusedVariables false
set_option linter.unusedSimpArgs false
variable {P : Program} {mode : Nat → Nat → Nat} {S : Fz} {φ : Mp} {B : Nat} {h : List AO} {w : World} {ρ : Operand → Value} {τ : Opd → AV} {m : Nat → Nat}
theorem partsI_snd (hρ : ∀ x y,cOpd x = some y → Rel S φ (τ y) (ρ x)) (s : Nat) : ∀ (ps : List (Nat × Operand)) (l : List (Nat × Opd)),cPartsI ps = some l →
  l.length = ps.length ∧ ∀ (j : Nat) p q,(l.map fun (i,x) => (i * s,s,τ x))[j]? = some p → (ps.map fun (i,x) => (i,ρ x))[j]? = some q → some (q.1 * s,s) = some (p.1,p.2.1) ∧ Rel S φ p.2.2 q.2
 | [],l,h => by simp [cPartsI] at h; subst h; exact ⟨rfl,fun j p q hp => by simp at hp⟩
 |
  (i,x) :: r,l,h => by
  simp only [cPartsI,Option.bind_eq_bind,Option.bind_eq_some_iff,Option.some.injEq] at h
  obtain ⟨y,hy,l',hl',rfl⟩:=h
  obtain ⟨h1,h2⟩:=partsI_snd hρ s r l' hl'
  refine ⟨by simp [h1],fun j p q hp hq => ?_⟩
  cases j with
  | zero => simp at hp hq; subst hp; subst hq; exact ⟨rfl,hρ x y hy⟩
  | succ j => simp at hp hq; exact h2 j p q (by simpa using hp) (by simpa using hq)
theorem rel_same_cells {S : Fz} {φ : Mp} {r : List AV} {xs : List AV} {us : List Value} (hr : RelL S φ xs us) (hs : xs.all AV.scalar = true) : ∀ u ∈ us,u.oneCell' = true:=by
 intro u hu
 obtain ⟨j,hj⟩:=List.mem_iff_getElem?.1 hu
 have hjl:=(List.getElem?_eq_some_iff.1 hj).1
 have : j < xs.length:=by rw [hr.1]; exact hjl
 have hx:=List.getElem?_eq_getElem this
 exact (hr.2 j _ u hx hj).one (List.all_eq_true.1 hs _ (List.getElem_mem this))
theorem append_snd (H : HR P mode S φ B h w) {lim : Nat} (pl : Option Nat) (hp : PlOk φ h pl) {t ty e : TypeId} {esz eb : Nat} {z : AV} {keep : Bool} (ht : P.underlying t = some (.slice e)) (hz : zeroP P e = some z) (hs : szP P e = some esz) (hb : ebP P e = some eb)
  (hzs : z.cells.length = esz) (hs1 : 1 ≤ esz) {s x : Opd} {sv xv : Value} (rs : Rel S φ (τ s) sv) (rx : Rel S φ (τ x) xv) {call : Callee} {r : AV} {h' : List AO}
  (hx : exOp call lim pl τ h (.append keep esz eb s x) = some (r,h')) :
  ∃ v w' φ',(Builtin.append_ #[t,t] ty #[sv,xv]).run P w = .ok v w' ∧ Rel S φ' r v ∧ Post P mode S φ B lim h w pl S φ' h' w':=by
 obtain ⟨i,hi,hisz⟩:=szP_info hs
 obtain ⟨zv,hzv,hzr⟩:=zeroP_info hz hi
 have hib : i.bytes = eb:=by simp only [ebP,hi,Option.map_some,Option.some.injEq] at hb; exact hb
 simp only [exOp] at hx
 split at hx
 ·rename_i sl n xs hsl hn hxs
  split at hx
  ·rename_i hxl
   have hrow:=rowOf_list H rx hxs
   obtain ⟨n',hn',hrow⟩:=hrow
   rw [hn] at hn'; cases hn'
   split at hx
   ·rename_i hn0
    subst hn0
    cases hx
    refine ⟨sv,w,φ,?_,rs,Post.refl H lim pl⟩
    have hsv : ∃ a l c,sv = .slice a l c ∧ l ≤ c ∧ l = sl:=by
     cases hs' : τ s <;> rw [hs'] at rs hsl <;> simp [lenOf] at hsl
     ·cases rs; exact ⟨_,_,_,rfl,Nat.le_refl _,by omega⟩
     ·cases rs with
      | cs0 => exact ⟨_,_,_,rfl,by omega,by omega⟩
      | cs _ _ _ _ _ _ _ _ _ _ _ hc => exact ⟨_,_,_,rfl,hc,by omega⟩
     ·cases rs with | ms _ _ _ _ _ _ _ _ _ hc _ => exact ⟨_,_,_,rfl,hc,by omega⟩
     ·cases rs with | mc _ _ _ _ _ _ _ _ _ => exact ⟨_,_,_,rfl,Nat.le_refl _,by omega⟩
     ·cases rs with | mr _ _ _ _ _ _ _ _ _ _ hl hc _ => exact ⟨_,_,_,rfl,Nat.le_trans hl hc,by omega⟩
    obtain ⟨a,l,c,rfl,hlc,_⟩:=hsv
    have hxv : ∃ a' c',xv = .slice a' 0 c':=by
     rcases hrow with ⟨_,a',c',rfl⟩ | ⟨b,off,cap,vs,rfl,_,_⟩ <;> exact ⟨_,_,rfl⟩
    obtain ⟨a',c',rfl⟩:=hxv
    cases a <;> cases a' <;> simp [Builtin.append_,run_underlying ht,sizeOf,typeInfo,hi,Builtin.lenOf,hlc,Builtin.firstCells,loadCells,loadCellsFrom,storeCells]
   ·rename_i hn0
    split at hx
    ·rename_i hc
     obtain ⟨hbig,heb,hsc⟩:=hc
     obtain ⟨b,off,cap,us,rfl,hus,hcell⟩ : ∃ b off cap vs,xv = .slice (some ⟨b,off,none⟩) n cap ∧ RelL S φ xs vs ∧ ∀ (j : Nat) u,vs[j]? = some u → w.cell? ((⟨b,off,none⟩ : Addr).add j) = some u:=by
      rcases hrow with ⟨hxe,_⟩ | h0
      ·have h1 : 1 ≤ n * esz:=Nat.mul_pos (by omega) hs1
       rw [hxe] at hxl; simp only [List.length_nil] at hxl; omega
      ·exact h0
     have hul : us.length = n * i.size:=by rw [← hus.1,hxl,hisz]
     have hone:=rel_same_cells (r:=xs) hus hsc
     have hbytes : (sl + n) * i.bytes ≤ 140737488355328:=by rw [hib]; exact hbig
     have hn63 : sl + n ≤ 140737488355328:=Nat.le_trans (Nat.le_mul_of_pos_right _ (by omega)) hbig
     split at hx
     ·rename_i hsn
      rw [hsn] at rs hsl; cases rs
      simp [lenOf] at hsl; subst hsl
      cases hx
      have hr:=run_append_nil (P:=P) w t ty e i zv ht hi hzv ⟨b,off,none⟩ n cap us hul hcell (by omega) (by omega) (by rw [Nat.zero_add] at hbytes; omega)
      rw [newAt_eq]
      have hrow2 : ∀ (j : Nat) x,xs[j]? = some x → ∃ v,(us.toArray ++ Builtin.zeroCells zv.cells (grownCap w n 0 e - n))[j]? = some v ∧ Rel S φ x v:=by
       intro j x hx
       obtain ⟨u,hu,hru⟩:=hus.get hx
       refine ⟨u,?_,hru⟩
       have:=(List.getElem?_eq_some_iff.1 hu).1
       rw [Array.getElem?_append_left (by simpa using this)]
       simpa using hu
      have hp2:=newRow_post (H.heap (w':=w.drew) rfl) pl hp e (c:=xs) (cs:=us.toArray ++ Builtin.zeroCells zv.cells (grownCap w n 0 e - n)) (by simp; rw [hus.1]; omega) hrow2 false lim
      have hzz : zv.cells.size = i.size:=by
       have h1:=(hzr S φ).cells.1
       rw [hzs] at h1; simp at h1; omega
      refine ⟨_,_,_,hr,?_,⟨hp2.hr,hp2.le,hp2.sle,⟨rfl,rfl,rfl,by simp,fun q hq => hp2.fx.old q hq⟩,hp2.len,hp2.keep,hp2.none⟩⟩
      refine .ms _ _ _ _ _ _ _ _ (Mp.set_same _ _ _) (grownCap_ge w n 0 e) ?_
      simp only [Array.size_append,List.size_toArray,size_zeroCells,hzz,hul,hisz,Nat.zero_add]
      rw [← Nat.add_mul]
      have:=grownCap_ge w n 0 e
      exact Nat.mul_le_mul_right _ (by omega)
     ·rename_i e' o off' len hsm
      rw [hsm] at rs hsl
      simp [lenOf] at hsl; subst hsl
      split at hx
      ·rename_i c sh hco
       split at hx
       ·rename_i hcc
        obtain ⟨he,hoff,hlim,hfull⟩:=hcc
        subst he; subst hoff
        cases hx
        cases rs with
        |
         ms _ _ _ _ _ b1 z1 cap1 hb1 hcap1 hz1 =>
         obtain ⟨bb,zz,hbb,hSb,hor⟩ : ∃ b z,φ o = some (b,z) ∧ S b = none ∧ ORow S φ w c b z:=by
          rcases H.obj o _ hco with hh | ⟨b,z,h1,h2,h3⟩
          ·cases hh
          ·exact ⟨b,z,h1,h2,h3⟩
         rw [hb1] at hbb; cases hbb
         obtain ⟨cs,e2,g1,g2,g3,g4⟩:=hor
         have hk : len * e' ≤ c.length:=by rcases hfull with h0 | h0 <;> omega
         by_cases hroom : len + n ≤ cap1
         ·-- in place
          have hmul : (len + n) * e' ≤ cap1 * e':=Nat.mul_le_mul_right _ hroom
          rw [Nat.add_mul] at hmul
          have hr:=run_append_room' (P:=P) (w:=w) t ty e e2 i ht hi b1 len cap1 cs g1 ⟨b,off,none⟩ n cap us hul hcell hone hroom (by rw [hul,hisz]; omega)
          have hp2:=H.inPlace pl hp (k:=len * e') (xs:=xs) (us:=us) (keep:=keep) (sh':=(keep && len != 0) || sh) hco hb1 g1 hk (by
           rcases hfull with h0 | ⟨h0,h1,_⟩
           ·exact .inl h0
           ·exact .inr ⟨h0,h1⟩) (by rw [hxl]; omega) hus (by intro h0; simp [h0]) (by
           intro h0
           subst h0
           by_cases hl0 : len = 0
           ·subst hl0
            rcases hfull with h1 | ⟨h1,_⟩
            ·left; exact List.eq_nil_of_length_eq_zero (by omega)
            ·cases h1
           ·right; simp [hl0]) lim hlim
          rw [hisz] at hr
          exact ⟨_,_,_,hr,.ms _ _ _ _ _ _ _ _ (Mp.set_same _ _ _) hroom hz1,hp2⟩
         ·-- into a new block
          have holds : ∀ (j : Nat) v,(cs.toList.take (len * i.size))[j]? = some v → w.cell? ((⟨b1,0,none⟩ : Addr).add j) = some v:=by
           intro j v hv
           rw [List.getElem?_take] at hv
           split at hv
           ·rw [Addr.add_lit,Nat.zero_add,cell_of_row w b1 j cs e2 (0,0) g1]; simpa using hv
           ·cases hv
          have hcz : len * i.size ≤ cs.size:=by rw [hisz]; omega
          have hr:=run_append_grow (P:=P) w t ty e i zv ht hi hzv ⟨b1,0,none⟩ len cap1 (cs.toList.take (len * i.size)) (by simp; omega) holds ⟨b,off,none⟩ n cap us hul hcell (by omega) (by omega)
           (growslice_fits (by omega) (by omega))
          have hzz : zv.cells.size = i.size:=by
           have h1:=(hzr S φ).cells.1
           rw [hzs] at h1; simp at h1; omega
          have Hd:=H.heap (w':=w.drew) rfl
          have H2 : HR P mode S φ B (h.set o (if keep then .ro c else .tomb)) w.drew:=by
           cases keep with
           | true => exact Hd.toRo hco
           | false => exact Hd.bury hco
          have hp3 : PlOk φ (h.set o (if keep then AO.ro c else .tomb)) pl:=⟨fun i hi => by simpa using hp.ok i hi⟩
          have hlen3 : (h.set o (if keep then AO.ro c else .tomb)).length = h.length:=by simp
          have hrow2 : ∀ (j : Nat) x,(c.take (len * e') ++ xs)[j]? = some x → ∃ v,((cs.toList.take (len * i.size)).toArray ++ us.toArray ++ Builtin.zeroCells zv.cells (grownCap w (len + n) cap1 e - (len + n)))[j]? = some v ∧ Rel S φ x v:=by
           intro j x hx
           have hA : RelL S φ (c.take (len * e') ++ xs) (cs.toList.take (len * i.size) ++ us):=by
            refine RelL.append ⟨by simp [hisz]; omega,fun j x u hx hu => ?_⟩ hus
            rw [List.getElem?_take] at hx hu
            split at hx
            ·rw [if_pos (by rw [hisz]; assumption)] at hu
             obtain ⟨v,hv,hrv⟩:=g4 j x hx
             have : cs.toList[j]? = some v:=by simpa using hv
             rw [this] at hu; cases hu; exact hrv
            ·cases hx
           obtain ⟨u,hu,hru⟩:=hA.get hx
           refine ⟨u,?_,hru⟩
           have:=(List.getElem?_eq_some_iff.1 hu).1
           rw [Array.getElem?_append_left (by simpa using this),List.append_toArray]
           simpa using hu
          have hp2:=newRow_post H2 pl hp3 e (c:=c.take (len * e') ++ xs) (cs:=(cs.toList.take (len * i.size)).toArray ++ us.toArray ++ Builtin.zeroCells zv.cells (grownCap w (len + n) cap1 e - (len + n))) (by
           simp; rw [hus.1,hisz]; omega) hrow2 ((keep && len != 0) || sh) lim
          rw [hlen3] at hp2
          refine ⟨_,_,_,hr,?_,⟨hp2.hr,hp2.le,hp2.sle,⟨rfl,rfl,rfl,by simp,fun q hq => hp2.fx.old q hq⟩,?_,?_,?_⟩⟩
          ·refine .ms _ _ _ _ _ _ _ _ (Mp.set_same _ _ _) (grownCap_ge w (len + n) cap1 e) ?_
           simp only [Array.size_append,List.size_toArray,size_zeroCells,hzz,hul,hisz,Nat.zero_add,List.length_take,Array.length_toList]
           have h5 : min (len * e') cs.size = len * e':=by omega
           rw [h5,← Nat.add_mul,← Nat.add_mul]
           have:=grownCap_ge w (len + n) cap1 e
           exact Nat.mul_le_mul_right _ (by omega)
          ·have:=hp2.len; rw [hlen3] at this; exact this
          ·intro q hq hq2 hpq
           rw [hp2.keep q hq (by rw [hlen3]; exact hq2) hpq]
           exact List.getElem?_set_ne (by omega)
          ·intro q hq hpq hnn
           exact hp2.none q (by rw [hlen3]; exact hq) hpq hnn
       ·cases hx
      ·cases hx
     ·rename_i e' o off' len hsm
      rw [hsm] at rs hsl
      simp [lenOf] at hsl; subst hsl
      split at hx
      ·rename_i c hco
       split at hx
       ·rename_i hcc
        obtain ⟨he,hoff,hk⟩:=hcc
        subst he; subst hoff
        cases hx
        cases rs with
        |
         mc _ _ _ _ _ b1 z1 hb1 hz1 =>
         obtain ⟨bb,zz,hbb,hor⟩:=row_of H hco
         rw [hb1] at hbb; cases hbb
         obtain ⟨cs,e2,g1,g2,g3,g4⟩:=hor
         have holds : ∀ (j : Nat) v,(cs.toList.take (len * i.size))[j]? = some v → w.cell? ((⟨b1,0,none⟩ : Addr).add j) = some v:=by
          intro j v hv
          rw [List.getElem?_take] at hv
          split at hv
          ·rw [Addr.add_lit,Nat.zero_add,cell_of_row w b1 j cs e2 (0,0) g1]; simpa using hv
          ·cases hv
         have hcz : len * i.size ≤ cs.size:=by rw [hisz]; omega
         have hr:=run_append_grow (P:=P) w t ty e i zv ht hi hzv ⟨b1,0,none⟩ len len (cs.toList.take (len * i.size)) (by simp; omega) holds ⟨b,off,none⟩ n cap us hul hcell (by omega) (by omega)
          (growslice_fits (by omega) (by omega))
         have hzz : zv.cells.size = i.size:=by
          have h1:=(hzr S φ).cells.1
          rw [hzs] at h1; simp at h1; omega
         have hrow2 : ∀ (j : Nat) x,(c.take (len * e') ++ xs)[j]? = some x → ∃ v,((cs.toList.take (len * i.size)).toArray ++ us.toArray ++ Builtin.zeroCells zv.cells (grownCap w (len + n) len e - (len + n)))[j]? = some v ∧ Rel S φ x v:=by
          intro j x hx
          have hA : RelL S φ (c.take (len * e') ++ xs) (cs.toList.take (len * i.size) ++ us):=by
           refine RelL.append ⟨by simp [hisz]; omega,fun j x u hx hu => ?_⟩ hus
           rw [List.getElem?_take] at hx hu
           split at hx
           ·rw [if_pos (by rw [hisz]; assumption)] at hu
            obtain ⟨v,hv,hrv⟩:=g4 j x hx
            have : cs.toList[j]? = some v:=by simpa using hv
            rw [this] at hu; cases hu; exact hrv
           ·cases hx
          obtain ⟨u,hu,hru⟩:=hA.get hx
          refine ⟨u,?_,hru⟩
          have:=(List.getElem?_eq_some_iff.1 hu).1
          rw [Array.getElem?_append_left (by simpa using this),List.append_toArray]
          simpa using hu
         have hp2:=newRow_post (H.heap (w':=w.drew) rfl) pl hp e (c:=c.take (len * e') ++ xs) (cs:=(cs.toList.take (len * i.size)).toArray ++ us.toArray ++ Builtin.zeroCells zv.cells (grownCap w (len + n) len e - (len + n))) (by
          simp; rw [hus.1,hisz]; omega) hrow2 false lim
         refine ⟨_,_,_,hr,?_,⟨hp2.hr,hp2.le,hp2.sle,⟨rfl,rfl,rfl,by simp,fun q hq => hp2.fx.old q hq⟩,hp2.len,hp2.keep,hp2.none⟩⟩
         refine .ms _ _ _ _ _ _ _ _ (Mp.set_same _ _ _) (grownCap_ge w (len + n) len e) ?_
         simp only [Array.size_append,List.size_toArray,size_zeroCells,hzz,hul,hisz,Nat.zero_add,List.length_take,Array.length_toList]
         have h5 : min (len * e') cs.size = len * e':=by omega
         rw [h5,← Nat.add_mul,← Nat.add_mul]
         have:=grownCap_ge w (len + n) len e
         exact Nat.mul_le_mul_right _ (by omega)
       ·cases hx
      ·cases hx
     ·cases hx
    ·cases hx
  ·cases hx
 ·cases hx
end Go.Am
/-
Maps whose keys are numbers.
-/
namespace Go.Am
open Go
set_option linter.unusedVariables false
set_option linter.unusedSimpArgs false
variable {P : Program} {mode : Nat → Nat → Nat} {S : Fz} {φ : Mp} {B : Nat} {h : List AO} {w : World}
theorem pureGo {l : List AV} (h : AV.pureV.go l = true) : ∀ (j : Nat) x,l[j]? = some x → x.pureV = true:=by
 induction l with
 | nil => intro j x hx; simp at hx
 |
  cons a l ih =>
  simp only [AV.pureV.go,Bool.and_eq_true] at h
  intro j x hx
  cases j with
  | zero => simp at hx; subst hx; exact h.1
  | succ j => exact ih h.2 j x (by simpa using hx)
theorem Rel.ofPure {a : AV} {v : Value} (h : Rel S φ a v) : a.pureV = true → ∀ φ',Rel S φ' a v:=by
 induction h with
 | bool φ b => exact fun _ φ' => .bool φ' b
 | int φ k n => exact fun _ φ' => .int φ' k n
 | str φ s => exact fun _ φ' => .str φ' s
 | nilp φ => exact fun _ φ' => .nilp φ'
 | ptr => intro hp; simp [AV.pureV] at hp
 | cptr φ cells b off c vs hs h hr ih => exact fun _ φ' => .cptr φ' cells b off c vs hs h hr
 | nils φ => exact fun _ φ' => .nils φ'
 | cs0 φ esz a cap => exact fun _ φ' => .cs0 φ' esz a cap
 | cs φ esz len cells b off cap c vs hs hl hc h hr ih => exact fun _ φ' => .cs φ' esz len cells b off cap c vs hs hl hc h hr
 | ms => intro hp; simp [AV.pureV] at hp
 | mc => intro hp; simp [AV.pureV] at hp
 | mr => intro hp; simp [AV.pureV] at hp
 |
  fn φ f x y va vb hx hy h3 h4 iha ihb =>
  intro hp φ'
  simp only [AV.pureV,Bool.and_eq_true] at hp
  exact .fn φ' f x y va vb hx hy (fun j a v h1 h2 => iha j a v h1 h2 (pureGo hp.1 j a h1) φ') (fun j a v h1 h2 => ihb j a v h1 h2 (pureGo hp.2 j a h1) φ')
 | yld => intro hp; simp [AV.pureV] at hp
 | nilf φ => exact fun _ φ' => .nilf φ'
 | agg φ a va ha hra ih => exact fun hp φ' => .agg φ' a va ha (fun j x v h1 h2 => ih j x v h1 h2 (pureGo (by simpa [AV.pureV] using hp) j x h1) φ')
 | tup φ a va ha hra ih => exact fun hp φ' => .tup φ' a va ha (fun j x v h1 h2 => ih j x v h1 h2 (pureGo (by simpa [AV.pureV] using hp) j x h1) φ')
 | iface φ t a v h ih => exact fun hp φ' => .iface φ' t a v (ih (by simpa [AV.pureV] using hp) φ')
 | nili φ => exact fun _ φ' => .nili φ'
 | mp => intro hp; simp [AV.pureV] at hp
 | nilm φ => exact fun _ φ' => .nilm φ'
def World.put (w : World) (b : Nat) (ob : Obj) : World:={ w with heap:=w.heap.setIfInBounds b ob }
theorem HR.replace (H : HR P mode S φ B h w) {o b z : Nat} {a a' : AO} {ob : Obj} (ho : h[o]? = some a) (hb : φ o = some (b,z)) (ha : ∀ x,mayShare a x → x = .tomb) (hnt : a ≠ .tomb) (hor : OR P mode S φ (World.put w b ob) b z a') (hsh : mayShare a' .tomb) (lim : Nat) (hlim : lim ≤ o) :
  Post P mode S φ B lim h w none S φ (h.set o a') (World.put w b ob):=by
 have hl:=(List.getElem?_eq_some_iff.1 ho).1
 have hS : S b = none:=by
  rcases H.obj o a ho with rfl | ⟨b1,z1,h1,h2,_⟩
  ·exact absurd rfl hnt
  ·rw [hb] at h1; cases h1; exact h2
 have hother : ∀ q,q ≠ b → (World.put w b ob).heap[q]? = w.heap[q]?:=fun q hq => by simp [World.put,Array.getElem?_setIfInBounds,Ne.symm hq]
 have hsz : (World.put w b ob).heap.size = w.heap.size:=by simp [World.put]
 refine ⟨⟨by rw [hsz]; exact H.bs,fun q x hx => by simpa using H.dom q x hx,fun q b1 z1 hq => by rw [hsz]; exact H.lt q b1 z1 hq,?_,?_,?_⟩,Mp.le_refl _,fun _ _ => rfl,
  ⟨rfl,rfl,rfl,by rw [hsz]; exact Nat.le_refl _,fun q hq => hother q (by have:=(H.lt o b z hb).2; omega)⟩,by simp,fun q hq _ _ => List.getElem?_set_ne (by omega),fun _ _ _ hn => hn⟩
 ·intro b1 c1 hs
  have : b1 ≠ b:=by intro e; subst e; rw [hS] at hs; cases hs
  obtain ⟨e1,fr,he⟩:=H.fro b1 c1 hs
  exact ⟨e1,fr,(hother b1 this).trans he⟩
 ·intro q x hq
  by_cases e : q = o
  ·subst e; simp [hl] at hq; subst hq
   exact .inr ⟨b,z,hb,hS,hor⟩
  ·rw [List.getElem?_set_ne (Ne.symm e)] at hq
   rcases H.obj q x hq with rfl | ⟨b1,z1,k1,k2,k3⟩
   ·exact .inl rfl
   ·by_cases hbb : b1 = b
    ·subst hbb
     exact .inl (ha x (H.inj o q a x b1 z z1 ho hq hb k1 (Ne.symm e)))
    ·exact .inr ⟨b1,z1,k1,k2,k3.mono (fun _ _ h => h) (Mp.le_refl _) (hother b1 hbb)⟩
 ·intro q q' x x' b1 z1 z2 hq hq' k1 k2 hne
  by_cases e : q = o
  ·subst e; simp [hl] at hq; subst hq
   rw [List.getElem?_set_ne hne] at hq'
   rw [hb] at k1; cases k1
   have:=ha x' (H.inj q q' a x' _ _ z2 ho hq' hb k2 hne)
   subst this; exact hsh
  ·rw [List.getElem?_set_ne (Ne.symm e)] at hq
   by_cases e2 : q' = o
   ·subst e2; simp [hl] at hq'; subst hq'
    rw [hb] at k2; cases k2
    have:=ha x (H.inj q' q a x _ _ z1 ho hq hb k1 (Ne.symm hne))
    subst this; exact mayShare_comm hsh
   ·rw [List.getElem?_set_ne (Ne.symm e2)] at hq'
    exact H.inj q q' x x' b1 z1 z2 hq hq' k1 k2 hne
theorem ltK_irr : ∀ {a : List Int},ltK a a = false
 | [] => rfl
 | a :: l => by simp [ltK,ltK_irr (a:=l)]
theorem ltK_tr : ∀ {a b c : List Int},ltK a b = true → ltK b c = true → ltK a c = true
 | [],[],_,h,_ => by simp [ltK] at h
 | [],_ :: _,[],_,h => by simp [ltK] at h
 | [],_ :: _,_ :: _,_,_ => rfl
 | _ :: _,[],_,h,_ => by simp [ltK] at h
 | _ :: _,_ :: _,[],_,h => by simp [ltK] at h
 |
  a :: l,b :: m,c :: n,h1,h2 => by
  simp only [ltK,Bool.or_eq_true,Bool.and_eq_true,decide_eq_true_eq] at h1 h2 ⊢
  rcases h1 with h1 | ⟨h1,h1'⟩ <;> rcases h2 with h2 | ⟨h2,h2'⟩
  ·left; omega
  ·left; omega
  ·left; omega
  ·right; exact ⟨by omega,ltK_tr h1' h2'⟩
theorem ltK_tri : ∀ {a b : List Int},a ≠ b → ltK a b = false → ltK b a = true
 | [],[],h,_ => absurd rfl h
 | [],_ :: _,_,h => by simp [ltK] at h
 | _ :: _,[],_,_ => rfl
 |
  a :: l,b :: m,h,h1 => by
  simp only [ltK,Bool.or_eq_false_iff,Bool.and_eq_false_iff,decide_eq_false_iff_not,Bool.or_eq_true,Bool.and_eq_true,decide_eq_true_eq] at h1 ⊢
  by_cases e : a = b
  ·subst e
   right
   refine ⟨rfl,ltK_tri (fun e => h (by rw [e])) ?_⟩
   rcases h1.2 with h2 | h2
   ·exact absurd rfl h2
   ·exact h2
  ·left; omega
def kvals : List (Option IntKind) → List Int → List Value
 | some k :: cs,n :: r => .int k n :: kvals cs r
 | none :: cs,n :: r => .bool (n != 0) :: kvals cs r
 | _,_ => []
def kval : KT → List Int → Value
 | .i k,n => .int k (n.headD 0)
 | .a cs,n => .agg (kvals cs n).toArray
def KGood (kt : KT) (n : List Int) : Prop:=∃ a,keyOf kt a = some n
def kindOf : Value → Option (Option IntKind)
 | .int k _ => some (some k)
 | .bool _ => some none
 | _ => none
def numOf : Value → Int
 | .int _ n => n
 | .bool b => if b then 1 else 0
 | _ => 0
def isIn : Value → Bool
 | .int k n => (Lit.int k n).wf
 | _ => true
theorem kvals_good : ∀ {cs : List (Option IntKind)} {c : List AV} {n : List Int},keyCells cs c = some n → (kvals cs n).map kindOf = cs.map some ∧ (kvals cs n).map numOf = n ∧ ∀ v ∈ kvals cs n,isIn v = true
 | [],[],n,h => by simp only [keyCells,Option.some.injEq] at h; subst h; simp [kvals]
 |
  some k :: cs,.int k' x :: r,n,h => by
  simp only [keyCells] at h
  split at h
  ·rename_i hc
   simp only [Option.map_eq_some_iff] at h
   obtain ⟨m,hm,rfl⟩:=h
   obtain ⟨h1,h2,h3⟩:=kvals_good hm
   refine ⟨by simp [kvals,kindOf,h1],by simp [kvals,numOf,h2],fun v hv => ?_⟩
   simp only [kvals,List.mem_cons] at hv
   rcases hv with rfl | hv
   ·exact hc.2
   ·exact h3 v hv
  ·cases h
 |
  none :: cs,.bool b :: r,n,h => by
  simp only [keyCells,Option.map_eq_some_iff] at h
  obtain ⟨m,hm,rfl⟩:=h
  obtain ⟨h1,h2,h3⟩:=kvals_good hm
  refine ⟨by simp [kvals,kindOf,h1],by simp only [kvals,List.map_cons,h2]; cases b <;> simp [numOf],fun v hv => ?_⟩
  simp only [kvals,List.mem_cons] at hv
  rcases hv with rfl | hv
  ·rfl
  ·exact h3 v hv
 | [],_ :: _,n,h => by simp [keyCells] at h
 | some _ :: _,[],n,h => by simp [keyCells] at h
 | none :: _,[],n,h => by simp [keyCells] at h
 | none :: _,.int _ _ :: _,n,h => by simp [keyCells] at h
 | none :: _,.agg _ :: _,n,h => by simp [keyCells] at h
 | none :: _,.tup _ :: _,n,h => by simp [keyCells] at h
 | none :: _,.str _ :: _,n,h => by simp [keyCells] at h
 | none :: _,.nilp :: _,n,h => by simp [keyCells] at h
 | none :: _,.ptr _ _ :: _,n,h => by simp [keyCells] at h
 | none :: _,.cptr _ :: _,n,h => by simp [keyCells] at h
 | none :: _,.nils :: _,n,h => by simp [keyCells] at h
 | none :: _,.cs _ _ _ :: _,n,h => by simp [keyCells] at h
 | none :: _,.ms _ _ _ _ :: _,n,h => by simp [keyCells] at h
 | none :: _,.mc _ _ _ _ :: _,n,h => by simp [keyCells] at h
 | none :: _,.mr _ _ _ _ _ :: _,n,h => by simp [keyCells] at h
 | none :: _,.fn _ _ _ :: _,n,h => by simp [keyCells] at h
 | none :: _,.yld _ :: _,n,h => by simp [keyCells] at h
 | none :: _,.nilf :: _,n,h => by simp [keyCells] at h
 | none :: _,.iface _ _ :: _,n,h => by simp [keyCells] at h
 | none :: _,.nili :: _,n,h => by simp [keyCells] at h
 | none :: _,.mp _ :: _,n,h => by simp [keyCells] at h
 | none :: _,.nilm :: _,n,h => by simp [keyCells] at h
 | some _ :: _,.bool _ :: _,n,h => by simp [keyCells] at h
 | some _ :: _,.agg _ :: _,n,h => by simp [keyCells] at h
 | some _ :: _,.tup _ :: _,n,h => by simp [keyCells] at h
 | some _ :: _,.str _ :: _,n,h => by simp [keyCells] at h
 | some _ :: _,.nilp :: _,n,h => by simp [keyCells] at h
 | some _ :: _,.ptr _ _ :: _,n,h => by simp [keyCells] at h
 | some _ :: _,.cptr _ :: _,n,h => by simp [keyCells] at h
 | some _ :: _,.nils :: _,n,h => by simp [keyCells] at h
 | some _ :: _,.cs _ _ _ :: _,n,h => by simp [keyCells] at h
 | some _ :: _,.ms _ _ _ _ :: _,n,h => by simp [keyCells] at h
 | some _ :: _,.mc _ _ _ _ :: _,n,h => by simp [keyCells] at h
 | some _ :: _,.mr _ _ _ _ _ :: _,n,h => by simp [keyCells] at h
 | some _ :: _,.fn _ _ _ :: _,n,h => by simp [keyCells] at h
 | some _ :: _,.yld _ :: _,n,h => by simp [keyCells] at h
 | some _ :: _,.nilf :: _,n,h => by simp [keyCells] at h
 | some _ :: _,.iface _ _ :: _,n,h => by simp [keyCells] at h
 | some _ :: _,.nili :: _,n,h => by simp [keyCells] at h
 | some _ :: _,.mp _ :: _,n,h => by simp [keyCells] at h
 | some _ :: _,.nilm :: _,n,h => by simp [keyCells] at h
theorem keyOf_a {cs : List (Option IntKind)} {a : AV} {n : List Int} (h : keyOf (.a cs) a = some n) : ∃ c,a = .agg c ∧ keyCells cs c = some n:=by
 cases a <;> simp only [keyOf,reduceCtorEq] at h
 exact ⟨_,rfl,h⟩
theorem keyOf_int {k : IntKind} {a : AV} {n : List Int} (h : keyOf (.i k) a = some n) : ∃ i,a = .int k i ∧ n = [i]:=by
 cases a <;> simp only [keyOf,reduceCtorEq] at h
 split at h
 ·rename_i e; cases h; subst e; exact ⟨_,rfl,rfl⟩
 ·cases h
theorem kval_inj {kt : KT} {n m : List Int} (h1 : KGood kt n) (h2 : KGood kt m) (e : kval kt n = kval kt m) : n = m:=by
 obtain ⟨a,ha⟩:=h1
 obtain ⟨b,hb⟩:=h2
 cases kt with
 |
  i k =>
  obtain ⟨i,rfl,rfl⟩:=keyOf_int ha
  obtain ⟨j,rfl,rfl⟩:=keyOf_int hb
  simp only [kval,List.headD_cons,Value.int.injEq,true_and] at e
  rw [e]
 |
  a cs =>
  obtain ⟨c,rfl,hc⟩:=keyOf_a ha
  obtain ⟨d,rfl,hd⟩:=keyOf_a hb
  have e' : kvals cs n = kvals cs m:=by simpa [kval] using e
  rw [← (kvals_good hc).2.1,← (kvals_good hd).2.1,e']
theorem rel_cells : ∀ {cs : List (Option IntKind)} {c : List AV} {n : List Int} {va : List Value},keyCells cs c = some n → c.length = va.length → (∀ (j : Nat) x v,c[j]? = some x → va[j]? = some v → Rel S φ x v) → va = kvals cs n
 | [],[],n,[],h,_,_ => by simp [keyCells] at h; subst h; rfl
 |
  some k :: cs,x :: c,n,v :: va,h,hl,hr => by
  have hx:=hr 0 x v rfl rfl
  have hr' : ∀ (j : Nat) x v,c[j]? = some x → va[j]? = some v → Rel S φ x v:=fun j a b h1 h2 => hr (j + 1) a b (by simpa using h1) (by simpa using h2)
  cases x <;> simp only [keyCells,reduceCtorEq] at h
  split at h
  ·rename_i hc
   simp only [Option.map_eq_some_iff] at h
   obtain ⟨m,hm,rfl⟩:=h
   cases hx
   rw [rel_cells hm (by simpa using hl) hr']
   simp only [kvals,hc.1]
  ·cases h
 |
  none :: cs,x :: c,n,v :: va,h,hl,hr => by
  have hx:=hr 0 x v rfl rfl
  have hr' : ∀ (j : Nat) x v,c[j]? = some x → va[j]? = some v → Rel S φ x v:=fun j a b h1 h2 => hr (j + 1) a b (by simpa using h1) (by simpa using h2)
  cases x <;> simp only [keyCells,reduceCtorEq] at h
  simp only [Option.map_eq_some_iff] at h
  obtain ⟨m,hm,rfl⟩:=h
  cases hx
  rw [rel_cells hm (by simpa using hl) hr']
  rename_i b
  cases b <;> simp [kvals]
 | _,_ :: _,_,[],_,hl,_ => by simp at hl
 | _,[],_,_ :: _,_,hl,_ => by simp at hl
 | [],_ :: _,_,_ :: _,h,_,_ => by simp [keyCells] at h
 | some _ :: _,[],_,[],h,_,_ => by simp [keyCells] at h
 | none :: _,[],_,[],h,_,_ => by simp [keyCells] at h
theorem rel_key {kt : KT} {a : AV} {n : List Int} {v : Value} (hk : keyOf kt a = some n) (h : Rel S φ a v) : v = kval kt n:=by
 cases kt with
 |
  i k =>
  obtain ⟨i,rfl,rfl⟩:=keyOf_int hk
  cases h; rfl
 |
  a cs =>
  obtain ⟨c,rfl,hc⟩:=keyOf_a hk
  cases h with
  |
   agg _ _ va hl hr =>
   have:=rel_cells (va:=va.toList) hc (by simpa using hl) (fun j x v h1 h2 => hr j x v h1 (by simpa using h2))
   simp only [kval,← this]
theorem rel_kval {kt : KT} {a : AV} {n : List Int} (hk : keyOf kt a = some n) : Rel S φ a (kval kt n):=by
 cases kt with
 |
  i k =>
  obtain ⟨i,rfl,rfl⟩:=keyOf_int hk
  exact .int _ _ _
 |
  a cs =>
  obtain ⟨c,rfl,hc⟩:=keyOf_a hk
  have : ∀ {cs : List (Option IntKind)} {c : List AV} {n : List Int},keyCells cs c = some n → RelL S φ c (kvals cs n):=by
   intro cs
   induction cs with
   |
    nil =>
    intro c n h
    cases c with
    | nil => simp [keyCells] at h; subst h; exact RelL.nil
    | cons => simp [keyCells] at h
   |
    cons k cs ih =>
    intro c n h
    cases c with
    | nil => cases k <;> simp [keyCells] at h
    |
     cons x c =>
     cases k with
     |
      some k =>
      cases x <;> simp only [keyCells,reduceCtorEq] at h
      split at h
      ·rename_i hcc
       simp only [Option.map_eq_some_iff] at h
       obtain ⟨m,hm,rfl⟩:=h
       simp only [kvals,hcc.1]
       exact RelL.cons (.int _ _ _) (ih hm)
      ·cases h
     |
      none =>
      cases x <;> simp only [keyCells,reduceCtorEq] at h
      simp only [Option.map_eq_some_iff] at h
      obtain ⟨m,hm,rfl⟩:=h
      rename_i b
      have : (((if b = true then 1 else 0 : Int)) != 0) = b:=by cases b <;> rfl
      simp only [kvals,this]
      exact RelL.cons (.bool _ _) (ih hm)
  have hr:=this hc
  exact .agg _ _ _ (by simpa using hr.1) (fun j x v h1 h2 => hr.2 j x v h1 (by simpa using h2))
theorem mapM_of {α β : Type} {f : α → Option β} : ∀ {l : List α},(∀ x ∈ l,∃ y,f x = some y) → ∃ ys,l.mapM f = some ys
 | [],_ => ⟨[],rfl⟩
 |
  x :: l,h => by
  obtain ⟨y,hy⟩:=h x (by simp)
  obtain ⟨ys,hys⟩:=mapM_of (f:=f) (l:=l) fun z hz => h z (List.mem_cons_of_mem x hz)
  exact ⟨y :: ys,by rw [List.mapM_cons,hy]; simp [hys]⟩
theorem keyLits_of : ∀ (m : Nat) {t : TypeId} {T : List (Option IntKind)},keyShape P m t = some T → ∀ {L : List Value},L.map kindOf = T.map some → (∀ v ∈ L,isIn v = true) → ∃ l,P.keyLits m t L = some l
 | 0,t,T,h,L,_,_ => by simp [keyShape] at h
 |
  m + 1,t,T,h,L,hL,hi => by
  have hlen : L.length = T.length:=by have:=congrArg List.length hL; simpa using this
  unfold keyShape at h
  cases hu : P.underlying t with
  | none => simp [hu] at h
  |
   some kd =>
   rw [hu] at h
   cases kd <;> simp only [reduceCtorEq] at h
   case bool =>
    simp only [Option.some.injEq] at h
    subst h
    match L,hL with
    |
     [v],hL =>
     cases v <;> simp [kindOf] at hL
     rename_i b
     exact ⟨[.bool b],by simp [Program.keyLits,hu]⟩
   case int q =>
    simp only [Option.some.injEq] at h
    subst h
    match L,hL,hi with
    |
     [v],hL,hi =>
     cases v <;> simp [kindOf] at hL
     rename_i k x
     subst hL
     have:=hi _ (List.mem_singleton.2 rfl)
     simp only [isIn] at this
     exact ⟨[.int k x],by simp [Program.keyLits,hu,this]⟩
   case array n e =>
    split at h
    ·rename_i hc
     obtain ⟨c1,c2⟩:=hc
     simp only [Option.some.injEq] at h
     rw [h] at c1 c2
     simp only [List.all_eq_true,decide_eq_true_eq] at c2
     obtain ⟨ys,hys⟩:=mapM_of (f:=fun i => P.keyLits m e ((L.drop (i * P.cellsOf e)).take (P.cellsOf e))) (l:=List.range n) fun i hi' =>
      keyLits_of m (c2 i hi') (by simp only [List.map_take,List.map_drop,hL]) (fun v hv => hi v (List.mem_of_mem_drop (List.mem_of_mem_take hv)))
     exact ⟨ys.flatten,by unfold Program.keyLits; simp only [hu]; rw [if_pos (by rw [hlen,c1]),hys]; rfl⟩
    ·cases h
   case struct fs =>
    split at h
    ·rename_i hc
     obtain ⟨c1,c0,c2⟩:=hc
     simp only [Option.some.injEq] at h
     rw [h] at c1 c2
     simp only [List.all_eq_true,decide_eq_true_eq] at c2
     obtain ⟨ys,hys⟩:=mapM_of (f:=fun f : Field => P.keyLits m f.type ((L.drop f.offset).take (P.cellsOf f.type))) (l:=fs.toList) fun f hf =>
      keyLits_of m (c2 f hf) (by simp only [List.map_take,List.map_drop,hL]) (fun v hv => hi v (List.mem_of_mem_drop (List.mem_of_mem_take hv)))
     exact ⟨ys.flatten,by unfold Program.keyLits; simp only [hu]; rw [if_pos ⟨by rw [hlen,c1],c0⟩,hys]; rfl⟩
    ·cases h
theorem keyShape_len (m : Nat) {t : TypeId} {T : List (Option IntKind)} (h : keyShape P (m + 1) t = some T) (hw : (∃ n e,P.underlying t = some (.array n e)) ∨ ∃ fs,P.underlying t = some (.struct fs)) : T.length = P.cellsOf t:=by
 unfold keyShape at h
 rcases hw with ⟨n,e,hu⟩ | ⟨fs,hu⟩
 ·simp only [hu] at h
  split at h
  ·rename_i hc; cases h; exact hc.1
  ·cases h
 ·simp only [hu] at h
  split at h
  ·rename_i hc; cases h; exact hc.1
  ·cases h
theorem keyP_a {kt : TypeId} {cs : List (Option IntKind)} (h : keyP P kt = some (.a cs)) : P.keyTypeAt 8 kt = true ∧ P.tiled 8 kt = true ∧ keyShape P 8 kt = some cs ∧ ((∃ n e,P.underlying kt = some (.array n e)) ∨ ∃ fs,P.underlying kt = some (.struct fs)):=by
 unfold keyP at h
 split at h
 ·cases h
 ·rename_i n e hu
  split at h
  ·rename_i hc
   simp only [Option.map_eq_some_iff,KT.a.injEq] at h
   obtain ⟨T,hT,rfl⟩:=h
   exact ⟨hc.1,hc.2,hT,.inl ⟨_,_,hu⟩⟩
  ·cases h
 ·rename_i fs hu
  split at h
  ·rename_i hc
   simp only [Option.map_eq_some_iff,KT.a.injEq] at h
   obtain ⟨T,hT,rfl⟩:=h
   exact ⟨hc.1,hc.2,hT,.inr ⟨_,hu⟩⟩
  ·cases h
 ·cases h
theorem keyP_i {kt : TypeId} {k : IntKind} (h : keyP P kt = some (.i k)) : P.underlying kt = some (.int k):=by
 unfold keyP at h
 split at h
 ·rename_i hu; cases h; exact hu
 ·split at h
  ·simp at h
  ·cases h
 ·split at h
  ·simp at h
  ·cases h
 ·cases h
theorem key_good {kt : TypeId} {cs : List (Option IntKind)} (h : keyP P kt = some (.a cs)) {n : List Int} (hn : KGood (.a cs) n) : (kval (.a cs) n).formed P kt = true ∧ ∃ l,P.keyLits 8 kt (kval (.a cs) n).cells.toList = some l:=by
 obtain ⟨a,ha⟩:=hn
 obtain ⟨c,rfl,hc⟩:=keyOf_a ha
 obtain ⟨_,_,h3,h4⟩:=keyP_a h
 obtain ⟨g1,g2,g3⟩:=kvals_good hc
 have hl : (kvals cs n).length = P.cellsOf kt:=by
  have:=congrArg List.length g1
  simp only [List.length_map] at this
  rw [this,keyShape_len 7 h3 h4]
 refine ⟨?_,keyLits_of 8 h3 (by simpa [kval,Value.cells] using g1) (by simpa [kval,Value.cells] using g3)⟩
 rcases h4 with ⟨k,e,hu⟩ | ⟨fs,hu⟩ <;> simp [kval,Value.formed,hu,hl]
theorem key_equal {kt : TypeId} {ks : KT} (h : keyP P kt = some ks) {n m : List Int} (hn : KGood ks n) (hm : KGood ks m) : ∃ r : Bool,(Op.equal kt (kval ks n) (kval ks m)).run P w = .ok r w ∧ (r = true ↔ n = m):=by
 cases ks with
 |
  i k =>
  obtain ⟨a,ha⟩:=hn
  obtain ⟨b,hb⟩:=hm
  obtain ⟨i,rfl,rfl⟩:=keyOf_int ha
  obtain ⟨j,rfl,rfl⟩:=keyOf_int hb
  exact ⟨i == j,run_equalIn_int w 9999 kt k k i j (keyP_i h),by simp⟩
 |
  a cs =>
  obtain ⟨f1,l1,e1⟩:=key_good h hn
  obtain ⟨f2,l2,e2⟩:=key_good h hm
  obtain ⟨h1,h2,_,_⟩:=keyP_a h
  obtain ⟨r,hr,hi⟩:=run_equalIn_deep 9992 8 kt h1 w 8 8 _ _ l1 l2 f1 f2 e1 e2
  refine ⟨r,hr,hi.trans ⟨fun e => ?_,fun e => ?_⟩⟩
  ·have c1:=cells_of_lits 8 kt h2 _ _ _ e1
   have c2:=cells_of_lits 8 kt h2 _ _ _ e2
   rw [e,← c2] at c1
   refine kval_inj hn hm ?_
   simp only [kval,Value.cells,List.toList_toArray] at c1 ⊢
   rw [c1]
  ·subst e
   rw [e1] at e2
   exact Option.some.inj e2
theorem key_check {kt : TypeId} {ks : KT} (h : keyP P kt = some ks) {n : List Int} (hn : KGood ks n) (em : Bool) : (Instr.checkKey em 10000 kt (kval ks n)).run P w = .ok () w:=by
 cases ks with
 |
  i k =>
  have aux : ∀ m,(Instr.checkKey em (m + 1) kt (kval (.i k) n)).run P w = .ok () w:=fun m => by
   simp [Instr.checkKey,run_underlying (keyP_i h),kval]
  exact aux 9999
 |
  a cs =>
  obtain ⟨f1,l1,e1⟩:=key_good h hn
  exact run_checkKey_deep em 9992 8 kt (keyP_a h).1 w 8 _ l1 f1 e1
theorem key_stays {ks : KT} {n : List Int} (hn : KGood ks n) : (Instr.keyThatStays (kval ks n) (kval ks n)).run P w = .ok (kval ks n) w:=by
 have : Instr.sameBits 10000 (kval ks n) (kval ks n) = true:=by
  cases ks with
  | i k => simp [kval,Instr.sameBits]
  |
   a cs =>
   obtain ⟨a,ha⟩:=hn
   obtain ⟨c,rfl,hc⟩:=keyOf_a ha
   obtain ⟨g1,_,_⟩:=kvals_good hc
   show Instr.sameBits (9999 + 1) _ _ = true
   simp only [kval,Instr.sameBits,BEq.rfl,Bool.true_and,List.all_eq_true]
   intro ⟨x,y⟩ hxy
   obtain ⟨j,hj⟩:=List.mem_iff_getElem?.1 hxy
   simp only [List.getElem?_zip_eq_some] at hj
   obtain rfl : x = y:=by have h1:=hj.1; have h2:=hj.2; rw [h1] at h2; exact Option.some.inj h2
   have hk : ∃ z,kindOf x = some z:=by
    have h1 : ((kvals cs n).map kindOf)[j]? = some (kindOf x):=by rw [List.getElem?_map,hj.1]; rfl
    rw [g1,List.getElem?_map] at h1
    cases hcs : cs[j]? with
    | none => rw [hcs] at h1; cases h1
    | some z => rw [hcs] at h1; exact ⟨z,(Option.some.inj h1).symm⟩
   obtain ⟨z,hz⟩:=hk
   cases x <;> simp [kindOf] at hz <;> simp [Instr.sameBits]
 simp [Instr.keyThatStays,this]
theorem findAsking_mem {kt : TypeId} {ks : KT} (h : keyP P kt = some ks) {n : List Int} (hn : KGood ks n) : ∀ {l : List MapEntry} {i : Nat},(∀ e ∈ l,∃ x,KGood ks x ∧ e.key = kval ks x) →
  ((Instr.findAsking kt (kval ks n) l i).run P w = .ok none w ∧ ∀ e ∈ l,e.key ≠ kval ks n) ∨ ∃ j e,(Instr.findAsking kt (kval ks n) l i).run P w = .ok (some (i + j,e.val)) w ∧ l[j]? = some e ∧ e.key = kval ks n
 | [],i,_ => .inl ⟨by simp [Instr.findAsking],fun e h => by cases h⟩
 |
  e :: l,i,hl => by
  obtain ⟨x,hx,ex⟩:=hl e (by simp)
  obtain ⟨r,hr,hi⟩:=key_equal (w:=w) h hn hx
  rw [← ex] at hr
  cases r with
  | true => exact .inr ⟨0,e,by simp [Instr.findAsking,hr],rfl,by rw [ex,← hi.1 rfl]⟩
  |
   false =>
   have hne : e.key ≠ kval ks n:=fun e' => by
    have:=hi.2 (kval_inj hn hx (by rw [← e',ex]))
    cases this
   rcases findAsking_mem h hn (l:=l) (i:=i + 1) fun y hy => hl y (by simp [hy]) with ⟨a,b⟩ | ⟨j,e',a,b,c⟩
   ·refine .inl ⟨by simp [Instr.findAsking,hr,a],fun y hy => ?_⟩
    rcases List.mem_cons.1 hy with rfl | hy
    ·exact hne
    ·exact b y hy
   ·exact .inr ⟨j + 1,e',by simp [Instr.findAsking,hr,a,Nat.add_assoc,Nat.add_comm 1 j],by simpa using b,c⟩
theorem findKey_mem {kt : TypeId} {ks : KT} (h : keyP P kt = some ks) {n : List Int} (hn : KGood ks n) {l : List MapEntry} (hl : ∀ e ∈ l,∃ x,KGood ks x ∧ e.key = kval ks x) :
  ((Instr.findKey kt (kval ks n) l).run P w = .ok none w ∧ ∀ e ∈ l,e.key ≠ kval ks n) ∨ ∃ j e,(Instr.findKey kt (kval ks n) l).run P w = .ok (some (j,e.val)) w ∧ l[j]? = some e ∧ e.key = kval ks n:=by
 cases ks with
 |
  i k =>
  have hu:=keyP_i h
  have now : ∀ {l : List MapEntry} {i : Nat},(∀ e ∈ l,∃ x,KGood (.i k) x ∧ e.key = kval (.i k) x) →
    (Instr.findNow (.int k) (kval (.i k) n) l i = some none ∧ ∀ e ∈ l,e.key ≠ kval (.i k) n) ∨ ∃ j e,Instr.findNow (.int k) (kval (.i k) n) l i = some (some (i + j,e.val)) ∧ l[j]? = some e ∧ e.key = kval (.i k) n:=by
   intro l
   induction l with
   | nil => intro i _; exact .inl ⟨rfl,fun e h => by cases h⟩
   |
    cons e l ih =>
    intro i hl
    obtain ⟨x,_,hx⟩:=hl e (by simp)
    by_cases c : n.headD 0 = x.headD 0
    ·exact .inr ⟨0,e,by simp only [Instr.findNow,hx,kval,Instr.sameNow,if_true,c,BEq.rfl,Nat.add_zero],rfl,by rw [hx]; simp only [kval,c]⟩
    ·have hs : Instr.findNow (.int k) (kval (.i k) n) (e :: l) i = Instr.findNow (.int k) (kval (.i k) n) l (i + 1):=by
      have : (n.headD 0 == x.headD 0) = false:=by simpa using c
      simp only [Instr.findNow,hx,kval,Instr.sameNow,if_true,this]
     rcases ih (i:=i + 1) fun y hy => hl y (by simp [hy]) with ⟨a,b⟩ | ⟨j,e',a,b,d⟩
     ·refine .inl ⟨hs.trans a,fun y hy => ?_⟩
      rcases List.mem_cons.1 hy with rfl | hy
      ·rw [hx]; intro hh; simp only [kval,Value.int.injEq,true_and] at hh; exact c hh.symm
      ·exact b y hy
     ·exact .inr ⟨j + 1,e',by rw [hs,a]; congr 3; omega,by simpa using b,d⟩
  rcases now (i:=0) hl with ⟨a,b⟩ | ⟨j,e,a,b,c⟩
  ·exact .inl ⟨by simp [Instr.findKey,run_underlying hu,a],b⟩
  ·rw [Nat.zero_add] at a
   exact .inr ⟨j,e,by simp [Instr.findKey,run_underlying hu,a],b,c⟩
 |
  a cs =>
  obtain ⟨h1,h2,h3,h4⟩:=keyP_a h
  have hf : ∃ kd,P.underlying kt = some kd ∧ ∀ x y,Instr.sameNow kd x y = none:=by
   rcases h4 with ⟨n,e,hu⟩ | ⟨fs,hu⟩ <;> exact ⟨_,hu,fun x y => by simp [Instr.sameNow]⟩
  obtain ⟨kd,hu,hno⟩:=hf
  cases l with
  | nil => exact .inl ⟨by simp [Instr.findKey,run_underlying hu,Instr.findNow],fun e h => by cases h⟩
  |
   cons e l =>
   have hnow : Instr.findNow kd (kval (.a cs) n) (e :: l) 0 = none:=by simp [Instr.findNow,hno]
   rcases findAsking_mem (w:=w) h hn (i:=0) hl with ⟨a,b⟩ | ⟨j,e',a,b,c⟩
   ·exact .inl ⟨by simp [Instr.findKey,run_underlying hu,hnow,a],b⟩
   ·rw [Nat.zero_add] at a
    exact .inr ⟨j,e',by simp [Instr.findKey,run_underlying hu,hnow,a],b,c⟩
theorem RelM.len {ks : KT} : ∀ {es : List (List Int × AV)} {l : List MapEntry},RelM S ks es l → l.length = es.length
 | [],[],_ => rfl
 | _ :: _,_ :: _,h => by simp [RelM.len h.2.2]
 | [],_ :: _,h => h.elim
 | _ :: _,[],h => h.elim
theorem RelM.keys {ks : KT} : ∀ {es : List (List Int × AV)} {l : List MapEntry},RelM S ks es l → ∀ e ∈ l,∃ x,KGood ks x ∧ e.key = kval ks x
 | [],[],_,e,he => by cases he
 |
  x :: es,e0 :: l,h,e,he => by
  rcases List.mem_cons.1 he with rfl | he
  ·obtain ⟨a,h1,h2⟩:=h.1
   exact ⟨x.1,⟨a,h1⟩,rel_key h1 h2⟩
  ·exact RelM.keys h.2.2 e he
theorem RelM.find_none {ks : KT} {n : List Int} : ∀ {es : List (List Int × AV)} {l : List MapEntry},RelM S ks es l → (∀ e ∈ l,e.key ≠ kval ks n) → findM n es = none
 | [],[],_,_ => rfl
 |
  x :: es,e0 :: l,h,hn => by
  obtain ⟨a,h1,h2⟩:=h.1
  have c : ¬ n = x.1:=fun c => hn e0 (by simp) (by rw [rel_key h1 h2,c])
  obtain ⟨x1,x2⟩:=x
  simp only at c
  simp only [findM,c,if_false]
  exact RelM.find_none h.2.2 fun e he => hn e (by simp [he])
theorem findM_mem {n : List Int} : ∀ {es : List (List Int × AV)} {v : AV},findM n es = some v → ∃ y ∈ es,y.1 = n
 | [],v,h => by cases h
 |
  (y1,y2) :: es,v,h => by
  simp only [findM] at h
  split at h
  ·rename_i e; exact ⟨(y1,y2),by simp,e.symm⟩
  ·obtain ⟨z,hz,e⟩:=findM_mem h; exact ⟨z,by simp [hz],e⟩
theorem RelM.find_some {ks : KT} {n : List Int} (hg : KGood ks n) : ∀ {es : List (List Int × AV)} {l : List MapEntry},RelM S ks es l → (es.Pairwise fun a b => ltK a.1 b.1 = true) → ∀ e ∈ l,e.key = kval ks n → ∃ v,findM n es = some v ∧ Rel S Mp.no v e.val
 | [],[],_,_,e,he,_ => by cases he
 |
  x :: es,e0 :: l,h,hp,e,he,hk => by
  obtain ⟨a,h1,h2⟩:=h.1
  obtain ⟨x1,x2⟩:=x
  obtain ⟨p1,p2⟩:=List.pairwise_cons.1 hp
  rcases List.mem_cons.1 he with rfl | he
  ·rw [rel_key h1 h2] at hk
   have:=kval_inj ⟨a,h1⟩ hg hk
   simp only at this
   subst this
   exact ⟨x2,by simp only [findM,if_true],h.2.1⟩
  ·obtain ⟨v,hv,hr⟩:=RelM.find_some hg h.2.2 p2 e he hk
   refine ⟨v,?_,hr⟩
   by_cases c : n = x1
   ·exfalso
    subst c
    obtain ⟨y,hy,e⟩:=findM_mem hv
    have:=p1 y hy
    simp only [e,ltK_irr] at this
    cases this
   ·simp only [findM,c,if_false]; exact hv
theorem putM_mem {k : List Int} {v : AV} : ∀ {es : List (List Int × AV)} {y : List Int × AV},y ∈ putM k v es → y.1 = k ∨ ∃ z ∈ es,z.1 = y.1
 |
  [],y,h => by
  simp only [putM,List.mem_singleton] at h
  exact .inl (by rw [h])
 |
  (k',v') :: r,y,h => by
  simp only [putM] at h
  split at h
  ·rcases List.mem_cons.1 h with rfl | h
   ·exact .inl rfl
   ·exact .inr ⟨y,by simp [h],rfl⟩
  ·split at h
   ·rcases List.mem_cons.1 h with rfl | h
    ·exact .inl rfl
    ·exact .inr ⟨y,h,rfl⟩
   ·rcases List.mem_cons.1 h with rfl | h
    ·exact .inr ⟨(k',v'),by simp,rfl⟩
    ·rcases putM_mem h with e | ⟨z,hz,e⟩
     ·exact .inl e
     ·exact .inr ⟨z,by simp [hz],e⟩
theorem putM_sorted {k : List Int} {v : AV} : ∀ {es : List (List Int × AV)},(es.Pairwise fun a b => ltK a.1 b.1 = true) → (putM k v es).Pairwise fun a b => ltK a.1 b.1 = true
 | [],_ => by simp [putM]
 |
  (k',v') :: r,h => by
  obtain ⟨p1,p2⟩:=List.pairwise_cons.1 h
  simp only [putM]
  split
  ·rename_i e
   subst e
   exact List.pairwise_cons.2 ⟨p1,p2⟩
  ·rename_i e
   split
   ·rename_i c
    refine List.pairwise_cons.2 ⟨fun y hy => ?_,h⟩
    rcases List.mem_cons.1 hy with rfl | hy
    ·exact c
    ·exact ltK_tr c (p1 y hy)
   ·rename_i c
    refine List.pairwise_cons.2 ⟨fun y hy => ?_,putM_sorted p2⟩
    rcases putM_mem hy with e1 | ⟨z,hz,e1⟩
    ·show ltK k' y.1 = true
     rw [e1]
     exact ltK_tri e (by simpa using c)
    ·show ltK k' y.1 = true
     rw [← e1]; exact p1 z hz
theorem RelM.put_new {ks : KT} {n : List Int} (hg : KGood ks n) {x : AV} {e : MapEntry} (hk : e.key = kval ks n) (hx : Rel S Mp.no x e.val) : ∀ {es : List (List Int × AV)} {l : List MapEntry},RelM S ks es l → (∀ e ∈ l,e.key ≠ kval ks n) → ∃ l',List.Perm l' (e :: l) ∧ RelM S ks (putM n x es) l'
 |
  [],[],_,_ => by
  obtain ⟨a,ha⟩:=hg
  exact ⟨[e],List.Perm.refl _,⟨a,ha,by rw [hk]; exact rel_kval ha⟩,hx,trivial⟩
 |
  y :: es,e0 :: l,h,hn => by
  obtain ⟨a,h1,h2⟩:=h.1
  have c : ¬ n = y.1:=fun c => hn e0 (by simp) (by rw [rel_key h1 h2,c])
  obtain ⟨x1,x2⟩:=y
  simp only at c
  simp only [putM,c,if_false]
  split
  ·obtain ⟨a',ha'⟩:=hg
   exact ⟨e :: e0 :: l,List.Perm.refl _,⟨a',ha',by rw [hk]; exact rel_kval ha'⟩,hx,h⟩
  ·obtain ⟨l',hp,hr⟩:=RelM.put_new hg hk hx h.2.2 fun e he => hn e (by simp [he])
   exact ⟨e0 :: l',(hp.cons e0).trans (List.Perm.swap e e0 l),h.1,h.2.1,hr⟩
theorem RelM.put_old {ks : KT} {n : List Int} (hg : KGood ks n) {x : AV} {e : MapEntry} (hk : e.key = kval ks n) : ∀ {es : List (List Int × AV)} {l : List MapEntry},RelM S ks es l → (es.Pairwise fun a b => ltK a.1 b.1 = true) → e ∈ l →
  ∃ l0,List.Perm l (e :: l0) ∧ ∀ e' : MapEntry,e'.key = kval ks n → Rel S Mp.no x e'.val → ∃ l',List.Perm l' (e' :: l0) ∧ RelM S ks (putM n x es) l'
 | [],[],_,_,he => by cases he
 |
  y :: es,e0 :: l,h,hp,he => by
  obtain ⟨a,h1,h2⟩:=h.1
  obtain ⟨x1,x2⟩:=y
  obtain ⟨p1,p2⟩:=List.pairwise_cons.1 hp
  rcases List.mem_cons.1 he with rfl | he
  ·rw [rel_key h1 h2] at hk
   have:=kval_inj ⟨a,h1⟩ hg hk
   simp only at this
   subst this
   refine ⟨l,List.Perm.refl _,fun e' k1 k2 => ⟨e' :: l,List.Perm.refl _,?_⟩⟩
   simp only [putM,if_true]
   exact ⟨⟨_,h1,by rw [k1]; exact rel_kval h1⟩,k2,h.2.2⟩
  ·obtain ⟨v,hv,_⟩:=RelM.find_some hg h.2.2 p2 e he hk
   obtain ⟨z,hz,ez⟩:=findM_mem hv
   have q:=p1 z hz
   simp only [ez] at q
   have c : ¬ n = x1:=fun c => by subst c; rw [ltK_irr] at q; cases q
   have c2 : ¬ ltK n x1 = true:=fun c2 => by have:=ltK_tr q c2; rw [ltK_irr] at this; cases this
   obtain ⟨l0,hl,H⟩:=RelM.put_old hg (x:=x) hk h.2.2 p2 he
   refine ⟨e0 :: l0,(hl.cons e0).trans (List.Perm.swap e e0 l0),fun e' k1 k2 => ?_⟩
   obtain ⟨l',hl',hr⟩:=H e' k1 k2
   refine ⟨e0 :: l',(hl'.cons e0).trans (List.Perm.swap e' e0 l0),?_⟩
   simp only [putM,c,c2,if_false]
   exact ⟨h.1,h.2.1,hr⟩
theorem lookup_snd {t kt e : TypeId} {ks : KT} {key : AV} {kv : Value} {n : List Int} {z : AV} (ht : P.underlying t = some (.map kt e)) (hk : keyP P kt = some ks) (hz : zeroP P e = some z) {b : Nat}
  {es : List (List Int × AV)} (hm : OMap S w ks es b) (hn : keyOf ks key = some n) (hkv : Rel S φ key kv) (ok : Bool) :
  ∃ v,(Instr.lookup t (.map (some b)) kv ok).run P w = .ok v w ∧ Rel S φ (if ok then .tup [(findM n es).getD z,.bool (findM n es).isSome] else (findM n es).getD z) v:=by
 obtain rfl:=rel_key hn hkv
 have hgd : KGood ks n:=⟨_,hn⟩
 obtain ⟨ents,ck,l,hb,hp,hr,hs,hst0⟩:=hm
 have hck:=fun e => key_check (w:=w) hk hgd e
 have hg : (getObj b).run P w = .ok (.map ents ck) w:=by simp [getObj,Sem.run,hb]
 have fin : ∀ (v : Value) (is : Bool) (a : AV),Rel S φ a v → Rel S φ (if ok then AV.tup [a,.bool is] else a) (if ok then .tuple #[v,.bool is] else v):=by
  intro v is a ha
  cases ok
  ·exact ha
  ·exact Rel.tup_iff.2 (.cons ha (.cons (.bool _ _) .nil))
 rcases findKey_mem (w:=w) hk hgd (l:=ents.toList) (fun e he => hr.keys e (hp.mem_iff.2 he)) with ⟨f1,f2⟩ | ⟨j,e0,f1,f2,f3⟩
 ·have fn:=hr.find_none fun e he => f2 e (hp.mem_iff.1 he)
  rw [fn]
  obtain ⟨v,hv,hzr⟩:=run_zeroP hz w
  refine ⟨if ok then .tuple #[v,.bool false] else v,?_,fin v false z (hzr S φ)⟩
  simp [Instr.lookup,run_underlying ht,hg,hck,f1,hv]
 ·obtain ⟨v,fs,hv⟩:=hr.find_some hgd hs e0 (hp.mem_iff.2 (List.mem_of_getElem? f2)) f3
  rw [fs]
  refine ⟨if ok then .tuple #[e0.val,.bool true] else e0.val,?_,fin e0.val true v (hv.mono (fun _ _ h => h) _ (fun _ _ h => by cases h))⟩
  simp [Instr.lookup,run_underlying ht,hg,hck,f1]
theorem update_snd {t kt e : TypeId} {ks : KT} {key : AV} {kv : Value} {n : List Int} (ht : P.underlying t = some (.map kt e)) (hk : keyP P kt = some ks) {b : Nat}
  {es : List (List Int × AV)} (hm : OMap S w ks es b) (hn : keyOf ks key = some n) (hkv : Rel S φ key kv) {x : AV} {v : Value} (hx : Rel S Mp.no x v) :
  ∃ ents' ck',(Instr.mapUpdate t (.map (some b)) kv v).run P w = .ok () (World.put w b (.map ents' ck')) ∧ OMap S (World.put w b (.map ents' ck')) ks (putM n x es) b:=by
 obtain rfl:=rel_key hn hkv
 have hgd : KGood ks n:=⟨_,hn⟩
 obtain ⟨ents,ck,l,hb,hp,hr,hs,hst0⟩:=hm
 have hck:=fun e => key_check (w:=w) hk hgd e
 have hg : (getObj b).run P w = .ok (.map ents ck) w:=by simp [getObj,Sem.run,hb]
 have hst : ∀ o,(setObj b o).run P w = .ok () (World.put w b o):=fun o => by simp [setObj,Sem.run,hb,World.put]
 have hat : ∀ o,(World.put w b o).heap[b]? = some o:=fun o => by
  have:=(Array.getElem?_eq_some_iff.1 hb).1
  simp [World.put,this]
 rcases findKey_mem (w:=w) hk hgd (l:=ents.toList) (fun e he => hr.keys e (hp.mem_iff.2 he)) with ⟨f1,f2⟩ | ⟨j,e0,f1,f2,f3⟩
 ·obtain ⟨l',g1,g2⟩:=RelM.put_new hgd (e:=({ key:=kval ks n,val:=v,born:=ck } : MapEntry)) rfl hx hr fun e he => f2 e (hp.mem_iff.1 he)
  refine ⟨ents.push { key:=kval ks n,val:=v,born:=ck },ck + 1,?_,_,_,l',hat _,?_,g2,putM_sorted hs,MapKept.stamped_push hst0 f2⟩
  ·simp [Instr.mapUpdate,run_underlying ht,hg,hck,f1,hst]
  ·rw [Array.toList_push]
   exact g1.trans ((hp.cons _).trans (List.perm_append_singleton _ _).symm)
 ·have f2' : ents[j]? = some e0:=by simpa using f2
  obtain ⟨l0,g1,g2⟩:=RelM.put_old hgd (x:=x) f3 hr hs (hp.mem_iff.2 (List.mem_of_getElem? f2))
  obtain ⟨l',g3,g4⟩:=g2 { e0 with key:=kval ks n,val:=v } rfl hx
  refine ⟨ents.modify j fun e => { e with key:=kval ks n,val:=v },ck,?_,_,_,l',hat _,?_,g4,putM_sorted hs,MapKept.stamped_modify hst0 _ _ (fun _ _ => rfl) (fun e he hj => by rw [f2'] at hj; cases hj; exact f3.symm)⟩
  ·have hks:=key_stays (P:=P) (w:=w) hgd
   simp [Instr.mapUpdate,run_underlying ht,hg,hck,f1,f2',f3,hks,hst]
  ·have hj : j < ents.toList.length:=(List.getElem?_eq_some_iff.1 f2).1
   have ej : ents.toList[j] = e0:=(List.getElem?_eq_some_iff.1 f2).2
   have q1 : ents.toList = ents.toList.take j ++ e0 :: ents.toList.drop (j + 1):=by
    rw [← ej,List.getElem_cons_drop,List.take_append_drop]
   have q2 : List.Perm ents.toList (e0 :: (ents.toList.take j ++ ents.toList.drop (j + 1))):=by
    conv => lhs; rw [q1]
    exact List.perm_middle
   have q3 : List.Perm l0 (ents.toList.take j ++ ents.toList.drop (j + 1)):=List.Perm.cons_inv (g1.symm.trans (hp.trans q2))
   have q4 : (ents.modify j fun e => { e with key:=kval ks n,val:=v }).toList = ents.toList.take j ++ { e0 with key:=kval ks n,val:=v } :: ents.toList.drop (j + 1):=by
    rw [Array.toList_modify,List.modify_eq_take_cons_drop hj,ej]
   rw [q4]
   exact g3.trans ((q3.cons _).trans List.perm_middle.symm)
end Go.Am
