/-
An abstract machine for the Go code of the model: values without addresses of the model's memory, lists in place of
arrays, no tape. What it answers is proved (in the texts behind this one) to be what the model's machine answers,
whatever order and whatever capacity the tape picks.
-/
import GoSem.Dispatch
namespace Go.Am
open Go

inductive AV where
  | bool (b : Bool)
  | int (k : IntKind) (n : Int)
  | str (s : ByteArray)
  | nilp
  | ptr (o off : Nat)
  | cptr (cells : List AV)
  | nils
  | cs (esz len : Nat) (cells : List AV)
  | ms (esz o off len : Nat)
  | fn (f : Nat) (first captured : List AV)
  | yld (o : Nat)
  | nilf
  | agg (cells : List AV)
  | tup (vs : List AV)
  | iface (t : Nat) (v : AV)
  | nili
  deriving Inhabited

def AV.undef : AV := .tup []
def AV.cells : AV → List AV
  | .agg c => c
  | v => [v]
def AV.scalar : AV → Bool
  | .agg _ | .tup _ => false
  | _ => true

inductive Opd where
  | t (i : Nat)
  | c (v : AV)
  deriving Inhabited

def Opd.ev (ts : List AV) : Opd → AV
  | .t i => ts.getD i .undef
  | .c v => v

/-- operations that look at their operands alone -/
inductive POp where
  | move (x : Opd)
  | pick (c a b : Opd)
  | build (zero : List AV) (parts : List (Nat × Nat × Opd))
  | nilCheck (x : Opd)
  | bin (op : BinOp) (x y : Opd)
  | eqB (neg : Bool) (x y : Opd)
  | eqS (neg : Bool) (ks : List Bool) (x y : Opd)
  | un (op : UnOp) (x : Opd)
  | conv (k : IntKind) (x : Opd)
  | mkFn (f : Nat) (first captured : List Opd)
  | slice (esz : Nat) (x : Opd) (lo hi : Option Opd)
  | fieldAddr (off : Nat) (x : Opd)
  | field (agg : Bool) (off size : Nat) (x : Opd)
  | idxArr (len esz : Nat) (x i : Opd)
  | idxSl (esz : Nat) (x i : Opd)
  | idx (agg : Bool) (len esz : Nat) (x i : Opd)
  | extract (x : Opd) (ix : Nat)
  | lenA (n : Nat)
  | lenS (x : Opd)
  | capS (x : Opd)
  | bad
  | minmax (mx : Bool) (x : Opd) (xs : List Opd)
  deriving Inhabited

inductive AOp where
  | p (o : POp)
  | load (agg : Bool) (size : Nat) (a : Opd)
  | store (size : Nat) (a x : Opd)
  | alloc (zero : List AV)
  | box (x : Opd)
  | buildSlice (esz len : Nat) (zero : List AV) (parts : List (Nat × Opd))
  | makeSlice (esz eb : Nat) (zero : List AV) (l c : Opd)
  | append (keep : Bool) (esz eb : Nat) (s x : Opd)
  | appendZ (esz eb : Nat) (zero : List AV) (s x : Opd)
  | call (mode f : Nat) (args : List Opd)
  | callv (q : Bool) (f : Opd) (args : List Opd)
  deriving Inhabited

/-- 'slot': in a region whose order is open, which of the places kept for new objects it fills (or writes); 'mask': which of them it may not see -/
structure AOper where
  dst : Option Nat
  op : AOp
  guard : Option (Nat × Bool)
  slot : Option Nat
  mask : List Nat
  deriving Inhabited

inductive Ex where
  | nrm
  | exit (id : Nat)
  | ret
  deriving Inhabited, DecidableEq

inductive ACode where
  | skip
  | region (k : Nat) (ops : List AOper)
  | seq (a b : ACode)
  | cond (c : Opd) (a b : ACode)
  | block (id : Nat) (c : ACode)
  | loop (c : ACode)
  | rangeFunc (f : Opd) (params : List Nat) (assign body : ACode)
  | exit (id : Nat)
  | scope (c : ACode)
  | ret
  deriving Inhabited

/-- 'cells': a row; shared: nothing may be stored in it any more, for what an append left behind may read it; 'ro': what an append left behind -/
inductive AO where
  | cells (c : List AV) (sh : Bool)
  | ro (c : List AV)
  | tomb
  | dfr
  | loop (state : LoopState) (pending : Option Ex) (fid : Nat) (tmps : List AV) (params : List Nat) (assign body : ACode) (d : Nat)
  deriving Inhabited

def AO.row? : AO → Option (List AV)
  | .cells c _ => some c
  | .ro c => some c
  | _ => none

/-- the row of an object -/
def rowAt (h : List AO) (o : Nat) : Option (List AV) := (h[o]?).bind AO.row?

inductive ARes where
  | tmp (t : Nat)
  | cell (agg : Bool) (size t : Nat)
  deriving Inhabited

structure AFn where
  ntmps : Nat
  results : List ARes
  body : ACode
  deriving Inhabited

inductive Tgt where
  | fn (f : Nat)
  | rnd (o : Nat)
  deriving Inhabited

/-- what is called, its arguments, the heap, and the number of the first object that may be written -/
abbrev Callee := Tgt → List AV → List AO → Nat → Option (AV × List AO)

def wr (k : IntKind) (n : Int) : Int :=
  match k with
  | .i64 => if -9223372036854775808 ≤ n ∧ n ≤ 9223372036854775807 then n else k.wrap n
  | _ => k.wrap n

def splice (c : List AV) (off : Nat) (vs : List AV) : List AV := c.take off ++ vs ++ c.drop (off + vs.length)

def fillL (acc : List AV) : List (Nat × Nat × AV) → Option (List AV)
  | [] => some acc
  | (off, size, v) :: rest =>
    if v.cells.length = size ∧ off + size ≤ acc.length then fillL (splice acc off v.cells) rest else none

def part (agg : Bool) (size : Nat) (l : List AV) : Option AV :=
  if agg then (let x := l.take size; if x.length = size then some (.agg x) else none) else l.head?

/-- cells of integers (true) and bools -/
def eqCells : List Bool → List AV → List AV → Option Bool
  | [], _, _ => some true
  | true :: n, .int k x :: r, .int k' y :: s => if k = k' then (if x = y then eqCells n r s else some false) else none
  | false :: n, .bool x :: r, .bool y :: s => if x = y then eqCells n r s else some false
  | _, _, _ => none

def binI (op : BinOp) (k : IntKind) (x y : Int) : Option AV :=
  match op with
  | .add => some (.int k (wr k (x + y)))
  | .sub => some (.int k (wr k (x - y)))
  | .mul => some (.int k (wr k (x * y)))
  | .quo => if y = 0 then none else some (.int k (wr k (x.tdiv y)))
  | .rem => if y = 0 then none else some (.int k (x.tmod y))
  | .eql => some (.bool (x == y))
  | .neq => some (.bool (x != y))
  | .lss => some (.bool (decide (x < y)))
  | .leq => some (.bool (decide (x ≤ y)))
  | .gtr => some (.bool (decide (x > y)))
  | .geq => some (.bool (decide (x ≥ y)))
  | _ => none

def mmx (mx : Bool) (x y : Int) : Int := if mx then (if y > x then y else x) else (if y < x then y else x)

def mmAll (mx : Bool) : AV → List AV → Option AV
  | v, [] => some v
  | .int k x, .int _ y :: r => mmAll mx (.int k (mmx mx x y)) r
  | _, _ => none

def sliceB (v : Option AV) (most dflt : Nat) : Option Nat :=
  match v with
  | none => some dflt
  | some (.int _ i) => if 0 ≤ i ∧ i ≤ most then some i.toNat else none
  | _ => none

def sliceV (esz : Nat) (x : AV) (lo hi : Option AV) : Option AV :=
  match x with
  | .nils =>
    match sliceB hi 0 0, sliceB lo 0 0 with
    | some _, some _ => some .nils
    | _, _ => none
  | .cs e len cells =>
    if e = esz then
      match sliceB hi len len with
      | none => none
      | some h =>
        match sliceB lo h 0 with
        | none => none
        | some l => some (.cs esz (h - l) ((cells.drop (l * esz)).take ((h - l) * esz)))
    else none
  | .ms e o off len =>
    if e = esz then
      match sliceB hi len len with
      | none => none
      | some h =>
        match sliceB lo h 0 with
        | none => none
        | some l => if l < h ∨ l = 0 then some (.ms esz o (off + l * esz) (h - l)) else some (.cs esz 0 [])
    else none
  | _ => none

def elemAt (esz : Nat) (x i : AV) : Option AV :=
  match x, i with
  | .cs e len cells, .int _ n =>
    if e = esz ∧ 0 ≤ n ∧ n < len then some (.cptr ((cells.drop (n.toNat * esz)).take esz)) else none
  | .ms e o off len, .int _ n =>
    if e = esz ∧ 0 ≤ n ∧ n < len then some (.ptr o (off + n.toNat * esz)) else none
  | _, _ => none

def addOff (x : AV) (n : Nat) : Option AV :=
  match x with
  | .ptr o off => some (.ptr o (off + n))
  | .cptr cells => some (.cptr (cells.drop n))
  | _ => none

def pex (ρ : Opd → AV) : POp → Option AV
  | .move x => some (ρ x)
  | .pick c a b => match ρ c with
    | .bool t => some (if t then ρ a else ρ b)
    | _ => none
  | .build zero parts => (fillL zero (parts.map fun (o, s, x) => (o, s, ρ x))).map .agg
  | .nilCheck x => match ρ x with
    | .ptr o off => some (.ptr o off)
    | .cptr c => some (.cptr c)
    | .fn f a b => some (.fn f a b)
    | .yld o => some (.yld o)
    | _ => none
  | .bin op x y => match ρ x, ρ y with
    | .int k a, .int k' b => if k = k' then binI op k a b else none
    | _, _ => none
  | .eqB neg x y => match ρ x, ρ y with
    | .bool a, .bool b => some (.bool (if neg then !(a == b) else a == b))
    | _, _ => none
  | .eqS neg ks x y => match ρ x, ρ y with
    | .agg a, .agg b => (eqCells ks a b).map fun e => .bool (if neg then !e else e)
    | _, _ => none
  | .un op x => match op, ρ x with
    | .neg, .int k n => some (.int k (wr k (0 - n)))
    | .not, .bool b => some (.bool !b)
    | _, _ => none
  | .conv k x => match ρ x with
    | .int _ n => some (.int k (wr k n))
    | _ => none
  | .mkFn f a b => some (.fn f (a.map ρ) (b.map ρ))
  | .slice esz x lo hi => sliceV esz (ρ x) (lo.map ρ) (hi.map ρ)
  | .fieldAddr off x => addOff (ρ x) off
  | .field agg off size x => match ρ x with
    | .agg c => part agg size (c.drop off)
    | _ => none
  | .idxArr len esz x i => match ρ i with
    | .int _ n => if 0 ≤ n ∧ n < len then addOff (ρ x) (n.toNat * esz) else none
    | _ => none
  | .idxSl esz x i => elemAt esz (ρ x) (ρ i)
  | .idx agg len esz x i => match ρ x, ρ i with
    | .agg c, .int _ n => if 0 ≤ n ∧ n < len then part agg esz (c.drop (n.toNat * esz)) else none
    | _, _ => none
  | .extract x ix => match ρ x with
    | .tup vs => vs[ix]?
    | _ => none
  | .lenA n => some (.int .i64 n)
  | .lenS x => match ρ x with
    | .nils => some (.int .i64 0)
    | .cs _ len _ => some (.int .i64 len)
    | .ms _ _ _ len => some (.int .i64 len)
    | _ => none
  | .capS x => match ρ x with
    | .nils => some (.int .i64 0)
    | _ => none
  | .bad => none
  | .minmax mx x xs => mmAll mx (ρ x) (xs.map ρ)

/-- the cells behind a slice's elements -/
def rowOf (h : List AO) : AV → Option (List AV)
  | .nils => some []
  | .cs _ _ cells => some cells
  | .ms esz o off len => match rowAt h o with
    | some c => let x := (c.drop off).take (len * esz); if x.length = len * esz then some x else none
    | none => none
  | _ => none

def lenOf : AV → Option Nat
  | .nils => some 0
  | .cs _ len _ => some len
  | .ms _ _ _ len => some len
  | _ => none

/-- is it free of all that names an object? -/
def AV.pureV : AV → Bool
  | .ptr .. | .ms .. | .yld .. => false
  | .fn _ a b => a.isEmpty && b.isEmpty
  | .agg c => go c
  | .tup c => go c
  | .iface _ v => v.pureV
  | _ => true
where
  go : List AV → Bool
    | [] => true
    | v :: r => v.pureV && go r

/-- does it name only objects below this number? -/
def AV.under (n : Nat) : AV → Bool
  | .ptr o _ | .ms _ o _ _ | .yld o => o < n
  | .fn _ a b => go a && go b
  | .agg c => go c
  | .tup c => go c
  | .iface _ v => v.under n
  | _ => true
where
  go : List AV → Bool
    | [] => true
    | v :: r => v.under n && go r

/-- what it reads as, without naming an object; strict: all that it leads to lies in this heap -/
def view (strict : Bool) (h : List AO) : Nat → AV → Option AV
  | _, .nilp => some .nilp
  | _, .nils => some .nils
  | _, .nilf => some .nilf
  | _, .nili => some .nili
  | _, .bool b => some (.bool b)
  | _, .int k n => some (.int k n)
  | _, .str s => some (.str s)
  | _, .cptr c => if strict then none else some (.cptr c)
  | _, .cs e l c => if strict && l != 0 then none else some (.cs e l c)
  | _, .fn f a b => if a.isEmpty && b.isEmpty then some (.fn f [] []) else none
  | 0, _ => none
  | n + 1, .agg c => (c.mapM (view strict h n)).map .agg
  | n + 1, .tup c => (c.mapM (view strict h n)).map .tup
  | n + 1, .ms esz o off len => match rowOf h (.ms esz o off len) with
    | some x => (x.mapM (view strict h n)).map (.cs esz len)
    | none => none
  | _, _ => none

/-- numbers of objects moved up -/
def AV.shift (n : Nat) : AV → AV
  | .ptr o off => .ptr (o + n) off
  | .ms e o off len => .ms e (o + n) off len
  | .yld o => .yld (o + n)
  | .fn f a b => .fn f (go a) (go b)
  | .agg c => .agg (go c)
  | .tup c => .tup (go c)
  | .iface t v => .iface t (v.shift n)
  | v => v
where
  go : List AV → List AV
    | [] => []
    | v :: r => v.shift n :: go r

def AO.shift (n : Nat) : AO → AO
  | .cells c sh => .cells (c.map (AV.shift n)) sh
  | .ro c => .ro (c.map (AV.shift n))
  | .tomb => .tomb
  | .dfr => .dfr
  | .loop .. => .tomb

def zeros (n : Nat) (zero : List AV) : List AV := (List.replicate n zero).flatten

/-- a new object: behind all others, or at a place that was kept -/
def newAt (pl : Option Nat) (h : List AO) (c : List AV) : List AO :=
  match pl with
  | none => h ++ [.cells c false]
  | some i => h.set i (.cells c false)

def newObj' (pl : Option Nat) (h : List AO) (c : AO) : List AO :=
  match pl with
  | none => h ++ [c]
  | some i => h.set i c

def exOp (call : Callee) (lim : Nat) (pl : Option Nat) (ρ : Opd → AV) (h : List AO) : AOp → Option (AV × List AO)
  | .p o => (pex ρ o).map fun v => (v, h)
  | .load agg size a => match ρ a with
    | .ptr o off => match rowAt h o with
      | some c => (part agg size (c.drop off)).map fun v => (v, h)
      | none => none
    | .cptr c => (part agg size c).map fun v => (v, h)
    | _ => none
  | .store size a x => match ρ a with
    | .ptr o off => match h[o]? with
      | some (.cells c false) =>
        let vs := (ρ x).cells
        if vs.length = size ∧ off + size ≤ c.length ∧ vs.all AV.scalar ∧ lim ≤ o then some (.undef, h.set o (.cells (splice c off vs) false)) else none
      | _ => none
    | _ => none
  | .alloc zero => some (.ptr (pl.getD h.length) 0, newAt pl h zero)
  | .box x => some (.ptr (pl.getD h.length) 0, newAt pl h (ρ x).cells)
  | .buildSlice esz len zero parts =>
    (fillL (zeros len zero) (parts.map fun (i, x) => (i * esz, esz, ρ x))).map fun c => (.ms esz (pl.getD h.length) 0 len, newAt pl h c)
  | .makeSlice esz eb zero l c => match ρ l, ρ c with
    | .int _ l, .int _ c =>
      if 0 ≤ l ∧ l ≤ c ∧ eb * c ≤ 1099511627776 ∧ 1 ≤ eb then some (.ms esz (pl.getD h.length) 0 l.toNat, newAt pl h (zeros l.toNat zero)) else none
    | _, _ => none
  | .append keep esz eb s x => match lenOf (ρ s), lenOf (ρ x), rowOf h (ρ x) with
    | some sl, some n, some xs =>
      if xs.length = n * esz then
        if n = 0 then some (ρ s, h) else
        if (sl + n) * eb ≤ 1099511627776 ∧ 1 ≤ eb ∧ xs.all AV.scalar then
          match ρ s with
          | .nils => some (.ms esz (pl.getD h.length) 0 n, newAt pl h xs)
          | .ms e o off len =>
            match h[o]? with
            | some (.cells c sh) =>
              if e = esz ∧ off = 0 ∧ lim ≤ o ∧ (len * esz = c.length ∨ (keep = false ∧ sh = false ∧ len * esz ≤ c.length)) then
                some (.ms esz (pl.getD h.length) 0 (len + n), newObj' pl (h.set o (if keep then .ro c else .tomb)) (.cells (c.take (len * esz) ++ xs) ((keep && len != 0) || sh)))
              else none
            | _ => none
          | _ => none
        else none
      else none
    | _, _, _ => none
  | .appendZ esz eb zero s x => match ρ s, ρ x with
    | .nils, .int .i64 n => if 1 ≤ n ∧ eb * n ≤ 1099511627776 ∧ 1 ≤ eb then some (.ms esz (pl.getD h.length) 0 n.toNat, newAt pl h (zeros n.toNat zero)) else none
    | _, _ => none
  | .call mode f args =>
    let as := args.map ρ
    match mode with
    | 0 => call (.fn f) as h lim
    | 1 => match as.mapM (view false h 8) with
      | some vs => match call (.fn f) vs [] 0 with
        | some (r, h') => (view (!AV.pureV.go as) h' 8 r).map fun r' => (r', h)
        | none => none
      | none => none
    | 2 => if AV.pureV.go as then
        match call (.fn f) as [] 0 with
        | some (r, h') => some (r.shift h.length, h ++ h'.map (AO.shift h.length))
        | none => none
      else none
    | _ => match call (.fn f) as h h.length with
      | some (r, _) => if r.under h.length then some (r, h) else none
      | none => none
  | .callv q f args => match ρ f with
    | .fn g first captured =>
      if q then
        match call (.fn g) (first ++ args.map ρ ++ captured) h h.length with
        | some (r, _) => if r.under h.length then some (r, h) else none
        | none => none
      else call (.fn g) (first ++ args.map ρ ++ captured) h lim
    | .yld o => if q then none else call (.rnd o) (args.map ρ) h lim
    | _ => none

def wanted (ts : List AV) : Option (Nat × Bool) → Bool
  | none => true
  | some (t, want) => match ts[t]? with
    | some (.bool b) => b == want
    | _ => false

def putT (ts : List AV) (dst : Option Nat) (v : AV) : List AV :=
  match dst with
  | some d => ts.set d v
  | none => ts

def hide (base : Nat) : List Nat → List AO → List AO
  | [], h => h
  | s :: r, h => (hide base r h).set (base + s) .tomb

/-- what lies at the masked places of 'h' is laid back -/
def unhide (base : Nat) (h : List AO) : List Nat → List AO → List AO
  | [], g => g
  | s :: r, g => (unhide base h r g).set (base + s) (h.getD (base + s) .tomb)

def exMask (call : Callee) (lim base : Nat) (pl : Option Nat) (ρ : Opd → AV) (h : List AO) (op : AOp) (m : List Nat) : Option (AV × List AO) :=
  match m with
  | [] => exOp call lim pl ρ h op
  | m => match exOp call lim pl ρ (hide base m h) op with
    | some (v, h') => some (v, unhide base h m h')
    | none => none

def exOper (call : Callee) (lim base : Nat) (ts : List AV) (h : List AO) (o : AOper) : Option (AV × List AO) :=
  match o.slot, o.op with
  | some s, .store size a x => match Opd.ev ts a with
    | .ptr p _ => if p = base + s then exOp call lim none (Opd.ev ts) h (.store size a x) else none
    | _ => none
  | sl, op => exMask call lim base (sl.map (base + ·)) (Opd.ev ts) h op o.mask

def stepOp (call : Callee) (lim base : Nat) (o : AOper) (ts : List AV) (h : List AO) : Option (List AV × List AO) :=
  if wanted ts o.guard then
    match exOper call lim base ts h o with
    | some (v, h') => some (putT ts o.dst v, h')
    | none => none
  else some (putT ts o.dst .undef, h)

def evOps (call : Callee) (lim base : Nat) : List AOper → List AV → List AO → Option (List AV × List AO)
  | [], ts, h => some (ts, h)
  | o :: rest, ts, h => match stepOp call lim base o ts h with
    | some (ts', h') => evOps call lim base rest ts' h'
    | none => none

structure St where
  tmps : List AV
  heap : List AO
  marks : List Nat
  deriving Inhabited

def iter (f : St → Option (Ex × St)) : Nat → St → Option (Ex × St)
  | 0, _ => none
  | n + 1, s => match f s with
    | some (.nrm, s') => iter f n s'
    | r => r

def evCode (call : Callee) (lim n : Nat) (rnd : Option Nat) (fid : Nat) : ACode → St → Option (Ex × St)
  | .skip, s => some (.nrm, s)
  | .region k ops, s => match evOps call lim s.heap.length ops s.tmps (s.heap ++ List.replicate k .tomb) with
    | some (ts, h) => some (.nrm, { s with tmps := ts, heap := h })
    | none => none
  | .seq a b, s => match evCode call lim n rnd fid a s with
    | some (.nrm, s') => evCode call lim n rnd fid b s'
    | r => r
  | .cond c a b, s => match c.ev s.tmps with
    | .bool true => evCode call lim n rnd fid a s
    | .bool false => evCode call lim n rnd fid b s
    | _ => none
  | .block id c, s => match evCode call lim n rnd fid c s with
    | some (.exit id', s') => if id' = id then some (.nrm, s') else some (.exit id', s')
    | r => r
  | .loop c, s => iter (evCode call lim n rnd fid c) n s
  | .scope c, s => evCode call lim n rnd fid c s
  | .exit id, s => some (.exit id, s)
  | .ret, s => some (.ret, s)
  | .rangeFunc f params assign body, s =>
    match rnd with
    | some _ => none
    | none =>
      let d := s.heap.length
      let l := d + 1
      match f.ev s.tmps with
      | .fn g first captured =>
        match call (.fn g) (first ++ [.yld l] ++ captured) (s.heap ++ [.dfr, .loop .ready none fid s.tmps params assign body d]) lim with
        | some (_, h3) =>
          match h3[l]? with
          | some (.loop .ready pend fid ts ps as bd d') => some (pend.getD .nrm, { s with heap := h3.set l (.loop .exhausted pend fid ts ps as bd d'), marks := d :: s.marks })
          | some (.loop .done pend fid ts ps as bd d') => some (pend.getD .nrm, { s with heap := h3.set l (.loop .exhausted pend fid ts ps as bd d'), marks := d :: s.marks })
          | _ => none
        | none => none
      | _ => none

def takeMarks : List Nat → List AO → Option (List AO)
  | [], h => some h
  | m :: r, h => match h[m]? with
    | some .dfr => takeMarks r (h.set m .tomb)
    | _ => none

def getRes (ts : List AV) (h : List AO) : ARes → Option AV
  | .tmp t => some (ts.getD t .undef)
  | .cell agg size t => match ts.getD t .undef with
    | .ptr o off => match rowAt h o with
      | some c => part agg size (c.drop off)
      | none => none
    | _ => none

def finish (lim : Nat) (rs : List ARes) (s : St) : Option (AV × List AO) :=
  match (if s.marks.all (fun m => decide (lim ≤ m)) then takeMarks s.marks s.heap else none) with
  | none => none
  | some h => match rs.mapM (getRes s.tmps h) with
    | some [v] => some (v, h)
    | some vs => some (.tup vs, h)
    | none => none

structure Env where
  fn : Nat → Option AFn
  spec : Nat → List AV → List AO → Nat → Option (AV × List AO)

def setAll : List AV → List Nat → List AV → List AV
  | ts, p :: ps, v :: vs => setAll (ts.set p v) ps vs
  | ts, _, _ => ts

def callN (E : Env) : Nat → Callee
  | 0, _, _, _, _ => none
  | n + 1, .fn f, args, h, lim =>
    match E.spec f args h lim with
    | some r => some r
    | none => match E.fn f with
      | none => none
      | some fn => match evCode (callN E n) lim n none f fn.body ⟨args ++ List.replicate (fn.ntmps - args.length) .undef, h, []⟩ with
        | some (.nrm, s) => finish lim fn.results s
        | some (.ret, s) => finish lim fn.results s
        | _ => none
  | n + 1, .rnd o, args, h, lim =>
    match h[o]? with
    | some (.loop .ready _ fid ts ps as bd _) =>
      if args.length = ps.length ∧ lim ≤ o then
        match evCode (callN E n) lim n (some o) fid as ⟨setAll ts ps args, h, []⟩ with
        | some (.nrm, s1) =>
          match s1.heap[o]? with
          | some (.loop .ready pend fid1 ts1 ps1 as1 bd1 d1) =>
            match evCode (callN E n) lim n (some o) fid bd ⟨s1.tmps, s1.heap.set o (.loop .busy pend fid1 ts1 ps1 as1 bd1 d1), s1.marks⟩ with
            | some (ex, s2) =>
              match s2.heap[o]? with
              | some (.loop _ _ fid ts ps as bd d) =>
                some (.bool (ex == .nrm), s2.heap.set o (.loop (if ex == .nrm then .ready else .done) (if ex == .nrm then none else some ex) fid ts ps as bd d))
              | _ => none
            | none => none
          | _ => none
        | _ => none
      else none
    | _ => none

end Go.Am
