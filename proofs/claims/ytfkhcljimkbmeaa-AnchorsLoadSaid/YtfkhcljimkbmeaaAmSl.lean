/-
Slices of typed elements, and what else the runs of code need: by equations.
-/
import Derived.Test.YtfkhcljimkbmeaaAmWp
namespace Go.Am
open Go
set_option linter.unusedVariables false
set_option linter.unusedSimpArgs false

abbrev I (n : Int) : AV := .int .i64 n
abbrev Bo (b : Bool) : AV := .bool b

section
variable {st : Bool} {h : List AO} {n : Nat}
theorem view_int {k : IntKind} {i : Int} : view st h n (.int k i) = some (.int k i) := by cases n <;> rfl
theorem view_bool {b : Bool} : view st h n (.bool b) = some (.bool b) := by cases n <;> rfl
theorem view_nils : view st h n .nils = some .nils := by cases n <;> rfl
theorem view_agg {c : List AV} : view st h (n + 1) (.agg c) = (c.mapM (view st h n)).map .agg := id rfl
theorem view_tup {c : List AV} : view st h (n + 1) (.tup c) = (c.mapM (view st h n)).map .tup := id rfl
theorem view_ms {e o f l : Nat} : view st h (n + 1) (.ms e o f l) = match Am.rowOf h (.ms e o f l) with | some x => (x.mapM (view st h n)).map (.cs e l) | none => none := id rfl
theorem view_fn {f : Nat} : view st h n (.fn f [] []) = some (.fn f [] []) := by cases n <;> rfl
theorem view_cs {e l : Nat} {c : List AV} : view false h n (.cs e l c) = some (.cs e l c) := by cases n <;> rfl
end

/-! lists, an element at a time: laid so that they are used as equations, not by reckoning -/
section
variable {α : Type} {a b : α} {l : List α} {n : Nat}
theorem set0 : (a :: l).set 0 b = b :: l := id rfl
theorem setS : (a :: l).set (n + 1) b = a :: l.set n b := id rfl
theorem get0 : (a :: l).getD 0 b = a := id rfl
theorem getS : (a :: l).getD (n + 1) b = l.getD n b := id rfl
theorem at0 : (a :: l)[0]? = some a := id rfl
theorem atS : (a :: l)[n + 1]? = l[n]? := id rfl
theorem drop0 : l.drop 0 = l := id rfl
theorem dropS : (a :: l).drop (n + 1) = l.drop n := id rfl
theorem dropN : ([] : List α).drop n = [] := by cases n <;> rfl
theorem take0 : l.take 0 = [] := by cases l <;> rfl
theorem takeS : (a :: l).take (n + 1) = a :: l.take n := id rfl
theorem takeN : ([] : List α).take n = [] := by cases n <;> rfl
theorem apN : [] ++ l = l := id rfl
theorem apC {m : List α} : (a :: l) ++ m = a :: (l ++ m) := id rfl
theorem len0 : ([] : List α).length = 0 := id rfl
theorem lenS : (a :: l).length = l.length + 1 := id rfl
theorem mapN {β : Type} {f : α → β} : [].map f = [] := id rfl
theorem mapC {β : Type} {f : α → β} : (a :: l).map f = f a :: l.map f := id rfl
theorem repl0 : List.replicate 0 a = [] := id rfl
theorem replS : List.replicate (n + 1) a = a :: List.replicate n a := id rfl
theorem head1 : (a :: l).head? = some a := id rfl
theorem allN {p : α → Bool} : [].all p = true := id rfl
theorem allC {p : α → Bool} : (a :: l).all p = (p a && l.all p) := id rfl
theorem omapS {β : Type} {f : α → β} : (some a).map f = some (f a) := id rfl
theorem flatN : ([] : List (List α)).flatten = [] := id rfl
theorem flatC {l : List α} {m : List (List α)} : (l :: m).flatten = l ++ m.flatten := id rfl
theorem atE : (l ++ [a])[l.length]? = some a := by simp
theorem setE : (l ++ [a]).set l.length b = l ++ [b] := by simp
theorem atL1 {b0 : α} : (l ++ [a] ++ [b0])[l.length]? = some a := by simp
theorem setL1 {b0 x : α} : (l ++ [a] ++ [b0]).set l.length x = l ++ [x] ++ [b0] := by simp
theorem atL2 {b0 b1 : α} : (l ++ [a] ++ [b0] ++ [b1])[l.length]? = some a := by simp
theorem setL2 {b0 b1 x : α} : (l ++ [a] ++ [b0] ++ [b1]).set l.length x = l ++ [x] ++ [b0] ++ [b1] := by simp
theorem atL3 {b0 b1 b2 : α} : (l ++ [a] ++ [b0] ++ [b1] ++ [b2])[l.length]? = some a := by simp
theorem setL3 {b0 b1 b2 x : α} : (l ++ [a] ++ [b0] ++ [b1] ++ [b2]).set l.length x = l ++ [x] ++ [b0] ++ [b1] ++ [b2] := by simp
theorem atL4 {b0 b1 b2 b3 : α} : (l ++ [a] ++ [b0] ++ [b1] ++ [b2] ++ [b3])[l.length]? = some a := by simp
theorem setL4 {b0 b1 b2 b3 x : α} : (l ++ [a] ++ [b0] ++ [b1] ++ [b2] ++ [b3]).set l.length x = l ++ [x] ++ [b0] ++ [b1] ++ [b2] ++ [b3] := by simp
theorem atL5 {b0 b1 b2 b3 b4 : α} : (l ++ [a] ++ [b0] ++ [b1] ++ [b2] ++ [b3] ++ [b4])[l.length]? = some a := by simp
theorem setL5 {b0 b1 b2 b3 b4 x : α} : (l ++ [a] ++ [b0] ++ [b1] ++ [b2] ++ [b3] ++ [b4]).set l.length x = l ++ [x] ++ [b0] ++ [b1] ++ [b2] ++ [b3] ++ [b4] := by simp
theorem atL6 {b0 b1 b2 b3 b4 b5 : α} : (l ++ [a] ++ [b0] ++ [b1] ++ [b2] ++ [b3] ++ [b4] ++ [b5])[l.length]? = some a := by simp
theorem setL6 {b0 b1 b2 b3 b4 b5 x : α} : (l ++ [a] ++ [b0] ++ [b1] ++ [b2] ++ [b3] ++ [b4] ++ [b5]).set l.length x = l ++ [x] ++ [b0] ++ [b1] ++ [b2] ++ [b3] ++ [b4] ++ [b5] := by simp
theorem lenE {m : List α} : (l ++ m).length = l.length + m.length := by simp
theorem lit0 {ts : List AV} {i : Nat} : lit ts i 0 = [] := id rfl
theorem litS {ts : List AV} {i k : Nat} : lit ts i (k + 1) = ts.getD i .undef :: lit ts (i + 1) k := id rfl
end

/-- the end of a function that hands places back -/
theorem fin1 {lim i : Nat} {P : AV → List AO → Prop} {ts : List AV} {h : List AO} : Done lim [.tmp i] P .ret ⟨ts, h, []⟩ = P (ts.getD i .undef) h := by
  simp [Done, finish, takeMarks, getRes]
theorem fin2 {lim i j : Nat} {P : AV → List AO → Prop} {ts : List AV} {h : List AO} : Done lim [.tmp i, .tmp j] P .ret ⟨ts, h, []⟩ = P (.tup [ts.getD i .undef, ts.getD j .undef]) h := by
  simp [Done, finish, takeMarks, getRes]
theorem fin0 {lim : Nat} {P : AV → List AO → Prop} {ts : List AV} {h : List AO} : Done lim [] P .ret ⟨ts, h, []⟩ = P (.tup []) h := by
  simp [Done, finish, takeMarks]
theorem fin0n {lim : Nat} {P : AV → List AO → Prop} {ts : List AV} {h : List AO} : Done lim [] P .nrm ⟨ts, h, []⟩ = P (.tup []) h := by
  simp [Done, finish, takeMarks]
theorem finC {lim i s : Nat} {a : Bool} {P : AV → List AO → Prop} {ts : List AV} {h : List AO} : Done lim [.cell a s i] P .ret ⟨ts, h, []⟩ = ∃ v, getRes ts h (.cell a s i) = some v ∧ P v h := by
  simp only [Done, finish, takeMarks, List.all_nil, if_true, List.mapM_cons, List.mapM_nil, Option.bind_eq_bind, Option.pure_def]
  cases getRes ts h (.cell a s i) <;> simp
theorem getC {i s : Nat} {a : Bool} {ts : List AV} {h : List AO} {o f : Nat} {c : List AV} (h1 : ts.getD i .undef = .ptr o f) (h2 : Am.rowAt h o = some c) : getRes ts h (.cell a s i) = Am.part a s (c.drop f) := by
  simp only [getRes, h1, h2]
theorem finG {lim : Nat} {rs : List ARes} {P : AV → List AO → Prop} {ts : List AV} {h : List AO} {vs : List AV} (hv : rs.mapM (getRes ts h) = some vs) : Done lim rs P .ret ⟨ts, h, []⟩ = P (match vs with | [v] => v | vs => .tup vs) h := by
  simp only [Done, finish, takeMarks, List.all_nil, if_true, hv]
  match vs with
  | [] => simp
  | [v] => simp
  | _ :: _ :: _ => simp

theorem wr64 {n : Int} (h1 : -9223372036854775808 ≤ n) (h2 : n ≤ 9223372036854775807) : wr .i64 n = n := by simp only [wr]; rw [if_pos ⟨h1, h2⟩]
theorem ieq (x y : Int) : (x == y) = decide (x = y) := by rw [Bool.eq_iff_iff]; simp
theorem ine (x y : Int) : (x != y) = !decide (x = y) := by rw [bne, ieq]

/-! cells -/
theorem scI {k : IntKind} {n : Int} : AV.scalar (.int k n) = true := id rfl
theorem ceI {k : IntKind} {n : Int} : AV.cells (.int k n) = [.int k n] := id rfl
theorem scB {b : Bool} : AV.scalar (.bool b) = true := id rfl
theorem ceB {b : Bool} : AV.cells (.bool b) = [.bool b] := id rfl
theorem scP {o f : Nat} : AV.scalar (.ptr o f) = true := id rfl
theorem ceP {o f : Nat} : AV.cells (.ptr o f) = [.ptr o f] := id rfl
theorem scNp  : AV.scalar (.nilp) = true := id rfl
theorem ceNp  : AV.cells (.nilp) = [.nilp] := id rfl
theorem scMs {e o f l : Nat} : AV.scalar (.ms e o f l) = true := id rfl
theorem ceMs {e o f l : Nat} : AV.cells (.ms e o f l) = [.ms e o f l] := id rfl
theorem scCs {e l : Nat} {c : List AV} : AV.scalar (.cs e l c) = true := id rfl
theorem ceCs {e l : Nat} {c : List AV} : AV.cells (.cs e l c) = [.cs e l c] := id rfl
theorem scNs  : AV.scalar (.nils) = true := id rfl
theorem ceNs  : AV.cells (.nils) = [.nils] := id rfl
theorem scCp {c : List AV} : AV.scalar (.cptr c) = true := id rfl
theorem ceCp {c : List AV} : AV.cells (.cptr c) = [.cptr c] := id rfl
theorem scFn {f : Nat} {a b : List AV} : AV.scalar (.fn f a b) = true := id rfl
theorem ceFn {f : Nat} {a b : List AV} : AV.cells (.fn f a b) = [.fn f a b] := id rfl
theorem ceAgg {c : List AV} : AV.cells (.agg c) = c := id rfl

/-! slices -/

def lenV : AV → Option AV
  | .nils => some (.int .i64 0)
  | .cs _ len _ => some (.int .i64 len)
  | .ms _ _ _ len => some (.int .i64 len)
  | _ => none

theorem lenV_nils : lenV .nils = some (I 0) := id rfl
theorem lenV_cs {e l : Nat} {c : List AV} : lenV (.cs e l c) = some (I l) := id rfl
theorem lenV_ms {e o f l : Nat} : lenV (.ms e o f l) = some (I l) := id rfl
theorem elemAt_ms {e o f l : Nat} {k : IntKind} {i : Int} (h0 : 0 ≤ i) (h1 : i < l) : elemAt e (.ms e o f l) (.int k i) = some (.ptr o (f + i.toNat * e)) := by
  simp only [elemAt, h0, h1, and_self, if_true]
section
variable {ρ : Opd → AV}
theorem pex_lenS {x : Opd} : pex ρ (.lenS x) = lenV (ρ x) := by simp only [pex, lenV]; cases ρ x <;> rfl
theorem pex_idxSl {e : Nat} {x i : Opd} : pex ρ (.idxSl e x i) = elemAt e (ρ x) (ρ i) := id rfl
theorem pex_move {x : Opd} : pex ρ (.move x) = some (ρ x) := id rfl
theorem pex_pick {c a b : Opd} : pex ρ (.pick c a b) = match ρ c with | .bool t => some (if t then ρ a else ρ b) | _ => none := id rfl
theorem pex_build {z : List AV} {ps : List (Nat × Nat × Opd)} : pex ρ (.build z ps) = (fillL z (ps.map fun (o, s, x) => (o, s, ρ x))).map .agg := id rfl
theorem pex_bin {op : BinOp} {x y : Opd} : pex ρ (.bin op x y) = match ρ x, ρ y with | .int k a, .int k' b => if k = k' then binI op k a b else none | _, _ => none := id rfl
theorem pex_eqB {neg : Bool} {x y : Opd} : pex ρ (.eqB neg x y) = match ρ x, ρ y with | .bool a, .bool b => some (.bool (if neg then !(a == b) else a == b)) | _, _ => none := id rfl
theorem pex_eqS {neg : Bool} {ks : List Bool} {x y : Opd} : pex ρ (.eqS neg ks x y) = match ρ x, ρ y with | .agg a, .agg b => (eqCells ks a b).map fun e => .bool (if neg then !e else e) | _, _ => none := id rfl
theorem pex_not {x : Opd} : pex ρ (.un .not x) = match ρ x with | .bool b => some (.bool !b) | _ => none := by simp only [pex]; cases ρ x <;> rfl
theorem pex_neg {x : Opd} : pex ρ (.un .neg x) = match ρ x with | .int k n => some (.int k (wr k (0 - n))) | _ => none := by simp only [pex]; cases ρ x <;> rfl
theorem pex_conv {k : IntKind} {x : Opd} : pex ρ (.conv k x) = match ρ x with | .int _ n => some (.int k (wr k n)) | _ => none := id rfl
theorem pex_mkFn {f : Nat} {a b : List Opd} : pex ρ (.mkFn f a b) = some (.fn f (a.map ρ) (b.map ρ)) := id rfl
theorem pex_slice {e : Nat} {x : Opd} {lo hi : Option Opd} : pex ρ (.slice e x lo hi) = sliceV e (ρ x) (lo.map ρ) (hi.map ρ) := id rfl
theorem pex_fieldAddr {o : Nat} {x : Opd} : pex ρ (.fieldAddr o x) = addOff (ρ x) o := id rfl
theorem pex_field {a : Bool} {o s : Nat} {x : Opd} : pex ρ (.field a o s x) = match ρ x with | .agg c => part a s (c.drop o) | _ => none := id rfl
theorem pex_idxArr {l e : Nat} {x i : Opd} : pex ρ (.idxArr l e x i) = match ρ i with | .int _ n => if 0 ≤ n ∧ n < l then addOff (ρ x) (n.toNat * e) else none | _ => none := id rfl
theorem pex_idx {a : Bool} {l e : Nat} {x i : Opd} : pex ρ (.idx a l e x i) = match ρ x, ρ i with | .agg c, .int _ n => if 0 ≤ n ∧ n < l then part a e (c.drop (n.toNat * e)) else none | _, _ => none := id rfl
theorem pex_extract {x : Opd} {i : Nat} : pex ρ (.extract x i) = match ρ x with | .tup vs => vs[i]? | _ => none := id rfl
theorem pex_lenA {n : Nat} : pex ρ (.lenA n) = some (.int .i64 n) := id rfl
theorem pex_minmax {m : Bool} {x : Opd} {xs : List Opd} : pex ρ (.minmax m x xs) = mmAll m (ρ x) (xs.map ρ) := id rfl
theorem pex_nilCheckF {x : Opd} {f : Nat} {a b : List AV} (hx : ρ x = .fn f a b) : pex ρ (.nilCheck x) = some (.fn f a b) := by simp only [pex, hx]
end

section
variable {call : Callee} {lim : Nat} {pl : Option Nat} {ρ : Opd → AV} {h : List AO}

def loadV (h : List AO) (agg : Bool) (size : Nat) : AV → Option AV
  | .ptr o off => match Am.rowAt h o with
    | some c => Am.part agg size (c.drop off)
    | none => none
  | .cptr c => Am.part agg size c
  | _ => none
theorem exOp_load {agg : Bool} {size : Nat} {a : Opd} : exOp call lim pl ρ h (.load agg size a) = (loadV h agg size (ρ a)).map fun v => (v, h) := by
  simp only [exOp, loadV]
  cases ρ a with
  | ptr o off => simp only; cases Am.rowAt h o <;> rfl
  | _ => rfl
def storeV (lim : Nat) (h : List AO) (size : Nat) (x : AV) : AV → Option (AV × List AO)
  | .ptr o off => match h[o]? with
    | some (.cells c false) =>
      if x.cells.length = size ∧ off + size ≤ c.length ∧ x.cells.all AV.scalar ∧ lim ≤ o then some (.undef, h.set o (.cells (splice c off x.cells) false)) else none
    | _ => none
  | _ => none
theorem exOp_store {size : Nat} {a x : Opd} : exOp call lim pl ρ h (.store size a x) = storeV lim h size (ρ x) (ρ a) := by
  simp only [exOp, storeV]
  cases ρ a <;> rfl
theorem exOp_alloc {z : List AV} : exOp call lim none ρ h (.alloc z) = some (.ptr h.length 0, h ++ [.cells z false]) := id rfl
theorem exOp_box {x : Opd} : exOp call lim none ρ h (.box x) = some (.ptr h.length 0, h ++ [.cells (ρ x).cells false]) := id rfl
theorem exOp_buildSlice {esz len : Nat} {z : List AV} {ps : List (Nat × Opd)} : exOp call lim none ρ h (.buildSlice esz len z ps) =
    (fillL (zeros len z) (ps.map fun (i, x) => (i * esz, esz, ρ x))).map fun c => (.ms esz h.length 0 len, h ++ [.cells c false]) := rfl
end

section
variable {h : List AO}
theorem rowOf_nils : Am.rowOf h .nils = some [] := id rfl
theorem rowOf_cs {e l : Nat} {c : List AV} : Am.rowOf h (.cs e l c) = some c := id rfl
theorem rowOf_ms {e o f l : Nat} : Am.rowOf h (.ms e o f l) = match Am.rowAt h o with
    | some c => if ((c.drop f).take (l * e)).length = l * e then some ((c.drop f).take (l * e)) else none
    | none => none := id rfl
theorem lenOf_nils : lenOf .nils = some 0 := id rfl
theorem lenOf_cs {e l : Nat} {c : List AV} : lenOf (.cs e l c) = some l := id rfl
theorem lenOf_ms {e o f l : Nat} : lenOf (.ms e o f l) = some l := id rfl
theorem hideN {b : Nat} : hide b [] h = h := id rfl
theorem hideC {b s : Nat} {r : List Nat} : hide b (s :: r) h = (hide b r h).set (b + s) .tomb := id rfl
theorem eqI1 {a b : Int} : eqCells [true] [I a] [I b] = some (decide (a = b)) := by
  simp only [eqCells, if_true]; by_cases h : a = b <;> simp [h]
theorem eqI2 {a b c d : Int} : eqCells [true, true] [I a, I b] [I c, I d] = some (decide (a = c) && decide (b = d)) := by
  simp only [eqCells, if_true]; by_cases h : a = c <;> by_cases h' : b = d <;> simp [h, h']
theorem eqI3 {a b c a' b' c' : Int} : eqCells [true, true, true] [I a, I b, I c] [I a', I b', I c'] = some (decide (a = a') && decide (b = b') && decide (c = c')) := by
  simp only [eqCells, if_true]; by_cases h : a = a' <;> by_cases h' : b = b' <;> by_cases h'' : c = c' <;> simp [h, h', h'']
theorem eqI4 {a b c d a' b' c' d' : Int} : eqCells [true, true, true, true] [I a, I b, I c, I d] [I a', I b', I c', I d'] = some (decide (a = a') && decide (b = b') && decide (c = c') && decide (d = d')) := by
  simp only [eqCells, if_true]; by_cases h : a = a' <;> by_cases h' : b = b' <;> by_cases h'' : c = c' <;> by_cases h3 : d = d' <;> simp [h, h', h'', h3]
theorem eqI5 {a b c d e a' b' c' d' e' : Int} : eqCells [true, true, true, true, true] [I a, I b, I c, I d, I e] [I a', I b', I c', I d', I e'] = some (decide (a = a') && decide (b = b') && decide (c = c') && decide (d = d') && decide (e = e')) := by
  simp only [eqCells, if_true]; by_cases h : a = a' <;> by_cases h' : b = b' <;> by_cases h'' : c = c' <;> by_cases h3 : d = d' <;> by_cases h4 : e = e' <;> simp [h, h', h'', h3, h4]
end

/-! regions whose order is open: what is masked, what has its place -/
section
variable {X : Cx} {base : Nat} {k : List KF} {ts : List AV} {h : List AO} {mk : List Nat} {r : List AOper} {d : Option Nat}
theorem GO_maskR {op : AOp} {m : List Nat} {v : Option AV} (hv : exOp (R X.E) X.lim none (Opd.ev ts) (hide base m h) op = v.map fun v => (v, hide base m h)) : GO X base (⟨d, op, none, none, m⟩ :: r) k ts h mk = GP X base v d r k ts h mk := by
  rw [GO_slot]
  have e : exOper (R X.E) X.lim base ts h ⟨d, op, none, none, m⟩ = v.map fun v => (v, h) := by
    unfold exOper
    split
    · rename_i h1 h2; cases h1
    · simp only [Option.map_none, exMask_eq, hv, Option.map_map]
      congr 1
      funext v
      simp only [Function.comp, unhide_hide]
  rw [e, GX_map]
theorem GO_mload {a : Bool} {s : Nat} {x : Opd} {m : List Nat} : GO X base (⟨d, .load a s x, none, none, m⟩ :: r) k ts h mk = GP X base (loadV (hide base m h) a s (x.ev ts)) d r k ts h mk := GO_maskR exOp_load
theorem GO_mcall1 {f : Nat} {args : List Opd} {m : List Nat} : GO X base (⟨d, .call 1 f args, none, none, m⟩ :: r) k ts h mk =
    GP X base (match (args.map (Opd.ev ts)).mapM (view false (hide base m h) 8) with
      | some vs => Iso X.E f vs (!AV.pureV.go (args.map (Opd.ev ts)))
      | none => none) d r k ts h mk := GO_maskR (by
  rw [exOp_call1]
  cases (args.map (Opd.ev ts)).mapM (view false (hide base m h) 8) <;> rfl)
theorem GO_mcall3 {f : Nat} {args : List Opd} {m : List Nat} : GO X base (⟨d, .call 3 f args, none, none, m⟩ :: r) k ts h mk = GP X base (Ro X.E f (args.map (Opd.ev ts)) (hide base m h)) d r k ts h mk := GO_maskR exOp_call3
theorem GO_salloc {z : List AV} {s : Nat} : GO X base (⟨d, .alloc z, none, some s, []⟩ :: r) k ts h mk = GO X base r k (putT ts d (.ptr (base + s) 0)) (h.set (base + s) (.cells z false)) mk := by
  rw [GO_slot]; rfl
theorem GO_sbox {x : Opd} {s : Nat} : GO X base (⟨d, .box x, none, some s, []⟩ :: r) k ts h mk = GO X base r k (putT ts d (.ptr (base + s) 0)) (h.set (base + s) (.cells (x.ev ts).cells false)) mk := by
  rw [GO_slot]; rfl
theorem GO_sbuild {e l : Nat} {z : List AV} {ps : List (Nat × Opd)} {s : Nat} : GO X base (⟨d, .buildSlice e l z ps, none, some s, []⟩ :: r) k ts h mk =
    GX X base ((fillL (zeros l z) (ps.map fun (i, x) => (i * e, e, Opd.ev ts x))).map fun c => (.ms e (base + s) 0 l, h.set (base + s) (.cells c false))) d r k ts mk := by
  rw [GO_slot]; rfl
theorem GO_sstore {n : Nat} {a x : Opd} {s : Nat} {m : List Nat} : GO X base (⟨d, .store n a x, none, some s, m⟩ :: r) k ts h mk =
    GX X base (match Opd.ev ts a with | .ptr p _ => if p = base + s then storeV X.lim h n (Opd.ev ts x) (Opd.ev ts a) else none | _ => none) d r k ts mk := by
  rw [GO_slot]
  simp only [exOper]
  congr 1
end

/-- a slice that reads so -/
def IsSl {α : Type} (esz : Nat) (enc : α → List AV) (l : List α) (v : AV) : Prop := v = .cs esz l.length (l.flatMap enc) ∨ (v = .nils ∧ l = [])

section
variable {α : Type} {esz : Nat} {enc : α → List AV} {l : List α} {v : AV}

theorem flat_len (he : ∀ a, (enc a).length = esz) : ∀ l : List α, (l.flatMap enc).length = l.length * esz
  | [] => by simp
  | a :: l => by simp only [List.flatMap_cons, List.length_append, he, flat_len he l, List.length_cons, Nat.succ_mul]; omega

theorem flat_at (he : ∀ a, (enc a).length = esz) : ∀ (l : List α) (i : Nat) (h : i < l.length), ((l.flatMap enc).drop (i * esz)).take esz = enc l[i]
  | [], i, h => by simp at h
  | a :: l, 0, h => by simp [List.take_append_of_le_length, he]
  | a :: l, i + 1, h => by
    have h' : i < l.length := by simpa using h
    simp only [List.flatMap_cons, List.getElem_cons_succ]
    rw [← flat_at he l i h', show (i + 1) * esz = (enc a).length + i * esz by rw [he, Nat.succ_mul]; omega, List.drop_append, List.drop_eq_nil_of_le (by omega)]
    simp

theorem lenV_sl (h : IsSl esz enc l v) : lenV v = some (I l.length) := by
  rcases h with rfl | ⟨rfl, rfl⟩ <;> rfl

theorem elem_sl [Inhabited α] (he : ∀ a, (enc a).length = esz) (h : IsSl esz enc l v) : ∀ i : Int, 0 ≤ i → i < l.length → elemAt esz v (I i) = some (.cptr (enc (l.getD i.toNat default))) := by
  intro i h0 h1
  rcases h with rfl | ⟨rfl, rfl⟩
  · have hi : i.toNat < l.length := by omega
    simp only [elemAt, h0, h1, and_self, if_true, flat_at he l i.toNat hi, List.getD_eq_getElem?_getD, List.getElem?_eq_getElem hi, Option.getD_some]
  · simp at h1; omega

theorem view_sl (h : IsSl esz enc l v) : ∀ (g : List AO) (n : Nat), view false g n v = some v := by
  rcases h with rfl | ⟨rfl, rfl⟩ <;> intro g n <;> cases n <;> rfl

theorem pure_sl (h : IsSl esz enc l v) : v.pureV = true := by
  rcases h with rfl | ⟨rfl, rfl⟩ <;> rfl

theorem scalar_sl (h : IsSl esz enc l v) : v.scalar = true := by
  rcases h with rfl | ⟨rfl, rfl⟩ <;> rfl

theorem cells_sl (h : IsSl esz enc l v) : v.cells = [v] := by
  rcases h with rfl | ⟨rfl, rfl⟩ <;> rfl

theorem lenOf_sl (h : IsSl esz enc l v) : lenOf v = some l.length := by
  rcases h with rfl | ⟨rfl, rfl⟩ <;> rfl

theorem rowOf_sl (h : IsSl esz enc l v) : ∀ g : List AO, rowOf g v = some (l.flatMap enc) := by
  rcases h with rfl | ⟨rfl, rfl⟩ <;> intro g <;> simp [rowOf]

theorem scal_sl (hs : ∀ a, (enc a).all AV.scalar = true) : ∀ l : List α, (l.flatMap enc).all AV.scalar = true
  | [] => rfl
  | a :: l => by rw [List.flatMap_cons, List.all_append, hs, scal_sl hs l]; rfl
end

/-! append -/

def appV (lim : Nat) (h : List AO) (esz eb : Nat) (s x : AV) : Option (AV × List AO) :=
  match lenOf s, lenOf x, Am.rowOf h x with
  | some sl, some n, some xs =>
    if xs.length = n * esz then
      if n = 0 then some (s, h) else
      if (sl + n) * eb ≤ 1099511627776 ∧ 1 ≤ eb ∧ xs.all AV.scalar then
        match s with
        | .nils => some (.ms esz h.length 0 n, h ++ [.cells xs false])
        | .ms e o off len =>
          match h[o]? with
          | some (.cells c sh) =>
            if e = esz ∧ off = 0 ∧ lim ≤ o ∧ (len * esz = c.length ∨ (sh = false ∧ len * esz ≤ c.length)) then
              some (.ms esz h.length 0 (len + n), h.set o .tomb ++ [.cells (c.take (len * esz) ++ xs) sh])
            else none
          | _ => none
        | _ => none
      else none
    else none
  | _, _, _ => none
section
variable {call : Callee} {lim : Nat} {ρ : Opd → AV} {h : List AO}
theorem exOp_append {esz eb : Nat} {s x : Opd} : exOp call lim none ρ h (.append false esz eb s x) = appV lim h esz eb (ρ s) (ρ x) := by
  simp only [exOp, appV, newAt, newObj', Bool.false_eq_true, if_false, Bool.false_and, Bool.false_or, true_and, Option.getD_none]
  cases lenOf (ρ s) <;> rfl
theorem appV_ms {esz eb o len n : Nat} {x : AV} {c xs : List AV} {sh : Bool} (ho : h[o]? = some (.cells c sh)) (hlen : len * esz = c.length) (hx : lenOf x = some n) (hr : Am.rowOf h x = some xs) (hxl : xs.length = n * esz)
    (hs : xs.all AV.scalar = true) (hb : (len + n) * eb ≤ 1099511627776) (heb : 1 ≤ eb) (hl : lim ≤ o) : appV lim h esz eb (.ms esz o 0 len) x = if n = 0 then some (.ms esz o 0 len, h) else some (.ms esz h.length 0 (len + n), h.set o .tomb ++ [.cells (c ++ xs) sh]) := by
  simp only [appV, lenOf_ms, hx, hr, hxl, hs, hb, heb, ho, hl, hlen, if_true, true_and, and_self, true_or, List.take_length]
theorem appV_nil {esz eb n : Nat} {x : AV} {xs : List AV} (hx : lenOf x = some n) (hr : Am.rowOf h x = some xs) (hxl : xs.length = n * esz)
    (hs : xs.all AV.scalar = true) (hb : n * eb ≤ 1099511627776) (heb : 1 ≤ eb) : appV lim h esz eb .nils x = if n = 0 then some (.nils, h) else some (.ms esz h.length 0 n, h ++ [.cells xs false]) := by
  simp only [appV, lenOf_nils, hx, hr, hxl, hs, Nat.zero_add, hb, heb, if_true, true_and, and_self, true_or, Nat.zero_add]
theorem appV_new {α : Type} {esz eb : Nat} {enc : α → List AV} {l : List α} {x : AV} (hv : IsSl esz enc l x) (he : ∀ a, (enc a).length = esz) (hs : ∀ a, (enc a).all AV.scalar = true) (hb : l.length * eb ≤ 1099511627776) (heb : 1 ≤ eb) :
    ∀ (h : List AO) (o lim : Nat), h[o]? = some (.cells [] false) → lim ≤ o → appV lim h esz eb (.ms esz o 0 0) x = if l.length = 0 then some (.ms esz o 0 0, h) else some (.ms esz h.length 0 l.length, h.set o .tomb ++ [.cells (l.flatMap enc) false]) := by
  intro h o lim ho hl
  rw [appV_ms ho (by simp) (lenOf_sl hv) (rowOf_sl hv h) (flat_len he l) (scal_sl hs l) (by simpa using hb) heb hl]
  simp
end

end Go.Am
