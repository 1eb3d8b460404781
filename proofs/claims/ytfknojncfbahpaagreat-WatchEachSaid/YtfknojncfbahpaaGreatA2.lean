/-
Functions of both sides of stage 1, one after another (A2).
-/
import Derived.Test.YtfknojncfbahpaaGreatA1
/-
What the program answers: Fish,Whole,Came,Passed.
-/
namespace Go.Proofs.YtfknojncfbahpaaGreat.S
open Go Go.Am Go.Proofs.YtfknojncfbahpaaGreat.T
set_option maxRecDepth 100000
set_option linter.unusedSimpArgs false
set_option linter.unusedVariables false
def Trap.C (t : Trap) : Nat:=t.ch.toNat
def Trap.T (t : Trap) : Nat:=t.tm.toNat
theorem eqC {t : Trap} (hv : t.valid = true) : t.ch = t.C:=by
 have:=(valid_trb hv).c0
 unfold Trap.C; omega
theorem eqT {t : Trap} (hv : t.valid = true) : t.tm = t.T:=by
 have:=(valid_trb hv).t0
 unfold Trap.T; omega
section
variable {t : Trap} {o w : AV}
theorem call73 (H : TrOk t o w) (fit : Bool) (h : List AO) :
  ∃
   p e K,(∀ {lim : Nat} {ρ : Opd → AV} {x y : Opd},ρ x = trV t o w → ρ y = Bo fit → exOp (R E) lim none ρ h (.call 2 117 [x,y]) = some (.tup [p,I e],h ++ K)) ∧
   StR t t.C t.T o w fit (h ++ K) (2 + h.length) p e:=by
 obtain ⟨p,e,K,hr,hs⟩:=r73 H eqC eqT fit
 refine ⟨p.shift h.length,e,K.map (AO.shift h.length),?_,?_⟩
 ·intro lim ρ x y hx hy
  simp only [exOp,List.map_cons,List.map_nil,hx,hy,pureTb H fit,if_true,hr]
  rfl
 ·cases hs with
  | bad hv => exact .bad hv
  | arg hv hf => exact .arg hv hf
  | none hv hf hn => exact .none hv hf hn
  | ok hv hf hk hB hs => exact .ok hv hf (at_shift hk (shift_sl H.o) (shift_sl H.w)) hB hs
structure Xt (t : Trap) (f : (Nat → Int) → Int) (lo hi : Int) : Prop where
 b : ∀ x,Sat 21 (bat wide) x → AllS t.C t.T t x → lo ≤ f x ∧ f x ≤ hi
 l : ∃ x,Sat 21 (bat wide) x ∧ AllS t.C t.T t x ∧ f x = lo
 h : ∃ x,Sat 21 (bat wide) x ∧ AllS t.C t.T t x ∧ f x = hi
theorem Xt.uniq {f : (Nat → Int) → Int} {lo hi lo' hi' : Int} (X : Xt t f lo hi) (Y : Xt t f lo' hi') : lo = lo' ∧ hi = hi':=by
 obtain ⟨x,a1,a2,a3⟩:=X.l
 obtain ⟨y,b1,b2,b3⟩:=Y.l
 obtain ⟨z,c1,c2,c3⟩:=X.h
 obtain ⟨u,d1,d2,d3⟩:=Y.h
 have:=X.b y b1 b2
 have:=Y.b x a1 a2
 have:=X.b u d1 d2
 have:=Y.b z c1 c2
 omega
theorem Says.xt {B : List Int} (K : Ok B) (s : Says t.C t.T t B) {i j : Nat} (hi : i < 21) (hj : j < 21) : Xt t (fun x => x i - x j) (- bat B j i) (bat B i j):=by
 refine ⟨fun x h1 h2 => ?_,?_,?_⟩
 ·have hx:=(s x).2 ⟨h1,h2⟩
  have a:=hx i j hi hj
  have b:=hx j i hj hi
  omega
 ·obtain ⟨x,hx,_,e⟩:=reach0 K.cld hj hi
  have:=(s x).1 hx
  exact ⟨x,this.1,this.2,by show x i - x j = _; omega⟩
 ·obtain ⟨x,hx,_,e⟩:=reach0 K.cld hi hj
  have:=(s x).1 hx
  exact ⟨x,this.1,this.2,e⟩
inductive Ans (t : Trap) (fit : Bool) (f : (Nat → Int) → Int) : Int → Int → Int → Prop
 | bad (h : t.valid = false) : Ans t fit f 0 0 10
 | arg (h : t.valid = true) (hf : fit = false) : Ans t fit f 0 0 1
 | none (h : t.valid = true) (hf : fit = true) (hn : ¬ Solv t.C t.T t) : Ans t fit f 0 0 3
 | ok {lo hi : Int} (h : t.valid = true) (hf : fit = true) (hs : Solv t.C t.T t) (hx : Xt t f lo hi) : Ans t fit f lo hi 0
theorem Ans.uniq {fit : Bool} {f : (Nat → Int) → Int} {lo hi e lo' hi' e' : Int} (X : Ans t fit f lo hi e) (Y : Ans t fit f lo' hi' e') : lo = lo' ∧ hi = hi' ∧ e = e':=by
 cases X <;> cases Y <;> first | exact ⟨rfl,rfl,rfl⟩ | (exfalso; simp_all; done) | (rename_i x _ _ _ y; exact ⟨(x.uniq y).1,(x.uniq y).2,rfl⟩)
theorem finS {lim i j : Nat} {P : AV → List AO → Prop} {ts : List AV} {a b : Int} {x : AO} {K : List AO} (h6 : ts.getD i .undef = .ptr 1 0) (hp : P (.tup [.agg [I a,I b],ts.getD j .undef]) (x :: .cells [I a,I b] false :: K)) :
  Done lim [.cell true 2 i,.tmp j] P .ret ⟨ts,x :: .cells [I a,I b] false :: K,[]⟩:=by
 have e : getRes ts (x :: .cells [I a,I b] false :: K) (.cell true 2 i) = some (.agg [I a,I b]):=by
  simp only [getRes,h6]; rfl
 rw [finG (vs:=[.agg [I a,I b],ts.getD j .undef]) (by
  simp only [List.mapM_cons,List.mapM_nil,e]; rfl)]
 exact hp
set_option maxHeartbeats 4000000 in
theorem s32 (H : TrOk t o w) (time c : Int) : ∃ lo hi e,(∀ st,Iso E 78 [trV t o w,I time,I c] st = some (.tup [.agg [I lo,I hi],I e])) ∧ Ans t (placeB t time c) (fun x => gap t.C x time.toNat c.toNat) lo hi e:=by
 have c1:=fun st => s81 H time c st
 obtain ⟨fit,hfit⟩ : ∃ fit,fit = placeB t time c:=⟨_,rfl⟩
 rw [← hfit] at c1 ⊢
 obtain ⟨p,e,K,q,hs⟩:=call73 H fit [.cells [I t.ch,I t.tm,o,w] false,.cells [I 0,I 0] false]
 simp only [trV] at q c1 ⊢
 cases hs with
 |
  bad hv =>
  refine ⟨0,0,10,fun st => ?_,.bad hv⟩
  refine Iso_of (es _ _ _ _) e78 ?_
  simp only [f78]
  simp (disch:=first|assumption|omega|(simp only[az];done)) only [ru,eq_self,if_true,AO.row?,loadV,Am.rowAt,Am.part,Nat.reduceAdd,Nat.reduceSub,view_sl H.o,view_sl H.w,pure_sl H.o,pure_sl H.w,c1]
  rw [q rfl rfl]
  simp (disch:=first|assumption|omega|(simp only[az];done)) only [ru,eq_self,if_true,binI,splice,fillL,storeV,Nat.reduceAdd,Nat.reduceLeDiff,Int.reduceEq]
  exact finS rfl rfl
 |
  arg hv hf =>
  refine ⟨0,0,1,fun st => ?_,.arg hv hf⟩
  refine Iso_of (es _ _ _ _) e78 ?_
  simp only [f78]
  simp (disch:=first|assumption|omega|(simp only[az];done)) only [ru,eq_self,if_true,AO.row?,loadV,Am.rowAt,Am.part,Nat.reduceAdd,Nat.reduceSub,view_sl H.o,view_sl H.w,pure_sl H.o,pure_sl H.w,c1]
  rw [q rfl rfl]
  simp (disch:=first|assumption|omega|(simp only[az];done)) only [ru,eq_self,if_true,binI,splice,fillL,storeV,Nat.reduceAdd,Nat.reduceLeDiff,Int.reduceEq]
  exact finS rfl rfl
 |
  none hv hf hn =>
  refine ⟨0,0,3,fun st => ?_,.none hv hf hn⟩
  refine Iso_of (es _ _ _ _) e78 ?_
  simp only [f78]
  simp (disch:=first|assumption|omega|(simp only[az];done)) only [ru,eq_self,if_true,AO.row?,loadV,Am.rowAt,Am.part,Nat.reduceAdd,Nat.reduceSub,view_sl H.o,view_sl H.w,pure_sl H.o,pure_sl H.w,c1]
  rw [q rfl rfl]
  simp (disch:=first|assumption|omega|(simp only[az];done)) only [ru,eq_self,if_true,binI,splice,fillL,storeV,Nat.reduceAdd,Nat.reduceLeDiff,Int.reduceEq]
  exact finS rfl rfl
 |
  @ok B hv hf hk hB hs =>
  have V:=valid_trb hv
  have v1:=V.c0; have v2:=V.c1; have v3:=V.t0; have v4:=V.t1
  have eC:=eqC hv; have eT:=eqT hv
  have pl : 0 ≤ time ∧ time < t.tm ∧ 0 ≤ c ∧ c < t.ch:=by
   rw [hfit] at hf
   simp only [placeB,Bool.and_eq_true,decide_eq_true_eq] at hf; omega
  obtain ⟨ti,rfl⟩ : ∃ ti : Nat,time = ti:=⟨time.toNat,by omega⟩
  obtain ⟨ci,rfl⟩ : ∃ ci : Nat,c = ci:=⟨c.toNat,by omega⟩
  simp only [Int.toNat_natCast]
  have ia:=sumN_lt (ch:=t.C) (t:=ti) (c:=ci) (by omega) (by omega) (by omega)
  have ib:=sumN_lt (ch:=t.C) (t:=ti) (c:=ci + 1) (by omega) (by omega) (by omega)
  simp only [List.cons_append,List.nil_append,List.length_cons,List.length_nil] at hk
  have c82:=s82 hk hB (t:=ti) (c:=ci) (by omega) (by omega) (by omega)
  refine ⟨_,_,0,fun st => ?_,.ok hv hf (hs.solv hB) (hs.xt hB ia ib)⟩
  refine Iso_of (es _ _ _ _) e78 ?_
  simp only [f78]
  simp (disch:=first|assumption|omega|(simp only[az];done)) only [ru,eq_self,if_true,AO.row?,loadV,Am.rowAt,Am.part,Nat.reduceAdd,Nat.reduceSub,view_sl H.o,view_sl H.w,pure_sl H.o,pure_sl H.w,c1]
  rw [q rfl rfl]
  simp (disch:=first|assumption|omega|(simp only[az];done)) only [ru,eq_self,if_true,binI,splice,fillL,storeV,Nat.reduceAdd,Nat.reduceLeDiff,c82]
  exact finS rfl rfl
end
end Go.Proofs.YtfknojncfbahpaaGreat.S
/-
What the program answers: Whole,Came,Passed.
-/
namespace Go.Proofs.YtfknojncfbahpaaGreat.S
open Go Go.Am Go.Proofs.YtfknojncfbahpaaGreat.T
set_option maxRecDepth 100000
set_option linter.unusedSimpArgs false
set_option linter.unusedVariables false
section
variable {t : Trap} {o w : AV}
end
end Go.Proofs.YtfknojncfbahpaaGreat.S
/-
The reference's spans in the heap: what differ does to them.
-/
namespace Go.Proofs.YtfknojncfbahpaaGreat.S
open Go Go.Am Go.Proofs.YtfknojncfbahpaaGreat.T
set_option maxRecDepth 100000
set_option linter.unusedSimpArgs false
set_option linter.unusedVariables false
def Spn.e (s : Spn) : List AV:=[I s.lo,I s.hi]
theorem Spn.el (s : Spn) : s.e.length = 2:=rfl
theorem s113 (a b c d : Int) (st : Bool) : Iso E 146 [.agg [I a,I b],.agg [I c,I d]] st = some (.agg [I (mx a c),I (mn b d)]):=by
 refine Iso_of (es _ _ _ _) e146 ?_
 simp only [f146]
 simp (disch:=first|assumption|omega|(simp only[az];done)) only [ru,eq_self,if_true,if_false,AO.row?,splice,fillL,mmAll,loadV,storeV,Am.rowAt,Am.part,addOff,Nat.reduceAdd,Nat.reduceLeDiff,Nat.reduceSub,mmx,finC,getRes,Option.some.injEq,exists_eq_left']
 rfl
theorem flat_put {α : Type} {esz : Nat} {enc : α → List AV} (he : ∀ a,(enc a).length = esz) (x : α) : ∀ (l : List α) (i : Nat),i < l.length →
  (l.flatMap enc).take (i * esz) ++ enc x ++ (l.flatMap enc).drop (i * esz + esz) = (l.set i x).flatMap enc
 | [],i,h => by simp at h
 |
  a :: l,0,h => by
  have : (a :: l).flatMap enc = enc a ++ l.flatMap enc:=rfl
  rw [this,Nat.zero_mul,Nat.zero_add,List.take_zero,List.drop_left' (he a)]
  rfl
 |
  a :: l,i + 1,h => by
  have ih:=flat_put he x l i (by simpa using h)
  have e : (i + 1) * esz = (enc a).length + i * esz:=by rw [he,Nat.succ_mul]; omega
  have e2 : (i + 1) * esz + esz = (enc a).length + (i * esz + esz):=by omega
  show ((enc a ++ l.flatMap enc).take ((i + 1) * esz)) ++ enc x ++ (enc a ++ l.flatMap enc).drop ((i + 1) * esz + esz) = enc a ++ (l.set i x).flatMap enc
  rw [e2,e,List.take_append,List.drop_append,List.take_of_length_le (by omega),List.drop_eq_nil_of_le (by omega),Nat.add_sub_cancel_left,Nat.add_sub_cancel_left,← ih]
  simp
theorem flat_take {α : Type} {esz : Nat} {enc : α → List AV} (he : ∀ a,(enc a).length = esz) : ∀ (l : List α) (i : Nat) (h : i < l.length),((l.flatMap enc).drop (i * esz)).take esz = enc l[i]
 | [],i,h => by simp at h
 |
  a :: l,0,h => by
  have : (a :: l).flatMap enc = enc a ++ l.flatMap enc:=rfl
  rw [this,Nat.zero_mul,List.drop_zero,List.take_left' (he a)]; rfl
 |
  a :: l,i + 1,h => by
  have ih:=flat_take he l i (by simpa using h)
  have e : (i + 1) * esz = (enc a).length + i * esz:=by rw [he,Nat.succ_mul]; omega
  show ((enc a ++ l.flatMap enc).drop ((i + 1) * esz)).take esz = _
  rw [e,List.drop_append,List.drop_eq_nil_of_le (by omega),Nat.add_sub_cancel_left,List.nil_append,ih]
  rfl
def pos (C i c : Nat) : Nat:=i * (C + 1) + c
theorem pos_inj {C i c i' c' : Nat} (hc : c ≤ C) (hc' : c' ≤ C) : pos C i c = pos C i' c' ↔ i = i' ∧ c = c':=by
 unfold pos
 constructor
 ·intro h
  have h1 : (i * (C + 1) + c) / (C + 1) = i:=by rw [Nat.add_comm,Nat.add_mul_div_right _ _ (by omega),Nat.div_eq_of_lt (by omega),Nat.zero_add]
  have h2 : (i' * (C + 1) + c') / (C + 1) = i':=by rw [Nat.add_comm,Nat.add_mul_div_right _ _ (by omega),Nat.div_eq_of_lt (by omega),Nat.zero_add]
  rw [h,h2] at h1
  subst h1
  exact ⟨rfl,by omega⟩
 ·rintro ⟨rfl,rfl⟩; rfl
def rowL (C : Nat) (S : Sps) (k : Nat) : List Spn:=(List.range (C + 1)).map fun c => S (pos C k c)
theorem rowL_len {C : Nat} {S : Sps} {k : Nat} : (rowL C S k).length = C + 1:=by simp [rowL]
theorem rowL_at {C : Nat} {S : Sps} {k c : Nat} (hc : c < (rowL C S k).length) : (rowL C S k)[c] = S (pos C k c):=by simp [rowL]
def rowC (C : Nat) (S : Sps) (k : Nat) : List AV:=(rowL C S k).flatMap Spn.e
theorem rowC_len {C : Nat} {S : Sps} {k : Nat} : (rowC C S k).length = 2 * (C + 1):=by
 have : ∀ l : List Spn,(l.flatMap Spn.e).length = 2 * l.length:=by
  intro l
  induction l with
  | nil => rfl
  | cons a l ih => rw [List.flatMap_cons,List.length_append,ih,Spn.el,List.length_cons]; omega
 rw [rowC,this,rowL_len]
theorem rowC_at {C : Nat} {S : Sps} {k c : Nat} (hc : c ≤ C) : ((rowC C S k).drop (c * 2)).take 2 = [I (S (pos C k c)).lo,I (S (pos C k c)).hi]:=by
 have h : c < (rowL C S k).length:=by rw [rowL_len]; omega
 rw [rowC,flat_take Spn.el _ _ h,rowL_at]; rfl
def putS (S : Sps) (p : Nat) (s : Spn) : Sps:=fun q => if q = p then s else S q
theorem rowC_put {C : Nat} {S : Sps} {k c : Nat} (hc : c ≤ C) (s : Spn) : (rowC C S k).take (c * 2) ++ s.e ++ (rowC C S k).drop (c * 2 + 2) = rowC C (putS S (pos C k c) s) k:=by
 have h : c < (rowL C S k).length:=by rw [rowL_len]; omega
 rw [rowC,flat_put Spn.el s _ _ h,rowC]
 congr 1
 apply List.ext_getElem
 ·simp [rowL]
 ·intro i h1 h2
  rw [rowL_len] at h2
  rw [List.getElem_set,rowL_at,rowL_at]
  simp only [putS]
  by_cases e : c = i
  ·subst e; rw [if_pos rfl,if_pos rfl]
  ·rw [if_neg e,if_neg (fun h => e ((pos_inj (by omega) hc).1 h).2.symm)]
theorem rowC_other {C : Nat} {S : Sps} {k k' c : Nat} (hc : c ≤ C) (hk : k' ≠ k) (s : Spn) : rowC C (putS S (pos C k c) s) k' = rowC C S k':=by
 rw [rowC,rowC]
 congr 1
 apply List.ext_getElem
 ·simp [rowL]
 ·intro i h1 h2
  rw [rowL_len] at h2
  rw [rowL_at,rowL_at]
  simp only [putS]
  rw [if_neg (fun h => hk ((pos_inj (by omega) hc).1 h).1)]
structure SpH (C T oo : Nat) (oi : Nat → Nat) (S : Sps) (h : List AO) : Prop where
 out : h[oo]? = some (.cells ((List.range T).map fun k => .ms 2 (oi k) 0 (C + 1)) false)
 row : ∀ k,k < T → h[oi k]? = some (.cells (rowC C S k) false)
 ne : ∀ k,k < T → oi k ≠ oo
 inj : ∀ k l,k < T → l < T → oi k = oi l → k = l
section
variable {C T oo : Nat} {oi : Nat → Nat} {S : Sps} {h : List AO}
theorem out_at {k : Nat} (hk : k < T) : (((List.range T).map fun k => AV.ms 2 (oi k) 0 (C + 1)).drop k).head? = some (.ms 2 (oi k) 0 (C + 1)):=by
 rw [List.head?_drop]; simp [hk]
theorem SpH.put (H : SpH C T oo oi S h) {k c : Nat} (hk : k < T) (hc : c ≤ C) (s : Spn) : SpH C T oo oi (putS S (pos C k c) s) (h.set (oi k) (.cells (rowC C (putS S (pos C k c) s) k) false)):=by
 refine ⟨?_,fun k' hk' => ?_,H.ne,H.inj⟩
 ·rw [List.getElem?_set_ne (H.ne k hk)]; exact H.out
 ·by_cases e : k' = k
  ·subst e
   rw [List.getElem?_set_self (List.getElem?_eq_some_iff.1 (H.row k' hk)).1]
  ·rw [List.getElem?_set_ne (fun e' => e (H.inj k k' hk hk' e').symm),rowC_other hc e]; exact H.row k' hk'
theorem SpH.ext {h' : List AO} (H : SpH C T oo oi S h) (ho : h'[oo]? = h[oo]?) (hi : ∀ k,k < T → h'[oi k]? = h[oi k]?) : SpH C T oo oi S h' :=
 ⟨ho.trans H.out,fun k hk => (hi k hk).trans (H.row k hk),H.ne,H.inj⟩
theorem SpH.lo (H : SpH C T oo oi S h) : oo < h.length:=(List.getElem?_eq_some_iff.1 H.out).1
theorem SpH.li (H : SpH C T oo oi S h) {k : Nat} (hk : k < T) : oi k < h.length:=(List.getElem?_eq_some_iff.1 (H.row k hk)).1
theorem SpH.app (H : SpH C T oo oi S h) (J : List AO) : SpH C T oo oi S (h ++ J):=H.ext (at_ap H.lo) fun k hk => at_ap (H.li hk)
end
end Go.Proofs.YtfknojncfbahpaaGreat.S
/-
What differ does to spans in the heap.
-/
namespace Go.Proofs.YtfknojncfbahpaaGreat.S
open Go Go.Am Go.Proofs.YtfknojncfbahpaaGreat.T
set_option maxRecDepth 100000
set_option linter.unusedSimpArgs false
set_option linter.unusedVariables false
structure FrS (T : Nat) (oi : Nat → Nat) (h h' : List AO) : Prop where
 le : h.length ≤ h'.length
 fr : ∀ o,o < h.length → (∀ k,k < T → o ≠ oi k) → h'[o]? = h[o]?
set_option maxHeartbeats 4000000 in
theorem r100 {C T oo lim : Nat} {oi : Nat → Nat} {S : Sps} {h : List AO} (H : SpH C T oo oi S h) {i c i2 c2 : Nat} (hi : i < T) (hc : c ≤ C) (hi2 : i2 < T) (hc2 : c2 ≤ C) (hne : pos C i c ≠ pos C i2 c2) {lo hi' : Int}
  (hlo : -1000 ≤ lo ∧ lo ≤ 1000) (hhi : -1000 ≤ hi' ∧ hi' ≤ 1000) (sa : -1000000 ≤ (S (pos C i c)).lo ∧ (S (pos C i c)).lo ≤ 1000000 ∧ -1000000 ≤ (S (pos C i c)).hi ∧ (S (pos C i c)).hi ≤ 1000000)
  (sb : -1000000 ≤ (S (pos C i2 c2)).lo ∧ (S (pos C i2 c2)).lo ≤ 1000000 ∧ -1000000 ≤ (S (pos C i2 c2)).hi ∧ (S (pos C i2 c2)).hi ≤ 1000000) (hl : ∀ k,k < T → lim ≤ oi k) (hl2 : lim ≤ h.length) :
  ∃ h',R E (.fn 121) [.ms 1 oo 0 T,I i,I c,I i2,I c2,I lo,I hi'] h lim = some (Bo (chg S ⟨pos C i c,pos C i2 c2,lo,hi'⟩),h') ∧ SpH C T oo oi (dif S ⟨pos C i c,pos C i2 c2,lo,hi'⟩) h' ∧ FrS T oi h h':=by
 suffices hh : ∃ r h',R E (.fn 121) [.ms 1 oo 0 T,I i,I c,I i2,I c2,I lo,I hi'] h lim = some (r,h') ∧ (r = Bo (chg S ⟨pos C i c,pos C i2 c2,lo,hi'⟩) ∧ SpH C T oo oi (dif S ⟨pos C i c,pos C i2 c2,lo,hi'⟩) h' ∧ FrS T oi h h') by
  obtain ⟨r,h',hr,rfl,hh⟩:=hh
  exact ⟨h',hr,hh⟩
 refine R_of _ (es _ _ _ _) e121 ?_
 simp only [f121]
 obtain ⟨a,ha⟩ : ∃ a,a = S (pos C i c):=⟨_,rfl⟩
 obtain ⟨b,hb⟩ : ∃ b,b = S (pos C i2 c2):=⟨_,rfl⟩
 rw [← ha] at sa
 rw [← hb] at sb
 have li : (i : Int) < T:=by omega
 have li0 : (0 : Int) ≤ i:=by omega
 have lj : (i2 : Int) < T:=by omega
 have lj0 : (0 : Int) ≤ i2:=by omega
 have lc : (c : Int) < (C + 1 : Nat):=by omega
 have lc0 : (0 : Int) ≤ c:=by omega
 have ld : (c2 : Int) < (C + 1 : Nat):=by omega
 have ld0 : (0 : Int) ≤ c2:=by omega
 have oa:=out_at (C:=C) (oi:=oi) hi
 have ob:=out_at (C:=C) (oi:=oi) hi2
 have ra : List.take 2 (List.drop (c * 2) (rowC C S i)) = [I a.lo,I a.hi]:=by rw [rowC_at hc,ha]
 have rb : List.take 2 (List.drop (c2 * 2) (rowC C S i2)) = [I b.lo,I b.hi]:=by rw [rowC_at hc2,hb]
 obtain ⟨O,hO⟩ : ∃ O : List AV,O = (List.range T).map fun k => .ms 2 (oi k) 0 (C + 1):=⟨_,rfl⟩
 rw [← hO] at oa ob
 have f1 : ∀ J,(h ++ J)[oo]? = some (.cells O false):=fun J => by rw [hO]; exact (H.app J).out
 have f2 : ∀ J,(h ++ J)[oi i]? = some (.cells (rowC C S i) false):=fun J => (H.app J).row i hi
 have f3 : ∀ J,(h ++ J)[oi i2]? = some (.cells (rowC C S i2) false):=fun J => (H.app J).row i2 hi2
 have f9010:=H.out
 rw [← hO] at f9010
 simp (disch:=first|assumption|omega|(simp only[az];done)) only [ru,eq_self,if_true,if_false,AO.row?,splice,loadV,storeV,Am.rowAt,Am.part,Nat.reduceAdd,Nat.reduceLeDiff,Nat.reduceSub,f1,f2,f3,Int.toNat_natCast,Nat.mul_one,oa,ob,ra,rb,setT,setT0,atT,atT0,hl2]
 have hl3 : lim ≤ h.length + 1:=by omega
 obtain ⟨h1,hh1⟩ : ∃ h1 : List AO,h1 = h ++ [.cells [I a.lo,I a.hi] false,.cells [I b.lo,I b.hi] false]:=⟨_,rfl⟩
 have H1 : SpH C T oo oi S h1:=by rw [hh1]; exact H.app _
 have l1 : h1.length = h.length + 2:=by rw [hh1]; simp
 have g4 : h1[h.length]? = some (.cells [I a.lo,I a.hi] false):=by rw [hh1,atT0]; rfl
 have g5 : h1[h.length + 1]? = some (.cells [I b.lo,I b.hi] false):=by rw [hh1,atT]; rfl
 have gf : ∀ o,o < h.length → h1[o]? = h[o]?:=fun o ho => by rw [hh1,at_ap ho]
 have g1:=H1.out
 rw [← hO] at g1
 have li1:=H.li hi
 have li2:=H.li hi2
 have ll1:=hl i hi
 have ll2:=hl i2 hi2
 rw [if_pos hl3,← hh1]
 obtain ⟨x,hx⟩ : ∃ x,x = cut a ⟨b.lo + lo,b.hi + hi'⟩:=⟨_,rfl⟩
 obtain ⟨y,hy⟩ : ∃ y,y = cut b ⟨a.lo - hi',a.hi - lo⟩:=⟨_,rfl⟩
 have e1 : mx a.lo (b.lo + lo) = x.lo:=by rw [hx]; rfl
 have e2 : mn a.hi (b.hi + hi') = x.hi:=by rw [hx]; rfl
 have e3 : mx b.lo (a.lo - hi') = y.lo:=by rw [hy]; rfl
 have e4 : mn b.hi (a.hi - lo) = y.hi:=by rw [hy]; rfl
 have p1:=rowC_put (S:=S) (k:=i) hc x
 simp only [Spn.e,List.append_assoc,List.cons_append,List.nil_append] at p1
 have n1 : c * 2 + 2 ≤ (rowC C S i).length:=by rw [rowC_len]; omega
 simp (disch:=first|assumption|omega|(simp only[az];done)) only [ru,eq_self,if_true,if_false,binI,AO.row?,splice,fillL,loadV,storeV,Am.rowAt,Am.part,addOff,Nat.reduceAdd,Nat.reduceLeDiff,g1,g4,g5,H1.row i hi,Int.toNat_natCast,Nat.mul_one,oa,s113,e1,e2,List.append_assoc,p1,n1,ll1]
 have H2:=H1.put hi hc x
 obtain ⟨S1,hS1⟩ : ∃ S1,S1 = putS S (pos C i c) x:=⟨_,rfl⟩
 obtain ⟨h2,hh2⟩ : ∃ h2,h2 = h1.set (oi i) (.cells (rowC C (putS S (pos C i c) x) i) false):=⟨_,rfl⟩
 rw [← hh2,← hS1] at H2
 rw [← hh2]
 have l2 : h2.length = h1.length:=by rw [hh2]; simp
 have lh1:=H.li hi
 have lh2:=H.li hi2
 have q4 : h2[h.length]? = some (.cells [I a.lo,I a.hi] false):=by rw [hh2,List.getElem?_set_ne (by omega)]; exact g4
 have q5 : h2[h.length + 1]? = some (.cells [I b.lo,I b.hi] false):=by rw [hh2,List.getElem?_set_ne (by omega)]; exact g5
 have q1:=H2.out
 rw [← hO] at q1
 have H3:=H2.put hi2 hc2 y
 obtain ⟨S2,hS2⟩ : ∃ S2,S2 = putS S1 (pos C i2 c2) y:=⟨_,rfl⟩
 have p2:=rowC_put (S:=S1) (k:=i2) hc2 y
 rw [← hS2] at H3 p2
 simp only [Spn.e,List.append_assoc,List.cons_append,List.nil_append] at p2
 have n2 : c2 * 2 + 2 ≤ (rowC C S1 i2).length:=by rw [rowC_len]; omega
 have q6 : (h2.set (oi i2) (AO.cells (rowC C S2 i2) false))[h.length]? = some (.cells [I a.lo,I a.hi] false):=by rw [List.getElem?_set_ne (by omega)]; exact q4
 have q7 : (h2.set (oi i2) (AO.cells (rowC C S2 i2) false))[h.length + 1]? = some (.cells [I b.lo,I b.hi] false):=by rw [List.getElem?_set_ne (by omega)]; exact q5
 have q8:=H3.out
 rw [← hO] at q8
 have sx : S2 (pos C i c) = x:=by rw [hS2]; unfold putS; rw [if_neg hne,hS1]; unfold putS; rw [if_pos rfl]
 have sy : S2 (pos C i2 c2) = y:=by rw [hS2]; unfold putS; rw [if_pos rfl]
 have rx : List.take 2 (List.drop (c * 2) (rowC C S2 i)) = [I x.lo,I x.hi]:=by rw [rowC_at hc,sx]
 have ry : List.take 2 (List.drop (c2 * 2) (rowC C S2 i2)) = [I y.lo,I y.hi]:=by rw [rowC_at hc2,sy]
 simp (disch:=first|assumption|omega|(simp only[az];done)) only [ru,eq_self,if_true,if_false,binI,AO.row?,splice,fillL,loadV,storeV,Am.rowAt,Am.part,addOff,Nat.reduceAdd,Nat.reduceLeDiff,q1,q4,q5,H2.row i2 hi2,q6,q8,H3.row i hi,Int.toNat_natCast,Nat.mul_one,oa,ob,rx,s113,e3,e4,List.append_assoc,p2,n2,ll2]
 have ed : dif S ⟨pos C i c,pos C i2 c2,lo,hi'⟩ = S2:=by
  funext p
  rw [hS2,hS1]
  unfold dif putS
  simp only
  by_cases ea : p = pos C i c
  ·rw [if_pos ea,if_neg (fun e => hne (ea.symm.trans e)),if_pos ea,hx,ha,hb]
  ·rw [if_neg ea]
   by_cases eb : p = pos C i2 c2
   ·rw [if_pos eb,if_pos eb,hy,ha,hb]
   ·rw [if_neg eb,if_neg eb,if_neg ea]
 have spE : ∀ u v : Spn,(!(decide (u.lo = v.lo) && decide (u.hi = v.hi))) = decide (u ≠ v):=by
  intro u v
  cases u; cases v
  rename_i a1 a2 a3 a4
  by_cases h1 : a1 = a3 <;> by_cases h2 : a2 = a4 <;> simp [h1,h2]
 have ec : chg S ⟨pos C i c,pos C i2 c2,lo,hi'⟩ = (decide (x ≠ a) || decide (y ≠ b)):=by
  unfold chg
  rw [ed]
  simp only
  rw [sx,sy,← ha,← hb]
 have fin : SpH C T oo oi S2 (h2.set (oi i2) (.cells (rowC C S2 i2) false)) ∧ FrS T oi h (h2.set (oi i2) (.cells (rowC C S2 i2) false)):=by
  refine ⟨H3,⟨by simp only [List.length_set]; omega,fun o ho hn => ?_⟩⟩
  rw [List.getElem?_set_ne (fun e => hn i2 hi2 e.symm),hh2,List.getElem?_set_ne (fun e => hn i hi e.symm),gf o ho]
 rw [ed,ec]
 have u1:=spE x a
 have v1:=spE y b
 obtain ⟨u,hu⟩ : ∃ u,u = decide (x ≠ a):=⟨_,rfl⟩
 obtain ⟨v,hv⟩ : ∃ v,v = decide (y ≠ b):=⟨_,rfl⟩
 rw [← hu] at u1 ⊢
 rw [← hv] at v1 ⊢
 rw [u1]
 cases u
 ·simp (disch:=first|assumption|omega|(simp only[az];done)) only [ru,eq_self,if_true,if_false,AO.row?,loadV,Am.rowAt,Am.part,Nat.reduceAdd,q7,q8,H3.row i2 hi2,Int.toNat_natCast,Nat.mul_one,ob,ry]
  rw [v1]
  simp (disch:=first|assumption|omega|(simp only[az];done)) only [ru,eq_self,Bool.false_or]
  first | exact fin | exact ⟨rfl,fin⟩ | trace_state
 ·simp (disch:=first|assumption|omega|(simp only[az];done)) only [ru,eq_self,if_true,Bool.true_or]
  first | exact fin | exact ⟨rfl,fin⟩ | trace_state
end Go.Proofs.YtfknojncfbahpaaGreat.S
/-
Spans that are known of nothing,as the reference makes them.
-/
namespace Go.Proofs.YtfknojncfbahpaaGreat.S
open Go Go.Am Go.Proofs.YtfknojncfbahpaaGreat.T
set_option maxRecDepth 100000
set_option linter.unusedSimpArgs false
set_option linter.unusedVariables false
def freeS (C : Nat) : Sps:=fun p => if p % (C + 1) < C then ⟨0,40⟩ else ⟨0,0⟩
theorem freeS_at {C i c : Nat} (hc : c ≤ C) : freeS C (pos C i c) = if c < C then ⟨0,40⟩ else ⟨0,0⟩:=by
 unfold freeS pos
 rw [Nat.add_comm,Nat.add_mul_mod_self_right,Nat.mod_eq_of_lt (by omega)]
def halfL (C c : Nat) : List Spn:=(List.range (C + 1)).map fun q => if q < c then ⟨0,40⟩ else ⟨0,0⟩
def halfC (C c : Nat) : List AV:=(halfL C c).flatMap Spn.e
theorem half_full {C i : Nat} : halfC C C = rowC C (freeS C) i:=by
 unfold halfC rowC halfL rowL
 congr 1
 apply List.map_congr_left
 intro q hq
 rw [List.mem_range] at hq
 rw [freeS_at (by omega)]
theorem halfL_len {C c : Nat} : (halfL C c).length = C + 1:=by simp [halfL]
theorem halfC_len {C c : Nat} : (halfC C c).length = 2 * (C + 1):=by
 have : ∀ l : List Spn,(l.flatMap Spn.e).length = 2 * l.length:=by
  intro l
  induction l with
  | nil => rfl
  | cons a l ih => rw [List.flatMap_cons,List.length_append,ih,Spn.el,List.length_cons]; omega
 rw [halfC,this,halfL_len]
theorem half_put {C c : Nat} (hc : c < C) : (halfC C c).take (c * 2 + 1) ++ I 40 :: (halfC C c).drop (c * 2 + 2) = halfC C (c + 1):=by
 have hl : c < (halfL C c).length:=by rw [halfL_len]; omega
 have p:=flat_put Spn.el ⟨0,40⟩ _ _ hl
 have q:=flat_take Spn.el _ _ hl
 have g : (halfL C c)[c] = ⟨0,0⟩:=by simp [halfL]
 rw [g] at q
 have e1 : (halfC C c).take (c * 2 + 1) = (halfC C c).take (c * 2) ++ [I 0]:=by
  rw [List.take_add]
  congr 1
  have : List.take 1 (List.take 2 (List.drop (c * 2) (halfC C c))) = [I 0]:=by
   unfold halfC; rw [q]; rfl
  rw [List.take_take] at this
  exact this
 rw [e1,List.append_assoc]
 have e2 : (halfL C c).set c ⟨0,40⟩ = halfL C (c + 1):=by
  apply List.ext_getElem
  ·simp [halfL]
  ·intro i h1 h2
   rw [List.getElem_set]
   simp only [halfL,List.getElem_map,List.getElem_range]
   by_cases e : c = i
   ·subst e; rw [if_pos rfl,if_pos (by omega)]
   ·rw [if_neg e]
    by_cases h : i < c
    ·rw [if_pos h,if_pos (by omega)]
    ·rw [if_neg h,if_neg (by omega)]
 rw [e2] at p
 rw [show halfC C (c + 1) = (halfL C (c + 1)).flatMap Spn.e from rfl,← p,List.append_assoc]
 rfl
theorem half_zero {C : Nat} : zeros (C + 1) [I 0,I 0] = halfC C 0:=by
 unfold zeros halfC halfL
 rw [List.flatMap_def,List.map_map]
 congr 1
 apply List.ext_getElem
 ·simp
 ·intro i h1 h2
  simp [Spn.e]
theorem exOp_mk {lim : Nat} {ρ : Opd → AV} {h : List AO} {esz eb n : Nat} {zero : List AV} {x y : Opd} (hx : ρ x = I n) (hy : ρ y = I n) (hb : eb * n ≤ 140737488355328) (heb : 1 ≤ eb) :
  exOp (R E) lim none ρ h (.makeSlice false esz eb zero x y) = some (.ms esz h.length 0 n,h ++ [.cells (zeros n zero) false]):=by
 simp only [exOp,hx,hy]
 rw [if_pos ⟨by omega,by omega,by omega,heb⟩]
 rfl
set_option maxHeartbeats 4000000 in
theorem r85 {t : Trap} {o w : AV} {C T : Nat} (H : TrOk t o w) (hC : t.ch = C) (hT : t.tm = T) (hC4 : C ≤ 4) (hT5 : T ≤ 5) (hT1 : 1 ≤ T) :
  ∃ r K,R E (.fn 81) [trV t o w] [] 0 = some (r,K) ∧ (∃ oo oi,r = .ms 1 oo 0 T ∧ SpH C T oo oi (freeS C) K):=by
 refine R_of _ (es _ _ _ _) e81 ?_
 simp only [f81,trV]
 simp (disch:=first|assumption|omega|(simp only[az];done)) only [ru,Nat.reduceSub]
 refine G_loop_ind (fun n ts hk mk => ∃ (i : Nat) (v : AV),i ≤ T ∧ n = T - i ∧ ts.length = 32 ∧ ts.getD 1 .undef = .ptr 0 0 ∧ ts.getD 3 .undef = v ∧ ts.getD 4 .undef = I i ∧ hk[0]? = some (.cells [I t.ch,I t.tm,o,w] false) ∧ hk.length = 1 + 3 * i ∧
  (v = .nils ∧ i = 0 ∨ 0 < i ∧ v = .ms 1 (3 * i) 0 i ∧ SpH C i (3 * i) (fun k => 1 + 3 * k) (freeS C) hk) ∧ mk = []) ?_ _ _ _ _
  ⟨0,.nils,Nat.zero_le _,rfl,rfl,rfl,rfl,rfl,rfl,rfl,.inl ⟨rfl,rfl⟩,rfl⟩
 rintro n ts hk mk ih ⟨i,v,hi,rfl,hl,q1,q3,q4,h0,lk,hv,rfl⟩
 rw [lit_all hl]
 simp only [lit0,litS,Nat.reduceAdd,q1,q3,q4]
 simp (disch:=first|assumption|omega|(simp only[az];done)) only [ru,eq_self,if_true,if_false,binI,AO.row?,loadV,Am.rowAt,Am.part,addOff,h0]
 by_cases lt : (i : Int) < t.tm
 case neg =>
  obtain rfl : i = T:=by omega
  simp (disch:=first|assumption|omega|(simp only[az];done)) only [ru,lt]
  rcases hv with ⟨_,e⟩ | ⟨_,rfl,hs⟩
  ·omega
  ·exact ⟨_,_,rfl,hs⟩
 have h0J : ∀ J,(hk ++ J)[0]? = some (.cells [I t.ch,I t.tm,o,w] false):=fun J => by rw [at_ap (by omega)]; exact h0
 rw [hT] at lt
 simp (disch:=first|assumption|omega|(simp only[az];done)) only [ru,eq_self,if_true,if_false,binI,AO.row?,loadV,Am.rowAt,Am.part,addOff,hC,hT,lt,h0]
 rw [exOp_mk (n:=C + 1) rfl rfl (by omega) (by omega),half_zero]
 simp (disch:=first|assumption|omega|(simp only[az];done)) only [ru]
 clear hl q1 q3 q4
 refine G_loop_ind (fun n ts hh mk => ∃ (c : Nat),c ≤ C ∧ n = C - c ∧ ts.length = 32 ∧ ts.getD 1 .undef = .ptr 0 0 ∧ ts.getD 3 .undef = v ∧ ts.getD 4 .undef = I i ∧ ts.getD 5 .undef = .ms 2 hk.length 0 (C + 1) ∧ ts.getD 6 .undef = I c ∧ hh = hk ++ [.cells (halfC C c) false] ∧ mk = []) ?_ _ _ _ _
  ⟨0,Nat.zero_le _,rfl,rfl,rfl,rfl,rfl,rfl,rfl,rfl,rfl⟩
 rintro n ts hh mk ihC ⟨c,hc,rfl,hl,q1,q3,q4,q5,q6,rfl,rfl⟩
 rw [lit_all hl]
 simp only [lit0,litS,Nat.reduceAdd,q1,q3,q4,q5,q6]
 simp (disch:=first|assumption|omega|(simp only[az];done)) only [ru,eq_self,if_true,if_false,binI,AO.row?,loadV,Am.rowAt,Am.part,addOff,h0J,hC]
 by_cases lc : (c : Int) < C
 case pos =>
  have c0 : (0 : Int) ≤ c:=by omega
  have c1 : (c : Int) < (C + 1 : Nat):=by omega
  have pt:=half_put (C:=C) (c:=c) (by omega)
  have fit : c * 2 + 1 + 1 ≤ (halfC C c).length:=by rw [halfC_len]; omega
  simp (disch:=first|assumption|omega|(simp only[az];done)) only [ru,eq_self,if_true,binI,splice,storeV,addOff,Nat.reduceAdd,lc,Int.toNat_natCast,List.append_assoc,lenE,setT0,atT0,Nat.add_assoc,fit,pt]
  exact ihC (C - (c + 1)) _ _ _ (by omega) ⟨c + 1,by omega,rfl,rfl,rfl,rfl,rfl,rfl,by show I _ = I _; congr 1,rfl,rfl⟩
 obtain rfl : c = C:=by omega
 simp (disch:=first|assumption|omega|(simp only[az];done)) only [ru,eq_self,if_true,splice,fillL,zeros,Nat.reduceMul,Nat.reduceLeDiff,lc,List.append_assoc,lenE]
 obtain ⟨h2,hh2⟩ : ∃ h2 : List AO,h2 = hk ++ [AO.cells (halfC c c) false,AO.cells [AV.ms 2 hk.length 0 (c + 1)] false]:=⟨_,rfl⟩
 rw [← hh2]
 have l2 : h2.length = 3 * (i + 1):=by rw [hh2]; simp; omega
 have k1 : h2[hk.length]? = some (.cells (halfC c c) false):=by rw [hh2,atT0]; rfl
 have k2 : h2[hk.length + 1]? = some (.cells [AV.ms 2 hk.length 0 (c + 1)] false):=by rw [hh2,atT]; rfl
 have kf : ∀ o,o < hk.length → h2[o]? = hk[o]?:=fun o ho => by rw [hh2,at_ap ho]
 have hr : Am.rowOf h2 (.ms 1 (hk.length + 1) 0 1) = some [AV.ms 2 hk.length 0 (c + 1)]:=by
  simp only [rowOf_ms,Am.rowAt,k2,Option.bind_some,AO.row?]; rfl
 have row1 : h2[1 + 3 * i]? = some (.cells (rowC c (freeS c) i) false):=by rw [← lk,k1,half_full]
 rcases hv with ⟨rfl,rfl⟩ | ⟨hi0,rfl,hs⟩
 ·rw [appV_nil (n:=1) (xs:=[AV.ms 2 hk.length 0 (c + 1)]) rfl hr rfl rfl (by omega) (by omega),if_neg (by omega)]
  simp (disch:=first|assumption|omega|(simp only[az];done)) only [ru,eq_self,if_true,binI,Int.reduceAdd]
  refine ih (T - (0 + 1)) _ _ _ (by omega) ⟨0 + 1,_,by omega,rfl,rfl,rfl,rfl,rfl,?_,?_,.inr ⟨by omega,?_,?_⟩,rfl⟩
  ·rw [at_ap (by omega),kf 0 (by omega),h0,hC]
  ·simp [l2]; try omega
  ·rw [l2]; rfl
  ·refine ⟨?_,fun k hk' => ?_,fun k hk' => by omega,fun k l _ _ e => by omega⟩
   ·rw [← l2,atT0]; simp [lk]
   ·obtain rfl : k = 0:=by omega
    rw [at_ap (by omega)]; exact row1
 ·have ho:=hs.out
  have ho2 : h2[3 * i]? = some (.cells ((List.range i).map fun k => .ms 2 (1 + 3 * k) 0 (c + 1)) false):=by rw [kf _ (by omega)]; exact ho
  rw [appV_ms (n:=1) (xs:=[AV.ms 2 hk.length 0 (c + 1)]) ho2 (by simp) rfl hr rfl rfl (by omega) (by omega) (Nat.zero_le _),if_neg (by omega)]
  simp (disch:=first|assumption|omega|(simp only[az];done)) only [ru,eq_self,if_true,binI]
  refine ih (T - (i + 1)) _ _ _ (by omega) ⟨i + 1,_,by omega,rfl,rfl,rfl,rfl,rfl,?_,?_,.inr ⟨by omega,?_,?_⟩,rfl⟩
  ·rw [at_ap (by simp; omega),List.getElem?_set_ne (by omega),kf 0 (by omega),h0,hC]
  ·simp [l2]; try omega
  ·rw [l2]; rfl
  ·have ls : (h2.set (3 * i) AO.tomb).length = 3 * (i + 1):=by simp [l2]
   refine ⟨?_,fun k hk' => ?_,fun k hk' => by omega,fun k l _ _ e => by omega⟩
   ·rw [← ls,atT0]; simp [lk,List.range_succ]
   ·rw [at_ap (by omega),List.getElem?_set_ne (by omega)]
    by_cases e : k = i
    ·subst e; exact row1
    ·rw [kf _ (by omega)]; exact hs.row k (by omega)
end Go.Proofs.YtfknojncfbahpaaGreat.S
/-
The steps of a pass of settle.
-/
namespace Go.Proofs.YtfknojncfbahpaaGreat.S
open Go Go.Am Go.Proofs.YtfknojncfbahpaaGreat.T
set_option maxRecDepth 100000
set_option linter.unusedSimpArgs false
set_option linter.unusedVariables false
def rowP (C : Nat) (t : Trap) (i c : Nat) : List Stp:=.chk (pos C i c) :: .dif ⟨pos C i c,pos C i (c + 1),0,40⟩ :: (if i = 0 then [] else [.dif ⟨pos C i c,pos C (i - 1) c,0,mayP t.op (i - 1) c⟩])
def rowsP (C : Nat) (t : Trap) (i : Nat) : List Stp:=(List.range C).flatMap (rowP C t i)
def wordC (C : Nat) (w : Wd) : Con:=⟨pos C w.time.toNat w.ch.toNat,pos C w.time.toNat (w.ch.toNat + 1),w.lo,w.hi⟩
def restW (C : Nat) (t : Trap) (k : Nat) : List Stp:=(t.ws.drop k).map fun w => .dif (wordC C w)
def restT (C T : Nat) (t : Trap) (i : Nat) : List Stp:=((List.range T).drop i).flatMap (rowsP C t) ++ restW C t 0
def restC (C T : Nat) (t : Trap) (i c : Nat) : List Stp:=((List.range C).drop c).flatMap (rowP C t i) ++ restT C T t (i + 1)
def passL (C T : Nat) (t : Trap) : List Stp:=restT C T t 0
section
variable {C T i c k : Nat} {t : Trap}
theorem drop_range {n m : Nat} (h : m < n) : (List.range n).drop m = m :: (List.range n).drop (m + 1):=by
 rw [List.drop_eq_getElem_cons (by simpa using h)]; simp
theorem restT_lt (h : i < T) : restT C T t i = restC C T t i 0:=by
 unfold restT restC
 rw [drop_range h,List.flatMap_cons,List.append_assoc]
 rfl
theorem restT_ge : restT C T t T = restW C t 0:=by
 unfold restT; rw [List.drop_eq_nil_of_le (by simp)]; rfl
theorem restC_lt (h : c < C) : restC C T t i c = rowP C t i c ++ restC C T t i (c + 1):=by
 unfold restC
 rw [drop_range h,List.flatMap_cons,List.append_assoc]
theorem restC_ge : restC C T t i C = restT C T t (i + 1):=by
 unfold restC; rw [List.drop_eq_nil_of_le (by simp)]; rfl
theorem restW_lt (h : k < t.ws.length) : restW C t k = .dif (wordC C (t.ws.getD k default)) :: restW C t (k + 1):=by
 unfold restW
 rw [List.drop_eq_getElem_cons h,List.map_cons,List.getD_eq_getElem?_getD,List.getElem?_eq_getElem h]
 rfl
theorem restW_ge : restW C t t.ws.length = []:=by
 unfold restW; rw [List.drop_eq_nil_of_le (by simp)]; rfl
end
structure At (C T oo : Nat) (oi : Nat → Nat) (l : List Stp) (S : Sps) (h0 : List AO) (rest : List Stp) (ch : Bool) (S' : Sps) (hk : List AO) : Prop where
 sp : SpH C T oo oi S' hk
 fr : FrS T oi h0 hk
 eq : pass l S false = pass rest S' ch
 bd : Bdd (T * (C + 1)) (8000 - 40 * (difs rest).length) S'
theorem pos_lt {C T i c : Nat} (hi : i < T) (hc : c ≤ C) : pos C i c < T * (C + 1):=by
 unfold pos
 have:=Nat.mul_le_mul_right (C + 1) (show i + 1 ≤ T by omega)
 rw [Nat.add_mul] at this
 omega
theorem rowC_lo {C : Nat} {S : Sps} {k c : Nat} (hc : c ≤ C) : ((rowC C S k).drop (c * 2)).head? = some (I (S (pos C k c)).lo):=by
 have h:=rowC_at (S:=S) (k:=k) hc
 have : ((rowC C S k).drop (c * 2)).head? = (((rowC C S k).drop (c * 2)).take 2).head?:=by rw [List.head?_take]; rfl
 rw [this,h]; rfl
theorem rowC_hi {C : Nat} {S : Sps} {k c : Nat} (hc : c ≤ C) : ((rowC C S k).drop (c * 2 + 1)).head? = some (I (S (pos C k c)).hi):=by
 have h:=rowC_at (S:=S) (k:=k) hc
 have e : (rowC C S k).drop (c * 2 + 1) = ((rowC C S k).drop (c * 2)).drop 1:=by rw [List.drop_drop]
 have : (((rowC C S k).drop (c * 2)).drop 1).head? = ((((rowC C S k).drop (c * 2)).take 2).drop 1).head?:=by
  rw [List.drop_take,List.head?_take]; rfl
 rw [e,this,h]; rfl
section
variable {C T oo lim : Nat} {oi : Nat → Nat} {l : List Stp} {S S' : Sps} {h0 hk : List AO} {rest : List Stp} {ch : Bool}
theorem FrS.trans {a b c : List AO} (x : FrS T oi a b) (y : FrS T oi b c) : FrS T oi a c :=
 ⟨Nat.le_trans x.le y.le,fun o ho hn => (y.fr o (Nat.lt_of_lt_of_le ho x.le) hn).trans (x.fr o ho hn)⟩
theorem FrS.refl {a : List AO} : FrS T oi a a:=⟨Nat.le_refl _,fun _ _ _ => rfl⟩
theorem At.dif {i c i2 c2 : Nat} {lo hi : Int} (A : At C T oo oi l S h0 (.dif ⟨pos C i c,pos C i2 c2,lo,hi⟩ :: rest) ch S' hk) (hi1 : i < T) (hc : c ≤ C) (hi2 : i2 < T) (hc2 : c2 ≤ C) (hne : ¬ (i = i2 ∧ c = c2))
  (b0 : 0 ≤ lo) (b1 : lo ≤ hi) (b2 : hi ≤ 40) (hl : ∀ k,k < T → lim ≤ oi k) (hl2 : lim ≤ hk.length) :
  ∃ u h',R E (.fn 121) [.ms 1 oo 0 T,I i,I c,I i2,I c2,I lo,I hi] hk lim = some (Bo u,h') ∧ hk.length ≤ h'.length ∧ At C T oo oi l S h0 rest (u || ch) (Go.Proofs.YtfknojncfbahpaaGreat.S.dif S' ⟨pos C i c,pos C i2 c2,lo,hi⟩) h':=by
 have hb:=A.bd
 have p1:=pos_lt (C:=C) (T:=T) hi1 hc
 have p2:=pos_lt (C:=C) (T:=T) hi2 hc2
 have x1:=hb _ p1
 have x2:=hb _ p2
 have bd':=dif_bdd (c:=⟨pos C i c,pos C i2 c2,lo,hi⟩) p1 p2 b0 b1 b2 hb
 obtain ⟨h',hr,H',F'⟩:=r100 A.sp (lim:=lim) hi1 hc hi2 hc2 (fun e => hne ((pos_inj hc hc2).1 e)) (lo:=lo) (hi':=hi) (by omega) (by omega) (by omega) (by omega) hl hl2
 refine ⟨_,h',hr,F'.le,⟨H',A.fr.trans F',A.eq,?_⟩⟩
 intro p hp
 have:=bd' p hp
 simp only [difs,List.length_cons] at this
 omega
theorem At.chk {p : Nat} (A : At C T oo oi l S h0 (.chk p :: rest) ch S' hk) : ((S' p).lo > (S' p).hi → pass l S false = none) ∧ (¬ (S' p).lo > (S' p).hi → At C T oo oi l S h0 rest ch S' hk):=by
 have e:=A.eq
 rw [pass] at e
 refine ⟨fun h => ?_,fun h => ?_⟩
 ·rw [if_pos h] at e; exact e
 ·rw [if_neg h] at e; exact ⟨A.sp,A.fr,e,A.bd⟩
end
end Go.Proofs.YtfknojncfbahpaaGreat.S
/-
settle: passes until nothing changes.
-/
namespace Go.Proofs.YtfknojncfbahpaaGreat.S
open Go Go.Am Go.Proofs.YtfknojncfbahpaaGreat.T
set_option maxRecDepth 100000
set_option linter.unusedSimpArgs false
set_option linter.unusedVariables false
structure Btw (N : Nat) (l : List Stp) (z : Nat → Bool) (S0 S : Sps) (ch : Bool) : Prop where
 y : ch = true → StI N l z S0 S ∧ ∀ x,Tru0 N l S0 x → InS N S x
 n : ch = false → ∃ Sp,Nar S0 Sp ∧ (∀ x,Tru0 N l S0 x → InS N Sp x) ∧ pass l Sp false = some (S,false)
set_option maxHeartbeats 8000000 in
theorem r84 {t : Trap} {o w : AV} {C T oo lim : Nat} {oi : Nat → Nat} {S0 : Sps} {h : List AO} {z : Nat → Bool} {N : Nat} (hN : N = T * (C + 1)) {l : List Stp} (hl' : l = passL C T t) (H : TrOk t o w) (V : TrB t) (hC : t.ch = C) (hT : t.tm = T) (SP : SpH C T oo oi S0 h)
  (Y : Sys N l z) (hB : Beg N S0) (hb40 : Bdd N 40 S0) (hL : (difs l).length ≤ 50) (hl : ∀ k,k < T → lim ≤ oi k) (hl2 : lim ≤ h.length) :
  ∃ b h',R E (.fn 80) [trV t o w,.ms 1 oo 0 T] h lim = some (Bo b,h') ∧ FrS T oi h h' ∧ (b = true → ∃ S',SpH C T oo oi S' h' ∧ Left N l S0 S') ∧ (b = false → ¬ ∃ x,Tru0 N l S0 x):=by
 suffices hh : ∃ r h',R E (.fn 80) [trV t o w,.ms 1 oo 0 T] h lim = some (r,h') ∧ (∃ b,r = Bo b ∧ FrS T oi h h' ∧ (b = true → ∃ S',SpH C T oo oi S' h' ∧ Left N l S0 S') ∧ (b = false → ¬ ∃ x,Tru0 N l S0 x)) by
  obtain ⟨r,h',hr,b,rfl,hh⟩:=hh
  exact ⟨b,h',hr,hh⟩
 have v1:=V.c0; have v2:=V.c1; have v3:=V.t0; have v4:=V.t1; have v5:=V.o; have v6:=V.w
 refine R_of _ (es _ _ _ _) e80 ?_
 simp only [f80,trV]
 simp (disch:=first|assumption|omega|(simp only[az];done)) only [ru,Nat.reduceAdd,Nat.reduceSub]
 obtain ⟨h1,hh1⟩ : ∃ h1 : List AO,h1 = h ++ [.cells [I t.ch,I t.tm,o,w] false]:=⟨_,rfl⟩
 have l1 : h1.length = h.length + 1:=by rw [hh1]; simp
 have F1 : FrS T oi h h1:=⟨by omega,fun o ho _ => by rw [hh1,at_ap ho]⟩
 have bx1 : h1[h.length]? = some (.cells [I t.ch,I t.tm,o,w] false):=by rw [hh1,atT0]; rfl
 have SP1 : SpH C T oo oi S0 h1:=by rw [hh1]; exact SP.app _
 have oil : ∀ k,k < T → h.length ≠ oi k:=fun k hk => by have:=SP.li hk; omega
 have bx : ∀ {hk : List AO},FrS T oi h1 hk → hk[h.length]? = some (.cells [I t.ch,I t.tm,o,w] false):=fun F => by rw [F.fr _ (by omega) oil]; exact bx1
 rw [← hh1]
 refine G_loop_ind (fun n ts hk mk => ∃ (S : Sps) (ch : Bool),n = (if ch then rank N z S + 1 else 0) ∧ ts.length = 133 ∧ ts.getD 1 .undef = .ms 1 oo 0 T ∧ ts.getD 2 .undef = .ptr h.length 0 ∧ ts.getD 5 .undef = Bo ch ∧
   SpH C T oo oi S hk ∧ FrS T oi h1 hk ∧ Btw N l z S0 S ch ∧ mk = []) ?_ _ _ _ _
  ⟨S0,true,rfl,rfl,rfl,rfl,rfl,SP1,FrS.refl,⟨fun _ => ⟨sti_beg hB hb40,fun x hx => hx.1⟩,fun e => Bool.noConfusion e⟩,rfl⟩
 rintro n ts hk mk ihO ⟨S,ch,hn,hlen,q1,q2,q5,sp,fr,btw,rfl⟩
 rw [lit_all hlen]
 simp only [lit0,litS,Nat.reduceAdd,q1,q2,q5]
 cases ch
 case false =>
  simp (disch:=first|assumption|omega|(simp only[az];done)) only [ru]
  obtain ⟨Sp,np,tp,hp⟩:=btw.n rfl
  have tru:=pass_tru Y tp hp
  have hbx:=bx fr
  have bad : ∀ i c,i < T → c ≤ C → (S (pos C i c)).lo > (S (pos C i c)).hi → ¬ ∃ x,Tru0 N l S0 x:=fun i c hi hc hbad => pass_empty tru fun he => by
   have:=he (pos C i c) (by rw [hN]; exact pos_lt hi hc); omega
  clear hlen q1 q2 q5
  refine G_loop_ind (fun n ts hh mk => ∃ (i : Nat),i ≤ T ∧ n = T - i ∧ ts.length = 133 ∧ ts.getD 1 .undef = .ms 1 oo 0 T ∧ ts.getD 2 .undef = .ptr h.length 0 ∧ ts.getD 11 .undef = I i ∧
    (∀ i' c',i' < i → c' ≤ C → (S (pos C i' c')).lo ≤ (S (pos C i' c')).hi) ∧ hh = hk ∧ mk = []) ?_ _ _ _ _
   ⟨0,Nat.zero_le _,rfl,rfl,rfl,rfl,rfl,fun i' c' h => absurd h (Nat.not_lt_zero _),rfl,rfl⟩
  rintro n ts hh mk ihT ⟨i,hi,rfl,hlen,q1,q2,q11,all,rfl,rfl⟩
  rw [lit_all hlen]
  simp only [lit0,litS,Nat.reduceAdd,q1,q2,q11]
  simp (disch:=first|assumption|omega|(simp only[az];done)) only [ru,eq_self,if_true,if_false,binI,AO.row?,loadV,Am.rowAt,Am.part,addOff,hbx,hT]
  by_cases lt : (i : Int) < T
  case neg =>
   obtain rfl : i = T:=by omega
   simp (disch:=first|assumption|omega|(simp only[az];done)) only [ru,lt]
   refine ⟨true,rfl,F1.trans fr,fun _ => ⟨S,sp,?_⟩,fun e => Bool.noConfusion e⟩
   refine pass_left Y np tp hp fun p hpN => ?_
   rw [hN] at hpN
   have e : p = pos C (p / (C + 1)) (p % (C + 1)):=by
    unfold pos; have:=Nat.div_add_mod p (C + 1); rw [Nat.mul_comm] at this; omega
   have d1 : p / (C + 1) < i:=Nat.div_lt_of_lt_mul (by rw [Nat.mul_comm]; exact hpN)
   have d2 : p % (C + 1) < C + 1:=Nat.mod_lt _ (by omega)
   rw [e]
   exact all _ _ d1 (by omega)
  have lt' : i < T:=by omega
  have i0 : (0 : Int) ≤ i:=by omega
  have oa:=out_at (C:=C) (oi:=oi) lt'
  have g1:=sp.out
  obtain ⟨O,hO⟩ : ∃ O : List AV,O = (List.range T).map fun k => .ms 2 (oi k) 0 (C + 1):=⟨_,rfl⟩
  rw [← hO] at g1 oa
  have g2:=sp.row i lt'
  simp (disch:=first|assumption|omega|(simp only[az];done)) only [ru,lt]
  clear hlen q1 q2 q11
  refine G_loop_ind (fun n ts hh2 mk => ∃ (c : Nat),c ≤ C + 1 ∧ n = C + 1 - c ∧ ts.length = 133 ∧ ts.getD 1 .undef = .ms 1 oo 0 T ∧ ts.getD 2 .undef = .ptr h.length 0 ∧ ts.getD 11 .undef = I i ∧ ts.getD 12 .undef = I c ∧
    (∀ c',c' < c → (S (pos C i c')).lo ≤ (S (pos C i c')).hi) ∧ hh2 = hh ∧ mk = []) ?_ _ _ _ _
   ⟨0,Nat.zero_le _,rfl,rfl,rfl,rfl,rfl,rfl,fun c' h => absurd h (Nat.not_lt_zero _),rfl,rfl⟩
  rintro n ts hh2 mk ihC ⟨c,hc,rfl,hlen,q1,q2,q11,q12,allc,rfl,rfl⟩
  rw [lit_all hlen]
  simp only [lit0,litS,Nat.reduceAdd,q1,q2,q11,q12]
  simp (disch:=first|assumption|omega|(simp only[az];done)) only [ru,eq_self,if_true,if_false,binI,AO.row?,loadV,Am.rowAt,Am.part,addOff,hbx,hC]
  by_cases lc : (c : Int) ≤ C
  case neg =>
   obtain rfl : c = C + 1:=by omega
   simp (disch:=first|assumption|omega|(simp only[az];done)) only [ru,eq_self,if_true,binI,lc]
   refine ihT (T - (i + 1)) _ _ _ (by omega) ⟨i + 1,by omega,rfl,rfl,rfl,rfl,by show I _ = I _; congr 1,fun i' c' h1 h2 => ?_,rfl,rfl⟩
   by_cases e : i' = i
   ·subst e; exact allc c' (by omega)
   ·exact all i' c' (by omega) h2
  have lc' : c ≤ C:=by omega
  have c0 : (0 : Int) ≤ c:=by omega
  have c1 : (c : Int) < (C + 1 : Nat):=by omega
  have rlo:=rowC_lo (S:=S) (k:=i) lc'
  have rhi:=rowC_hi (S:=S) (k:=i) lc'
  by_cases hbad : (S (pos C i c)).lo > (S (pos C i c)).hi
  ·simp (disch:=first|assumption|omega|(simp only[az];done)) only [ru,eq_self,if_true,if_false,binI,AO.row?,loadV,Am.rowAt,Am.part,addOff,lc,g1,g2,oa,rlo,rhi,hbad,Int.toNat_natCast,Nat.mul_one]
   exact ⟨false,rfl,F1.trans fr,fun e => Bool.noConfusion e,fun _ => bad i c lt' lc' hbad⟩
  ·simp (disch:=first|assumption|omega|(simp only[az];done)) only [ru,eq_self,if_true,if_false,binI,AO.row?,loadV,Am.rowAt,Am.part,addOff,lc,g1,g2,oa,rlo,rhi,hbad,Int.toNat_natCast,Nat.mul_one]
   refine ihC (C + 1 - (c + 1)) _ _ _ (by omega) ⟨c + 1,by omega,rfl,rfl,rfl,rfl,rfl,by show I _ = I _; congr 1,fun c' h => ?_,rfl,rfl⟩
   by_cases e : c' = c
   ·subst e; omega
   ·exact allc c' (by omega)
 obtain ⟨sti,tru⟩:=btw.y rfl
 simp only [if_true] at hn
 simp (disch:=first|assumption|omega|(simp only[az];done)) only [ru]
 have A0 : At C T oo oi l S h1 (restT C T t 0) false S hk:=by
  refine ⟨sp,fr,by rw [hl']; rfl,fun p hp => ?_⟩
  have e : restT C T t 0 = l:=by rw [hl']; rfl
  rw [e]
  have:=sti.b p (by rw [hN]; exact hp)
  omega
 clear hlen q1 q2 q5
 refine G_loop_ind (fun n ts hk mk => ∃ (i : Nat) (S' : Sps) (ch : Bool),i ≤ T ∧ n = T - i ∧ ts.length = 133 ∧ ts.getD 1 .undef = .ms 1 oo 0 T ∧ ts.getD 2 .undef = .ptr h.length 0 ∧ ts.getD 5 .undef = Bo ch ∧ ts.getD 6 .undef = I i ∧
   At C T oo oi l S h1 (restT C T t i) ch S' hk ∧ mk = []) ?_ _ _ _ _
  ⟨0,S,false,Nat.zero_le _,rfl,rfl,rfl,rfl,rfl,rfl,A0,rfl⟩
 clear sp fr A0 hk
 rintro n1 ts hk mk ihT ⟨i,S1,ch,hi,rfl,hlen,q1,q2,q5,q6,A,rfl⟩
 rw [lit_all hlen]
 simp only [lit0,litS,Nat.reduceAdd,q1,q2,q5,q6]
 have hbx:=bx A.fr
 simp (disch:=first|assumption|omega|(simp only[az];done)) only [ru,eq_self,if_true,if_false,binI,AO.row?,loadV,Am.rowAt,Am.part,addOff,hbx,hT]
 by_cases lt : (i : Int) < T
 case neg =>
  obtain rfl : i = T:=by omega
  rw [restT_ge] at A
  simp (disch:=first|assumption|omega|(simp only[az];done)) only [ru,lt]
  clear hlen q1 q2 q5 q6
  refine G_loop_ind (fun n ts hk mk => ∃ (k : Nat) (S' : Sps) (ch : Bool),k ≤ t.ws.length ∧ n = t.ws.length - k ∧ ts.length = 133 ∧ ts.getD 1 .undef = .ms 1 oo 0 i ∧ ts.getD 2 .undef = .ptr h.length 0 ∧ ts.getD 5 .undef = Bo ch ∧ ts.getD 9 .undef = I k ∧
    At C i oo oi l S h1 (restW C t k) ch S' hk ∧ mk = []) ?_ _ _ _ _
   ⟨0,S1,ch,Nat.zero_le _,rfl,rfl,rfl,rfl,rfl,rfl,A,rfl⟩
  clear A hbx hk ch S1
  rintro n2 ts hk mk ihW ⟨k,S1,ch,hk',rfl,hlen,q1,q2,q5,q9,A,rfl⟩
  rw [lit_all hlen]
  simp only [lit0,litS,Nat.reduceAdd,q1,q2,q5,q9]
  have hbx:=bx A.fr
  simp (disch:=first|assumption|omega|(simp only[az];done)) only [ru,eq_self,if_true,if_false,binI,AO.row?,loadV,Am.rowAt,Am.part,addOff,hbx,lenV_sl H.w]
  by_cases lk : (k : Int) < t.ws.length
  case neg =>
   obtain rfl : k = t.ws.length:=by omega
   rw [restW_ge] at A
   have hp:=A.eq
   rw [pass] at hp
   simp (disch:=first|assumption|omega|(simp only[az];done)) only [ru,lk]
   cases ch
   ·exact ihO 0 _ _ _ (by omega) ⟨S1,false,rfl,rfl,rfl,rfl,rfl,A.sp,A.fr,⟨fun e => Bool.noConfusion e,fun _ => ⟨S,sti.n,tru,hp⟩⟩,rfl⟩
   ·have sp:=sti_pass Y hB sti hp
    exact ihO (rank N z S1 + 1) _ _ _ (by omega) ⟨S1,true,rfl,rfl,rfl,rfl,rfl,A.sp,A.fr,⟨fun _ => ⟨sp.1,pass_tru Y tru hp⟩,fun e => Bool.noConfusion e⟩,rfl⟩
  have lk' : k < t.ws.length:=by omega
  rw [restW_lt lk'] at A
  have fw:=V.fw _ (mem_getD lk')
  obtain ⟨y,hy⟩ : ∃ y,y = t.ws.getD k default:=⟨_,rfl⟩
  rw [← hy] at fw A
  simp only [fitB,placeB,Bool.and_eq_true,decide_eq_true_eq] at fw
  obtain ⟨ti,hti⟩ : ∃ ti : Nat,y.time = ti:=⟨y.time.toNat,by omega⟩
  obtain ⟨ci,hci⟩ : ∃ ci : Nat,y.ch = ci:=⟨y.ch.toNat,by omega⟩
  have ew : wordC C y = ⟨pos C ti ci,pos C ti (ci + 1),y.lo,y.hi⟩:=by unfold wordC; rw [hti,hci]; rfl
  rw [ew] at A
  have lkk:=A.fr.le
  have AJ : At C i oo oi l S h1 (.dif ⟨pos C ti ci,pos C ti (ci + 1),y.lo,y.hi⟩ :: restW C t (k + 1)) ch S1 (hk ++ [.cells [I y.time,I y.ch,I y.lo,I y.hi] false]) :=
   ⟨A.sp.app _,A.fr.trans ⟨by simp,fun o ho _ => at_ap ho⟩,A.eq,A.bd⟩
  obtain ⟨u,h2,hr,hle,A3⟩:=AJ.dif (lim:=lim) (by omega) (by omega) (by omega) (by omega) (by omega) (by omega) (by omega) (by omega) hl (by simp; omega)
  simp only [Int.natCast_add,Int.cast_ofNat_Int] at hr
  rw [← hti,← hci] at hr
  have llk : lim ≤ hk.length:=by omega
  cases u
  all_goals
   simp (disch:=first|assumption|omega|(simp only[az];done)) only [ru,eq_self,if_true,if_false,binI,AO.row?,splice,loadV,storeV,Am.rowAt,Am.part,addOff,Nat.reduceAdd,Nat.reduceLeDiff,lk,hbx,elem_sl Wd.el H.w,Int.toNat_natCast,← hy,Wd.e,lenE,setT0,atT0,llk,hr]
   exact ihW (t.ws.length - (k + 1)) _ _ _ (by omega) ⟨k + 1,_,_,by omega,rfl,rfl,rfl,rfl,rfl,by show I _ = I _; congr 1,A3,rfl⟩
 have lt' : i < T:=by omega
 rw [restT_lt lt'] at A
 simp (disch:=first|assumption|omega|(simp only[az];done)) only [ru,lt]
 clear hlen q1 q2 q5 q6
 refine G_loop_ind (fun n ts hk mk => ∃ (c : Nat) (S' : Sps) (ch : Bool),c ≤ C ∧ n = C - c ∧ ts.length = 133 ∧ ts.getD 1 .undef = .ms 1 oo 0 T ∧ ts.getD 2 .undef = .ptr h.length 0 ∧ ts.getD 5 .undef = Bo ch ∧ ts.getD 6 .undef = I i ∧ ts.getD 7 .undef = I c ∧
   At C T oo oi l S h1 (restC C T t i c) ch S' hk ∧ mk = []) ?_ _ _ _ _
  ⟨0,S1,ch,Nat.zero_le _,rfl,rfl,rfl,rfl,rfl,rfl,rfl,A,rfl⟩
 clear A hbx hk ch S1
 rintro n2 ts hk mk ihC ⟨c,S1,ch,hc,rfl,hlen,q1,q2,q5,q6,q7,A,rfl⟩
 rw [lit_all hlen]
 simp only [lit0,litS,Nat.reduceAdd,q1,q2,q5,q6,q7]
 have hbx:=bx A.fr
 simp (disch:=first|assumption|omega|(simp only[az];done)) only [ru,eq_self,if_true,if_false,binI,AO.row?,loadV,Am.rowAt,Am.part,addOff,hbx,hC]
 by_cases lc : (c : Int) < C
 case neg =>
  obtain rfl : c = C:=by omega
  rw [restC_ge] at A
  simp (disch:=first|assumption|omega|(simp only[az];done)) only [ru,eq_self,if_true,binI,lc]
  exact ihT (T - (i + 1)) _ _ _ (by omega) ⟨i + 1,S1,ch,by omega,rfl,rfl,rfl,rfl,rfl,by show I _ = I _; congr 1,A,rfl⟩
 have lc' : c < C:=by omega
 rw [restC_lt lc'] at A
 have c0 : (0 : Int) ≤ c:=by omega
 have c1 : (c : Int) < (C + 1 : Nat):=by omega
 have i0 : (0 : Int) ≤ i:=by omega
 have oa:=out_at (C:=C) (oi:=oi) lt'
 have g1:=A.sp.out
 obtain ⟨O,hO⟩ : ∃ O : List AV,O = (List.range T).map fun k => .ms 2 (oi k) 0 (C + 1):=⟨_,rfl⟩
 rw [← hO] at g1 oa
 have g2:=A.sp.row i lt'
 have rlo:=rowC_lo (S:=S1) (k:=i) (show c ≤ C by omega)
 have rhi:=rowC_hi (S:=S1) (k:=i) (show c ≤ C by omega)
 obtain ⟨bad,A1⟩:=At.chk A
 by_cases hbad : (S1 (pos C i c)).lo > (S1 (pos C i c)).hi
 ·simp (disch:=first|assumption|omega|(simp only[az];done)) only [ru,eq_self,if_true,if_false,binI,AO.row?,loadV,Am.rowAt,Am.part,addOff,lc,g1,g2,oa,rlo,rhi,hbad,Int.toNat_natCast,Nat.mul_one]
  exact ⟨false,rfl,F1.trans A.fr,fun e => Bool.noConfusion e,fun _ => pass_no Y tru (bad hbad)⟩
 have A2 : At C T oo oi l S h1 (.dif ⟨pos C i c,pos C i (c + 1),0,40⟩ :: ((if i = 0 then [] else [.dif ⟨pos C i c,pos C (i - 1) c,0,mayP t.op (i - 1) c⟩]) ++ restC C T t i (c + 1))) ch S1 hk:=A1 hbad
 have flk:=A.fr.le
 obtain ⟨u,h2,hr,hle,A3⟩:=A2.dif (lim:=lim) lt' (by omega) lt' (by omega) (by omega) (by omega) (by omega) (by omega) hl (by omega)
 simp only [Int.natCast_add,Int.cast_ofNat_Int] at hr
 simp (disch:=first|assumption|omega|(simp only[az];done)) only [ru,eq_self,if_true,if_false,binI,AO.row?,loadV,Am.rowAt,Am.part,addOff,lc,g1,g2,oa,rlo,rhi,hbad,Int.toNat_natCast,Nat.mul_one]
 rw [hr]
 have hbx2:=bx A3.fr
 rcases Nat.eq_zero_or_pos i with hi0 | hi0
 ·have e0 : ((i : Int) == 0) = true:=by simp [hi0]
  rw [if_pos hi0,List.nil_append] at A3
  cases u
  all_goals
   simp (disch:=first|assumption|omega|(simp only[az];done)) only [ru,eq_self,if_true,if_false,binI,e0]
   exact ihC (C - (c + 1)) _ _ _ (by omega) ⟨c + 1,_,_,by omega,rfl,rfl,rfl,rfl,rfl,rfl,by show I _ = I _; congr 1,A3,rfl⟩
 ·have e0 : ((i : Int) == 0) = false:=by simp; omega
  rw [if_neg (by omega)] at A3
  have A3' : At C T oo oi l S h1 (.dif ⟨pos C i c,pos C (i - 1) c,0,mayP t.op (i - 1) c⟩ :: restC C T t i (c + 1)) (u || ch) _ h2:=A3
  have mb:=mayP_le (op:=t.op) (i:=i - 1) (j:=c)
  obtain ⟨m,hm⟩ : ∃ m,m = mayP t.op (i - 1) c:=⟨_,rfl⟩
  rw [← hm] at A3' mb
  obtain ⟨u2,h3,hr2,hle2,A4⟩:=A3'.dif (lim:=lim) lt' (by omega) (by omega) (by omega) (by omega) (by omega) (by omega) (by omega) hl (by omega)
  have ei : ((i - 1 : Nat) : Int) = (i : Int) - 1:=by omega
  rw [ei] at hr2
  have p0 : 0 ≤ (i : Int) - 1:=by omega
  have p1 : (i : Int) - 1 < t.op.length:=by omega
  have pn : ((i : Int) - 1).toNat = i - 1:=by omega
  have un:=Ls.under H.sl (show i - 1 < t.op.length by omega)
  obtain ⟨y,hy⟩ : ∃ y,y = t.op.getD (i - 1) default:=⟨_,rfl⟩
  rw [← hy] at un
  have c40:=fun st => s40 y.is (by omega) (c : Int) st
  have fin : ∀ q : Bool,q = hasI y.list c → m = if q then 40 else 0:=by intro q hq; rw [hm,hq,hy]; rfl
  have lop:=lenV_sl H.o
  cases hq : hasI y.list (c : Int)
  ·have m0 : m = 0:=fin false hq.symm
   rw [m0] at hr2 A4
   simp only [hq] at c40
   cases u <;> cases u2
   all_goals
    simp (disch:=first|assumption|omega|(simp only[az];done)) only [ru,eq_self,if_true,if_false,binI,AO.row?,loadV,Am.rowAt,Am.part,addOff,e0,hbx2,elem_sl Ls.el H.o,pn,← hy,Ls.e,view_sl y.is,pure_sl y.is,c40,hr2]
    exact ihC (C - (c + 1)) _ _ _ (by omega) ⟨c + 1,_,_,by omega,rfl,rfl,rfl,rfl,rfl,rfl,by show I _ = I _; congr 1,A4,rfl⟩
  ·have m0 : m = 40:=fin true hq.symm
   rw [m0] at hr2 A4
   simp only [hq] at c40
   cases u <;> cases u2
   all_goals
    simp (disch:=first|assumption|omega|(simp only[az];done)) only [ru,eq_self,if_true,if_false,binI,AO.row?,loadV,Am.rowAt,Am.part,addOff,e0,hbx2,elem_sl Ls.el H.o,pn,← hy,Ls.e,view_sl y.is,pure_sl y.is,c40,hr2]
    exact ihC (C - (c + 1)) _ _ _ (by omega) ⟨c + 1,_,_,by omega,rfl,rfl,rfl,rfl,rfl,rfl,by show I _ = I _; congr 1,A4,rfl⟩
end Go.Proofs.YtfknojncfbahpaaGreat.S
/-
The steps of a pass of a valid trap are as they must be,for it to end; whether a trap has a truth.
-/
namespace Go.Proofs.YtfknojncfbahpaaGreat.S
open Go Go.Am Go.Proofs.YtfknojncfbahpaaGreat.T
set_option maxRecDepth 100000
set_option linter.unusedSimpArgs false
set_option linter.unusedVariables false
section
variable {C T : Nat} {t : Trap}
theorem mem_pass {s : Stp} : s ∈ passL C T t ↔ (∃ i,i < T ∧ ∃ c,c < C ∧ s ∈ rowP C t i c) ∨ ∃ w ∈ t.ws,s = .dif (wordC C w):=by
 unfold passL restT restW rowsP
 simp only [List.drop_zero,List.mem_append,List.mem_flatMap,List.mem_range,List.mem_map]
 constructor
 ·rintro (⟨i,hi,c,hc,h⟩ | ⟨w,hw,rfl⟩)
  ·exact .inl ⟨i,hi,c,hc,h⟩
  ·exact .inr ⟨w,hw,rfl⟩
 ·rintro (⟨i,hi,c,hc,h⟩ | ⟨w,hw,rfl⟩)
  ·exact .inl ⟨i,hi,c,hc,h⟩
  ·exact .inr ⟨w,hw,rfl⟩
theorem difs_app : ∀ a b : List Stp,difs (a ++ b) = difs a ++ difs b
 | [],b => rfl
 | .chk p :: a,b => difs_app a b
 | .dif c :: a,b => by show c :: difs (a ++ b) = c :: difs a ++ difs b; rw [difs_app a b]; rfl
theorem difs_flat {α : Type} {f : α → List Stp} {m : Nat} (h : ∀ a,(difs (f a)).length ≤ m) : ∀ l : List α,(difs (l.flatMap f)).length ≤ l.length * m
 | [] => by simp [difs]
 |
  a :: l => by
  rw [List.flatMap_cons,difs_app,List.length_append,List.length_cons,Nat.succ_mul]
  have:=h a; have:=difs_flat h l; omega
theorem difs_words : ∀ l : List Wd,(difs (l.map fun w => .dif (wordC C w))).length = l.length
 | [] => rfl
 |
  a :: l => by
  show (wordC C a :: difs (l.map fun w => .dif (wordC C w))).length = _
  rw [List.length_cons,difs_words l]; rfl
theorem pass_len (hC : C ≤ 4) (hT : T ≤ 5) (hw : t.ws.length ≤ 9) : (difs (passL C T t)).length ≤ 50:=by
 have h1 : ∀ i c,(difs (rowP C t i c)).length ≤ 2:=fun i c => by
  unfold rowP; split <;> simp [difs]
 have h2 : ∀ i,(difs (rowsP C t i)).length ≤ 8:=fun i => by
  have:=difs_flat (h1 i) (List.range C)
  rw [List.length_range] at this
  show (difs ((List.range C).flatMap (rowP C t i))).length ≤ 8
  omega
 have h3:=difs_flat h2 (List.range T)
 rw [List.length_range] at h3
 unfold passL restT restW
 rw [difs_app,List.length_append,List.drop_zero,List.drop_zero,difs_words]
 omega
def zP (C p : Nat) : Bool:=decide (p % (C + 1) = C)
theorem pos_mod {i c : Nat} (hc : c ≤ C) : pos C i c % (C + 1) = c:=by
 unfold pos; rw [Nat.add_comm,Nat.add_mul_mod_self_right,Nat.mod_eq_of_lt (by omega)]
theorem pos_split (p : Nat) : p = pos C (p / (C + 1)) (p % (C + 1)):=by
 unfold pos; have:=Nat.div_add_mod p (C + 1); rw [Nat.mul_comm] at this; omega
theorem sys_trap (V : TrB t) (hC : t.ch = C) (hT : t.tm = T) : Sys (T * (C + 1)) (passL C T t) (zP C):=by
 have v1:=V.c0; have v2:=V.c1; have v3:=V.t0; have v4:=V.t1; have v5:=V.o; have v6:=V.w
 have cons : ∀ d,d ∈ difs (passL C T t) → ∃ i c i2 c2,d.a = pos C i c ∧ d.b = pos C i2 c2 ∧ i < T ∧ i2 < T ∧ c ≤ C ∧ c2 ≤ C ∧ ¬ (i = i2 ∧ c = c2) ∧ 0 ≤ d.lo ∧ d.lo ≤ d.hi ∧ d.hi ≤ 40:=by
  intro d hd
  rcases mem_pass.1 (mem_difs.1 hd) with ⟨i,hi,c,hc,h⟩ | ⟨w,hw,h⟩
  ·unfold rowP at h
   rcases List.mem_cons.1 h with h | h
   ·cases h
   rcases List.mem_cons.1 h with h | h
   ·cases h
    exact ⟨i,c,i,c + 1,rfl,rfl,hi,hi,by omega,by omega,by omega,by show (0 : Int) ≤ 0; omega,by show (0 : Int) ≤ 40; omega,by show (40 : Int) ≤ 40; omega⟩
   ·split at h
    ·simp at h
    ·rename_i h0
     rw [List.mem_singleton] at h
     cases h
     have m:=mayP_le (op:=t.op) (i:=i - 1) (j:=c)
     exact ⟨i,c,i - 1,c,rfl,rfl,hi,by omega,by omega,by omega,by omega,by show (0 : Int) ≤ 0; omega,m.1,m.2⟩
  ·cases h
   have fw:=V.fw w hw
   simp only [fitB,placeB,Bool.and_eq_true,decide_eq_true_eq] at fw
   refine ⟨w.time.toNat,w.ch.toNat,w.time.toNat,w.ch.toNat + 1,rfl,rfl,by omega,by omega,by omega,by omega,by omega,?_,?_,?_⟩
   ·show 0 ≤ w.lo; omega
   ·show w.lo ≤ w.hi; omega
   ·show w.hi ≤ 40; omega
 refine ⟨fun d hd => ?_,fun d hd => ?_,fun p hp => ?_,fun p hp hz => ?_,fun p hp hz => ?_⟩
 ·obtain ⟨i,c,i2,c2,ha,hb,h1,h2,h3,h4,h5,h6,h7,h8⟩:=cons d hd
  rw [ha,hb]
  exact ⟨pos_lt h1 h3,pos_lt h2 h4,h6,h7,h8⟩
 ·obtain ⟨i,c,i2,c2,ha,hb,h1,h2,h3,h4,h5,_⟩:=cons d hd
  rw [ha,hb]
  exact fun e => h5 ((pos_inj h3 h4).1 e)
 ·rcases mem_pass.1 hp with ⟨i,hi,c,hc,h⟩ | ⟨w,hw,h⟩
  ·unfold rowP at h
   rcases List.mem_cons.1 h with h | h
   ·cases h; exact pos_lt hi (by omega)
   rcases List.mem_cons.1 h with h | h
   ·cases h
   ·split at h
    ·simp at h
    ·rw [List.mem_singleton] at h; cases h
  ·cases h
 ·have d1 : p / (C + 1) < T:=Nat.div_lt_of_lt_mul (by rw [Nat.mul_comm]; exact hp)
  have d2 : p % (C + 1) < C + 1:=Nat.mod_lt _ (by omega)
  simp only [zP,decide_eq_false_iff_not] at hz
  refine mem_pass.2 (.inl ⟨p / (C + 1),d1,p % (C + 1),by omega,?_⟩)
  rw [rowP,← pos_split]
  exact List.mem_cons_self ..
 ·have d1 : p / (C + 1) < T:=Nat.div_lt_of_lt_mul (by rw [Nat.mul_comm]; exact hp)
  simp only [zP,decide_eq_true_eq] at hz
  refine ⟨⟨pos C (p / (C + 1)) (C - 1),pos C (p / (C + 1)) (C - 1 + 1),0,40⟩,mem_pass.2 (.inl ⟨p / (C + 1),d1,C - 1,by omega,?_⟩),?_,rfl,rfl,?_⟩
  ·rw [rowP]
   exact List.mem_cons_of_mem _ (List.mem_cons_self ..)
  ·show pos C (p / (C + 1)) (C - 1 + 1) = p
   rw [show C - 1 + 1 = C by omega]
   have:=pos_split (C:=C) p
   rw [hz] at this
   exact this.symm
  ·show decide (pos C (p / (C + 1)) (C - 1) % (C + 1) = C) = false
   rw [pos_mod (by omega)]
   simp; omega
theorem freeS_beg {N : Nat} : Beg N (freeS C):=fun p _ => by
 unfold freeS; split
 ·exact ⟨Int.le_refl _,Int.le_refl _⟩
 ·show (0 : Int) ≤ 0 ∧ (0 : Int) ≤ 40; omega
theorem freeS_bdd {N : Nat} : Bdd N 40 (freeS C):=fun p _ => by
 unfold freeS; split
 ·show -40 ≤ (0 : Int) ∧ (0 : Int) ≤ 40 ∧ -40 ≤ (40 : Int) ∧ (40 : Int) ≤ 40; omega
 ·show -40 ≤ (0 : Int) ∧ (0 : Int) ≤ 40 ∧ -40 ≤ (0 : Int) ∧ (0 : Int) ≤ 40; omega
end
end Go.Proofs.YtfknojncfbahpaaGreat.S
/-
The truths of the program's sums and of the reference's spans are the same.
-/
namespace Go.Proofs.YtfknojncfbahpaaGreat.S
open Go Go.Am Go.Proofs.YtfknojncfbahpaaGreat.T
set_option maxRecDepth 100000
set_option linter.unusedSimpArgs false
set_option linter.unusedVariables false
section
variable {C T : Nat} {t : Trap}
theorem sumN_last {i : Nat} : sumN C i C = 0:=by unfold sumN; rw [if_pos rfl]
theorem sumN_in {i c : Nat} (hc : c < C) : sumN C i c = 1 + i * 4 + c:=by unfold sumN; rw [if_neg (by omega)]
def yOf (C : Nat) (x : Nat → Int) : Nat → Int:=fun p => x (sumN C (p / (C + 1)) (p % (C + 1))) - x 0
theorem yOf_pos {x : Nat → Int} {i c : Nat} (hc : c ≤ C) : yOf C x (pos C i c) = x (sumN C i c) - x 0:=by
 unfold yOf
 have h2:=pos_mod (C:=C) (i:=i) hc
 have h1 : pos C i c / (C + 1) = i:=by
  have:=pos_split (C:=C) (pos C i c)
  rw [h2] at this
  exact ((pos_inj hc hc).1 this).1.symm
 rw [h1,h2]
theorem word_at (V : TrB t) (hC : t.ch = C) (hT : t.tm = T) {w : Wd} (hw : w ∈ t.ws) : w.time.toNat < T ∧ w.ch.toNat < C:=by
 have fw:=V.fw w hw
 simp only [fitB,placeB,Bool.and_eq_true,decide_eq_true_eq] at fw
 omega
theorem keeps_iff (V : TrB t) (hC : t.ch = C) (hT : t.tm = T) {y x : Nat → Int} (e : ∀ i c,i < T → c ≤ C → y (pos C i c) = x (sumN C i c) - x 0) :
  Keeps (difs (passL C T t)) y ↔ AllS C T t x:=by
 have v5:=V.o; have v3:=V.t0
 constructor
 ·intro k
  refine ⟨fun i j hi hj => ?_,fun i j hi hj => ?_,fun q hq => ?_⟩
  ·have:=k ⟨pos C i j,pos C i (j + 1),0,40⟩ (mem_difs.2 (mem_pass.2 (.inl ⟨i,hi,j,hj,List.mem_cons_of_mem _ (List.mem_cons_self ..)⟩)))
   simp only [e i j hi (by omega),e i (j + 1) hi (by omega)] at this
   unfold gap; omega
  ·have:=k ⟨pos C (i + 1) j,pos C (i + 1 - 1) j,0,mayP t.op (i + 1 - 1) j⟩ (mem_difs.2 (mem_pass.2 (.inl ⟨i + 1,by omega,j,hj,by
    unfold rowP; rw [if_neg (by omega)]; exact List.mem_cons_of_mem _ (List.mem_cons_of_mem _ (List.mem_cons_self ..))⟩)))
   simp only [Nat.add_sub_cancel,e (i + 1) j (by omega) (by omega),e i j (by omega) (by omega)] at this
   unfold flow; omega
  ·have hm:=mem_getD hq
   have wa:=word_at V hC hT hm
   have:=k (wordC C (t.ws.getD q default)) (mem_difs.2 (mem_pass.2 (.inr ⟨_,hm,rfl⟩)))
   simp only [wordC] at this
   rw [e _ _ wa.1 (by omega),e _ _ wa.1 (by omega)] at this
   unfold saysW gap; omega
 ·intro A d hd
  rcases mem_pass.1 (mem_difs.1 hd) with ⟨i,hi,c,hc,h⟩ | ⟨w,hw,h⟩
  ·unfold rowP at h
   rcases List.mem_cons.1 h with h | h
   ·cases h
   rcases List.mem_cons.1 h with h | h
   ·cases h
    have:=A.f i c hi hc
    simp only [e i c hi (by omega),e i (c + 1) hi (by omega)]
    unfold gap at this; omega
   ·split at h
    ·simp at h
    ·rename_i h0
     rw [List.mem_singleton] at h
     cases h
     have:=A.m (i - 1) c (by omega) hc
     simp only [e i c hi (by omega),e (i - 1) c (by omega) (by omega)]
     unfold flow at this
     rw [show i - 1 + 1 = i by omega] at this
     omega
  ·cases h
   obtain ⟨q,hq,rfl⟩:=List.mem_iff_getElem.1 hw
   have wa:=word_at V hC hT hw
   have:=A.w q hq
   rw [List.getD_eq_getElem?_getD,List.getElem?_eq_getElem hq] at this
   unfold saysW gap at this
   simp only [wordC]
   rw [e _ _ wa.1 (by omega),e _ _ wa.1 (by omega)]
   simp only [Option.getD_some] at this
   omega
theorem toY (V : TrB t) (hC : t.ch = C) (hT : t.tm = T) {x : Nat → Int} (h1 : Sat 21 (bat wide) x) (h2 : AllS C T t x) : Tru0 (T * (C + 1)) (passL C T t) (freeS C) (yOf C x):=by
 have v1:=V.c0; have v2:=V.c1; have v3:=V.t0; have v4:=V.t1
 obtain ⟨s1,s2⟩:=sat_wid.1 h1
 refine ⟨fun p hp => ?_,(keeps_iff V hC hT fun i c hi hc => yOf_pos hc).2 h2⟩
 have d1 : p / (C + 1) < T:=Nat.div_lt_of_lt_mul (by rw [Nat.mul_comm]; exact hp)
 have d2 : p % (C + 1) < C + 1:=Nat.mod_lt _ (by omega)
 unfold freeS yOf
 by_cases hc : p % (C + 1) < C
 ·rw [if_pos hc,sumN_in hc]
  have a:=s1 (1 + p / (C + 1) * 4 + p % (C + 1)) 0 (by omega) (by omega) (by omega)
  have b:=s2 (1 + p / (C + 1) * 4 + p % (C + 1)) (by omega)
  show (0 : Int) ≤ _ ∧ _ ≤ (40 : Int)
  omega
 ·rw [if_neg hc,show p % (C + 1) = C by omega,sumN_last]
  show (0 : Int) ≤ _ ∧ _ ≤ (0 : Int)
  omega
def xOf (C T : Nat) (y : Nat → Int) : Nat → Int:=fun k => if k = 0 then 0 else if (k - 1) / 4 < T ∧ (k - 1) % 4 < C then y (pos C ((k - 1) / 4) ((k - 1) % 4)) else 0
theorem toX (V : TrB t) (hC : t.ch = C) (hT : t.tm = T) {y : Nat → Int} (hy : Tru0 (T * (C + 1)) (passL C T t) (freeS C) y) :
  Sat 21 (bat wide) (xOf C T y) ∧ AllS C T t (xOf C T y) ∧ ∀ i c,i < T → c ≤ C → y (pos C i c) = xOf C T y (sumN C i c) - xOf C T y 0:=by
 have v1:=V.c0; have v2:=V.c1; have v3:=V.t0; have v4:=V.t1
 have x0 : xOf C T y 0 = 0:=by unfold xOf; rw [if_pos rfl]
 have b : ∀ i c,i < T → c < C → 0 ≤ y (pos C i c) ∧ y (pos C i c) ≤ 40:=fun i c hi hc => by
  have:=hy.1 (pos C i c) (pos_lt hi (by omega))
  rw [freeS_at (by omega),if_pos hc] at this
  exact this
 have bz : ∀ i,i < T → y (pos C i C) = 0:=fun i hi => by
  have:=hy.1 (pos C i C) (pos_lt hi (by omega))
  rw [freeS_at (by omega),if_neg (by omega)] at this
  have h1 : (0 : Int) ≤ y (pos C i C):=this.1
  have h2 : y (pos C i C) ≤ (0 : Int):=this.2
  omega
 have all : ∀ k,0 ≤ xOf C T y k ∧ xOf C T y k ≤ 40:=fun k => by
  unfold xOf
  split
  ·omega
  ·split
   ·rename_i h; exact b _ _ h.1 h.2
   ·omega
 have e : ∀ i c,i < T → c ≤ C → y (pos C i c) = xOf C T y (sumN C i c) - xOf C T y 0:=fun i c hi hc => by
  rw [x0]
  by_cases h : c < C
  ·rw [sumN_in h]
   have d1 : (1 + i * 4 + c - 1) / 4 = i:=by omega
   have d2 : (1 + i * 4 + c - 1) % 4 = c:=by omega
   unfold xOf
   rw [if_neg (by omega),d1,d2,if_pos ⟨hi,h⟩]; omega
  ·obtain rfl : c = C:=by omega
   rw [sumN_last,x0,bz i hi]; rfl
 refine ⟨sat_wid.2 ⟨fun k l _ _ _ => ?_,fun l _ => ?_⟩,(keeps_iff V hC hT e).1 hy.2,e⟩
 ·have:=all k; have:=all l; omega
 ·rw [x0]; exact (all l).1
theorem solv_iff (V : TrB t) (hC : t.ch = C) (hT : t.tm = T) : Solv C T t ↔ ∃ y,Tru0 (T * (C + 1)) (passL C T t) (freeS C) y :=
 ⟨fun ⟨x,h1,h2⟩ => ⟨_,toY V hC hT h1 h2⟩,fun ⟨y,hy⟩ => ⟨_,(toX V hC hT hy).1,(toX V hC hT hy).2.1⟩⟩
end
end Go.Proofs.YtfknojncfbahpaaGreat.S
/-
Whether a trap has a truth,by the reference; its errors.
-/
namespace Go.Proofs.YtfknojncfbahpaaGreat.S
open Go Go.Am Go.Proofs.YtfknojncfbahpaaGreat.T
set_option maxRecDepth 100000
set_option linter.unusedSimpArgs false
set_option linter.unusedVariables false
theorem rowC_shift {C k n : Nat} {S : Sps} : (rowC C S k).map (AV.shift n) = rowC C S k:=by
 unfold rowC
 rw [List.map_flatMap]
 congr 1
theorem SpH.shift {C T oo : Nat} {oi : Nat → Nat} {S : Sps} {K : List AO} (H : SpH C T oo oi S K) (h : List AO) : SpH C T (oo + h.length) (fun k => oi k + h.length) S (h ++ K.map (AO.shift h.length)):=by
 refine ⟨?_,fun k hk => ?_,fun k hk => ?_,fun k l hk hl e => H.inj k l hk hl (by omega)⟩
 ·rw [List.getElem?_append_right (by omega),Nat.add_sub_cancel,List.getElem?_map,H.out]
  simp only [Option.map_some,AO.shift,List.map_map]
  rfl
 ·rw [List.getElem?_append_right (by omega),Nat.add_sub_cancel,List.getElem?_map,H.row k hk]
  simp only [Option.map_some,AO.shift,rowC_shift]
 ·have:=H.ne k hk; omega
section
variable {t : Trap} {o w : AV} {C T : Nat}
theorem call85 (H : TrOk t o w) (V : TrB t) (hC : t.ch = C) (hT : t.tm = T) (h : List AO) :
  ∃
   oo oi K,(∀ {lim : Nat} {ρ : Opd → AV} {x : Opd},ρ x = trV t o w → exOp (R E) lim none ρ h (.call 2 81 [x]) = some (.ms 1 oo 0 T,h ++ K)) ∧
   SpH C T oo oi (freeS C) (h ++ K) ∧ (∀ k,k < T → h.length ≤ oi k):=by
 have v1:=V.c0; have v2:=V.c1; have v3:=V.t0; have v4:=V.t1
 obtain ⟨r,K,hr,oo,oi,rfl,SP⟩:=r85 H hC hT (by omega) (by omega) (by omega)
 refine ⟨oo + h.length,fun k => oi k + h.length,K.map (AO.shift h.length),?_,SP.shift h,fun k _ => Nat.le_add_left _ _⟩
 intro lim ρ x hx
 simp only [exOp,List.map_cons,List.map_nil,hx,pureT H,if_true,hr]
 rfl
theorem s36 (H : TrOk t o w) (V : TrB t) (hC : t.ch = C) (hT : t.tm = T) : ∃ b,(∀ st,Iso E 32 [trV t o w] st = some (Bo b)) ∧ (b = true ↔ Solv C T t):=by
 have v1:=V.c0; have v2:=V.c1; have v3:=V.t0; have v4:=V.t1; have v6:=V.w
 obtain ⟨oo,oi,K,q,SP,ho⟩:=call85 H V hC hT [.cells [I t.ch,I t.tm,o,w] false]
 obtain ⟨b,h',hr,fr,y,n⟩:=r84 (lim:=0) rfl rfl H V hC hT SP (sys_trap V hC hT) freeS_beg freeS_bdd (pass_len (by omega) (by omega) v6) (fun k _ => Nat.zero_le _) (Nat.zero_le _)
 refine ⟨b,fun st => ?_,?_⟩
 ·refine Iso_of (es _ _ _ _) e32 ?_
  simp only [f32,trV,List.cons_append,List.nil_append] at q hr ⊢
  simp (disch:=first|assumption|omega|(simp only[az];done)) only [ru,eq_self,if_true,AO.row?,loadV,Am.rowAt,Am.part,Nat.reduceAdd,Nat.reduceSub]
  rw [q rfl]
  simp (disch:=first|assumption|omega|(simp only[az];done)) only [ru,eq_self,hr]
  done
 ·rw [solv_iff V hC hT]
  constructor
  ·intro hb
   obtain ⟨S',_,L⟩:=y hb
   exact ⟨_,L.lo⟩
  ·intro hs
   cases b
   ·exact absurd hs (n rfl)
   ·rfl
inductive KnR (t : Trap) (fit : Bool) : Int → Prop
 | bad (h : t.valid = false) : KnR t fit 10
 | arg (h : t.valid = true) (hf : fit = false) : KnR t fit 1
 | none (h : t.valid = true) (hf : fit = true) (hn : ¬ Solv t.C t.T t) : KnR t fit 3
 | ok (h : t.valid = true) (hf : fit = true) (hs : Solv t.C t.T t) : KnR t fit 0
end
end Go.Proofs.YtfknojncfbahpaaGreat.S
/-
difference: the least and the greatest,by the reference.
-/
namespace Go.Proofs.YtfknojncfbahpaaGreat.S
open Go Go.Am Go.Proofs.YtfknojncfbahpaaGreat.T
set_option maxRecDepth 100000
set_option linter.unusedSimpArgs false
set_option linter.unusedVariables false
section
variable {t : Trap} {o w : AV} {C T : Nat}
abbrev TY (C T : Nat) (t : Trap) (y : Nat → Int) : Prop:=Tru0 (T * (C + 1)) (passL C T t) (freeS C) y
structure XtY (C T : Nat) (t : Trap) (f : (Nat → Int) → Int) (lo hi : Int) : Prop where
 b : ∀ y,TY C T t y → lo ≤ f y ∧ f y ≤ hi
 l : ∃ y,TY C T t y ∧ f y = lo
 h : ∃ y,TY C T t y ∧ f y = hi
structure Far (C T : Nat) (t : Trap) (a b : Nat) (n lo hi : Int) : Prop where
 al : ∀ y,TY C T t y → y b < n → lo ≤ y a - y b ∧ y a - y b ≤ hi
 s : -41 ≤ lo ∧ lo ≤ 41 ∧ -41 ≤ hi ∧ hi ≤ 41
 e : (lo = 41 ∧ hi = -41) ∨ ((∃ y,TY C T t y ∧ y a - y b = lo) ∧ ∃ y,TY C T t y ∧ y a - y b = hi)
theorem ty_range {y : Nat → Int} (hy : TY C T t y) {p : Nat} (hp : p < T * (C + 1)) : 0 ≤ y p ∧ y p ≤ 40:=by
 have:=hy.1 p hp
 unfold freeS at this
 split at this
 ·exact this
 ·have h1 : (0 : Int) ≤ y p:=this.1
  have h2 : y p ≤ (0 : Int):=this.2
  omega
theorem Far.no {a b : Nat} {n lo hi : Int} (F : Far C T t a b n lo hi) (h : ¬ ∃ y,TY C T t y ∧ y b = n) : Far C T t a b (n + 1) lo hi :=
 ⟨fun y hy hl => F.al y hy (by
  rcases Int.lt_or_le (y b) n with h1 | h1
  ·exact h1
  ·exact absurd ⟨y,hy,by omega⟩ h),F.s,F.e⟩
theorem Far.yes {a b : Nat} {n lo hi l h : Int} (ha : a < T * (C + 1)) (hb : b < T * (C + 1)) (F : Far C T t a b n lo hi) (all : ∀ y,TY C T t y → y b = n → l ≤ y a - n ∧ y a - n ≤ h)
  (el : ∃ y,TY C T t y ∧ y b = n ∧ y a - n = l) (eh : ∃ y,TY C T t y ∧ y b = n ∧ y a - n = h) : Far C T t a b (n + 1) (mn lo l) (mx hi h):=by
 obtain ⟨y1,a1,a2,a3⟩:=el
 obtain ⟨y2,b1,b2,b3⟩:=eh
 have r1:=ty_range a1 ha; have r2:=ty_range a1 hb
 have r3:=ty_range b1 ha; have r4:=ty_range b1 hb
 have s:=F.s
 have o1 : mn lo l = lo ∨ mn lo l = l:=mn_or
 have o2 : mx hi h = hi ∨ mx hi h = h:=mx_or
 have m1 : mn lo l ≤ lo:=mn_le1
 have m2 : mn lo l ≤ l:=mn_le2
 have m3 : hi ≤ mx hi h:=le_mx1
 have m4 : h ≤ mx hi h:=le_mx2
 refine ⟨fun y hy hl => ?_,by omega,.inr ⟨?_,?_⟩⟩
 ·rcases Int.lt_or_le (y b) n with h1 | h1
  ·have:=F.al y hy h1; omega
  ·have e : y b = n:=by omega
   have:=all y hy e; omega
 ·rcases o1 with e | e
  ·rcases F.e with ⟨e1,e2⟩ | ⟨h1,h2⟩
   ·omega
   ·rw [e]; exact h1
  ·rw [e]; exact ⟨y1,a1,by omega⟩
 ·rcases o2 with e | e
  ·rcases F.e with ⟨e1,e2⟩ | ⟨h1,h2⟩
   ·omega
   ·rw [e]; exact h2
  ·rw [e]; exact ⟨y2,b1,by omega⟩
theorem Far.done {a b : Nat} {n lo hi : Int} (F : Far C T t a b n lo hi) (hs : ∃ y,TY C T t y) (hn : ∀ y,TY C T t y → y b < n) : XtY C T t (fun y => y a - y b) lo hi:=by
 rcases F.e with ⟨e1,e2⟩ | ⟨h1,h2⟩
 ·obtain ⟨y,hy⟩:=hs
  have:=F.al y hy (hn y hy); omega
 ·exact ⟨fun y hy => F.al y hy (hn y hy),h1,h2⟩
end
end Go.Proofs.YtfknojncfbahpaaGreat.S
/-
difference,as it runs.
-/
namespace Go.Proofs.YtfknojncfbahpaaGreat.S
open Go Go.Am Go.Proofs.YtfknojncfbahpaaGreat.T
set_option maxRecDepth 100000
set_option linter.unusedSimpArgs false
set_option linter.unusedVariables false
section
variable {t : Trap} {o w : AV} {C T : Nat}
end
end Go.Proofs.YtfknojncfbahpaaGreat.S
/-
What the reference answers: FishOf,Fish.
-/
namespace Go.Proofs.YtfknojncfbahpaaGreat.S
open Go Go.Am Go.Proofs.YtfknojncfbahpaaGreat.T
set_option maxRecDepth 100000
set_option linter.unusedSimpArgs false
set_option linter.unusedVariables false
section
variable {t : Trap} {o w : AV}
theorem trC (V : TrB t) : t.ch = t.C:=by
 have:=V.c0
 unfold Trap.C; omega
theorem trT (V : TrB t) : t.tm = t.T:=by
 have:=V.t0
 unfold Trap.T; omega
theorem XtY.xt (V : TrB t) {i c i2 c2 : Nat} (hi : i < t.T) (hc : c ≤ t.C) (hi2 : i2 < t.T) (hc2 : c2 ≤ t.C) {lo hi' : Int} (X : XtY t.C t.T t (fun y => y (pos t.C i c) - y (pos t.C i2 c2)) lo hi') :
  Xt t (fun x => x (sumN t.C i c) - x (sumN t.C i2 c2)) lo hi':=by
 have back : ∀ {v : Int},(∃ y,TY t.C t.T t y ∧ y (pos t.C i c) - y (pos t.C i2 c2) = v) → ∃ x,Sat 21 (bat wide) x ∧ AllS t.C t.T t x ∧ x (sumN t.C i c) - x (sumN t.C i2 c2) = v:=by
  rintro v ⟨y,hy,e⟩
  obtain ⟨h1,h2,h3⟩:=toX V (trC V) (trT V) hy
  refine ⟨_,h1,h2,?_⟩
  have a:=h3 i c hi hc
  have b:=h3 i2 c2 hi2 hc2
  omega
 refine ⟨fun x h1 h2 => ?_,back X.l,back X.h⟩
 have:=X.b _ (toY V (trC V) (trT V) h1 h2)
 simp only [yOf_pos hc,yOf_pos hc2] at this
 omega
end
end Go.Proofs.YtfknojncfbahpaaGreat.S
/-
What the reference answers: Whole,Came,Passed.
-/
namespace Go.Proofs.YtfknojncfbahpaaGreat.S
open Go Go.Am Go.Proofs.YtfknojncfbahpaaGreat.T
set_option maxRecDepth 100000
set_option linter.unusedSimpArgs false
set_option linter.unusedVariables false
section
variable {t : Trap} {o w : AV}
end
end Go.Proofs.YtfknojncfbahpaaGreat.S
/-
What the reference answers: Came,Passed.
-/
namespace Go.Proofs.YtfknojncfbahpaaGreat.S
open Go Go.Am Go.Proofs.YtfknojncfbahpaaGreat.T
set_option maxRecDepth 100000
set_option linter.unusedSimpArgs false
set_option linter.unusedVariables false
section
variable {t : Trap} {o w : AV}
end
end Go.Proofs.YtfknojncfbahpaaGreat.S
/-
What is asked of a copy of a trap is answered as of the trap.
-/
namespace Go.Proofs.YtfknojncfbahpaaGreat.S
open Go Go.Am Go.Proofs.YtfknojncfbahpaaGreat.T
set_option linter.unusedSimpArgs false
set_option linter.unusedVariables false
section
variable {t : Trap}
theorem cp_C : t.cp.C = t.C:=rfl
theorem cp_T : t.cp.T = t.T:=rfl
theorem cp_opl : t.cp.op.length = t.op.length:=cpL_len
theorem cp_may {i j : Nat} (hi : i < t.op.length) : mayP t.cp.op i j = mayP t.op i j:=by
 unfold mayP
 rw [show t.cp.op = cpL t.op from rfl,cpL_list hi]
theorem cp_all {C T : Nat} {x : Nat → Int} : AllS C T t.cp x ↔ AllS C T t x:=by
 constructor
 ·intro A
  refine ⟨A.f,fun i j hi hj => ?_,A.w⟩
  rw [← cp_may hi]; exact A.m i j (by rw [cp_opl]; exact hi) hj
 ·intro A
  refine ⟨A.f,fun i j hi hj => ?_,A.w⟩
  rw [cp_opl] at hi
  rw [cp_may hi]; exact A.m i j hi hj
theorem cp_solv {C T : Nat} : Solv C T t.cp ↔ Solv C T t:=by
 unfold Solv
 simp only [cp_all]
theorem TrOk.cp {o w o' w' : AV} (H : TrOk t o w) (ho : IsSl 1 Ls.e (cpL t.op) o') (hw : IsSl 4 Wd.e t.ws w') : TrOk t.cp o' w' :=
 ⟨ho,hw,by rw [cp_opl]; exact H.so,H.sw,cpL_under H.sl⟩
end
end Go.Proofs.YtfknojncfbahpaaGreat.S
/-
One word more,one word less: what truths there are; each number between both ends is so in some truth.
-/
namespace Go.Proofs.YtfknojncfbahpaaGreat.S
open Go Go.Am Go.Proofs.YtfknojncfbahpaaGreat.T
set_option maxRecDepth 100000
set_option linter.unusedSimpArgs false
set_option linter.unusedVariables false
def Trap.add (t : Trap) (w : Wd) : Trap:=⟨t.ch,t.tm,t.op,t.ws ++ [w]⟩
section
variable {t : Trap} {C T : Nat}
theorem allW {ws : List Wd} {x : Nat → Int} : (∀ k,k < ws.length → saysW C x (ws.getD k default)) ↔ ∀ y ∈ ws,saysW C x y:=by
 constructor
 ·intro h y hy
  obtain ⟨k,hk,rfl⟩:=List.mem_iff_getElem.1 hy
  have:=h k hk
  rwa [List.getD_eq_getElem?_getD,List.getElem?_eq_getElem hk,Option.getD_some] at this
 ·intro h k hk
  rw [List.getD_eq_getElem?_getD,List.getElem?_eq_getElem hk,Option.getD_some]
  exact h _ (List.getElem_mem hk)
theorem cp_trb (V : TrB t) : TrB t.cp:=by
 refine ⟨V.c0,V.c1,V.t0,V.t1,by rw [cp_opl]; exact V.o,V.w,fun y hy => ?_,V.fw⟩
 simp only [Trap.cp,cpL,List.mem_map] at hy
 obtain ⟨z,hz,rfl⟩:=hy
 exact V.ro z hz
def Tr (t : Trap) (x : Nat → Int) : Prop:=Sat 21 (bat wide) x ∧ AllS t.C t.T t x
theorem solv_tr : Solv t.C t.T t ↔ ∃ x,Tr t x:=Iff.rfl
theorem tr_cp {x : Nat → Int} : Tr t.cp x ↔ Tr t x:=by
 unfold Tr
 rw [cp_C,cp_T,cp_all]
theorem xt_tr {f : (Nat → Int) → Int} {lo hi : Int} (X : Xt t f lo hi) : (∀ x,Tr t x → lo ≤ f x ∧ f x ≤ hi) ∧ (∃ x,Tr t x ∧ f x = lo) ∧ ∃ x,Tr t x ∧ f x = hi :=
 ⟨fun x hx => X.b x hx.1 hx.2,by obtain ⟨x,a,b,c⟩:=X.l; exact ⟨x,⟨a,b⟩,c⟩,by obtain ⟨x,a,b,c⟩:=X.h; exact ⟨x,⟨a,b⟩,c⟩⟩
theorem mid0 {b : Bd} {N i j : Nat} (K : Cld N b) (hi : i < N) (hj : j < N) {n : Int} (h1 : - b j i ≤ n) (h2 : n ≤ b i j) : ∃ x,Sat N b x ∧ x i - x j = n:=by
 have k1:=upd_cld K hi hj (m:=n) (by omega)
 have e : upd b i j n i j = n:=by
  have z1:=K.z i hi
  have z2:=K.z j hj
  unfold upd mn
  split <;> omega
 have k2:=upd_cld k1 hj hi (m:=-n) (by omega)
 have s:=leastSat k2 (by omega)
 have s1:=(upd_sat k1 hj hi).1 s
 have s2:=(upd_sat K hi hj).1 s1.1
 have a:=s1.2
 have b:=s2.2
 exact ⟨_,s2.1,by omega⟩
theorem Says.mid {B : List Int} (K : Ok B) (s : Says t.C t.T t B) {i j : Nat} (hi : i < 21) (hj : j < 21) {lo hi' n : Int} (X : Xt t (fun x => x i - x j) lo hi') (h1 : lo ≤ n) (h2 : n ≤ hi') : ∃ x,Tr t x ∧ x i - x j = n:=by
 obtain ⟨e1,e2⟩:=X.uniq (s.xt K hi hj)
 obtain ⟨x,hx,e⟩:=mid0 K.cld hi hj (n:=n) (by omega) (by omega)
 exact ⟨x,(s x).1 hx,e⟩
theorem exB {o w : AV} (H : TrOk t o w) (V : TrB t) (hs : Solv t.C t.T t) : ∃ B,Ok B ∧ Says t.C t.T t B:=by
 obtain ⟨b,B,K,hr,hk,KB,y,n⟩:=r90 H V (trC V) (trT V)
 cases b
 ·obtain ⟨x,h1,h2⟩:=hs
  exact absurd h2 (n rfl x h1)
 ·exact ⟨B,KB,y rfl⟩
theorem midG {o w : AV} (H : TrOk t o w) (V : TrB t) {i c : Nat} (hi : i < t.T) (hc : c < t.C) {lo hi' n : Int} (X : Xt t (fun x => gap t.C x i c) lo hi') (h1 : lo ≤ n) (h2 : n ≤ hi') : ∃ x,Tr t x ∧ gap t.C x i c = n:=by
 have hs : Solv t.C t.T t:=by obtain ⟨x,a,b,_⟩:=X.l; exact ⟨x,a,b⟩
 obtain ⟨B,K,s⟩:=exB H V hs
 have v1:=V.c1; have v2:=V.t1; have e1:=trC V; have e2:=trT V
 exact s.mid K (sumN_lt (ch:=t.C) (t:=i) (c:=c) (by omega) (by omega) (by omega)) (sumN_lt (ch:=t.C) (t:=i) (c:=c + 1) (by omega) (by omega) (by omega)) X h1 h2
end
end Go.Proofs.YtfknojncfbahpaaGreat.S
/-
A trap in new memory: Copy.
-/
namespace Go.Proofs.YtfknojncfbahpaaGreat.S
open Go Go.Am Go.Proofs.YtfknojncfbahpaaGreat.T
set_option maxRecDepth 100000
set_option linter.unusedSimpArgs false
set_option linter.unusedVariables false
noncomputable def appG (keep : Bool) (lim p esz eb : Nat) (h : List AO) (s x : AV) : Option (AV × List AO):=exOp (fun _ _ _ _ => none) lim (some p) (fun o => match o with | .t 0 => s | _ => x) h (.append keep esz eb (.t 0) (.t 1))
theorem appG_zero {keep : Bool} {lim p esz eb sl : Nat} {h : List AO} {s x : AV} (hs : lenOf s = some sl) (hx : lenOf x = some 0) (hr : Am.rowOf h x = some []) : appG keep lim p esz eb h s x = some (s,h):=by
 simp only [appG,exOp,hs,hx,hr,List.length_nil,Nat.zero_mul,if_true]
theorem appG_nil {keep : Bool} {lim p esz eb n : Nat} {h : List AO} {x : AV} {xs : List AV} (hn : n ≠ 0) (hx : lenOf x = some n) (hr : Am.rowOf h x = some xs) (hl : xs.length = n * esz) (hs : xs.all AV.scalar = true) (hb : n * eb ≤ 140737488355328) (heb : 1 ≤ eb) :
  appG keep lim p esz eb h .nils x = some (.ms esz p 0 n,h.set p (.cells xs false)):=by
 simp only [appG,exOp,lenOf_nils,hx,hr,hl,hn,hs,hb,heb,Nat.zero_add,if_true,if_false,and_self,newAt,Option.getD_some]
theorem appG_ms {keep : Bool} {lim p esz eb n o len : Nat} {h : List AO} {x : AV} {c xs : List AV} (hn : n ≠ 0) (ho : h[o]? = some (.cells c false)) (hc : len * esz = c.length) (hx : lenOf x = some n) (hr : Am.rowOf h x = some xs) (hl : xs.length = n * esz) (hs : xs.all AV.scalar = true)
  (hb : (len + n) * eb ≤ 140737488355328) (heb : 1 ≤ eb) (hlim : lim ≤ o) :
  appG keep lim p esz eb h (.ms esz o 0 len) x = some (.ms esz p 0 (len + n),(h.set o (if keep then .ro c else .tomb)).set p (.cells (c ++ xs) (keep && len != 0))):=by
 simp only [appG,exOp,lenOf_ms,hx,hr,hl,hn,hs,hb,heb,ho,hc,hlim,if_true,if_false,and_self,true_and,true_or,newObj',Option.getD_some,List.take_length,Bool.or_false]
theorem GO_mapp {X : Cx} {base : Nat} {k : List KF} {ts : List AV} {h : List AO} {mk : List Nat} {r : List AOper} {d : Option Nat} {kp : Bool} {e eb s : Nat} {a x : Opd} {m : List Nat} :
  GO X base (⟨d,.append kp e eb a x,none,some s,m⟩ :: r) k ts h mk = GX X base ((appG kp X.lim (base + s) e eb (hide base m h) (a.ev ts) (x.ev ts)).map fun y => (y.1,unhide base h m y.2)) d r k ts mk:=by
 rw [GO_slot]
 congr 1
 show exMask (R X.E) X.lim base (some (base + s)) (Opd.ev ts) h (.append kp e eb a x) m = _
 rw [exMask_eq]; rfl
theorem unhN {b : Nat} {h g : List AO} : unhide b h [] g = g:=id rfl
theorem unhC {b s : Nat} {r : List Nat} {h g : List AO} : unhide b h (s :: r) g = (unhide b h r g).set (b + s) (h.getD (b + s) .tomb):=id rfl
theorem intSc (n : Int) : (intL n).all AV.scalar = true:=rfl
theorem flat1 (l : List Int) : (l.flatMap intL).length = l.length:=by rw [flat_len intE]; omega
theorem app_one {α : Type} {esz eb lim : Nat} {enc : α → List AV} {l : List α} {v : AV} {h J : List AO} (hv : IsSl esz enc l v) (he : ∀ a,(enc a).length = esz) (hs : ∀ a,(enc a).all AV.scalar = true) (hb : l.length * eb ≤ 140737488355328) (heb : 1 ≤ eb) (hlim : lim ≤ h.length) :
  ∃ q x0 x1,q < 2 ∧ appG true lim (h.length + 1) esz eb (h ++ .cells [] false :: .tomb :: J) (.ms esz h.length 0 0) v = some (.ms esz (h.length + q) 0 l.length,h ++ x0 :: x1 :: J) ∧ [x0,x1][q]? = some (.cells (l.flatMap enc) false):=by
 by_cases hz : l.length = 0
 ·have e : l = []:=List.eq_nil_of_length_eq_zero hz
  subst e
  refine ⟨0,.cells [] false,.tomb,by omega,?_,rfl⟩
  have hr : Am.rowOf (h ++ .cells [] false :: .tomb :: J) v = some []:=rowOf_sl hv _
  rw [appG_zero (sl:=0) rfl (lenOf_sl hv) hr]; rfl
 ·refine ⟨1,.ro [],.cells (l.flatMap enc) false,by omega,?_,rfl⟩
  rw [appG_ms (c:=[]) hz atA0 (by simp) (lenOf_sl hv) (rowOf_sl hv _) (flat_len he l) (scal_sl hs l) (by simpa using hb) heb hlim,setT0,setT]
  simp
def WvH (h : List AO) (ow : Nat) (wv : AV) (ws : List Wd) : Prop:=wv = .ms 4 ow 0 ws.length ∧ h[ow]? = some (.cells (ws.flatMap Wd.e) false)
def LiH (h : List AO) (o ow : Nat) (u : AV) (l : List Int) : Prop:=∃ p,p ≠ o ∧ p ≠ ow ∧ u = .ms 1 p 0 l.length ∧ h[p]? = some (.cells (l.flatMap intL) false)
def OvH (h : List AO) (ow : Nat) (ov : AV) (L : List Ls) : Prop:=(L = [] ∧ ov = .nils) ∨ (L ≠ [] ∧ ∃ o vs,o ≠ ow ∧ ov = .ms 1 o 0 L.length ∧ h[o]? = some (.cells vs false) ∧ vs.length = L.length ∧ ∀ i,i < L.length → LiH h o ow (vs.getD i .undef) (L.getD i default).list)
structure CpH (t : Trap) (h : List AO) (ow : Nat) (ov wv : AV) : Prop where
 o : OvH h ow ov t.op
 w : WvH h ow wv t.ws
theorem OvH.fr {h h' : List AO} {ow : Nat} {ov : AV} {L : List Ls} (H : OvH h ow ov L) (hf : ∀ k,k < h.length → k ≠ ow → h'[k]? = h[k]?) : OvH h' ow ov L:=by
 rcases H with H | ⟨hne,o,vs,h1,rfl,ho,hl,hr⟩
 ·exact .inl H
 ·refine .inr ⟨hne,o,vs,h1,rfl,by rw [hf o (List.getElem?_eq_some_iff.1 ho).1 h1]; exact ho,hl,fun i hi => ?_⟩
  obtain ⟨p,p1,p2,e,hp⟩:=hr i hi
  exact ⟨p,p1,p2,e,by rw [hf p (List.getElem?_eq_some_iff.1 hp).1 p2]; exact hp⟩
theorem mapM_get {f : AV → Option AV} : ∀ {vs us : List AV},vs.length = us.length → (∀ i,i < us.length → f (vs.getD i .undef) = some (us.getD i .undef)) → vs.mapM f = some us
 | [],[],_,_ => rfl
 | [],_ :: _,h,_ => by simp at h
 | _ :: _,[],h,_ => by simp at h
 |
  v :: vs,u :: us,h,hi => by
  have h0:=hi 0 (by simp)
  have ih:=mapM_get (f:=f) (vs:=vs) (us:=us) (by simpa using h) fun i hi' => by
   have:=hi (i + 1) (by simpa using hi')
   simpa using this
  simp only [get0] at h0
  rw [List.mapM_cons,h0]
  show (do let y ← vs.mapM f; pure (u :: y)) = _
  rw [ih]; rfl
theorem ints_view {st : Bool} {h : List AO} {n : Nat} (l : List Int) : (l.flatMap intL).mapM (view st h n) = some (l.flatMap intL):=by
 induction l with
 | nil => rfl
 |
  cons a l ih =>
  show (I a :: l.flatMap intL).mapM (view st h n) = _
  rw [List.mapM_cons,view_int]
  show (do let y ← (l.flatMap intL).mapM (view st h n); pure (I a :: y)) = _
  rw [ih]; rfl
theorem wds_view {st : Bool} {h : List AO} {n : Nat} (l : List Wd) : (l.flatMap Wd.e).mapM (view st h n) = some (l.flatMap Wd.e):=by
 induction l with
 | nil => rfl
 |
  cons a l ih =>
  show (I a.time :: I a.ch :: I a.lo :: I a.hi :: l.flatMap Wd.e).mapM (view st h n) = _
  simp only [List.mapM_cons,view_int,ih]; rfl
theorem LiH.view {h : List AO} {o ow n : Nat} {u : AV} {l : List Int} (H : LiH h o ow u l) (st : Bool) : view st h (n + 1) u = some (slV 1 intL l):=by
 obtain ⟨p,_,_,rfl,hp⟩:=H
 rw [view_ms,rowOf_ms]
 simp only [Am.rowAt,hp,Option.bind_some,AO.row?,List.drop_zero]
 rw [List.take_of_length_le (by rw [flat1]; omega),if_pos (by rw [flat1]; omega)]
 simp only [ints_view,Option.map_some,slV]
theorem WvH.view {h : List AO} {n ow : Nat} {wv : AV} {ws : List Wd} (H : WvH h ow wv ws) (st : Bool) : view st h (n + 1) wv = some (slV 4 Wd.e ws):=by
 obtain ⟨rfl,hp⟩:=H
 have hl:=flat_len Wd.el ws
 rw [view_ms,rowOf_ms]
 simp only [Am.rowAt,hp,Option.bind_some,AO.row?,List.drop_zero]
 rw [List.take_of_length_le (by omega),if_pos (by omega)]
 simp only [wds_view,Option.map_some,slV]
def cpO (L : List Ls) : AV:=if L = [] then .nils else slV 1 Ls.e (cpL L)
theorem cpO_is {L : List Ls} : IsSl 1 Ls.e (cpL L) (cpO L):=by
 unfold cpO
 split
 ·rename_i e; subst e; exact .inr ⟨rfl,rfl⟩
 ·exact slV_is
theorem OvH.view {h : List AO} {n ow : Nat} {ov : AV} {L : List Ls} (H : OvH h ow ov L) (st : Bool) : view st h (n + 2) ov = some (cpO L):=by
 unfold cpO
 rcases H with ⟨rfl,rfl⟩ | ⟨hne,o,vs,_,rfl,ho,hl,hr⟩
 ·rw [if_pos rfl,view_nils]
 ·rw [if_neg hne,view_ms,rowOf_ms]
  simp only [Am.rowAt,ho,Option.bind_some,AO.row?,List.drop_zero]
  rw [List.take_of_length_le (by omega),if_pos (by omega)]
  have hf : ((cpL L).flatMap Ls.e).length = L.length:=by rw [flat_len Ls.el,cpL_len,Nat.mul_one]
  have hm : vs.mapM (Am.view st h (n + 1)) = some ((cpL L).flatMap Ls.e):=by
   refine mapM_get (by omega) fun i hi => ?_
   have hi' : i < L.length:=by omega
   rw [(hr i hi').view st]
   congr 1
   have hc : i < (cpL L).length:=by rw [cpL_len]; exact hi'
   have:=flat_at Ls.el (cpL L) i hc
   have e2 : (cpL L)[i] = ⟨(L.getD i default).list,false⟩:=by
    have:=cpL_at hi'
    rwa [List.getD_eq_getElem?_getD,List.getElem?_eq_getElem hc,Option.getD_some] at this
   rw [e2] at this
   have e3 : ((cpL L).flatMap Ls.e).getD i .undef = slV 1 intL (L.getD i default).list:=by
    rw [Nat.mul_one] at this
    have h4 : (((cpL L).flatMap Ls.e).drop i).head? = some (slV 1 intL (L.getD i default).list):=by
     have:=congrArg List.head? this
     rw [List.head?_take] at this
     simpa [Ls.e,Ls.v] using this
    rw [List.head?_drop] at h4
    rw [List.getD_eq_getElem?_getD,h4]; rfl
   exact e3.symm
  simp only [hm,Option.map_some,slV,cpL_len]
abbrev cpV (t : Trap) : AV:=trV t (cpO t.op) (slV 4 Wd.e t.ws)
theorem CpH.view {t : Trap} {h : List AO} {n ow : Nat} {ov wv : AV} (H : CpH t h ow ov wv) (st : Bool) : view st h (n + 3) (trV t ov wv) = some (cpV t):=by
 show ([I t.ch,I t.tm,ov,wv].mapM (Am.view st h (n + 2))).map AV.agg = _
 have h1:=H.o.view (n:=n) st
 have h2:=H.w.view (n:=n + 1) st
 simp only [List.mapM_cons,List.mapM_nil,view_int,h1,h2]
 rfl
end Go.Proofs.YtfknojncfbahpaaGreat.S
/-
What the program answers: judge and Judge,enough and Enough,doubt.
-/
namespace Go.Proofs.YtfknojncfbahpaaGreat.S
open Go Go.Am Go.Proofs.YtfknojncfbahpaaGreat.T
set_option maxRecDepth 100000
set_option linter.unusedSimpArgs false
set_option linter.unusedVariables false
inductive AnsG {α : Type} (t : Trap) (fit : Bool) (D : Int → α) (P : α → Prop) : α → Prop
 | bad (h : t.valid = false) : AnsG t fit D P (D 10)
 | arg (h : t.valid = true) (hf : fit = false) : AnsG t fit D P (D 1)
 | none (h : t.valid = true) (hf : fit = true) (hn : ¬ Solv t.C t.T t) : AnsG t fit D P (D 3)
 | ok {v : α} (h : t.valid = true) (hf : fit = true) (hs : Solv t.C t.T t) (hp : P v) : AnsG t fit D P v
theorem AnsG.uniq {α : Type} {t : Trap} {fit : Bool} {D : Int → α} {P : α → Prop} (hu : t.valid = true → fit = true → Solv t.C t.T t → ∀ a b,P a → P b → a = b) {a b : α} (A : AnsG t fit D P a) (B : AnsG t fit D P b) : a = b:=by
 cases A <;> cases B <;> first | rfl | (exfalso; simp_all; done) | (apply hu <;> assumption)
theorem AnsG.map {α : Type} {t : Trap} {fit : Bool} {D : Int → α} {P Q : α → Prop} {a : α} (A : AnsG t fit D P a) (h : t.valid = true → fit = true → Solv t.C t.T t → P a → Q a) : AnsG t fit D Q a:=by
 cases A with
 | bad hv => exact .bad hv
 | arg hv hf => exact .arg hv hf
 | none hv hf hn => exact .none hv hf hn
 | ok hv hf hs hp => exact .ok hv hf hs (h hv hf hs hp)
def JudP (t : Trap) (y : Wd) (k : Int) : Prop :=
 (k = 1 ∧ ∀ x,Tr t x → saysW t.C x y) ∨ (k = 2 ∧ ∀ x,Tr t x → ¬ saysW t.C x y) ∨ (k = 3 ∧ (∃ x,Tr t x ∧ saysW t.C x y) ∧ ∃ x,Tr t x ∧ ¬ saysW t.C x y)
theorem JudP.uniq {t : Trap} {y : Wd} (hs : Solv t.C t.T t) {a b : Int} (A : JudP t y a) (B : JudP t y b) : a = b:=by
 obtain ⟨x0,h0⟩:=solv_tr.1 hs
 rcases A with ⟨rfl,A⟩ | ⟨rfl,A⟩ | ⟨rfl,⟨u,A1,A2⟩,v,A3,A4⟩ <;> rcases B with ⟨rfl,B⟩ | ⟨rfl,B⟩ | ⟨rfl,⟨u',B1,B2⟩,v',B3,B4⟩ <;> first
  | rfl
  | exact absurd (A x0 h0) (B x0 h0)
  | exact absurd (B x0 h0) (A x0 h0)
  | exact absurd (A v' B3) B4
  | exact absurd B2 (A u' B1)
  | exact absurd (B v A3) A4
  | exact absurd A2 (B u A1)
def judV (lo hi : Int) (y : Wd) : Int:=if y.lo ≤ lo ∧ hi ≤ y.hi then 1 else if y.hi < lo ∨ hi < y.lo then 2 else 3
section
variable {t : Trap} {o w : AV}
theorem judV_ok (H : TrOk t o w) (V : TrB t) {y : Wd} (hf : fitB t y = true) {lo hi' : Int} (X : Xt t (fun x => gap t.C x y.time.toNat y.ch.toNat) lo hi') : JudP t y (judV lo hi' y):=by
 simp only [fitB,placeB,Bool.and_eq_true,decide_eq_true_eq] at hf
 have e1:=trC V; have e2:=trT V
 have mid:=fun {n : Int} (h1 : lo ≤ n) (h2 : n ≤ hi') => midG H V (i:=y.time.toNat) (c:=y.ch.toNat) (by omega) (by omega) X h1 h2
 have b:=fun x hx => (xt_tr X).1 x hx
 try simp only at b
 obtain ⟨x1,t1,g1⟩:=(xt_tr X).2.1
 obtain ⟨x2,t2,g2⟩:=(xt_tr X).2.2
 try simp only at g1 g2
 have bb:=b x1 t1
 unfold judV JudP saysW
 by_cases h1 : y.lo ≤ lo ∧ hi' ≤ y.hi
 ·rw [if_pos h1]
  exact .inl ⟨rfl,fun x hx => by have:=b x hx; omega⟩
 rw [if_neg h1]
 by_cases h2 : y.hi < lo ∨ hi' < y.lo
 ·rw [if_pos h2]
  exact .inr (.inl ⟨rfl,fun x hx => by have:=b x hx; omega⟩)
 rw [if_neg h2]
 refine .inr (.inr ⟨rfl,?_,?_⟩)
 ·by_cases h3 : y.lo ≤ lo
  ·exact ⟨x1,t1,by omega,by omega⟩
  ·obtain ⟨x,hx,e⟩:=mid (n:=y.lo) (by omega) (by omega)
   exact ⟨x,hx,by omega,by omega⟩
 ·by_cases h3 : y.lo ≤ lo
  ·exact ⟨x2,t2,by omega⟩
  ·exact ⟨x1,t1,by omega⟩
theorem fishAt {h : List AO} {k : Nat} {B : List Int} (V : TrB t) (hk : h[k]? = some (.cells (wc t.C t.T o w B) false)) (hB : Ok B) (hs : Says t.C t.T t B) {i c : Nat} (hi : i < t.T) (hc : c < t.C) :
  ∃ lo hi',(∀ J,Ro E 119 [.ptr k 0,.agg [I i,I c]] (h ++ J) = some (.agg [I lo,I hi'])) ∧ Xt t (fun x => gap t.C x i c) lo hi':=by
 have v2:=V.c1; have v4:=V.t1
 have eC:=trC V; have eT:=trT V
 have ia:=sumN_lt (ch:=t.C) (t:=i) (c:=c) (by omega) (by omega) (by omega)
 have ib:=sumN_lt (ch:=t.C) (t:=i) (c:=c + 1) (by omega) (by omega) (by omega)
 have kl:=(List.getElem?_eq_some_iff.1 hk).1
 exact ⟨_,_,fun J => s82 (by rw [at_ap kl]; exact hk) hB (t:=i) (c:=c) (by omega) (by omega) (by omega),hs.xt hB ia ib⟩
theorem s80 {h : List AO} {k : Nat} {B : List Int} (H : TrOk t o w) (V : TrB t) (hk : h[k]? = some (.cells (wc t.C t.T o w B) false)) (hB : Ok B) (hs : Says t.C t.T t B) {y : Wd} (hf : fitB t y = true) :
  ∃ v,(∀ J,Ro E 142 [.ptr k 0,.agg y.e] (h ++ J) = some (I v)) ∧ JudP t y v:=by
 have hf2:=hf
 simp only [fitB,placeB,Bool.and_eq_true,decide_eq_true_eq] at hf2
 have eC:=trC V; have eT:=trT V
 obtain ⟨lo,hi',c82,X⟩:=fishAt V hk hB hs (i:=y.time.toNat) (c:=y.ch.toNat) (by omega) (by omega)
 have J1:=judV_ok H V hf X
 obtain ⟨ti,e1⟩ : ∃ ti : Nat,y.time = ti:=⟨y.time.toNat,by omega⟩
 obtain ⟨ci,e2⟩ : ∃ ci : Nat,y.ch = ci:=⟨y.ch.toNat,by omega⟩
 have kl:=(List.getElem?_eq_some_iff.1 hk).1
 refine ⟨_,fun J => ?_,J1⟩
 obtain ⟨g,hg⟩ : ∃ g,g = h ++ J:=⟨_,rfl⟩
 have c82' : ∀ K,Ro E 119 [.ptr k 0,.agg [I ti,I ci]] (g ++ K) = some (.agg [I lo,I hi']):=fun K => by
  have:=c82 (J ++ K)
  rw [e1,e2,Int.toNat_natCast,Int.toNat_natCast,← List.append_assoc,← hg] at this
  exact this
 rw [← hg]
 unfold judV
 refine Ro_of (es _ _ _ _) e142 ?_
 simp only [f142,Wd.e,e1,e2]
 simp (disch:=first|assumption|omega|(simp only[az];done)) only [ru,eq_self,if_true,if_false,binI,AO.row?,splice,fillL,loadV,storeV,Am.rowAt,Am.part,addOff,Nat.reduceAdd,Nat.reduceLeDiff,Nat.reduceSub,List.append_assoc,lenE,setT,atT,atT0,Nat.le_refl,Nat.le_add_right,c82']
 by_cases h1 : y.lo ≤ lo
 ·by_cases h2 : hi' ≤ y.hi
  ·simp (disch:=first|assumption|omega|(simp only[az];done)) only [ru,eq_self,if_true,if_false,binI,AO.row?,loadV,Am.rowAt,Am.part,addOff,Nat.reduceAdd,lenE,atT,atT0,h1,h2]
   rfl
  ·by_cases h3 : y.hi < lo
   ·simp (disch:=first|assumption|omega|(simp only[az];done)) only [ru,eq_self,if_true,if_false,binI,AO.row?,loadV,Am.rowAt,Am.part,addOff,Nat.reduceAdd,lenE,atT,atT0,h1,h2,h3,and_false,true_or]
    rfl
   ·by_cases h4 : hi' < y.lo
    ·simp (disch:=first|assumption|omega|(simp only[az];done)) only [ru,eq_self,if_true,if_false,binI,AO.row?,loadV,Am.rowAt,Am.part,addOff,Nat.reduceAdd,lenE,atT,atT0,h1,h2,h3,h4,and_false,or_true]
     rfl
    ·simp (disch:=first|assumption|omega|(simp only[az];done)) only [ru,eq_self,if_true,if_false,binI,AO.row?,loadV,Am.rowAt,Am.part,addOff,Nat.reduceAdd,lenE,atT,atT0,h1,h2,h3,h4,and_false,or_self]
     rfl
 ·by_cases h3 : y.hi < lo
  ·simp (disch:=first|assumption|omega|(simp only[az];done)) only [ru,eq_self,if_true,if_false,binI,AO.row?,loadV,Am.rowAt,Am.part,addOff,Nat.reduceAdd,lenE,atT,atT0,h1,h3,false_and,true_or]
   rfl
  ·by_cases h4 : hi' < y.lo
   ·simp (disch:=first|assumption|omega|(simp only[az];done)) only [ru,eq_self,if_true,if_false,binI,AO.row?,loadV,Am.rowAt,Am.part,addOff,Nat.reduceAdd,lenE,atT,atT0,h1,h3,h4,false_and,or_true]
    rfl
   ·simp (disch:=first|assumption|omega|(simp only[az];done)) only [ru,eq_self,if_true,if_false,binI,AO.row?,loadV,Am.rowAt,Am.part,addOff,Nat.reduceAdd,lenE,atT,atT0,h1,h3,h4,false_and,or_self]
    rfl
theorem s29 (H : TrOk t o w) (y : Wd) : ∃ v e,(∀ st,Iso E 116 [trV t o w,.agg y.e] st = some (.tup [I v,I e])) ∧ AnsG t (fitB t y) (fun e => (0,e)) (fun r => JudP t y r.1 ∧ r.2 = 0) (v,e):=by
 have c1:=fun st => s79 H y st
 obtain ⟨fit,hfit⟩ : ∃ fit,fit = fitB t y:=⟨_,rfl⟩
 rw [← hfit] at c1 ⊢
 obtain ⟨p,e,K,q,hs⟩:=call73 H fit [.cells [I t.ch,I t.tm,o,w] false,.cells y.e false]
 simp only [trV,Wd.e] at q c1 ⊢
 cases hs with
 |
  bad hv =>
  refine ⟨0,10,fun st => ?_,.bad hv⟩
  refine Iso_of (es _ _ _ _) e116 ?_
  simp only [f116]
  simp (disch:=first|assumption|omega|(simp only[az];done)) only [ru,eq_self,if_true,AO.row?,loadV,Am.rowAt,Am.part,Nat.reduceAdd,Nat.reduceSub,view_sl H.o,view_sl H.w,pure_sl H.o,pure_sl H.w,c1]
  rw [q rfl rfl]
  simp (disch:=first|assumption|omega|(simp only[az];done)) only [ru,eq_self,if_true,binI,Int.reduceEq]
 |
  arg hv hf =>
  refine ⟨0,1,fun st => ?_,.arg hv hf⟩
  refine Iso_of (es _ _ _ _) e116 ?_
  simp only [f116]
  simp (disch:=first|assumption|omega|(simp only[az];done)) only [ru,eq_self,if_true,AO.row?,loadV,Am.rowAt,Am.part,Nat.reduceAdd,Nat.reduceSub,view_sl H.o,view_sl H.w,pure_sl H.o,pure_sl H.w,c1]
  rw [q rfl rfl]
  simp (disch:=first|assumption|omega|(simp only[az];done)) only [ru,eq_self,if_true,binI,Int.reduceEq]
 |
  none hv hf hn =>
  refine ⟨0,3,fun st => ?_,.none hv hf hn⟩
  refine Iso_of (es _ _ _ _) e116 ?_
  simp only [f116]
  simp (disch:=first|assumption|omega|(simp only[az];done)) only [ru,eq_self,if_true,AO.row?,loadV,Am.rowAt,Am.part,Nat.reduceAdd,Nat.reduceSub,view_sl H.o,view_sl H.w,pure_sl H.o,pure_sl H.w,c1]
  rw [q rfl rfl]
  simp (disch:=first|assumption|omega|(simp only[az];done)) only [ru,eq_self,if_true,binI,Int.reduceEq]
 |
  @ok B hv hf hk hB hs =>
  obtain ⟨v,c80,J⟩:=s80 H (valid_trb hv) hk hB hs (y:=y) (by rw [← hfit]; exact hf)
  have c80':=c80 []
  simp only [Wd.e,List.append_nil,List.cons_append,List.nil_append,List.length_cons,List.length_nil,Nat.zero_add,Nat.reduceAdd] at c80'
  refine ⟨v,0,fun st => ?_,.ok hv hf (hs.solv hB) ⟨J,rfl⟩⟩
  refine Iso_of (es _ _ _ _) e116 ?_
  simp only [f116]
  simp (disch:=first|assumption|omega|(simp only[az];done)) only [ru,eq_self,if_true,AO.row?,loadV,Am.rowAt,Am.part,Nat.reduceAdd,Nat.reduceSub,view_sl H.o,view_sl H.w,pure_sl H.o,pure_sl H.w,c1]
  rw [q rfl rfl]
  simp (disch:=first|assumption|omega|(simp only[az];done)) only [ru,eq_self,if_true,binI,AO.row?,loadV,Am.rowAt,Am.part,Nat.reduceAdd,c80']
end
end Go.Proofs.YtfknojncfbahpaaGreat.S
/-
A trap in new memory: Copy runs.
-/
namespace Go.Proofs.YtfknojncfbahpaaGreat.S
open Go Go.Am Go.Proofs.YtfknojncfbahpaaGreat.T
set_option maxRecDepth 100000
set_option linter.unusedSimpArgs false
set_option linter.unusedVariables false
structure TrUp (t : Trap) (o w : AV) : Prop where
 o : IsSl 1 Ls.e t.op o
 w : IsSl 4 Wd.e t.ws w
 so : t.op.length * 24 ≤ 140737488351232
 sw : t.ws.length * 32 ≤ 140737488351232
 sl : ∀ x ∈ t.op,x.list.length * 8 ≤ 140737488351232
theorem TrOk.up {t : Trap} {o w : AV} (H : TrOk t o w) : TrUp t o w:=by
 have so:=H.so; have sw:=H.sw
 exact ⟨H.o,H.w,by omega,by omega,fun x hx => by have:=H.sl x hx; omega⟩
set_option maxHeartbeats 400000 in
theorem r41u {t : Trap} {o w : AV} (H : TrUp t o w) : ∃ ow ov wv K,R E (.fn 83) [trV t o w] [] 0 = some (trV t ov wv,K) ∧ CpH t K ow ov wv:=by
 have so:=H.so; have sw:=H.sw
 suffices hh : ∃ r K,R E (.fn 83) [trV t o w] [] 0 = some (r,K) ∧ ∃ ow ov wv,r = trV t ov wv ∧ CpH t K ow ov wv by
  obtain ⟨r,K,hr,ow,ov,wv,rfl,hh⟩:=hh
  exact ⟨ow,ov,wv,K,hr,hh⟩
 obtain ⟨q,x0,x1,hq,hA,hx⟩:=app_one (lim:=0) (eb:=32) (h:=[.cells [I t.ch,I t.tm,o,w] false,.cells [I 0,I 0,.nils,.nils] false]) (J:=[.tomb]) H.w Wd.el Wd.sc (by omega) (by omega) (by omega)
 simp only [List.cons_append,List.nil_append,List.length_cons,List.length_nil,Nat.zero_add,Nat.reduceAdd] at hA
 obtain ⟨wv,hwv⟩ : ∃ wv,wv = AV.ms 4 (2 + q) 0 t.ws.length:=⟨_,rfl⟩
 rw [← hwv] at hA
 have wc1 : wv.cells = [wv]:=by rw [hwv]; rfl
 have ws1 : wv.scalar = true:=by rw [hwv]; rfl
 refine R_of (f:=83) (vs:=[trV t o w]) (h:=[]) (lim:=0) (fun r K => ∃ ow ov wv,r = trV t ov wv ∧ CpH t K ow ov wv) (es _ _ _ _) e83 ?_
 simp only [f83,trV]
 simp (disch:=first|assumption|omega|(simp only[az];done)) only [ru,eq_self,if_true,if_false,AO.row?,splice,fillL,loadV,storeV,zeros,Am.rowAt,Am.part,addOff,Nat.reduceAdd,Nat.reduceLeDiff,Nat.reduceSub,GO_mapp,hA,unhN,unhC,wc1,ws1]
 refine G_loop_ind (fun m ts hk mk => ∃ (i : Nat) (ov : AV),i ≤ t.op.length ∧ m = t.op.length - i ∧ ts.length = 34 ∧ ts.getD 1 .undef = .ptr 0 0 ∧ ts.getD 2 .undef = .ptr 1 0 ∧ ts.getD 3 .undef = .ptr 4 0 ∧ ts.getD 4 .undef = I i ∧
  hk.length = 5 + 4 * i ∧ hk[0]? = some (.cells [I t.ch,I t.tm,o,w] false) ∧ hk[1]? = some (.cells [I 0,I 0,.nils,.nils] false) ∧ hk[2 + q]? = some (.cells (t.ws.flatMap Wd.e) false) ∧ hk[4]? = some (.cells [I t.ch,I t.tm,ov,wv] false) ∧
  (i = 0 ∧ ov = .nils ∨ 0 < i ∧ ∃ o vs,5 ≤ o ∧ o < 5 + 4 * i ∧ ov = .ms 1 o 0 i ∧ hk[o]? = some (.cells vs false) ∧ vs.length = i ∧ ∀ j,j < i → ∃ p,5 ≤ p ∧ p < 5 + 4 * i ∧ p ≠ o ∧ vs.getD j .undef = .ms 1 p 0 (t.op.getD j default).list.length ∧ hk[p]? = some (.cells ((t.op.getD j default).list.flatMap intL) false)) ∧ mk = []) ?_ _ _ _ _
  ⟨0,.nils,Nat.zero_le _,rfl,rfl,rfl,rfl,rfl,rfl,rfl,rfl,rfl,?_,rfl,.inl ⟨rfl,rfl⟩,rfl⟩
 case refine_2 =>
  match q,hq with
  | 0,_ => exact hx
  | 1,_ => exact hx
 rintro m ts hk mk ih ⟨i,ov,hi,rfl,hl,q1,q2,q3,q4,lk,k0,k1,kw,k4,hov,rfl⟩
 rw [lit_all hl]
 simp only [lit0,litS,Nat.reduceAdd,q1,q2,q3,q4]
 simp (disch:=first|assumption|omega|(simp only[az];done)) only [ru,eq_self,if_true,if_false,binI,AO.row?,loadV,Am.rowAt,Am.part,addOff,lenV_sl H.o,k0]
 have osc : ov.scalar = true ∧ ov.cells = [ov]:=by
  rcases hov with ⟨_,rfl⟩ | ⟨_,o',vs,_,_,rfl,_⟩ <;> exact ⟨rfl,rfl⟩
 by_cases hlt : (i : Int) < t.op.length
 case neg =>
  have hi3 : i = t.op.length:=by omega
  subst hi3
  simp (disch:=first|assumption|omega|(simp only[az];done)) only [ru,eq_self,if_true,AO.row?,splice,loadV,storeV,Am.rowAt,Am.part,Nat.reduceAdd,Nat.reduceLeDiff,hlt,k4,k1,osc.1,ws1]
  rw [finC]
  have l5 : 1 < hk.length:=by omega
  have e1 : (hk.set 1 (.cells [I t.ch,I t.tm,ov,wv] false))[1]? = some (.cells [I t.ch,I t.tm,ov,wv] false):=by rw [List.getElem?_set_self l5]
  have en : ∀ k,k ≠ 1 → (hk.set 1 (.cells [I t.ch,I t.tm,ov,wv] false))[k]? = hk[k]?:=fun k hk' => by rw [List.getElem?_set_ne (fun e => hk' e.symm)]
  refine ⟨.agg [I t.ch,I t.tm,ov,wv],?_,2 + q,ov,wv,rfl,⟨?_,hwv,?_⟩⟩
  ·simp only [getRes,List.getD_cons_zero,List.getD_cons_succ,Am.rowAt,e1]; rfl
  ·rcases hov with ⟨h0,rfl⟩ | ⟨h0,o',vs,a1,a2,rfl,a4,a5,a6⟩
   ·exact .inl ⟨List.eq_nil_of_length_eq_zero h0,rfl⟩
   ·refine .inr ⟨fun e => by rw [e] at h0; simp at h0,o',vs,by omega,rfl,by rw [en _ (by omega)]; exact a4,a5,fun j hj => ?_⟩
    obtain ⟨p,b1,b2,b3,b4,b5⟩:=a6 j hj
    exact ⟨p,b3,by omega,b4,by rw [en _ (by omega)]; exact b5⟩
  ·rw [en _ (by omega)]; exact kw
 have hi2 : i < t.op.length:=by omega
 have un : (t.op.getD i default).list.length * 8 ≤ 140737488351232:=H.sl _ (mem_getD hi2)
 have kJ0 : ∀ J,(hk ++ J)[0]? = some (.cells [I t.ch,I t.tm,o,w] false):=fun J => by rw [at_ap (by omega)]; exact k0
 have kJ4 : ∀ J,(hk ++ J)[4]? = some (.cells [I t.ch,I t.tm,ov,wv] false):=fun J => by rw [at_ap (by omega)]; exact k4
 refine (app_one (lim:=0) (eb:=8) (h:=hk) (J:=[.tomb,.tomb]) (t.op.getD i default).is intE intSc (by omega) (by omega) (by omega)).elim fun q' hh => hh.elim fun y0 hh => hh.elim fun y1 hh => ?_
 have xis:=(t.op.getD i default).is
 have hq':=hh.1
 have hB:=hh.2.1
 have hy:=hh.2.2
 clear hh
 have key : ∃ ov' h',appG false 0 (hk.length + 3) 1 24 (hk ++ [y0,y1,.cells [.ms 1 (hk.length + q') 0 (t.op.getD i default).list.length] false,.tomb]) ov (.ms 1 (hk.length + 2) 0 1) = some (ov',h') ∧
   ov'.scalar = true ∧ ov'.cells = [ov'] ∧ h'.length = hk.length + 4 ∧ (∀ k,k < 5 → h'[k]? = hk[k]?) ∧
   ∃
    o vs,5 ≤ o ∧ o < hk.length + 4 ∧ ov' = .ms 1 o 0 (i + 1) ∧ h'[o]? = some (.cells vs false) ∧ vs.length = i + 1 ∧
    ∀ j,j < i + 1 → ∃ p,5 ≤ p ∧ p < hk.length + 4 ∧ p ≠ o ∧ vs.getD j .undef = .ms 1 p 0 (t.op.getD j default).list.length ∧ h'[p]? = some (.cells ((t.op.getD j default).list.flatMap intL) false):=by
  obtain ⟨z,hz⟩ : ∃ z,z = AV.ms 1 (hk.length + q') 0 (t.op.getD i default).list.length:=⟨_,rfl⟩
  rw [← hz]
  obtain ⟨G0,hG0⟩ : ∃ G0 : List AO,G0 = hk ++ [y0,y1,.cells [z] false,.tomb]:=⟨_,rfl⟩
  rw [← hG0]
  have gl : G0.length = hk.length + 4:=by rw [hG0]; simp
  have gk : ∀ k,k < hk.length → G0[k]? = hk[k]?:=fun k hk' => by rw [hG0,at_ap hk']
  have g2 : G0[hk.length + 2]? = some (.cells [z] false):=by rw [hG0,atT]; rfl
  have gq : G0[hk.length + q']? = some (.cells ((t.op.getD i default).list.flatMap intL) false):=by
   rw [hG0,atT]
   match q',hq' with
   | 0,_ => exact hy
   | 1,_ => exact hy
  have hr : Am.rowOf G0 (.ms 1 (hk.length + 2) 0 1) = some [z]:=by rw [rowOf_ms]; simp only [Am.rowAt,g2]; rfl
  have zs : [z].all AV.scalar = true:=by rw [hz]; rfl
  rcases hov with ⟨h0,rfl⟩ | ⟨h0,o',vs,a1,a2,rfl,a4,a5,a6⟩
  ·subst h0
   refine ⟨_,_,appG_nil (n:=1) (by omega) rfl hr rfl zs (by omega) (by omega),rfl,rfl,by simp [gl],fun k hk' => ?_,hk.length + 3,[z],by omega,by omega,rfl,?_,rfl,fun j hj => ?_⟩
   ·rw [List.getElem?_set_ne (by omega)]; exact gk k (by omega)
   ·rw [List.getElem?_set_self (by omega)]
   ·obtain rfl : j = 0:=by omega
    exact ⟨hk.length + q',by omega,by omega,by omega,hz,by rw [List.getElem?_set_ne (by omega)]; exact gq⟩
  ·have go : G0[o']? = some (.cells vs false):=by rw [gk _ (by omega)]; exact a4
   refine ⟨_,_,appG_ms (n:=1) (by omega) go (by omega) rfl hr rfl zs (by omega) (by omega) (by omega),rfl,rfl,by simp [gl],fun k hk' => ?_,hk.length + 3,vs ++ [z],by omega,by omega,rfl,?_,by simp [a5],fun j hj => ?_⟩
   ·rw [List.getElem?_set_ne (by omega),List.getElem?_set_ne (by omega)]; exact gk k (by omega)
   ·rw [List.getElem?_set_self (by simp [gl])]; rfl
   ·by_cases e : j = i
    ·subst e
     refine ⟨hk.length + q',by omega,by omega,by omega,?_,?_⟩
     ·rw [← hz,← a5,getT0]; rfl
     ·rw [List.getElem?_set_ne (by omega),List.getElem?_set_ne (by omega)]; exact gq
    ·obtain ⟨p,b1,b2,b3,b4,b5⟩:=a6 j (by omega)
     refine ⟨p,b1,by omega,by omega,?_,?_⟩
     ·rw [← b4,List.getD_eq_getElem?_getD,List.getElem?_append_left (by omega),← List.getD_eq_getElem?_getD]
     ·rw [List.getElem?_set_ne (by omega),List.getElem?_set_ne (by omega),gk _ (by omega)]; exact b5
 refine key.elim fun ov' hh => hh.elim fun h' hh => ?_
 have c1:=hh.1
 have c2:=hh.2.1
 have c3:=hh.2.2.1
 have c4:=hh.2.2.2.1
 have c5:=hh.2.2.2.2.1
 have c6:=hh.2.2.2.2.2
 clear hh key
 have d4 : h'[4]? = some (.cells [I t.ch,I t.tm,ov,wv] false):=by rw [c5 4 (by omega)]; exact k4
 simp (disch:=first|assumption|omega|(simp only[az];done)) only [ru,eq_self,if_true,if_false,binI,AO.row?,splice,fillL,loadV,storeV,zeros,Am.rowAt,Am.part,addOff,Nat.reduceAdd,Nat.reduceMul,Nat.reduceLeDiff,elem_sl Ls.el H.o,Int.toNat_natCast,hlt,kJ0,kJ4,Ls.e,setT,setT0,getT,GO_mapp,hB,unhN,unhC,c1,c2,c3,d4]
 have en : ∀ k,k ≠ 4 → (h'.set 4 (.cells [I t.ch,I t.tm,ov',wv] false))[k]? = h'[k]?:=fun k hk' => by rw [List.getElem?_set_ne (fun e => hk' e.symm)]
 refine ih (t.op.length - (i + 1)) _ _ _ (by omega) ⟨i + 1,ov',by omega,rfl,rfl,rfl,rfl,rfl,rfl,?_,?_,?_,?_,?_,.inr ⟨by omega,?_⟩,rfl⟩
 ·rw [List.length_set,c4,lk]; omega
 ·rw [en _ (by omega),c5 _ (by omega)]; exact k0
 ·rw [en _ (by omega),c5 _ (by omega)]; exact k1
 ·rw [en _ (by omega),c5 _ (by omega)]; exact kw
 ·rw [List.getElem?_set_self (by omega)]
 ·obtain ⟨o',vs,f1,f2,f3,f4,f5,f6⟩:=c6
  refine ⟨o',vs,f1,by omega,f3,by rw [en _ (by omega)]; exact f4,f5,fun j hj => ?_⟩
  obtain ⟨p,g1,g2,g3,g4,g5⟩:=f6 j hj
  exact ⟨p,g1,by omega,g3,g4,by rw [en _ (by omega)]; exact g5⟩
theorem r41 {t : Trap} {o w : AV} (H : TrOk t o w) : ∃ ow ov wv K,R E (.fn 83) [trV t o w] [] 0 = some (trV t ov wv,K) ∧ CpH t K ow ov wv:=r41u H.up
theorem s41 {t : Trap} {o w : AV} (H : TrOk t o w) (st : Bool) : Iso E 83 [trV t o w] st = some (cpV t):=by
 obtain ⟨ow,ov,wv,K,hr,h⟩:=r41 H
 simp only [Iso,hr]
 exact h.view st
end Go.Proofs.YtfknojncfbahpaaGreat.S
/-
What the program answers: last,doubt,enough and Enough.
-/
namespace Go.Proofs.YtfknojncfbahpaaGreat.S
open Go Go.Am Go.Proofs.YtfknojncfbahpaaGreat.T
set_option maxRecDepth 100000
set_option linter.unusedSimpArgs false
set_option linter.unusedVariables false
section
variable {t : Trap} {o w : AV}
end
end Go.Proofs.YtfknojncfbahpaaGreat.S
/-
Lists in new memory; a trap with one more word,and with one less.
-/
namespace Go.Proofs.YtfknojncfbahpaaGreat.S
open Go Go.Am Go.Proofs.YtfknojncfbahpaaGreat.T
set_option maxRecDepth 100000
set_option linter.unusedSimpArgs false
set_option linter.unusedVariables false
theorem ints_shift (l : List Int) (n : Nat) : (l.flatMap intL).map (AV.shift n) = l.flatMap intL:=by
 rw [List.map_flatMap]; congr 1
theorem getD_shift (vs : List AV) (n i : Nat) : (vs.map (AV.shift n)).getD i .undef = (vs.getD i .undef).shift n:=by
 rw [List.getD_eq_getElem?_getD,List.getD_eq_getElem?_getD,List.getElem?_map]
 cases vs[i]? <;> rfl
theorem OvH.up {K h' : List AO} {ow ow' n : Nat} {ov : AV} {L : List Ls} (H : OvH K ow ov L) (hf : ∀ k,k < K.length → k ≠ ow → h'[k + n]? = (K[k]?).map (AO.shift n)) (hw : K.length + n ≤ ow' ∨ ow' = ow + n) : OvH h' ow' (ov.shift n) L:=by
 rcases H with ⟨h1,rfl⟩ | ⟨hne,o,vs,h1,rfl,ho,hl,hr⟩
 ·exact .inl ⟨h1,rfl⟩
 ·have o2:=(List.getElem?_eq_some_iff.1 ho).1
  refine .inr ⟨hne,o + n,vs.map (AV.shift n),by omega,rfl,by rw [hf o o2 h1,ho]; rfl,by simp [hl],fun i hi => ?_⟩
  obtain ⟨p,p1,p2,e,hp⟩:=hr i hi
  have p3:=(List.getElem?_eq_some_iff.1 hp).1
  refine ⟨p + n,by omega,by omega,by rw [getD_shift,e]; rfl,?_⟩
  rw [hf p p3 p2,hp]
  simp only [Option.map_some,AO.shift,ints_shift]
theorem OvH.sc {K : List AO} {ow : Nat} {ov : AV} {L : List Ls} (H : OvH K ow ov L) (n : Nat) : (ov.shift n).scalar = true ∧ (ov.shift n).cells = [ov.shift n]:=by
 rcases H with ⟨_,rfl⟩ | ⟨_,o',vs,_,rfl,_⟩ <;> exact ⟨rfl,rfl⟩
section
variable {α : Type} {esz : Nat} {enc : α → List AV}
theorem flat_takeN (he : ∀ a,(enc a).length = esz) : ∀ (l : List α) (k : Nat),(l.flatMap enc).take (k * esz) = (l.take k).flatMap enc
 | [],k => by simp
 | a :: l,0 => by simp
 |
  a :: l,k + 1 => by
  rw [List.flatMap_cons,List.take_succ_cons,List.flatMap_cons,← flat_takeN he l k,List.take_append,he a]
  have : (k + 1) * esz = esz + k * esz:=by rw [Nat.succ_mul,Nat.add_comm]
  rw [this,List.take_of_length_le (by rw [he]; omega),Nat.add_sub_cancel_left]
theorem flat_dropN (he : ∀ a,(enc a).length = esz) : ∀ (l : List α) (k : Nat),(l.flatMap enc).drop (k * esz) = (l.drop k).flatMap enc
 | [],k => by simp
 | a :: l,0 => by simp
 |
  a :: l,k + 1 => by
  rw [List.flatMap_cons,List.drop_succ_cons,← flat_dropN he l k,List.drop_append,he a]
  have : (k + 1) * esz = esz + k * esz:=by rw [Nat.succ_mul,Nat.add_comm]
  rw [this,List.drop_eq_nil_of_le (by rw [he]; omega),Nat.add_sub_cancel_left,List.nil_append]
theorem slice_hi (he : ∀ a,(enc a).length = esz) {l : List α} {v : AV} (hv : IsSl esz enc l v) {k : Nat} (hk : k ≤ l.length) : ∃ u,sliceV esz v (some (I k)) none = some u ∧ IsSl esz enc (l.drop k) u:=by
 rcases hv with rfl | ⟨rfl,rfl⟩
 ·refine ⟨.cs esz (l.length - k) ((l.drop k).flatMap enc),?_,.inl ?_⟩
  ·have c : (0 : Int) ≤ k ∧ (k : Int) ≤ l.length:=by omega
   simp only [sliceV,if_true,sliceB,c,and_self,Int.toNat_natCast]
   rw [flat_dropN he,List.take_of_length_le (by rw [flat_len he,List.length_drop]; exact Nat.le_refl _)]
  ·rw [List.length_drop]
 ·have : k = 0:=by simpa using hk
  subst this
  exact ⟨.nils,rfl,.inr ⟨rfl,rfl⟩⟩
end
end Go.Proofs.YtfknojncfbahpaaGreat.S
/-
A trap with a place counted,and with one less word; lists in new memory.
-/
namespace Go.Proofs.YtfknojncfbahpaaGreat.S
open Go Go.Am Go.Proofs.YtfknojncfbahpaaGreat.T
set_option maxRecDepth 100000
set_option linter.unusedSimpArgs false
set_option linter.unusedVariables false
end Go.Proofs.YtfknojncfbahpaaGreat.S
/-
What the program answers: tell and Tell.
-/
namespace Go.Proofs.YtfknojncfbahpaaGreat.S
open Go Go.Am Go.Proofs.YtfknojncfbahpaaGreat.T
set_option maxRecDepth 100000
set_option linter.unusedSimpArgs false
set_option linter.unusedVariables false
end Go.Proofs.YtfknojncfbahpaaGreat.S
/-
What the program answers: least,truth and Truth.
-/
namespace Go.Proofs.YtfknojncfbahpaaGreat.S
open Go Go.Am Go.Proofs.YtfknojncfbahpaaGreat.T
set_option maxRecDepth 100000
set_option linter.unusedSimpArgs false
set_option linter.unusedVariables false
def rowG (C : Nat) (x : Nat → Int) (i : Nat) : List Int:=(List.range C).map fun c => gap C x i c
def numL (C T : Nat) (x : Nat → Int) : List Ls:=(List.range T).map fun i => ⟨rowG C x i,false⟩
theorem rowG_len {C i : Nat} {x : Nat → Int} : (rowG C x i).length = C:=by simp [rowG]
theorem numL_len {C T : Nat} {x : Nat → Int} : (numL C T x).length = T:=by simp [numL]
theorem numL_at {C T i : Nat} {x : Nat → Int} (hi : i < T) : (numL C T x).getD i default = ⟨rowG C x i,false⟩:=by
 simp [numL,List.getD_eq_getElem?_getD,hi]
def SsH (h : List AO) (v : AV) (L : List Ls) : Prop:=∃ o vs,v = .ms 1 o 0 L.length ∧ h[o]? = some (.cells vs false) ∧ vs.length = L.length ∧ ∀ i,i < L.length → ∃ p,vs.getD i .undef = .ms 1 p 0 (L.getD i default).list.length ∧ h[p]? = some (.cells ((L.getD i default).list.flatMap intL) false)
theorem SsH.view {h : List AO} {v : AV} {L : List Ls} (H : SsH h v L) (n : Nat) (st : Bool) : view st h (n + 2) v = some (slV 1 Ls.e (cpL L)):=by
 obtain ⟨o,vs,rfl,ho,hl,hr⟩:=H
 have key : OvH h h.length (.ms 1 o 0 L.length) L ∨ L = []:=by
  by_cases e : L = []
  ·exact .inr e
  ·refine .inl (.inr ⟨e,o,vs,?_,rfl,ho,hl,?_⟩)
   ·have:=(List.getElem?_eq_some_iff.1 ho).1; omega
   ·intro i hi
    obtain ⟨p,e1,e2⟩:=hr i hi
    by_cases ep : p = o
    ·exfalso
     subst ep
     rw [ho] at e2
     simp only [Option.some.injEq,AO.cells.injEq,and_true] at e2
     rw [e2] at e1 hl
     rw [flat1] at hl
     have : ((L.getD i default).list.flatMap intL).getD i .undef = I ((L.getD i default).list.getD i 0):=by
      have h4 : ∀ (l : List Int) (k : Nat),k < l.length → (l.flatMap intL).getD k .undef = I (l.getD k 0):=by
       intro l
       induction l with
       | nil => intro k hk; simp at hk
       |
        cons a l ih =>
        intro k hk
        cases k with
        | zero => rfl
        |
         succ k => 
         have:=ih k (by simpa using hk)
         simpa [List.flatMap_cons] using this
      exact h4 _ i (by omega)
     rw [this] at e1
     cases e1
    ·exact ⟨p,ep,by have:=(List.getElem?_eq_some_iff.1 e2).1; omega,e1,e2⟩
 rcases key with k | e
 ·have:=k.view (n:=n) st
  unfold cpO at this
  split at this
  ·rename_i e
   subst e
   rcases k with ⟨_,e2⟩ | ⟨e2,_⟩
   ·cases e2
   ·exact absurd rfl e2
  ·exact this
 ·subst e
  rw [view_ms,rowOf_ms]
  simp only [Am.rowAt,ho,Option.bind_some,AO.row?,List.drop_zero,List.length_nil,Nat.zero_mul,List.take_zero,if_true,List.mapM_nil]
  rfl
theorem s99 {C T : Nat} {o w : AV} {h : List AO} {k : Nat} {B : List Int} (hk : h[k]? = some (.cells (wc C T o w B) false)) (hB : Ok B) (hC : C ≤ 4) {i c : Nat} (hi : i < 5) (hc : c ≤ C) : Ro E 162 [.ptr k 0,I i,I c] h = some (I (- bat B 0 (sumN C i c))):=by
 have ia:=sumN_lt (ch:=C) (t:=i) (c:=c) hi (by omega) (by omega)
 have c1:=s76 hk (t:=i) (c:=c) (by omega) (by omega)
 have c2:=s75 hk hB (i:=sumN C i c) (j:=0) ia (by omega)
 obtain ⟨j,hj⟩ : ∃ j,j = sumN C i c:=⟨_,rfl⟩
 rw [← hj] at c1 c2 ⊢
 have c2' : Ro E 144 [.ptr k 4,I j,I 0] h = some (.agg [I (- bat B 0 j),I (bat B j 0)]):=c2
 refine Ro_of (es _ _ _ _) e162 ?_
 simp only [f162]
 simp (disch:=first|assumption|omega|(simp only[az];done)) only [ru,eq_self,if_true,if_false,Am.part,addOff,Nat.reduceAdd,Nat.reduceSub,pex_nilC,nilC_ptr,c1,c2']
 rfl
theorem put1 {α : Type} {l : List α} {i : Nat} (hi : i < l.length) (v : α) : l.take i ++ [v] ++ l.drop (i + 1) = l.set i v:=by
 rw [List.set_eq_take_append_cons_drop,if_pos hi,List.append_assoc]; rfl
theorem zeros1 (n : Nat) (a : AV) : zeros n [a] = List.replicate n a:=by
 unfold zeros
 induction n with
 | zero => rfl
 | succ n ih => rw [List.replicate_succ,List.flatten_cons,ih]; rfl
set_option maxHeartbeats 1000000 in
theorem r83 {C T : Nat} {o w : AV} {h : List AO} {k lim : Nat} {B : List Int} (hk : h[k]? = some (.cells (wc C T o w B) false)) (hB : Ok B) (hC : C ≤ 4) (hT : T ≤ 5) (hl : lim ≤ h.length) :
  ∃ v h',R E (.fn 154) [.ptr k 0] h lim = some (v,h') ∧ SsH h' v (numL C T fun k => - bat B 0 k):=by
 suffices hR : ∃ r h',R E (.fn 154) [.ptr k 0] h lim = some (r,h') ∧ SsH h' r (numL C T fun k => - bat B 0 k) from hR
 have kl:=(List.getElem?_eq_some_iff.1 hk).1
 obtain ⟨x,hx⟩ : ∃ x : Nat → Int,x = fun k => - bat B 0 k:=⟨_,rfl⟩
 rw [← hx]
 have xe : ∀ j,- bat B 0 j = x j:=fun j => by rw [hx]
 have xb : ∀ j,j < 21 → -1000 ≤ x j ∧ x j ≤ 1000:=fun j hj => by
  have:=hB.sm 0 j (by omega) hj
  rw [← xe]; omega
 refine R_of (f:=154) (fun r h' => SsH h' r (numL C T x)) (es _ _ _ _) e154 ?_
 simp only [f154]
 simp (disch:=first|assumption|omega|(simp only[az];done)) only [ru,if_false,AO.row?,loadV,Am.rowAt,Am.part,addOff,Nat.reduceSub,pex_nilC,nilC_ptr,hk,wc_1]
 rw [exOp_mk (n:=T) rfl rfl (by omega) (by omega),zeros1]
 simp (disch:=first|assumption|omega|(simp only[az];done)) only [ru]
 refine G_loop_ind (fun m ts hh mk => ∃ (i : Nat) (vs : List AV),i ≤ T ∧ m = T - i ∧ ts.length = 53 ∧ ts.getD 0 .undef = .ptr k 0 ∧ ts.getD 3 .undef = .ms 1 h.length 0 T ∧ ts.getD 13 .undef = I T ∧ ts.getD 14 .undef = I i ∧
  hh.length = h.length + 1 + i ∧ (∀ j,j < h.length → hh[j]? = h[j]?) ∧ hh[h.length]? = some (.cells vs false) ∧ vs.length = T ∧ (∀ j,j < i → vs.getD j .undef = .ms 1 (h.length + 1 + j) 0 C ∧ hh[h.length + 1 + j]? = some (.cells ((rowG C x j).flatMap intL) false)) ∧ mk = []) ?_ _ _ _ _
  ⟨0,_,Nat.zero_le _,rfl,rfl,rfl,rfl,rfl,rfl,by simp,fun j hj => by rw [at_ap hj],by rw [atT0]; rfl,by simp,fun j hj => absurd hj (by omega),rfl⟩
 rintro m ts hh mk ih ⟨i,vs,hi,rfl,hl',q0,q3,q13,q14,lh,fr,hv,lv,hr,rfl⟩
 rw [lit_all hl']
 simp only [lit0,litS,Nat.reduceAdd,q0,q3,q13,q14]
 simp (disch:=first|assumption|omega|(simp only[az];done)) only [ru,eq_self,if_true,binI]
 by_cases hlt : (i : Int) < T
 case neg =>
  have hi3 : i = T:=by omega
  subst hi3
  simp (disch:=first|assumption|omega|(simp only[az];done)) only [ru,hlt]
  refine ⟨h.length,vs,by rw [numL_len],hv,by rw [numL_len]; exact lv,fun j hj => ?_⟩
  rw [numL_len] at hj
  obtain ⟨a,b⟩:=hr j hj
  rw [numL_at hj]
  exact ⟨_,by rw [a,Ls.of_list,rowG_len],by rw [b,Ls.of_list]⟩
 have hk1 : hh[k]? = some (.cells (wc C T o w B) false):=by rw [fr k kl]; exact hk
 have hv1 : ∀ J,(hh ++ J)[h.length]? = some (.cells vs false):=fun J => by rw [at_ap (by omega)]; exact hv
 have i0 : (0 : Int) ≤ i:=by omega
 have pu:=put1 (l:=vs) (i:=i) (by omega) (.ms 1 hh.length 0 C)
 have ll : lim ≤ h.length:=hl
 have fit : i + 1 ≤ vs.length:=by omega
 simp (disch:=first|assumption|omega|(simp only[az];done)) only [ru,if_false,AO.row?,loadV,Am.rowAt,Am.part,addOff,pex_nilC,nilC_ptr,hlt,hk1,wc_0]
 rw [exOp_mk (n:=C) rfl rfl (by omega) (by omega),zeros1]
 simp (disch:=first|assumption|omega|(simp only[az];done)) only [ru,eq_self,if_true,if_false,splice,loadV,storeV,Am.rowAt,Am.part,hv1,Int.toNat_natCast,Nat.mul_one,ll,fit,pu]
 obtain ⟨us,hus⟩ : ∃ us,us = vs.set i (.ms 1 hh.length 0 C):=⟨_,rfl⟩
 have lu : us.length = T:=by rw [hus,List.length_set]; exact lv
 have ui : us.getD i .undef = .ms 1 hh.length 0 C:=by
  rw [hus,List.getD_eq_getElem?_getD,List.getElem?_set_self (by omega)]; rfl
 have uj : ∀ j,j < i → us.getD j .undef = vs.getD j .undef:=fun j hj => by
  rw [hus,List.getD_eq_getElem?_getD,List.getElem?_set_ne (by omega),← List.getD_eq_getElem?_getD]
 have uh : (us.drop i).head? = some (.ms 1 hh.length 0 C):=by
  rw [List.head?_drop]
  rw [List.getD_eq_getElem?_getD] at ui
  have : us[i]? = some (us[i]'(by omega)):=List.getElem?_eq_getElem (by omega)
  rw [this] at ui ⊢
  exact congrArg some ui
 rw [← hus]
 obtain ⟨h2,hh2⟩ : ∃ h2 : List AO,h2 = (hh ++ [AO.cells (List.replicate C (I 0)) false]).set h.length (.cells us false):=⟨_,rfl⟩
 rw [← hh2]
 have l2 : h2.length = hh.length + 1:=by rw [hh2]; simp
 have k2 : ∀ j,j < h.length → h2[j]? = h[j]?:=fun j hj => by rw [hh2,List.getElem?_set_ne (by omega),at_ap (by omega)]; exact fr j hj
 have o2 : h2[h.length]? = some (.cells us false):=by rw [hh2,List.getElem?_set_self (by simp; omega)]
 have r2 : h2[hh.length]? = some (.cells (List.replicate C (I 0)) false):=by rw [hh2,List.getElem?_set_ne (by omega),atT0]; rfl
 have j2 : ∀ j,j < i → h2[h.length + 1 + j]? = some (.cells ((rowG C x j).flatMap intL) false):=fun j hj => by rw [hh2,List.getElem?_set_ne (by omega),at_ap (by omega)]; exact (hr j hj).2
 have k3 : h2[k]? = some (.cells (wc C T o w B) false):=by rw [k2 k kl]; exact hk
 simp (disch:=first|assumption|omega|(simp only[az];done)) only [ru,AO.row?,o2,uh]
 clear hl' q0 q3 q13 q14
 refine G_loop_ind (fun m ts h3 mk => ∃ (c : Nat) (ps : List AV),c ≤ C ∧ m = C - c ∧ ts.length = 53 ∧ ts.getD 0 .undef = .ptr k 0 ∧ ts.getD 3 .undef = .ms 1 h.length 0 T ∧ ts.getD 4 .undef = I i ∧ ts.getD 13 .undef = I T ∧ ts.getD 14 .undef = I i ∧ ts.getD 30 .undef = I C ∧ ts.getD 31 .undef = I c ∧
  h3 = h2.set hh.length (.cells ps false) ∧ ps.length = C ∧ (∀ j,j < c → ps.getD j .undef = I (gap C x i j)) ∧ mk = []) ?_ _ _ _ _
  ⟨0,List.replicate C (I 0),Nat.zero_le _,rfl,rfl,rfl,rfl,rfl,rfl,rfl,rfl,rfl,?_,by simp,fun j hj => absurd hj (by omega),rfl⟩
 case refine_2 => rw [set_self r2]
 rintro m ts h3 mk ihC ⟨c,ps,hc,rfl,hl',q0,q3,q4,q13,q14,q30,q31,rfl,lp,hp,rfl⟩
 rw [lit_all hl']
 simp only [lit0,litS,Nat.reduceAdd,q0,q3,q4,q13,q14,q30,q31]
 simp (disch:=first|assumption|omega|(simp only[az];done)) only [ru,eq_self,if_true,binI]
 by_cases hlc : (c : Int) < C
 case neg =>
  have hc3 : c = C:=by omega
  simp (disch:=first|assumption|omega|(simp only[az];done)) only [ru,eq_self,if_true,binI,hlc]
  refine ih (T - (i + 1)) _ _ _ (by omega) ⟨i + 1,us,by omega,rfl,rfl,rfl,rfl,rfl,rfl,by rw [List.length_set,l2,lh]; omega,fun j hj => ?_,?_,lu,fun j hj => ?_,rfl⟩
  ·rw [List.getElem?_set_ne (by omega)]; exact k2 j hj
  ·rw [List.getElem?_set_ne (by omega)]; exact o2
  ·by_cases e : j = i
   ·subst e
    refine ⟨by rw [ui,lh],?_⟩
    rw [← lh,List.getElem?_set_self (by omega)]
    have : ps = (rowG C x j).flatMap intL:=by
     apply List.ext_getElem
     ·rw [flat1,rowG_len,lp]
     ·intro n h1 h2'
      have a:=hp n (by omega)
      rw [List.getD_eq_getElem?_getD,List.getElem?_eq_getElem h1,Option.getD_some] at a
      rw [a]
      have e2 : (rowG C x j).flatMap intL = (rowG C x j).map fun n => I n:=by
       generalize rowG C x j = l
       induction l with
       | nil => rfl
       | cons b l ih => rw [List.flatMap_cons,ih]; rfl
      have e3 : (rowG C x j).flatMap intL = (List.range C).map fun c => I (gap C x j c):=by rw [e2,rowG,List.map_map]; rfl
      simp only [e3,List.getElem_map,List.getElem_range]
    rw [this]
   ·obtain ⟨a,b⟩:=hr j (by omega)
    refine ⟨by rw [uj j (by omega)]; exact a,?_⟩
    rw [List.getElem?_set_ne (by omega)]; exact j2 j (by omega)
 have c0 : (0 : Int) ≤ c:=by omega
 have kp : (h2.set hh.length (.cells ps false))[k]? = some (.cells (wc C T o w B) false):=by rw [List.getElem?_set_ne (by omega)]; exact k3
 have op : (h2.set hh.length (.cells ps false))[h.length]? = some (.cells us false):=by rw [List.getElem?_set_ne (by omega)]; exact o2
 have pp : (h2.set hh.length (.cells ps false))[hh.length]? = some (.cells ps false):=by rw [List.getElem?_set_self (by omega)]
 have a1:=s99 kp hB hC (i:=i) (c:=c) (by omega) (by omega)
 have a2:=s99 kp hB hC (i:=i) (c:=c + 1) (by omega) (by omega)
 have b1:=xb (sumN C i c) (sumN_lt (ch:=C) (by omega) (by omega) (by omega))
 have b2:=xb (sumN C i (c + 1)) (sumN_lt (ch:=C) (by omega) (by omega) (by omega))
 rw [xe] at a1 a2
 have a2' : Ro E 162 [.ptr k 0,I i,I ((c : Int) + 1)] (h2.set hh.length (.cells ps false)) = some (I (x (sumN C i (c + 1)))):=a2
 have w1 : wr .i64 (x (sumN C i c) - x (sumN C i (c + 1))) = gap C x i c:=by rw [wr64 (by omega) (by omega)]; rfl
 have pu2:=put1 (l:=ps) (i:=c) (by omega) (I (gap C x i c))
 have fit2 : c + 1 ≤ ps.length:=by omega
 have ll2 : lim ≤ hh.length:=by omega
 simp (disch:=first|assumption|omega|(simp only[az];done)) only [ru,eq_self,if_true,if_false,binI,AO.row?,splice,loadV,storeV,Am.rowAt,Am.part,hlc,op,uh,pp,a1,a2',w1,Int.toNat_natCast,Nat.mul_one,fit2,ll2,pu2]
 refine ihC (C - (c + 1)) _ _ _ (by omega) ⟨c + 1,_,by omega,rfl,rfl,rfl,rfl,rfl,rfl,rfl,rfl,rfl,by rw [List.set_set],by rw [List.length_set]; exact lp,fun j hj => ?_,rfl⟩
 by_cases e : j = c
 ·subst e
  rw [List.getD_eq_getElem?_getD,List.getElem?_set_self (by omega)]; rfl
 ·rw [List.getD_eq_getElem?_getD,List.getElem?_set_ne (by omega),← List.getD_eq_getElem?_getD]
  exact hp j (by omega)
inductive TruA (t : Trap) : AV → Int → Prop
 | bad (h : t.valid = false) : TruA t .nils 10
 | none (h : t.valid = true) (hn : ¬ Solv t.C t.T t) : TruA t .nils 3
 | ok {x : Nat → Int} (h : t.valid = true) (hx : Tr t x) : TruA t (slV 1 Ls.e (numL t.C t.T x)) 0
theorem cpL_num {C T : Nat} {x : Nat → Int} : cpL (numL C T x) = numL C T x:=by
 simp [cpL,numL,Ls.of_list]
theorem s33 {t : Trap} {o w : AV} (H : TrOk t o w) : ∃ v e,(∀ st,Iso E 140 [trV t o w] st = some (.tup [v,I e])) ∧ TruA t v e:=by
 obtain ⟨p,e,K,q,hs⟩:=call73 H true [.cells [I t.ch,I t.tm,o,w] false]
 simp only [trV] at q ⊢
 cases hs with
 |
  bad hv =>
  refine ⟨.nils,10,fun st => ?_,.bad hv⟩
  refine Iso_of (es _ _ _ _) e140 ?_
  simp only [f140]
  simp (disch:=first|assumption|omega|(simp only[az];done)) only [ru,eq_self,if_true,AO.row?,loadV,Am.rowAt,Am.part,Nat.reduceAdd,Nat.reduceSub]
  rw [q rfl rfl]
  simp (disch:=first|assumption|omega|(simp only[az];done)) only [ru,eq_self,if_true,binI,Int.reduceEq]
 | arg hv hf => cases hf
 |
  none hv hf hn =>
  refine ⟨.nils,3,fun st => ?_,.none hv hn⟩
  refine Iso_of (es _ _ _ _) e140 ?_
  simp only [f140]
  simp (disch:=first|assumption|omega|(simp only[az];done)) only [ru,eq_self,if_true,AO.row?,loadV,Am.rowAt,Am.part,Nat.reduceAdd,Nat.reduceSub]
  rw [q rfl rfl]
  simp (disch:=first|assumption|omega|(simp only[az];done)) only [ru,eq_self,if_true,binI,Int.reduceEq]
 |
  @ok B hv hf hk hB hs =>
  have V:=valid_trb hv
  have v2:=V.c1; have v4:=V.t1
  have eC:=eqC hv; have eT:=eqT hv
  obtain ⟨v,h',c83,S⟩:=r83 (lim:=0) hk hB (by omega) (by omega) (Nat.zero_le _)
  have vw:=fun st => S.view 5 st
  rw [cpL_num] at vw
  simp only [List.cons_append,List.nil_append,List.length_cons,List.length_nil,Nat.zero_add,Nat.reduceAdd] at c83
  refine ⟨_,0,fun st => ?_,.ok hv ((hs _).1 (leastSat hB.cld (by omega)))⟩
  refine Iso_of (es _ _ _ _) e140 ?_
  simp only [f140]
  simp (disch:=first|assumption|omega|(simp only[az];done)) only [ru,eq_self,if_true,AO.row?,loadV,Am.rowAt,Am.part,Nat.reduceAdd,Nat.reduceSub]
  rw [q rfl rfl]
  simp (disch:=first|assumption|omega|(simp only[az];done)) only [ru,eq_self,if_true,binI,Nat.reduceAdd,c83,vw]
end Go.Proofs.YtfknojncfbahpaaGreat.S
/-
The examples of the chapter come out as it says: works.
-/
namespace Go.Proofs.YtfknojncfbahpaaGreat.S
open Go Go.Am Go.Proofs.YtfknojncfbahpaaGreat.T
set_option maxRecDepth 100000
set_option linter.unusedSimpArgs false
set_option linter.unusedVariables false
def w0 : AV:=.cs 4 4 [I 0,I 0,I 5,I 6,I 0,I 1,I 0,I 0,I 1,I 0,I 3,I 8,I 2,I 1,I 4,I 10]
def y0 : Wd:=⟨1,1,12,20⟩
end Go.Proofs.YtfknojncfbahpaaGreat.S
/-
The laws of stage 1 on Fish and Whole,and on Came and Passed.
-/
namespace Go.Proofs.YtfknojncfbahpaaGreat.S
open Go Go.Am Go.Proofs.YtfknojncfbahpaaGreat.T
set_option maxRecDepth 100000
set_option linter.unusedSimpArgs false
set_option linter.unusedVariables false
end Go.Proofs.YtfknojncfbahpaaGreat.S
/-
What the reference answers: Judge and Enough; the law on them.
-/
namespace Go.Proofs.YtfknojncfbahpaaGreat.S
open Go Go.Am Go.Proofs.YtfknojncfbahpaaGreat.T
set_option maxRecDepth 100000
set_option linter.unusedSimpArgs false
set_option linter.unusedVariables false
theorem KnR.map {t : Trap} {fit fit' : Bool} {e : Int} (K : KnR t fit e) (h : t.valid = true → fit' = fit) : KnR t fit' e:=by
 cases K with
 | bad hv => exact .bad hv
 | arg hv hf => exact .arg hv ((h hv).trans hf)
 | none hv hf hn => exact .none hv ((h hv).trans hf) hn
 | ok hv hf hs => exact .ok hv ((h hv).trans hf) hs
end Go.Proofs.YtfknojncfbahpaaGreat.S
/-
Whether a trap is ready; the law of time.
-/
namespace Go.Proofs.YtfknojncfbahpaaGreat.S
open Go Go.Am Go.Proofs.YtfknojncfbahpaaGreat.T
set_option maxRecDepth 100000
set_option linter.unusedSimpArgs false
set_option linter.unusedVariables false
section
variable {t : Trap} {fit : Bool} {f : (Nat → Int) → Int} {lo hi e : Int}
end
end Go.Proofs.YtfknojncfbahpaaGreat.S
/-
Fish of all chambers at all times.
-/
namespace Go.Proofs.YtfknojncfbahpaaGreat.S
open Go Go.Am Go.Proofs.YtfknojncfbahpaaGreat.T
set_option maxRecDepth 100000
set_option linter.unusedSimpArgs false
set_option linter.unusedVariables false
end Go.Proofs.YtfknojncfbahpaaGreat.S
/-
A trap with one word less: Without; words without one: slices.Concat.
-/
namespace Go.Proofs.YtfknojncfbahpaaGreat.S
open Go Go.Am Go.Proofs.YtfknojncfbahpaaGreat.T
set_option maxRecDepth 100000
set_option linter.unusedSimpArgs false
set_option linter.unusedVariables false
end Go.Proofs.YtfknojncfbahpaaGreat.S
/-
Whether numbers are a truth,by the reference: Sum,Behind,IsTruth.
-/
namespace Go.Proofs.YtfknojncfbahpaaGreat.S
open Go Go.Am Go.Proofs.YtfknojncfbahpaaGreat.T
set_option maxRecDepth 100000
set_option linter.unusedSimpArgs false
set_option linter.unusedVariables false
theorem sum_bd : ∀ {l : List Int},(∀ x ∈ l,0 ≤ x ∧ x ≤ 40) → 0 ≤ l.sum ∧ l.sum ≤ 40 * l.length
 | [],_ => by simp
 |
  a :: l,h => by
  have h1:=sum_bd (l:=l) fun x hx => h x (List.mem_cons_of_mem _ hx)
  have h2:=h a (by simp)
  rw [List.sum_cons,List.length_cons]
  omega
theorem take_sum {l : List Int} {i : Nat} (hi : i < l.length) : (l.take (i + 1)).sum = (l.take i).sum + l.getD i 0:=by
 rw [List.take_succ_eq_append_getElem hi,List.sum_append,List.getD_eq_getElem?_getD,List.getElem?_eq_getElem hi]
 simp
theorem drop_sum {l : List Int} {i : Nat} (hi : i < l.length) : (l.drop i).sum = l.getD i 0 + (l.drop (i + 1)).sum:=by
 rw [List.drop_eq_getElem_cons hi,List.sum_cons,List.getD_eq_getElem?_getD,List.getElem?_eq_getElem hi]
 rfl
theorem s78 {l : List Int} {v : AV} (hv : IsSl 1 intL l v) (hl : l.length ≤ 40) (hb : ∀ x ∈ l,0 ≤ x ∧ x ≤ 40) (st : Bool) : Iso E 136 [v] st = some (I l.sum):=by
 refine Iso_of (es _ _ _ _) e136 ?_
 simp only [f136]
 simp (disch:=first|assumption|omega|(simp only[az];done)) only [ru,Nat.reduceSub]
 refine G_loop_ind (fun m ts h mk => ∃ (i : Nat),i ≤ l.length ∧ m = l.length - i ∧ ts.length = 18 ∧ ts.getD 0 .undef = v ∧ ts.getD 3 .undef = I (l.take i).sum ∧ ts.getD 4 .undef = I i ∧ h = [] ∧ mk = []) ?_ _ _ _ _
  ⟨0,Nat.zero_le _,rfl,rfl,rfl,rfl,rfl,rfl,rfl⟩
 rintro m ts h mk ih ⟨i,hi',rfl,hl',q0,q3,q4,rfl,rfl⟩
 rw [lit_all hl']
 simp only [lit0,litS,Nat.reduceAdd,q0,q3,q4]
 simp (disch:=first|assumption|omega|(simp only[az];done)) only [ru,eq_self,if_true,binI,lenV_sl hv]
 by_cases hlt : (i : Int) < l.length
 case neg =>
  obtain rfl : i = l.length:=by omega
  rw [List.take_length]
  simp (disch:=first|assumption|omega|(simp only[az];done)) only [ru,eq_self,hlt]
 have hi2 : i < l.length:=by omega
 have b1:=sum_bd (l:=l.take i) fun x hx => hb x (List.mem_of_mem_take hx)
 have lt : (l.take i).length ≤ 40:=by rw [List.length_take]; omega
 have gm : l.getD i 0 ∈ l:=by
  rw [List.getD_eq_getElem?_getD,List.getElem?_eq_getElem hi2]
  exact List.getElem_mem hi2
 have b2:=hb _ gm
 have ts:=take_sum hi2
 obtain ⟨a,ha⟩ : ∃ a,a = (l.take i).sum:=⟨_,rfl⟩
 obtain ⟨x,hx⟩ : ∃ x,x = l.getD i default:=⟨_,rfl⟩
 have hx' : l.getD i 0 = x:=hx.symm
 rw [← ha] at b1 ts
 rw [hx'] at b2 ts
 rw [← ha]
 have w1 : wr .i64 (a + x) = a + x:=wr64 (by omega) (by omega)
 simp (disch:=first|assumption|omega|(simp only[az];done)) only [ru,eq_self,if_true,if_false,binI,loadV,Am.part,elem_sl intE hv,hlt,Int.toNat_natCast,← hx,w1]
 exact ih (l.length - (i + 1)) _ _ _ (by omega) ⟨i + 1,by omega,rfl,rfl,rfl,by show I _ = I _; rw [ts],rfl,rfl,rfl⟩
theorem s25 {l : List Int} {v : AV} (hv : IsSl 1 intL l v) (hl : l.length ≤ 40) (hb : ∀ x ∈ l,0 ≤ x ∧ x ≤ 40) {c : Nat} (hc : c ≤ l.length) (st : Bool) : Iso E 106 [v,I c] st = some (I (l.drop c).sum):=by
 obtain ⟨u,su,iu⟩:=slice_hi intE hv hc
 have c78:=fun st => s78 iu (by rw [List.length_drop]; omega) (fun x hx => hb x (List.mem_of_mem_drop hx)) st
 refine Iso_of (es _ _ _ _) e106 ?_
 simp only [f106]
 simp (disch:=first|assumption|omega|(simp only[az];done)) only [ru,eq_self,Nat.reduceAdd,Nat.reduceSub,view_sl iu,pure_sl iu,su,c78]
def rowN (L : List Ls) (i : Nat) : List Int:=(L.getD i default).list
def numN (L : List Ls) (i c : Nat) : Int:=(rowN L i).getD c 0
def behN (L : List Ls) (i c : Nat) : Int:=((rowN L i).drop c).sum
def RowK (C : Nat) (L : List Ls) (i : Nat) : Prop:=(rowN L i).length = C ∧ (∀ c,c < C → 0 ≤ numN L i c ∧ numN L i c ≤ 40) ∧ behN L i 0 ≤ 40
def PasK (t : Trap) (L : List Ls) (i c : Nat) : Prop:=0 ≤ behN L (i + 1) c - behN L i c ∧ (0 < behN L (i + 1) c - behN L i c → hasI (t.op.getD i default).list c = true)
structure TruN (t : Trap) (L : List Ls) : Prop where
 l : L.length = t.T
 r : ∀ i,i < t.T → RowK t.C L i
 p : ∀ i,i + 1 < t.T → ∀ c,c < t.C → PasK t L i c
 w : ∀ k,k < t.ws.length → (t.ws.getD k default).lo ≤ numN L (t.ws.getD k default).time.toNat (t.ws.getD k default).ch.toNat ∧ numN L (t.ws.getD k default).time.toNat (t.ws.getD k default).ch.toNat ≤ (t.ws.getD k default).hi
theorem rowK_mem {C : Nat} {L : List Ls} {i : Nat} (h : RowK C L i) : ∀ x ∈ rowN L i,0 ≤ x ∧ x ≤ 40:=by
 intro x hx
 obtain ⟨c,hc,rfl⟩:=List.mem_iff_getElem.1 hx
 have:=h.2.1 c (by rw [← h.1]; exact hc)
 unfold numN at this
 rwa [List.getD_eq_getElem?_getD,List.getElem?_eq_getElem hc,Option.getD_some] at this
theorem beh_bd {C : Nat} {L : List Ls} {i c : Nat} (h : RowK C L i) (hC : C ≤ 4) : 0 ≤ behN L i c ∧ behN L i c ≤ 160:=by
 have:=sum_bd (l:=(rowN L i).drop c) fun x hx => rowK_mem h x (List.mem_of_mem_drop hx)
 have l:=h.1
 unfold behN
 rw [List.length_drop] at this
 omega
set_option maxHeartbeats 4000000 in
theorem s18 {t : Trap} {o w : AV} (H : TrOk t o w) (hv : t.valid = true) {L : List Ls} {v : AV} (hL : IsSl 1 Ls.e L v) (hl : L.length ≤ 40) (hs : ∀ x ∈ L,x.list.length ≤ 40) : ∃ b,(∀ st,Iso E 66 [trV t o w,v] st = some (Bo b)) ∧ (b = true ↔ TruN t L):=by
 have V:=valid_trb hv
 have v1:=V.c0; have v2:=V.c1; have v3:=V.t0; have v4:=V.t1; have vo:=V.o
 have eC:=trC V; have eT:=trT V
 have sw:=H.sw
 suffices hR : ∃ r h',R E (.fn 66) [trV t o w,v] [] 0 = some (r,h') ∧ ∃ b,r = Bo b ∧ (b = true ↔ TruN t L) by
  obtain ⟨r,h',hr,b,rfl,hb⟩:=hR
  exact ⟨b,fun st => by simp only [Iso,hr]; exact view_bool,hb⟩
 have no : ∀ {P : Prop},¬ TruN t L → (∃ b,Bo false = Bo b ∧ (b = true ↔ TruN t L)):=fun h => ⟨false,rfl,⟨fun e => (by cases e),fun e => absurd e h⟩⟩
 refine R_of (f:=66) (fun r h' => ∃ b,r = Bo b ∧ (b = true ↔ TruN t L)) (es _ _ _ _) e66 ?_
 simp only [f66,trV]
 by_cases h0 : (L.length : Int) = t.tm
 case neg =>
  have h0' : ((L.length : Int) != t.tm) = true:=by simpa using h0
  simp (disch:=first|assumption|omega|(simp only[az];done)) only [ru,eq_self,if_true,if_false,binI,AO.row?,loadV,Am.rowAt,Am.part,addOff,Nat.reduceAdd,Nat.reduceSub,lenV_sl hL,h0']
  exact no (P:=True) fun T => h0 (by have:=T.l; omega)
 have h0' : ((L.length : Int) != t.tm) = false:=by simpa using h0
 have hLT : L.length = t.T:=by omega
 simp (disch:=first|assumption|omega|(simp only[az];done)) only [ru,eq_self,if_true,if_false,binI,AO.row?,loadV,Am.rowAt,Am.part,addOff,Nat.reduceAdd,Nat.reduceSub,lenV_sl hL,h0']
 refine G_loop_ind (fun m ts hk mk => ∃ (i : Nat),i ≤ t.T ∧ m = t.T - i ∧ ts.length = 122 ∧ ts.getD 1 .undef = v ∧ ts.getD 2 .undef = .ptr 0 0 ∧ ts.getD 5 .undef = I i ∧ hk = [.cells [I t.ch,I t.tm,o,w] false] ∧ mk = [] ∧
  (∀ j,j < i → RowK t.C L j) ∧ ∀ j,j + 1 < i → ∀ c,c < t.C → PasK t L j c) ?_ _ _ _ _
  ⟨0,Nat.zero_le _,rfl,rfl,rfl,rfl,rfl,rfl,rfl,fun j hj => absurd hj (by omega),fun j hj => absurd hj (by omega)⟩
 rintro m ts hk mk ih ⟨i,hi,rfl,hll,q1,q2,q5,rfl,rfl,RK,PK⟩
 rw [lit_all hll]
 simp only [lit0,litS,Nat.reduceAdd,q1,q2,q5]
 simp (disch:=first|assumption|omega|(simp only[az];done)) only [ru,eq_self,if_true,binI,lenV_sl hL]
 by_cases hlt : (i : Int) < L.length
 case neg =>
  have hi3 : i = t.T:=by omega
  subst hi3
  simp (disch:=first|assumption|omega|(simp only[az];done)) only [ru,hlt]
  clear hll q1 q2 q5 ih
  refine G_loop_ind (fun m ts hk mk => ∃ (k : Nat) (J : List AO),k ≤ t.ws.length ∧ m = t.ws.length - k ∧ ts.length = 122 ∧ ts.getD 1 .undef = v ∧ ts.getD 2 .undef = .ptr 0 0 ∧ ts.getD 9 .undef = I k ∧ hk = .cells [I t.ch,I t.tm,o,w] false :: J ∧ mk = [] ∧
   ∀ j,j < k → (t.ws.getD j default).lo ≤ numN L (t.ws.getD j default).time.toNat (t.ws.getD j default).ch.toNat ∧ numN L (t.ws.getD j default).time.toNat (t.ws.getD j default).ch.toNat ≤ (t.ws.getD j default).hi) ?_ _ _ _ _
   ⟨0,[],Nat.zero_le _,rfl,rfl,rfl,rfl,rfl,rfl,rfl,fun j hj => absurd hj (by omega)⟩
  rintro m ts hk mk ih ⟨k,J,hk',rfl,hll,q1,q2,q9,rfl,rfl,WK⟩
  rw [lit_all hll]
  simp only [lit0,litS,Nat.reduceAdd,q1,q2,q9]
  simp (disch:=first|assumption|omega|(simp only[az];done)) only [ru,eq_self,if_true,if_false,binI,AO.row?,loadV,Am.rowAt,Am.part,addOff,lenV_sl H.w]
  by_cases hlk : (k : Int) < t.ws.length
  case neg =>
   have hk3 : k = t.ws.length:=by omega
   subst hk3
   simp (disch:=first|assumption|omega|(simp only[az];done)) only [ru,hlk]
   exact ⟨true,rfl,⟨fun _ => ⟨hLT,RK,fun i hi c hc => PK i hi c hc,WK⟩,fun _ => rfl⟩⟩
  have hk2 : k < t.ws.length:=by omega
  have k0 : (0 : Int) ≤ k:=by omega
  obtain ⟨y,hy⟩ : ∃ y,y = t.ws.getD k default:=⟨_,rfl⟩
  have hyf : fitB t y = true:=by rw [hy]; exact V.fw _ (mem_getD hk2)
  simp only [fitB,placeB,Bool.and_eq_true,decide_eq_true_eq] at hyf
  have y0 : (0 : Int) ≤ y.time:=by omega
  have y1 : y.time < (L.length : Nat):=by omega
  have y2 : (0 : Int) ≤ y.ch:=by omega
  obtain ⟨z,hz⟩ : ∃ z,z = L.getD y.time.toNat default:=⟨_,rfl⟩
  have rz : rowN L y.time.toNat = z.list:=by rw [hz]; rfl
  have y3 : y.ch < (z.list.length : Nat):=by have:=(RK y.time.toNat (by omega)).1; rw [rz] at this; omega
  obtain ⟨n,hn⟩ : ∃ n,n = z.list.getD y.ch.toNat default:=⟨_,rfl⟩
  have nn : numN L y.time.toNat y.ch.toNat = n:=by unfold numN; rw [rz,hn]; rfl
  cases hin : inR n y.lo y.hi
  ·simp (disch:=first|assumption|omega|(simp only[az];done)) only [ru,eq_self,if_true,if_false,AO.row?,splice,loadV,storeV,Am.rowAt,Am.part,addOff,Nat.reduceAdd,Nat.reduceLeDiff,elem_sl Wd.el H.w,Int.toNat_natCast,elem_sl Ls.el hL,hlk,Int.toNat_natCast,← hy,Wd.e,lenE,setT0,atT0,Nat.add_assoc,← hz,Ls.e,elem_sl intE z.is,← hn,s30,hin]
   refine no (P:=True) fun T => ?_
   have:=T.w k hk2
   rw [← hy,nn] at this
   rw [inR_iff.2 this] at hin
   cases hin
  ·simp (disch:=first|assumption|omega|(simp only[az];done)) only [ru,eq_self,if_true,if_false,binI,AO.row?,splice,loadV,storeV,Am.rowAt,Am.part,addOff,Nat.reduceAdd,Nat.reduceLeDiff,elem_sl Wd.el H.w,Int.toNat_natCast,elem_sl Ls.el hL,hlk,Int.toNat_natCast,← hy,Wd.e,lenE,setT0,atT0,Nat.add_assoc,← hz,Ls.e,elem_sl intE z.is,← hn,s30,hin]
   refine ih (t.ws.length - (k + 1)) _ _ _ (by omega) ⟨k + 1,J ++ [AO.cells [I y.time,I y.ch,I y.lo,I y.hi] false],by omega,rfl,rfl,rfl,rfl,rfl,rfl,rfl,fun j hj => ?_⟩
   by_cases e : j = k
   ·subst e
    rw [← hy,nn]
    exact inR_iff.1 hin
   ·exact WK j (by omega)
 have hi2 : i < L.length:=by omega
 have i0 : (0 : Int) ≤ i:=by omega
 obtain ⟨x,hx⟩ : ∃ x,x = L.getD i default:=⟨_,rfl⟩
 have un:=Ls.under hs hi2
 rw [← hx] at un
 have rx : rowN L i = x.list:=by rw [hx]; rfl
 by_cases hr : (x.list.length : Int) = t.ch
 case neg =>
  have hr' : ((x.list.length : Int) != t.ch) = true:=by simpa using hr
  simp (disch:=first|assumption|omega|(simp only[az];done)) only [ru,eq_self,if_true,if_false,binI,AO.row?,loadV,Am.rowAt,Am.part,addOff,elem_sl Ls.el hL,hlt,Int.toNat_natCast,← hx,Ls.e,lenV_sl x.is,hr']
  exact no (P:=True) fun T => hr (by have:=(T.r i (by omega)).1; rw [rx] at this; omega)
 have hr' : ((x.list.length : Int) != t.ch) = false:=by simpa using hr
 simp (disch:=first|assumption|omega|(simp only[az];done)) only [ru,eq_self,if_true,if_false,binI,AO.row?,loadV,Am.rowAt,Am.part,addOff,elem_sl Ls.el hL,hlt,Int.toNat_natCast,← hx,Ls.e,lenV_sl x.is,hr']
 have lx : x.list.length = t.C:=by omega
 clear hll q1 q2 q5
 refine G_loop_ind (fun m ts hk mk => ∃ (c : Nat),c ≤ t.C ∧ m = t.C - c ∧ ts.length = 122 ∧ ts.getD 1 .undef = v ∧ ts.getD 2 .undef = .ptr 0 0 ∧ ts.getD 5 .undef = I i ∧ ts.getD 6 .undef = I c ∧ hk = [.cells [I t.ch,I t.tm,o,w] false] ∧ mk = [] ∧
  ∀ d,d < c → 0 ≤ numN L i d ∧ numN L i d ≤ 40) ?_ _ _ _ _
  ⟨0,Nat.zero_le _,rfl,rfl,rfl,rfl,rfl,rfl,rfl,rfl,fun j hj => absurd hj (by omega)⟩
 rintro m ts hk mk ihC ⟨c,hc,rfl,hll,q1,q2,q5,q6,rfl,rfl,CK⟩
 rw [lit_all hll]
 simp only [lit0,litS,Nat.reduceAdd,q1,q2,q5,q6]
 simp (disch:=first|assumption|omega|(simp only[az];done)) only [ru,eq_self,if_true,if_false,binI,loadV,Am.part,elem_sl Ls.el hL,Int.toNat_natCast,← hx,Ls.e,lenV_sl x.is]
 by_cases hlc : (c : Int) < x.list.length
 case pos =>
  have c0 : (0 : Int) ≤ c:=by omega
  obtain ⟨n,hn⟩ : ∃ n,n = x.list.getD c default:=⟨_,rfl⟩
  have nn : numN L i c = n:=by unfold numN; rw [rx,hn]; rfl
  cases hin : inR n 0 40
  ·simp (disch:=first|assumption|omega|(simp only[az];done)) only [ru,eq_self,if_true,if_false,loadV,Am.part,elem_sl Ls.el hL,hlc,Int.toNat_natCast,← hx,Ls.e,elem_sl intE x.is,← hn,s30,hin]
   refine no (P:=True) fun T => ?_
   have:=(T.r i (by omega)).2.1 c (by omega)
   rw [nn] at this
   rw [inR_iff.2 this] at hin
   cases hin
  ·simp (disch:=first|assumption|omega|(simp only[az];done)) only [ru,eq_self,if_true,if_false,binI,loadV,Am.part,elem_sl Ls.el hL,hlc,Int.toNat_natCast,← hx,Ls.e,elem_sl intE x.is,← hn,s30,hin]
   refine ihC (t.C - (c + 1)) _ _ _ (by omega) ⟨c + 1,by omega,rfl,rfl,rfl,rfl,rfl,rfl,rfl,rfl,fun d hd => ?_⟩
   by_cases e : d = c
   ·subst e; rw [nn]; exact inR_iff.1 hin
   ·exact CK d (by omega)
 have hc3 : c = t.C:=by omega
 subst hc3
 have mem : ∀ z ∈ x.list,0 ≤ z ∧ z ≤ 40:=by
  intro z hz
  obtain ⟨d,hd,rfl⟩:=List.mem_iff_getElem.1 hz
  have:=CK d (by omega)
  unfold numN at this
  rw [rx,List.getD_eq_getElem?_getD,List.getElem?_eq_getElem hd,Option.getD_some] at this
  exact this
 have c25:=fun c (hc : c ≤ x.list.length) st => s25 x.is (by omega) mem hc st
 have c25z : ∀ st,Iso E 106 [x.v,I 0] st = some (I (behN L i 0)):=fun st => by
  have:=c25 0 (Nat.zero_le _) st
  rw [← rx] at this
  exact this
 by_cases hb : behN L i 0 > 40
 ·simp (disch:=first|assumption|omega|(simp only[az];done)) only [ru,eq_self,if_true,if_false,binI,loadV,Am.part,elem_sl Ls.el hL,hlc,Int.toNat_natCast,← hx,Ls.e,view_sl x.is,pure_sl x.is,c25z,hb]
  exact no (P:=True) fun T => by have:=(T.r i (by omega)).2.2; omega
 have RKi : RowK t.C L i:=⟨by rw [rx]; exact lx,CK,by omega⟩
 simp (disch:=first|assumption|omega|(simp only[az];done)) only [ru,eq_self,if_true,if_false,binI,loadV,Am.part,elem_sl Ls.el hL,hlc,Int.toNat_natCast,← hx,Ls.e,view_sl x.is,pure_sl x.is,c25z,hb]
 clear hll q1 q2 q5 q6 ihC
 refine G_loop_ind (fun m ts hk mk => ∃ (c : Nat),c ≤ t.C ∧ m = t.C - c ∧ ts.length = 122 ∧ ts.getD 1 .undef = v ∧ ts.getD 2 .undef = .ptr 0 0 ∧ ts.getD 5 .undef = I i ∧ ts.getD 7 .undef = I c ∧ hk = [.cells [I t.ch,I t.tm,o,w] false] ∧ mk = [] ∧
  ∀ d,d < c → 0 < i → PasK t L (i - 1) d) ?_ _ _ _ _
  ⟨0,Nat.zero_le _,rfl,rfl,rfl,rfl,rfl,rfl,rfl,rfl,fun j hj => absurd hj (by omega)⟩
 rintro m ts hk mk ihC ⟨c,hc,rfl,hll,q1,q2,q5,q7,rfl,rfl,PKi⟩
 rw [lit_all hll]
 simp only [lit0,litS,Nat.reduceAdd,q1,q2,q5,q7]
 have next : (∀ d,d < t.C → 0 < i → PasK t L (i - 1) d) → (∀ j,j < i + 1 → RowK t.C L j) ∧ ∀ j,j + 1 < i + 1 → ∀ c,c < t.C → PasK t L j c:=fun hP => by
  refine ⟨fun j hj => ?_,fun j hj c hc => ?_⟩
  ·by_cases e : j = i
   ·subst e; exact RKi
   ·exact RK j (by omega)
  ·by_cases e : j + 1 = i
   ·have:=hP c hc (by omega)
    rwa [show i - 1 = j by omega] at this
   ·exact PK j (by omega) c hc
 by_cases hlc2 : (c : Int) < t.ch
 case neg =>
  have n:=next fun d hd h0 => PKi d (by omega) h0
  simp (disch:=first|assumption|omega|(simp only[az];done)) only [ru,eq_self,if_true,if_false,binI,AO.row?,loadV,Am.rowAt,Am.part,addOff,hlc2]
  exact ih (t.T - (i + 1)) _ _ _ (by omega) ⟨i + 1,by omega,rfl,rfl,rfl,rfl,rfl,rfl,rfl,n.1,n.2⟩
 by_cases hi0 : (i : Int) > 0
 case neg =>
  have n:=next fun d hd h0 => by omega
  simp (disch:=first|assumption|omega|(simp only[az];done)) only [ru,eq_self,if_true,if_false,binI,AO.row?,loadV,Am.rowAt,Am.part,addOff,hlc2,hi0]
  exact ih (t.T - (i + 1)) _ _ _ (by omega) ⟨i + 1,by omega,rfl,rfl,rfl,rfl,rfl,rfl,rfl,n.1,n.2⟩
 obtain ⟨j,rfl⟩ : ∃ j,i = j + 1:=⟨i - 1,by omega⟩
 have ej : ((j + 1 : Nat) : Int) - 1 = j:=by omega
 have wj : wr .i64 (j : Int) = j:=wr64 (by omega) (by omega)
 have j0 : (0 : Int) ≤ j:=by omega
 have j1 : (j : Int) < (L.length : Nat):=by omega
 have j2 : (j : Int) < (t.op.length : Nat):=by omega
 obtain ⟨x',hx'⟩ : ∃ x',x' = L.getD j default:=⟨_,rfl⟩
 have rx' : rowN L j = x'.list:=by rw [hx']; rfl
 have RKj:=RK j (by omega)
 have lx' : x'.list.length = t.C:=by rw [← rx']; exact RKj.1
 have c25':=fun st => s25 x'.is (by omega) (by rw [← rx']; exact rowK_mem RKj) (c:=c) (by omega) st
 have c25x:=c25 c (by omega)
 have e1 : (x.list.drop c).sum = behN L (j + 1) c:=by unfold behN; rw [rx]
 have e2 : (x'.list.drop c).sum = behN L j c:=by unfold behN; rw [rx']
 rw [e1] at c25x
 rw [e2] at c25'
 obtain ⟨d,hd⟩ : ∃ d,d = behN L (j + 1) c - behN L j c:=⟨_,rfl⟩
 have bd1:=beh_bd RKi (by omega : t.C ≤ 4) (c:=c)
 have bd2:=beh_bd RKj (by omega : t.C ≤ 4) (c:=c)
 have wd : wr .i64 (behN L (j + 1) c - behN L j c) = d:=by rw [hd]; exact wr64 (by omega) (by omega)
 have nextP : (0 ≤ d ∧ (0 < d → hasI (t.op.getD j default).list c = true)) → ∀ d',d' < c + 1 → 0 < j + 1 → PasK t L (j + 1 - 1) d':=fun h d' hd' h0 => by
  by_cases e : d' = c
  ·subst e
   rw [Nat.add_sub_cancel]
   unfold PasK
   rw [← hd]; exact h
  ·exact PKi d' (by omega) h0
 have bad : ¬ (0 ≤ d ∧ (0 < d → hasI (t.op.getD j default).list c = true)) → ¬ TruN t L:=fun h T => h (by
  have:=T.p j (by omega) c (by omega)
  unfold PasK at this
  rw [← hd] at this; exact this)
 obtain ⟨u,hu⟩ : ∃ u,u = t.op.getD j default:=⟨_,rfl⟩
 have uun:=Ls.under H.sl (show j < t.op.length by omega)
 rw [← hu] at uun nextP bad
 have c40:=fun st => s40 u.is (by omega) c st
 have ex : x = L.getD (j + 1) default:=hx
 by_cases g1 : d < 0
 ·simp (disch:=first|assumption|omega|(simp only[az];done)) only [ru,eq_self,if_true,if_false,binI,AO.row?,loadV,Am.rowAt,Am.part,addOff,Int.toNat_natCast,elem_sl Ls.el hL,hlc2,hi0,Int.toNat_natCast,← hx,Ls.e,view_sl x.is,pure_sl x.is,c25x,ej,← hx',view_sl x'.is,pure_sl x'.is,c25',wd,g1,gUn]
  exact no (P:=True) (bad fun h => by omega)
 by_cases g2 : d > 0
 ·cases hh : hasI u.list c
  ·simp (disch:=first|assumption|omega|(simp only[az];done)) only [ru,eq_self,if_true,if_false,binI,AO.row?,loadV,Am.rowAt,Am.part,addOff,elem_sl Ls.el H.o,Int.toNat_natCast,elem_sl Ls.el hL,hlc2,hi0,Int.toNat_natCast,← hx,Ls.e,view_sl x.is,pure_sl x.is,c25x,ej,← hx',view_sl x'.is,pure_sl x'.is,c25',wd,g1,g2,← hu,view_sl u.is,pure_sl u.is,c40,hh]
   exact no (P:=True) (bad fun h => by have:=h.2 g2; rw [hh] at this; cases this)
  ·have nP:=nextP ⟨by omega,fun _ => hh⟩
   simp (disch:=first|assumption|omega|(simp only[az];done)) only [ru,eq_self,if_true,if_false,binI,AO.row?,loadV,Am.rowAt,Am.part,addOff,elem_sl Ls.el H.o,Int.toNat_natCast,elem_sl Ls.el hL,hlc2,hi0,Int.toNat_natCast,← hx,Ls.e,view_sl x.is,pure_sl x.is,c25x,ej,← hx',view_sl x'.is,pure_sl x'.is,c25',wd,g1,g2,← hu,view_sl u.is,pure_sl u.is,c40,hh]
   exact ihC (t.C - (c + 1)) _ _ _ (by omega) ⟨c + 1,by omega,rfl,rfl,rfl,rfl,rfl,rfl,rfl,rfl,nP⟩
 ·have nP:=nextP ⟨by omega,fun h => by omega⟩
  simp (disch:=first|assumption|omega|(simp only[az];done)) only [ru,eq_self,if_true,if_false,binI,AO.row?,loadV,Am.rowAt,Am.part,addOff,Int.toNat_natCast,elem_sl Ls.el hL,hlc2,hi0,Int.toNat_natCast,← hx,Ls.e,view_sl x.is,pure_sl x.is,c25x,ej,← hx',view_sl x'.is,pure_sl x'.is,c25',wd,g1,g2]
  exact ihC (t.C - (c + 1)) _ _ _ (by omega) ⟨c + 1,by omega,rfl,rfl,rfl,rfl,rfl,rfl,rfl,rfl,nP⟩
end Go.Proofs.YtfknojncfbahpaaGreat.S
/-
Numbers and truths; the law of both ends.
-/
namespace Go.Proofs.YtfknojncfbahpaaGreat.S
open Go Go.Am Go.Proofs.YtfknojncfbahpaaGreat.T
set_option maxRecDepth 100000
set_option linter.unusedSimpArgs false
set_option linter.unusedVariables false
section
variable {t : Trap}
theorem word_in (V : TrB t) {k : Nat} (hk : k < t.ws.length) : (t.ws.getD k default).time.toNat < t.T ∧ (t.ws.getD k default).ch.toNat < t.C :=
 word_at V (trC V) (trT V) (mem_getD hk)
def xN (C T : Nat) (L : List Ls) : Nat → Int:=fun k => if k = 0 then 0 else if (k - 1) / 4 < T ∧ (k - 1) % 4 < C then behN L ((k - 1) / 4) ((k - 1) % 4) else 0
theorem xN_at {C T i c : Nat} {L : List Ls} (hC : C ≤ 4) (hi : i < T) (hc : c < C) : xN C T L (sumN C i c) = behN L i c:=by
 rw [sumN_in hc]
 unfold xN
 have e1 : (1 + i * 4 + c - 1) / 4 = i:=by omega
 have e2 : (1 + i * 4 + c - 1) % 4 = c:=by omega
 rw [if_neg (by omega),e1,e2,if_pos ⟨hi,hc⟩]
theorem xN_le {C T i c : Nat} {L : List Ls} (hC : C ≤ 4) (hi : i < T) (hc : c ≤ C) (h : RowK C L i) : xN C T L (sumN C i c) = behN L i c:=by
 by_cases e : c = C
 ·subst e
  rw [sumN_last]
  unfold behN
  rw [List.drop_eq_nil_of_le (by rw [h.1]; exact Nat.le_refl _)]
  rfl
 ·exact xN_at hC hi (by omega)
theorem beh_le {C : Nat} {L : List Ls} {i : Nat} (h : RowK C L i) : ∀ c,c ≤ C → behN L i c ≤ behN L i 0
 | 0,_ => Int.le_refl _
 |
  c + 1,hc => by
  have h1:=beh_le h c (by omega)
  have h2:=(h.2.1 c (by omega)).1
  have h3:=drop_sum (l:=rowN L i) (i:=c) (by rw [h.1]; omega)
  unfold numN at h2
  unfold behN at *
  omega
theorem num_tr (V : TrB t) {L : List Ls} (h : TruN t L) : ∃ x,Tr t x ∧ (∀ i c,i < t.T → c < t.C → numN L i c = gap t.C x i c) ∧ ∀ i c,i < t.T → c ≤ t.C → behN L i c = x (sumN t.C i c) - x 0:=by
 have v1:=V.c0; have v2:=V.c1; have v4:=V.t1; have vo:=V.o
 have eC:=trC V; have eT:=trT V
 have hC : t.C ≤ 4:=by omega
 obtain ⟨x,hx⟩ : ∃ x,x = xN t.C t.T L:=⟨_,rfl⟩
 have x0 : x 0 = 0:=by rw [hx]; rfl
 have at' : ∀ i c,i < t.T → c ≤ t.C → x (sumN t.C i c) = behN L i c:=fun i c hi hc => by rw [hx]; exact xN_le hC hi hc (h.r i hi)
 have g : ∀ i c,i < t.T → c < t.C → numN L i c = gap t.C x i c:=fun i c hi hc => by
  unfold gap
  rw [at' i c hi (by omega),at' i (c + 1) hi (by omega)]
  have h3:=drop_sum (l:=rowN L i) (i:=c) (by rw [(h.r i hi).1]; omega)
  unfold behN numN
  omega
 have bd : ∀ k,0 ≤ x k ∧ x k ≤ 40:=by
  intro k
  rw [hx]
  unfold xN
  split
  ·omega
  ·split
   ·rename_i hk
    have r:=h.r _ hk.1
    have a:=beh_le r _ (Nat.le_of_lt hk.2)
    have b:=(beh_bd r hC (c:=(k - 1) % 4)).1
    have c:=r.2.2
    omega
   ·omega
 refine ⟨x,⟨sat_wid.2 ⟨fun k l _ _ _ => by have:=bd k; have:=bd l; omega,fun l _ => by have:=bd l; omega⟩,⟨fun i c hi hc => ?_,fun i c hi hc => ?_,fun k hk => ?_⟩⟩,g,fun i c hi hc => by rw [at' i c hi hc,x0]; omega⟩
 ·rw [← g i c hi hc]; exact (h.r i hi).2.1 c hc
 ·have p:=h.p i (by omega) c hc
  unfold flow
  rw [at' (i + 1) c (by omega) (by omega),at' i c (by omega) (by omega)]
  refine ⟨p.1,?_⟩
  have ml:=@mayP_le t.op i c
  by_cases hd : 0 < behN L (i + 1) c - behN L i c
  ·have : mayP t.op i c = 40:=by unfold mayP; rw [if_pos (p.2 hd)]
   rw [this]
   have r:=h.r (i + 1) (by omega)
   have a:=beh_le r c (by omega)
   have b:=(beh_bd (h.r i (by omega)) hC (c:=c)).1
   have d:=r.2.2
   omega
  ·omega
 ·have w:=h.w k hk
  have wi:=word_in V hk
  rw [g _ _ wi.1 wi.2] at w
  exact w
end
end Go.Proofs.YtfknojncfbahpaaGreat.S
