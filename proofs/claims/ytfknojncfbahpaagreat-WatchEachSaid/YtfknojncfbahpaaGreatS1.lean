/-
The functions and the mathematics, one after another (S1).
-/
import Derived.Test.YtfknojncfbahpaaGreatA2
import Derived.Test.YtfknojncfbahpaaGreatAmY
namespace Go.Proofs.YtfknojncfbahpaaGreat.S
set_option linter.unusedVariables false
set_option linter.unusedSimpArgs false
theorem getD_mem {α : Type} [Inhabited α] {l : List α} {i : Nat} (h : i < l.length) : l.getD i default ∈ l:=by
 rw [List.getD_eq_getElem?_getD,List.getElem?_eq_getElem h]; exact List.getElem_mem h
end Go.Proofs.YtfknojncfbahpaaGreat.S
namespace Go.Proofs.YtfknojncfbahpaaGreat.S
open Go Go.Am Go.Proofs.YtfknojncfbahpaaGreat.T
set_option maxRecDepth 100000
set_option linter.unusedSimpArgs false
set_option linter.unusedVariables false
theorem elem_in {l : List Int} {v : AV} (h : IsSl 1 intL l v) : ∀ i : Int,0 ≤ i → i < l.length → elemAt 1 v (I i) = some (.cptr [I (l.getD i.toNat 0)]):=elem_sl intE h
def resL (l : List Int) : AV:=if l = [] then .nils else slV 1 intL l
theorem resL_is (l : List Int) : IsSl 1 intL l (resL l):=by
 unfold resL; split
 ·exact .inr ⟨rfl,by assumption⟩
 ·exact slV_is
section
end
section
theorem Ro_ex {E : Env} {f : Nat} {fn : AFn} {vs : List AV} {h : List AO} (P : AV → Prop) (hu : ∀ v,P v → v.under h.length = true) (hs : E.spec f vs h h.length = none) (hf : E.fn f = some fn)
  (hg : G ⟨E,h.length,none,f,Done h.length fn.results fun r h' => P r⟩ fn.body [] (vs ++ List.replicate (fn.ntmps - vs.length) .undef) h []) : ∃ v,Ro E f vs h = some v ∧ P v:=by
 obtain ⟨r,h',h1,h2⟩:=R_of (fun r _ => P r) hs hf hg
 exact ⟨r,by simp only [Ro,h1,hu r h2,if_true],h2⟩
end
section
def aE (v q : Bool) (e : Int) : Int:=if v then (if q then 0 else e) else 50
end
theorem getD_memI {l : List Int} {i : Nat} (h : i < l.length) : l.getD i 0 ∈ l:=by
 rw [List.getD_eq_getElem?_getD,List.getElem?_eq_getElem h]; exact List.getElem_mem h
section
end
theorem mapM_view {st : Bool} {h : List AO} {n : Nat} : ∀ {c : List AV},(∀ x ∈ c,view st h n x = some x) → c.mapM (view st h n) = some c
 | [],_ => rfl
 |
  a :: c,hc => by
  simp only [List.mapM_cons,hc a (by simp),mapM_view (c:=c) (fun x hx => hc x (by simp [hx])),Option.bind_eq_bind,Option.bind_some,Option.pure_def]
theorem flat_view {α : Type} {enc : α → List AV} {st : Bool} {h : List AO} {n : Nat} (hi : ∀ a,∀ x ∈ enc a,∃ k i,x = .int k i) (l : List α) : (l.flatMap enc).mapM (view st h n) = some (l.flatMap enc) :=
 mapM_view fun x hx => by
  obtain ⟨a,_,hx⟩:=List.mem_flatMap.1 hx
  obtain ⟨k,i,rfl⟩:=hi a x hx
  exact view_int
theorem flat_tak {α : Type} {enc : α → List AV} {l : List α} {k : Nat} (he : ∀ a,(enc a).length = k) : (l.flatMap enc).take (l.length * k) = l.flatMap enc:=List.take_of_length_le (by rw [flat_len he]; omega)
theorem intIv (n : Int) : ∀ x ∈ intL n,∃ k i,x = .int k i:=by simp
def RdS (h : List AO) (v : AV) (l : List Int) : Prop:=(l = [] ∧ v = .nils) ∨ (l ≠ [] ∧ ∃ o sh,v = .ms 1 o 0 l.length ∧ h[o]? = some (.cells (l.flatMap fun n => [I n]) sh))
structure Fr (h h' : List AO) : Prop where
 l : h.length ≤ h'.length
 k : ∀ j,j < h.length → h'[j]? = h[j]?
theorem Fr.refl (h : List AO) : Fr h h:=⟨Nat.le_refl _,fun _ _ => rfl⟩
theorem Fr.trans {a b c : List AO} (h : Fr a b) (h' : Fr b c) : Fr a c:=⟨Nat.le_trans h.l h'.l,fun j hj => (h'.k j (Nat.lt_of_lt_of_le hj h.l)).trans (h.k j hj)⟩
theorem Fr.app (h J : List AO) : Fr h (h ++ J):=⟨by simp,fun j hj => List.getElem?_append_left hj⟩
theorem Fr.at {h h' : List AO} (F : Fr h h') {j : Nat} {x : AO} (hx : h[j]? = some x) : h'[j]? = some x:=by rw [F.k j (List.getElem?_eq_some_iff.1 hx).1]; exact hx
theorem RdS.fr {h h' : List AO} {v : AV} {l : List Int} (H : RdS h v l) (F : Fr h h') : RdS h' v l:=by
 rcases H with h1 | ⟨hne,o,sh,rfl,hc⟩
 ·exact .inl h1
 ·exact .inr ⟨hne,o,sh,rfl,F.at hc⟩
theorem RdS.len {h : List AO} {v : AV} {l : List Int} (H : RdS h v l) : lenV v = some (I l.length) ∧ v.cells = [v] ∧ v.scalar = true:=by
 rcases H with ⟨rfl,rfl⟩ | ⟨hne,o,sh,rfl,hc⟩ <;> exact ⟨rfl,rfl,rfl⟩
theorem RdS.row {h : List AO} {v : AV} {l : List Int} (H : RdS h v l) : lenOf v = some l.length ∧ Am.rowOf h v = some (l.flatMap fun n => [I n]):=by
 rcases H with ⟨rfl,rfl⟩ | ⟨hne,o,sh,rfl,hc⟩
 ·exact ⟨rfl,rfl⟩
 ·refine ⟨rfl,?_⟩
  have e : (l.flatMap fun n => [I n]).take (l.length * 1) = l.flatMap fun n => [I n]:=List.take_of_length_le (by rw [flat1]; omega)
  rw [Nat.mul_one] at e
  simp only [rowOf_ms,Am.rowAt,hc,Option.bind_some,AO.row?,List.drop_zero,Nat.mul_one,e,flat1,if_true]
theorem RdS.view {h : List AO} {v : AV} {l : List Int} (H : RdS h v l) {st : Bool} {k : Nat} : Am.view st h (k + 1) v = some (resL l):=by
 have hr:=H.row.2
 rcases H with ⟨rfl,rfl⟩ | ⟨hne,o,sh,rfl,hc⟩
 ·rfl
 ·rw [view_ms,hr]
  simp only [flat_view (enc:=fun n : Int => [I n]) (fun a x hx => ⟨_,_,by simpa using hx⟩),Option.map_some,resL,hne,if_false,slV]
theorem flat_sc (l : List Int) : (l.flatMap fun n => [I n]).all AV.scalar = true:=scal_sl (fun _ => rfl) l
section
variable {α : Type} {l m : List α} {j : Nat} {x : α}
theorem set_same (h : l[j]? = some x) : l.set j x = l:=by
 apply List.ext_getElem?
 intro i
 rw [List.getElem?_set]
 split
 ·rename_i e; subst e
  rw [if_pos (List.getElem?_eq_some_iff.1 h).1,h]
 ·rfl
end
def OutLL (b : Nat) (h : List AO) (v : AV) (L : List (List Int)) : Prop:=(L = [] ∧ v = .nils) ∨ (L ≠ [] ∧ ∃ o vs,b ≤ o ∧ v = .ms 1 o 0 L.length ∧ h[o]? = some (.cells vs false) ∧ vs.length = L.length ∧ ∀ i,i < L.length → RdS h (vs.getD i .undef) (L.getD i []))
theorem OutLL.fr {b : Nat} {h h' : List AO} {v : AV} {L : List (List Int)} (H : OutLL b h v L) (F : Fr h h') : OutLL b h' v L:=by
 rcases H with h1 | ⟨hne,o,vs,ho,rfl,hc,hl,hr⟩
 ·exact .inl h1
 ·exact .inr ⟨hne,o,vs,ho,rfl,F.at hc,hl,fun i hi => (hr i hi).fr F⟩
theorem OutLL.len {b : Nat} {h : List AO} {v : AV} {L : List (List Int)} (H : OutLL b h v L) : lenV v = some (I L.length):=by
 rcases H with ⟨rfl,rfl⟩ | ⟨hne,o,vs,ho,rfl,hc,hl,hr⟩ <;> rfl
theorem mapM_pt {α β : Type} {f : AV → Option β} {g : α → β} {d : AV} {e : α} : ∀ {vs : List AV} {L : List α},vs.length = L.length → (∀ i,i < L.length → f (vs.getD i d) = some (g (L.getD i e))) → vs.mapM f = some (L.map g)
 | [],[],_,_ => rfl
 |
  v :: vs,a :: L,hl,h => by
  have h0:=h 0 (by simp)
  have ih:=mapM_pt (f:=f) (g:=g) (d:=d) (e:=e) (vs:=vs) (L:=L) (by simpa using hl) (fun i hi => h (i + 1) (by simpa using hi))
  simp only [get0] at h0
  simp only [List.mapM_cons,h0,ih,Option.bind_eq_bind,Option.bind_some,Option.pure_def,List.map_cons]
 | [],_ :: _,hl,_ => by simp at hl
 | _ :: _,[],hl,_ => by simp at hl
def resE (l : List Int) : List AV:=[resL l]
theorem resE_len (l : List Int) : (resE l).length = 1:=rfl
theorem resE_map : ∀ L : List (List Int),L.map resL = L.flatMap resE
 | [] => rfl
 | a :: l => by simp only [List.map_cons,List.flatMap_cons,resE_map l]; rfl
def resLL (L : List (List Int)) : AV:=if L = [] then .nils else slV 1 resE L
theorem resLL_is (L : List (List Int)) : IsSl 1 resE L (resLL L):=by
 unfold resLL; split
 ·exact .inr ⟨rfl,by assumption⟩
 ·exact slV_is
theorem OutLL.view {b k : Nat} {h : List AO} {v : AV} {L : List (List Int)} (H : OutLL b h v L) (st : Bool) : Am.view st h (k + 2) v = some (resLL L):=by
 rcases H with ⟨rfl,rfl⟩ | ⟨hne,o,vs,_,rfl,hc,hl,hrd⟩
 ·rfl
 have e1 : vs.mapM (Am.view st h (k + 1)) = some (L.map resL):=mapM_pt (d:=.undef) (e:=[]) hl fun i hi => (hrd i hi).view
 rw [resE_map] at e1
 rw [resLL,if_neg hne]
 simp only [view_ms,rowOf_ms,Am.rowAt,hc,Option.bind_some,AO.row?,List.drop_zero,Nat.mul_one,← hl,List.take_length,if_true]
 rw [e1,hl]
 rfl
def OutE {α : Type} (enc : α → List AV) (esz b : Nat) (h : List AO) (v : AV) (l : List α) : Prop:=(l = [] ∧ v = .nils) ∨ (l ≠ [] ∧ ∃ o,b ≤ o ∧ v = .ms esz o 0 l.length ∧ h[o]? = some (.cells (l.flatMap enc) false))
theorem outE_app {α : Type} {enc : α → List AV} {esz eb : Nat} (he : ∀ a,(enc a).length = esz) (hs : ∀ a,(enc a).all AV.scalar = true) (h1 : 1 ≤ esz) (heb : 1 ≤ eb) (hb : eb ≤ 1000) {pre J : List AO} {v : AV} {l : List α} {lim : Nat} (H : OutE enc esz pre.length (pre ++ J) v l) (hlim : lim ≤ pre.length) (hl : l.length ≤ 1000000) (x : α) :
  ∃ v' J',appV lim (pre ++ J) esz eb v (.cs esz 1 (enc x)) = some (v',pre ++ J') ∧ OutE enc esz pre.length (pre ++ J') v' (l ++ [x]):=by
 have hx : (enc x).length = 1 * esz:=by rw [he]; omega
 rcases H with ⟨rfl,rfl⟩ | ⟨hne,o,ho,rfl,hc⟩
 ·refine ⟨_,J ++ [AO.cells (enc x) false],?_,.inr ⟨by simp,(pre ++ J).length,by simp,rfl,?_⟩⟩
  ·rw [appV_nil (n:=1) (xs:=enc x) rfl rfl hx (hs x) (by omega) heb,if_neg (by omega)]
   simp
  ·simp only [← List.append_assoc,List.nil_append,List.flatMap_cons,List.flatMap_nil,List.append_nil]
   exact atE
 ·have ho' : o < (pre ++ J).length:=(List.getElem?_eq_some_iff.1 hc).1
  refine ⟨_,J.set (o - pre.length) .tomb ++ [AO.cells ((l ++ [x]).flatMap enc) false],?_,.inr ⟨by simp,(pre ++ J).length,by simp,rfl,?_⟩⟩
  ·have hbb : (l.length + 1) * eb ≤ 140737488355328:=by
    have:=Nat.mul_le_mul (show l.length + 1 ≤ 1000001 by omega) hb
    omega
   rw [appV_ms (n:=1) (xs:=enc x) (c:=l.flatMap enc) (sh:=false) hc (by rw [flat_len he]) rfl rfl hx (hs x) hbb heb (by omega),if_neg (by omega)]
   rw [List.set_append_right _ _ ho]
   simp
  ·have e : (pre ++ J).length = (pre ++ J.set (o - pre.length) .tomb).length:=by simp
   rw [e,← List.append_assoc]
   exact atE
theorem outE_view {α : Type} {enc : α → List AV} {esz b : Nat} {h : List AO} {v : AV} {l : List α} (he : ∀ a,(enc a).length = esz) (H : OutE enc esz b h v l) (hne : l ≠ []) {st : Bool} {k : Nat} (hvw : ∀ a,(enc a).mapM (view st h k) = some (enc a)) : view st h (k + 1) v = some (slV esz enc l):=by
 rcases H with ⟨e,_⟩ | ⟨_,o,ho,rfl,hc⟩
 ·exact absurd e hne
 ·have e:=flat_tak (l:=l) he
  have e2 : (l.flatMap enc).mapM (view st h k) = some (l.flatMap enc):=by
   apply mapM_view
   intro x hx
   obtain ⟨a,_,hx⟩:=List.mem_flatMap.1 hx
   exact mapM_fix (hvw a) x hx
  simp only [view_ms,rowOf_ms,Am.rowAt,hc,Option.bind_some,AO.row?,List.drop_zero,e,flat_len he,if_true,e2]
  rfl
where
 mapM_fix {f : AV → Option AV} : ∀ {c : List AV},c.mapM f = some c → ∀ x ∈ c,f x = some x
  | [],_,x,hx => by simp at hx
  |
   a :: c,h,x,hx => by
   simp only [List.mapM_cons,Option.bind_eq_bind,Option.bind_eq_some_iff,Option.pure_def,Option.some.injEq,List.cons.injEq] at h
   obtain ⟨y,h1,ys,h2,rfl,rfl⟩:=h
   rcases List.mem_cons.1 hx with rfl | hx
   ·exact h1
   ·exact mapM_fix h2 x hx
theorem elem_ll {L : List (List Int)} {v : AV} (h : IsSl 1 resE L v) : ∀ i : Int,0 ≤ i → i < L.length → elemAt 1 v (I i) = some (.cptr [resL (L.getD i.toNat [])]):=elem_sl resE_len h
theorem getD_memL {L : List (List Int)} {i : Nat} (h : i < L.length) : L.getD i [] ∈ L:=by
 rw [List.getD_eq_getElem?_getD,List.getElem?_eq_getElem h]; exact List.getElem_mem h
theorem finC2 {lim i j s : Nat} {a : Bool} {P : AV → List AO → Prop} {ts : List AV} {h : List AO} : Done lim [.cell a s i,.tmp j] P .ret ⟨ts,h,[]⟩ = ∃ v,getRes ts h (.cell a s i) = some v ∧ P (.tup [v,ts.getD j .undef]) h:=by
 simp only [Done,finish,takeMarks,List.all_nil,if_true,List.mapM_cons,List.mapM_nil,Option.bind_eq_bind,Option.pure_def]
 cases getRes ts h (.cell a s i) <;> simp [getRes]
section
end
def RdC {α : Type} (enc : α → List AV) (esz : Nat) (h : List AO) (w : AV) (l : List α) : Prop:=∃ o,w = .ms esz o 0 l.length ∧ h[o]? = some (.cells (l.flatMap enc) false)
section
variable {α : Type} {enc : α → List AV} {esz eb : Nat} {l : List α}
theorem RdC.fr {h h' : List AO} {w : AV} (H : RdC enc esz h w l) (F : Fr h h') : RdC enc esz h' w l:=by
 obtain ⟨o,e,hc⟩:=H; exact ⟨o,e,F.at hc⟩
theorem RdC.view {h : List AO} {w : AV} (H : RdC enc esz h w l) (he : ∀ a,(enc a).length = esz) (hi : ∀ a,∀ x ∈ enc a,∃ k i,x = .int k i) {st : Bool} {k : Nat} : Am.view st h (k + 1) w = some (slV esz enc l):=by
 obtain ⟨o,rfl,hc⟩:=H
 have e:=flat_tak (l:=l) he
 simp only [view_ms,rowOf_ms,Am.rowAt,hc,Option.bind_some,AO.row?,List.drop_zero,e,flat_len he,if_true,flat_view hi]
 rfl
theorem RdC.sc {h : List AO} {w : AV} (H : RdC enc esz h w l) : w.cells = [w] ∧ w.scalar = true ∧ lenV w = some (I l.length):=by
 obtain ⟨o,rfl,hc⟩:=H; exact ⟨rfl,rfl,rfl⟩
end
section
end
theorem OutE.viewL {b : Nat} {h : List AO} {v : AV} {l : List Int} (H : OutE intL 1 b h v l) {st : Bool} {k : Nat} : Am.view st h (k + 1) v = some (resL l):=by
 by_cases hne : l = []
 ·subst hne
  rcases H with ⟨_,rfl⟩ | ⟨h,_⟩
  ·rfl
  ·exact absurd rfl h
 ·rw [resL,if_neg hne]
  exact outE_view intE H hne fun a => by
   show [I a].mapM _ = _
   rw [List.mapM_cons,view_int]; rfl
structure Fk (b : Nat) (h h' : List AO) : Prop where
 l : h.length ≤ h'.length
 k : ∀ j,b ≤ j → j < h.length → h'[j]? = h[j]?
theorem Fk.refl (b : Nat) (h : List AO) : Fk b h h:=⟨Nat.le_refl _,fun _ _ _ => rfl⟩
theorem Fk.trans {n : Nat} {a b c : List AO} (h : Fk n a b) (h' : Fk n b c) : Fk n a c:=⟨Nat.le_trans h.l h'.l,fun j hn hj => (h'.k j hn (Nat.lt_of_lt_of_le hj h.l)).trans (h.k j hn hj)⟩
theorem Fk.at {b : Nat} {h h' : List AO} (F : Fk b h h') {j : Nat} (hb : b ≤ j) {x : AO} (hx : h[j]? = some x) : h'[j]? = some x:=by rw [F.k j hb (List.getElem?_eq_some_iff.1 hx).1]; exact hx
def RdB (b : Nat) (h : List AO) (v : AV) (l : List Int) : Prop:=(l = [] ∧ v = .nils) ∨ (l ≠ [] ∧ ∃ o sh,b ≤ o ∧ v = .ms 1 o 0 l.length ∧ h[o]? = some (.cells (l.flatMap fun n => [I n]) sh))
theorem RdB.s {b : Nat} {h : List AO} {v : AV} {l : List Int} (H : RdB b h v l) : RdS h v l:=by
 rcases H with h1 | ⟨hne,o,sh,_,e,hc⟩
 ·exact .inl h1
 ·exact .inr ⟨hne,o,sh,e,hc⟩
theorem flat_head {F : List Int} {i : Nat} (hi : i < F.length) : ((F.flatMap fun n => [I n]).drop i).head? = some (I (F.getD i 0)):=by
 induction F generalizing i with
 | nil => simp at hi
 |
  cons a F ih =>
  cases i with
  | zero => rfl
  | succ i => simpa using ih (i:=i) (by simpa using hi)
section
end
theorem cpyQ {α : Type} {enc : α → List AV} {esz eb : Nat} {l : List α} {v : AV} {h J : List AO} {lim : Nat} (hv : IsSl esz enc l v) (he : ∀ a,(enc a).length = esz) (hs : ∀ a,(enc a).all AV.scalar = true) (hb : l.length * eb ≤ 140737488355328) (heb : 1 ≤ eb) (hlim : lim ≤ h.length) :
  ∃ q x0 x1,q < 2 ∧ appG true lim (h.length + 1) esz eb (h ++ .cells [] false :: .tomb :: J) (.ms esz h.length 0 0) v = some (.ms esz (h.length + q) 0 l.length,h ++ x0 :: x1 :: J) ∧ [x0,x1][q]? = some (.cells (l.flatMap enc) false):=by
 by_cases hz : l.length = 0
 ·have e : l = []:=List.eq_nil_of_length_eq_zero hz
  subst e
  refine ⟨0,.cells [] false,.tomb,by omega,?_,rfl⟩
  have hr : Am.rowOf (h ++ .cells [] false :: .tomb :: J) v = some []:=rowOf_sl hv _
  rw [appG_zero (sl:=0) rfl (lenOf_sl hv) hr]; rfl
 ·refine ⟨1,.ro [],.cells (l.flatMap enc) false,by omega,?_,rfl⟩
  rw [appG_ms (c:=[]) hz atA0 (by simp) (lenOf_sl hv) (rowOf_sl hv _) (flat_len he l) (scal_sl hs l) (by simpa using hb) heb hlim,setT0,setT]
  simp
theorem int_put {l : List Int} {i : Nat} (hi : i < l.length) (x : Int) : (l.flatMap intL).take i ++ [I x] ++ (l.flatMap intL).drop (i + 1) = (l.set i x).flatMap intL:=by
 induction l generalizing i with
 | nil => simp at hi
 |
  cons a l ih =>
  cases i with
  | zero => rfl
  |
   succ i =>
   have:=ih (i:=i) (by simpa using hi)
   show I a :: ((l.flatMap intL).take i ++ [I x] ++ (l.flatMap intL).drop (i + 1)) = _
   rw [this]; rfl
end Go.Proofs.YtfknojncfbahpaaGreat.S
namespace Go.Proofs.YtfknojncfbahpaaGreat.S
open Go Go.Am Go.Proofs.YtfknojncfbahpaaGreat.T
set_option maxRecDepth 100000
set_option linter.unusedSimpArgs false
set_option linter.unusedVariables false
def ear : List Int → List Int → Bool
 | a :: l,b :: m => if a ≠ b then decide (a < b) else ear l m
 | _,_ => false
theorem ear_app : ∀ {F l m : List Int},ear (F ++ l) (F ++ m) = ear l m
 | [],_,_ => rfl
 | a :: F,l,m => by simp [ear,ear_app (F:=F)]
theorem ear_asym : ∀ {l m : List Int},ear l m = true → ear m l = false
 | [],m,h => by simp [ear] at h
 | a :: l,[],h => by simp [ear] at h
 |
  a :: l,b :: m,h => by
  simp only [ear] at h ⊢
  by_cases e : a = b
  ·subst e; simp only [ne_eq,not_true_eq_false,if_false] at h ⊢; exact ear_asym h
  ·rw [if_pos e] at h; rw [if_pos (Ne.symm e)]; simp at h ⊢; omega
theorem mem_atI {l : List Int} {y : Int} (h : y ∈ l) : ∃ i,i < l.length ∧ l.getD i 0 = y:=by
 obtain ⟨i,hi,rfl⟩:=List.mem_iff_getElem.1 h
 exact ⟨i,hi,by simp [List.getD_eq_getElem?_getD,hi]⟩
def ris (k : Nat) (l : List Int) : Prop:=(∀ x ∈ l,0 ≤ x ∧ x < k) ∧ l.Pairwise (· < ·)
def frm (F : List Int) : Nat:=if F.length = 0 then 0 else (F.getD (F.length - 1) 0).toNat + 1
def asc (k : Nat) : Nat → List Int → List (List Int)
 | 0,F => [F]
 | d + 1,F => (List.range' (frm F) (k - frm F)).flatMap fun (n : Nat) => asc k d (F ++ [(n : Int)])
theorem ris_snoc {k : Nat} {F : List Int} {x : Int} : ris k (F ++ [x]) ↔ ris k F ∧ ((frm F : Nat) : Int) ≤ x ∧ x < k:=by
 have e : ris k F → (((frm F : Nat) : Int) ≤ x ↔ 0 ≤ x ∧ ∀ y ∈ F,y < x):=by
  intro hF
  unfold frm
  split
  ·rename_i h
   rw [List.eq_nil_of_length_eq_zero h]; simp
  ·rename_i h
   have hl : F.length - 1 < F.length:=by omega
   have hm : F.getD (F.length - 1) 0 ∈ F:=by rw [List.getD_eq_getElem?_getD,List.getElem?_eq_getElem hl]; exact List.getElem_mem hl
   have h0:=hF.1 _ hm
   constructor
   ·intro hx
    refine ⟨by omega,fun y hy => ?_⟩
    obtain ⟨i,hi,rfl⟩:=mem_atI hy
    by_cases c : i = F.length - 1
    ·subst c; omega
    ·have:=List.pairwise_iff_getElem.1 hF.2 i (F.length - 1) hi hl (by omega)
     simp only [List.getD_eq_getElem?_getD,List.getElem?_eq_getElem hi,List.getElem?_eq_getElem hl,Option.getD_some] at hx h0 ⊢
     omega
   ·rintro ⟨_,h2⟩
    have:=h2 _ hm
    omega
 simp only [ris,List.mem_append,List.mem_singleton,List.pairwise_append,List.pairwise_cons,List.not_mem_nil,false_implies,implies_true,List.Pairwise.nil,and_true,true_and,forall_eq]
 constructor
 ·rintro ⟨h1,h2,h3⟩
  have hF : ris k F:=⟨fun y hy => h1 y (.inl hy),h2⟩
  have:=h1 x (.inr rfl)
  exact ⟨hF,(e hF).2 ⟨this.1,fun y hy => h3 y hy⟩,this.2⟩
 ·rintro ⟨hF,h2,h3⟩
  have:=(e hF).1 h2
  refine ⟨fun y hy => ?_,hF.2,fun y hy => this.2 y hy⟩
  rcases hy with hy | rfl
  ·exact hF.1 y hy
  ·exact ⟨this.1,h3⟩
theorem mem_asc {k : Nat} : ∀ {d : Nat} {F G : List Int},ris k F → (G ∈ asc k d F ↔ ris k G ∧ ∃ T,G = F ++ T ∧ T.length = d)
 |
  0,F,G,h => by
  simp only [asc,List.mem_singleton]
  constructor
  ·rintro rfl; exact ⟨h,[],by simp,rfl⟩
  ·rintro ⟨_,T,rfl,ht⟩; rw [List.eq_nil_of_length_eq_zero ht,List.append_nil]
 |
  d + 1,F,G,h => by
  simp only [asc,List.mem_flatMap,List.mem_range'_1]
  constructor
  ·rintro ⟨b,hb,hg⟩
   obtain ⟨hp,T,rfl,ht⟩:=(mem_asc (ris_snoc.2 ⟨h,by omega,by omega⟩)).1 hg
   exact ⟨hp,(b : Int) :: T,by simp,by simp [ht]⟩
  ·rintro ⟨hp,T,rfl,ht⟩
   match T,ht with
   |
    x :: T,ht =>
    have e : F ++ x :: T = (F ++ [x]) ++ T:=by simp
    have hx : ris k (F ++ [x]):=by
     rw [e] at hp
     exact ⟨fun y hy => hp.1 y (List.mem_append_left _ hy),(List.pairwise_append.1 hp.2).1⟩
    have h3:=ris_snoc.1 hx
    refine ⟨x.toNat,by omega,?_⟩
    rw [show ((x.toNat : Nat) : Int) = x by omega]
    exact (mem_asc hx).2 ⟨hp,T,by simp,by simpa using ht⟩
theorem asc_sorted {k : Nat} : ∀ {d : Nat} {F : List Int},(asc k d F).Pairwise fun x y => ear x y = true
 | 0,F => by simp [asc]
 |
  d + 1,F => by
  rw [asc,List.pairwise_flatMap]
  refine ⟨fun b hb => asc_sorted,?_⟩
  refine (List.pairwise_lt_range' (s:=frm F) (n:=k - frm F)).imp ?_
  intro a b hab x hx y hy
  have pre : ∀ {d : Nat} {F G : List Int},G ∈ asc k d F → ∃ T,G = F ++ T:=by
   intro d
   induction d with
   | zero => intro F G h; simp [asc] at h; exact ⟨[],by simp [h]⟩
   |
    succ d ih =>
    intro F G h
    simp only [asc,List.mem_flatMap] at h
    obtain ⟨b,_,h⟩:=h
    obtain ⟨T,rfl⟩:=ih h
    exact ⟨(b : Int) :: T,by simp⟩
  obtain ⟨T,rfl⟩:=pre hx
  obtain ⟨U,rfl⟩:=pre hy
  rw [List.append_assoc,List.append_assoc,ear_app]
  simp only [List.cons_append,List.nil_append,ear]
  rw [if_pos (by omega)]; simp; omega
theorem ris_nil {k : Nat} : ris k []:=⟨by simp,.nil⟩
theorem ris_len : ∀ {k : Nat} {l : List Int},ris k l → l.length ≤ k:=by
 intro k l h
 have key : ∀ (l : List Int) (lo : Int),(∀ x ∈ l,lo ≤ x ∧ x < k) → l.Pairwise (· < ·) → lo ≤ k → (l.length : Int) ≤ k - lo:=by
  intro l
  induction l with
  | nil => intro lo _ _ h; simp; omega
  |
   cons a l ih =>
   intro lo h1 h2 h3
   have ha:=h1 a (List.mem_cons_self ..)
   have:=ih (a + 1) (fun x hx => ⟨by have:=(List.pairwise_cons.1 h2).1 x hx; omega,(h1 x (List.mem_cons_of_mem _ hx)).2⟩) (List.pairwise_cons.1 h2).2 (by omega)
   simp only [List.length_cons]; omega
 have:=key l 0 h.1 h.2 (by omega)
 omega
def alls (k : Nat) : List (List Int):=(List.range (k + 1)).flatMap fun d => asc k d []
theorem mem_alls {k : Nat} {G : List Int} : G ∈ alls k ↔ ris k G:=by
 simp only [alls,List.mem_flatMap,List.mem_range]
 constructor
 ·rintro ⟨d,_,h⟩
  exact ((mem_asc ris_nil).1 h).1
 ·intro h
  exact ⟨G.length,by have:=ris_len h; omega,(mem_asc ris_nil).2 ⟨h,G,rfl,rfl⟩⟩
def lesL (x y : List Int) : Prop:=x.length < y.length ∨ (x.length = y.length ∧ ear x y = true)
theorem alls_sorted {k : Nat} : (alls k).Pairwise lesL:=by
 unfold alls
 rw [List.pairwise_flatMap]
 refine ⟨fun d _ => ?_,?_⟩
 ·have h : ∀ x ∈ asc k d [],x.length = d:=by
   intro x hx
   obtain ⟨_,T,rfl,h⟩:=(mem_asc ris_nil).1 hx
   simpa using h
  exact List.Pairwise.imp_of_mem (fun hx hy e => .inr ⟨by rw [h _ hx,h _ hy],e⟩) asc_sorted
 ·refine (List.pairwise_lt_range (n:=k + 1)).imp ?_
  intro a b hab x hx y hy
  obtain ⟨_,T,rfl,h⟩:=(mem_asc ris_nil).1 hx
  obtain ⟨_,U,rfl,h'⟩:=(mem_asc ris_nil).1 hy
  exact .inl (by omega)
theorem lesL_irr {x y : List Int} (h : lesL x y) (h' : lesL y x) : False:=by
 rcases h with h | ⟨h1,h2⟩ <;> rcases h' with h' | ⟨h3,h4⟩
 ·omega
 ·omega
 ·omega
 ·rw [ear_asym h2] at h4; cases h4
theorem hasI_iff {l : List Int} {n : Int} : hasI l n = true ↔ n ∈ l:=by
 unfold hasI
 rw [List.any_eq_true]
 constructor
 ·rintro ⟨i,hi,h⟩
  rw [List.mem_range] at hi
  have h:=of_decide_eq_true (by simpa using h : decide (l.getD i 0 = n) = true)
  rw [← h,List.getD_eq_getElem?_getD,List.getElem?_eq_getElem hi]
  exact List.getElem_mem hi
 ·intro h
  obtain ⟨i,hi,rfl⟩:=List.mem_iff_getElem.1 h
  exact ⟨i,List.mem_range.2 hi,by simp [List.getD_eq_getElem?_getD,hi]⟩
theorem risL_ris {l : List Int} {k : Nat} (hk : 1 ≤ k) : risL l ((k : Int) - 1) = true ↔ ris k l:=by
 unfold risL
 rw [List.all_eq_true]
 simp only [List.mem_range,risR,Bool.and_eq_true,inR_iff,Bool.not_eq_true',Bool.and_eq_false_iff,decide_eq_false_iff_not]
 constructor
 ·intro h
  have at' : ∀ i (hi : i < l.length),l.getD i 0 = l[i]:=fun i hi => by simp [List.getD_eq_getElem?_getD,hi]
  refine ⟨fun x hx => ?_,?_⟩
  ·obtain ⟨i,hi,rfl⟩:=List.mem_iff_getElem.1 hx
   have:=(h i hi).1
   rw [at' i hi] at this
   omega
  ·rw [List.pairwise_iff_getElem]
   intro i j hi hj hij
   obtain ⟨d,rfl⟩ : ∃ d,j = i + 1 + d:=⟨j - i - 1,by omega⟩
   clear hij
   induction d with
   |
    zero =>
    have:=(h (i + 1) hj).2
    rw [at' _ hj,Nat.add_sub_cancel,at' _ hi] at this
    omega
   |
    succ d ih =>
    have h1:=ih (by omega)
    have:=(h (i + 1 + (d + 1)) hj).2
    rw [at' _ hj,show i + 1 + (d + 1) - 1 = i + 1 + d by omega,at' _ (by omega)] at this
    omega
 ·rintro ⟨h1,h2⟩ i hi
  have at' : ∀ i (hi : i < l.length),l.getD i 0 = l[i]:=fun i hi => by simp [List.getD_eq_getElem?_getD,hi]
  have m:=h1 _ (List.getElem_mem hi)
  rw [at' i hi]
  refine ⟨by omega,?_⟩
  by_cases e : 0 < i
  ·right
   have:=List.pairwise_iff_getElem.1 h2 (i - 1) i (by omega) hi (by omega)
   rw [at' _ (by omega)]
   omega
  ·exact .inl e
def rnA (g : List Int) : Nat → Int × Int
 | 0 => (0,0)
 |
  k + 1 => let r:=(if hasI g (g.getD k 0 - 1) then (rnA g k).2 else 0) + 1
  (if r > (rnA g k).1 then r else (rnA g k).1,r)
def rn (g : List Int) : Int:=(rnA g g.length).1
def rnB (g : List Int) : Nat → Int × Int
 | 0 => (0,0)
 | t + 1 => if hasI g t then (if (rnB g t).2 + 1 > (rnB g t).1 then (rnB g t).2 + 1 else (rnB g t).1,(rnB g t).2 + 1) else ((rnB g t).1,0)
def rnsB (k : Nat) : Bool:=(alls k).all fun g => decide (rn g = (rnB g k).1)
theorem rns_all : (List.range 6).all rnsB = true:=by decide +kernel
theorem rn_eq {k : Nat} {g : List Int} (hk : k ≤ 5) (h : ris k g) : rn g = (rnB g k).1:=by
 have:=List.all_eq_true.1 rns_all k (List.mem_range.2 (by omega))
 exact of_decide_eq_true (List.all_eq_true.1 this g (mem_alls.2 h))
def rnsC : Bool:=(alls 5).all fun g => (alls 5).all fun h => !(h.all fun x => hasI g x) || (decide (rn h ≤ rn g) && decide (h.length ≤ g.length))
theorem rns_sub : rnsC = true:=by decide +kernel
theorem ris_mono {k k' : Nat} {g : List Int} (hk : k ≤ k') (h : ris k g) : ris k' g:=⟨fun x hx => by have:=h.1 x hx; omega,h.2⟩
theorem rn_sub {k : Nat} {g h : List Int} (hk : k ≤ 5) (hg : ris k g) (hh : ris k h) (hs : ∀ x ∈ h,x ∈ g) : rn h ≤ rn g ∧ h.length ≤ g.length:=by
 have:=List.all_eq_true.1 (List.all_eq_true.1 rns_sub g (mem_alls.2 (ris_mono hk hg))) h (mem_alls.2 (ris_mono hk hh))
 rw [Bool.or_eq_true,Bool.not_eq_true'] at this
 rcases this with h1 | h1
 ·rw [List.all_eq_false] at h1
  obtain ⟨x,hx,h1⟩:=h1
  exact absurd (hasI_iff.2 (hs x hx)) h1
 ·simpa using h1
structure Bk where
 t : Trap
 dr : Int
 rn : Int
 so : List Int
abbrev bkV (b : Bk) (o w s : AV) : AV:=.agg [I b.t.ch,I b.t.tm,o,w,I b.dr,I b.rn,s]
structure BkOk (b : Bk) (o w s : AV) : Prop where
 t : TrOk b.t o w
 s : IsSl 1 intL b.so s
 ss : b.so.length ≤ 40
structure BkIn (b : Bk) (o w s : AV) : Prop where
 t : TrIn b.t o w
 s : IsSl 1 intL b.so s
def Bk.valid (b : Bk) : Bool:=b.t.valid && inR b.dr 0 5 && inR b.rn 0 5 && risL b.so (b.t.tm - 1)
def Bk.can (b : Bk) (g : List Int) : Bool:=decide ((g.length : Int) ≤ b.dr) && decide (S.rn g ≤ b.rn) && !(g.any fun x => hasI b.so x)
theorem can_sub {b : Bk} {k : Nat} {g h : List Int} (hk : k ≤ 5) (hg : ris k g) (hh : ris k h) (hs : ∀ x ∈ h,x ∈ g) (c : b.can g = true) : b.can h = true:=by
 have:=rn_sub hk hg hh hs
 simp only [Bk.can,Bool.and_eq_true,decide_eq_true_eq,Bool.not_eq_true',List.any_eq_false] at c ⊢
 exact ⟨⟨by omega,by omega⟩,fun x hx => c.2 x (hs x hx)⟩
def kpL (ws : List Wd) (q : Nat → Bool) (k : Nat) : List Wd:=((List.range k).filter fun i => !q i).map fun i => ws.getD i default
theorem kpL_no {ws : List Wd} {q : Nat → Bool} {k : Nat} (h : q k = false) : kpL ws q (k + 1) = kpL ws q k ++ [ws.getD k default]:=by
 simp [kpL,List.range_succ,h]
theorem kpL_yes {ws : List Wd} {q : Nat → Bool} {k : Nat} (h : q k = true) : kpL ws q (k + 1) = kpL ws q k:=by
 simp [kpL,List.range_succ,h]
theorem kpL_len {ws : List Wd} {q : Nat → Bool} {k : Nat} : (kpL ws q k).length ≤ k:=by
 have:=List.length_filter_le (fun i => !q i) (List.range k)
 simpa [kpL] using this
theorem mem_kpL {ws : List Wd} {q : Nat → Bool} {k : Nat} {y : Wd} : y ∈ kpL ws q k ↔ ∃ i,i < k ∧ q i = false ∧ ws.getD i default = y:=by
 simp only [kpL,List.mem_map,List.mem_filter,List.mem_range,Bool.not_eq_true']
 constructor
 ·rintro ⟨i,⟨a,b⟩,c⟩; exact ⟨i,a,b,c⟩
 ·rintro ⟨i,a,b,c⟩; exact ⟨i,⟨a,b⟩,c⟩
theorem kpL_congr {ws : List Wd} {q q' : Nat → Bool} {k : Nat} (h : ∀ i,i < k → q i = q' i) : kpL ws q k = kpL ws q' k:=by
 unfold kpL
 congr 1
 exact List.filter_congr fun i hi => by rw [h i (List.mem_range.1 hi)]
def Trap.kp (t : Trap) (q : Nat → Bool) : Trap:=⟨t.ch,t.tm,t.op,kpL t.ws q t.ws.length⟩
theorem kp_trb {t : Trap} {q : Nat → Bool} (V : TrB t) : TrB (t.kp q):=by
 have:=@kpL_len t.ws q t.ws.length
 have v:=V.w
 refine ⟨V.c0,V.c1,V.t0,V.t1,V.o,by show (kpL _ _ _).length ≤ 9; omega,V.ro,fun y hy => ?_⟩
 obtain ⟨i,hi,_,rfl⟩:=mem_kpL.1 hy
 exact V.fw _ (by rw [List.getD_eq_getElem?_getD,List.getElem?_eq_getElem hi]; exact List.getElem_mem hi)
theorem kp_valid {t : Trap} {q : Nat → Bool} (h : t.valid = true) : (t.kp q).valid = true:=by
 have:=@kpL_len t.ws q t.ws.length
 have:=valid_w8 h
 exact trb_valid (kp_trb (valid_trb h)) (by show (kpL _ _ _).length ≤ 8; omega)
theorem TrOk.kp {t : Trap} {o w w' : AV} {q : Nat → Bool} (H : TrOk t o w) (h : IsSl 4 Wd.e (kpL t.ws q t.ws.length) w') : TrOk (t.kp q) o w':=by
 have:=@kpL_len t.ws q t.ws.length
 have:=H.sw
 exact ⟨H.o,h,H.so,by show (kpL _ _ _).length ≤ 40; omega,H.sl⟩
def TrZ (t : Trap) (x : Nat → Int) : Prop:=Tr ⟨t.ch,t.tm,t.op,[]⟩ x
theorem tr_kp {t : Trap} {q : Nat → Bool} {x : Nat → Int} : Tr (t.kp q) x ↔ TrZ t x ∧ ∀ i,i < t.ws.length → q i = false → saysW t.C x (t.ws.getD i default):=by
 constructor
 ·rintro ⟨h,A⟩
  refine ⟨⟨h,⟨A.f,A.m,fun k hk => absurd hk (by simp)⟩⟩,fun i hi hq => ?_⟩
  exact allW.1 A.w _ (mem_kpL.2 ⟨i,hi,hq,rfl⟩)
 ·rintro ⟨⟨h,A⟩,hw⟩
  refine ⟨h,⟨A.f,A.m,allW.2 fun y hy => ?_⟩⟩
  obtain ⟨i,hi,hq,rfl⟩:=mem_kpL.1 hy
  exact hw i hi hq
theorem tr_all {t : Trap} {x : Nat → Int} : Tr t x ↔ TrZ t x ∧ ∀ i,i < t.ws.length → saysW t.C x (t.ws.getD i default):=by
 constructor
 ·rintro ⟨h,A⟩
  exact ⟨⟨h,⟨A.f,A.m,fun k hk => absurd hk (by simp)⟩⟩,A.w⟩
 ·rintro ⟨⟨h,A⟩,hw⟩
  exact ⟨h,⟨A.f,A.m,hw⟩⟩
def qG (t : Trap) (g : List Int) (i : Nat) : Bool:=hasI g (t.ws.getD i default).time
def qL (L : List Int) (i : Nat) : Bool:=hasI L i
noncomputable def solB (t : Trap) : Bool:=@decide (Solv t.C t.T t) (Classical.propDecidable _)
theorem solB_iff {t : Trap} : solB t = true ↔ ∃ x,Tr t x:=by
 exact (@decide_eq_true_iff (Solv t.C t.T t) (Classical.propDecidable _)).trans Iff.rfl
noncomputable def Bk.st (b : Bk) (g : List Int) : Bool:=b.can g && solB (b.t.kp (qG b.t g))
noncomputable def Bk.sts (b : Bk) : List (List Int):=(alls b.t.T).filter b.st
theorem mem_sts {b : Bk} {g : List Int} : g ∈ b.sts ↔ ris b.t.T g ∧ b.can g = true ∧ ∃ x,Tr (b.t.kp (qG b.t g)) x:=by
 unfold Bk.sts Bk.st
 rw [List.mem_filter,mem_alls,Bool.and_eq_true,solB_iff]
end Go.Proofs.YtfknojncfbahpaaGreat.S
namespace Go.Proofs.YtfknojncfbahpaaGreat.S
open Go Go.Am Go.Proofs.YtfknojncfbahpaaGreat.T
set_option maxRecDepth 100000
set_option linter.unusedSimpArgs false
set_option linter.unusedVariables false
theorem w152 {l : List Int} {v : AV} (hv : IsSl 1 intL l v) (hl : l.length ≤ 1000000) (n : Int) (st : Bool) : ∃ x,Iso E 152 [v,I n] st = some (I x) ∧ hasI l n = decide (x ≥ 0):=by
 suffices hh : ∃ x,Iso E 152 [v,I n] st = some (I x) ∧ ((x = -1 ∧ hasI l n = false) ∨ (0 ≤ x ∧ hasI l n = true)) by
  obtain ⟨x,h1,h2⟩:=hh
  refine ⟨x,h1,?_⟩
  rcases h2 with ⟨rfl,h⟩ | ⟨h0,h⟩
  ·rw [h]; rfl
  ·rw [h]; simp [h0]
 by_cases hA : hasI l n = true
 ·have hex : ∃ i,i < l.length ∧ l.getD i 0 = n ∧ ∀ j,j < i → l.getD j 0 ≠ n:=by
   unfold hasI at hA
   rw [List.any_eq_true] at hA
   obtain ⟨i,hi,he⟩:=hA
   rw [List.mem_range] at hi
   induction i using Nat.strongRecOn with
   |
    ind i ih =>
    by_cases hj : ∃ j,j < i ∧ l.getD j 0 = n
    ·obtain ⟨j,h1,h2⟩:=hj
     exact ih j h1 (by omega) (by rw [h2]; simp)
    ·exact ⟨i,hi,by simpa using he,fun j hj' e => hj ⟨j,hj',e⟩⟩
  obtain ⟨K,hK,hKn,hKf⟩:=hex
  refine ⟨K,?_,.inr ⟨by omega,hA⟩⟩
  refine Iso_of (es _ _ _ _) e152 ?_
  simp only [f152]
  simp (disch:=first|assumption|omega|(simp only[az];done)) only [ru,Nat.reduceAdd,Nat.reduceSub,Int.reduceNeg,lenV_sl hv]
  refine G_loop_ind (fun m ts h mk => ∃ (i : Nat),i ≤ K ∧ m = l.length - i ∧ ts.length = 19 ∧ ts.getD 0 .undef = v ∧ ts.getD 1 .undef = I n ∧ ts.getD 7 .undef = I l.length ∧ ts.getD 8 .undef = I i ∧ h = [] ∧ mk = []) ?_ _ _ _ _
   ⟨0,Nat.zero_le _,rfl,rfl,rfl,rfl,rfl,rfl,rfl,rfl⟩
  rintro m ts h mk ih ⟨i,hi',rfl,hl',q0,q1,q7,q8,rfl,rfl⟩
  rw [lit_all hl']
  simp only [lit0,litS,Nat.reduceAdd,q0,q1,q7,q8]
  have hlt : (i : Int) < l.length:=by omega
  obtain ⟨x,hx⟩ : ∃ x,x = l.getD i default:=⟨_,rfl⟩
  have hx' : l.getD i 0 = x:=hx.symm
  by_cases hi2 : i = K
  ·subst hi2
   have e : x = n:=by rw [← hx']; exact hKn
   simp (disch:=first|assumption|omega|(simp only[az];done)) only [ru,eq_self,if_true,if_false,BEq.rfl,binI,loadV,Am.part,Int.reduceNeg,elem_sl intE hv,hlt,Int.toNat_natCast,← hx,e]
  ·have e : ¬ x = n:=by rw [← hx']; exact hKf i (by omega)
   have e' : (n == x) = false:=by simpa using fun h => e h.symm
   simp (disch:=first|assumption|omega|(simp only[az];done)) only [ru,eq_self,if_true,if_false,binI,loadV,Am.part,Int.reduceNeg,elem_sl intE hv,hlt,Int.toNat_natCast,← hx,e']
   exact ih (l.length - (i + 1)) _ _ _ (by omega) ⟨i + 1,by omega,rfl,rfl,rfl,rfl,rfl,rfl,rfl,rfl⟩
 ·have hA0 : hasI l n = false:=by simpa using hA
  have hno : ∀ i,i < l.length → l.getD i 0 ≠ n:=by
   intro i hi e
   exact hA (any_yes (p:=fun i => l.getD i 0 == n) hi (by simp only [e,BEq.rfl]))
  refine ⟨-1,?_,.inl ⟨rfl,hA0⟩⟩
  refine Iso_of (es _ _ _ _) e152 ?_
  simp only [f152]
  simp (disch:=first|assumption|omega|(simp only[az];done)) only [ru,Nat.reduceAdd,Nat.reduceSub,Int.reduceNeg,lenV_sl hv]
  refine G_loop_ind (fun m ts h mk => ∃ (i : Nat),i ≤ l.length ∧ m = l.length - i ∧ ts.length = 19 ∧ ts.getD 0 .undef = v ∧ ts.getD 1 .undef = I n ∧ ts.getD 7 .undef = I l.length ∧ ts.getD 8 .undef = I i ∧ h = [] ∧ mk = []) ?_ _ _ _ _
   ⟨0,Nat.zero_le _,rfl,rfl,rfl,rfl,rfl,rfl,rfl,rfl⟩
  rintro m ts h mk ih ⟨i,hi',rfl,hl',q0,q1,q7,q8,rfl,rfl⟩
  rw [lit_all hl']
  simp only [lit0,litS,Nat.reduceAdd,q0,q1,q7,q8]
  simp (disch:=first|assumption|omega|(simp only[az];done)) only [ru,eq_self,if_true,binI,Int.reduceNeg]
  by_cases hlt : (i : Int) < l.length
  case neg =>
   simp (disch:=first|assumption|omega|(simp only[az];done)) only [ru,eq_self,Int.reduceNeg,hlt]
  obtain ⟨x,hx⟩ : ∃ x,x = l.getD i default:=⟨_,rfl⟩
  have hx' : l.getD i 0 = x:=hx.symm
  have e : ¬ x = n:=by rw [← hx']; exact hno i (by omega)
  have e' : (n == x) = false:=by simpa using fun h => e h.symm
  simp (disch:=first|assumption|omega|(simp only[az];done)) only [ru,eq_self,if_true,if_false,binI,loadV,Am.part,Int.reduceNeg,elem_sl intE hv,hlt,Int.toNat_natCast,← hx,e']
  exact ih (l.length - (i + 1)) _ _ _ (by omega) ⟨i + 1,by omega,rfl,rfl,rfl,rfl,rfl,rfl,rfl,rfl⟩
theorem w137 {l : List Int} {v : AV} (hv : IsSl 1 intL l v) (hl : l.length ≤ 1000000) (n : Int) (st : Bool) : Iso E 137 [v,I n] st = some (Bo (hasI l n)):=by
 obtain ⟨x,h1,h2⟩:=w152 hv hl n true
 obtain ⟨x',h1',h2'⟩:=w152 hv hl n false
 refine Iso_of (es _ _ _ _) e137 ?_
 simp only [f137]
 first
 | (rw [h2]; simp (disch:=first|assumption|omega|(simp only[az];done)) only [ru,Nat.reduceAdd,Nat.reduceSub,view_sl hv,pure_sl hv]; done)
 | (rw [h2']; simp (disch:=first|assumption|omega|(simp only[az];done)) only [ru,eq_self,if_true,binI,Nat.reduceAdd,Nat.reduceSub,view_sl hv,pure_sl hv,h1']; done)
theorem w108 (n lo hi : Int) (st : Bool) : Iso E 108 [I n,I lo,I hi] st = some (Bo (inR n lo hi)):=by
 refine Iso_of (es _ _ _ _) e108 ?_
 simp only [f108,inR]
 simp (disch:=first|assumption|omega|(simp only[az];done)) only [ru,eq_self,if_true,binI,Nat.reduceAdd,Nat.reduceSub]
 by_cases h1 : lo ≤ n
 ·simp (disch:=first|assumption|omega|(simp only[az];done)) only [ru,eq_self,if_true,binI,h1]
 ·simp (disch:=first|assumption|omega|(simp only[az];done)) only [ru,eq_self,if_false,h1]
theorem w89 (n lo hi : Int) (st : Bool) : Iso E 89 [I n,I lo,I hi] st = some (Bo (inR n lo hi)):=by
 refine Iso_of (es _ _ _ _) e89 ?_
 simp only [f89]
 simp (disch:=first|assumption|omega|(simp only[az];done)) only [ru,eq_self,Nat.reduceAdd,Nat.reduceSub,s30]
theorem w111 {l : List Int} {v : AV} (hv : IsSl 1 intL l v) (hl : l.length ≤ 1000000) (n : Int) (st : Bool) : Iso E 111 [v,I n] st = some (Bo (hasI l n)):=by
 have c:=fun st => w137 hv hl n st
 refine Iso_of (es _ _ _ _) e111 ?_
 simp only [f111]
 simp (disch:=first|assumption|omega|(simp only[az];done)) only [ru,eq_self,Nat.reduceAdd,Nat.reduceSub,view_sl hv,pure_sl hv,c]
section
variable {b : Bk} {o w s : AV}
theorem w74 (H : BkOk b o w s) (n : Int) (st : Bool) : Iso E 74 [bkV b o w s,I n] st = some (Bo (inR n 0 (wr .i64 (b.t.tm - 1)))):=by
 refine Iso_of (es _ _ _ _) e74 ?_
 obtain ⟨x,hx⟩ : ∃ x,x = wr .i64 (b.t.tm - 1):=⟨_,rfl⟩
 simp only [f74,bkV,← hx]
 simp (disch:=first|assumption|omega|(simp only[az];done)) only [ru,eq_self,if_true,if_false,binI,AO.row?,loadV,Am.rowAt,Am.part,addOff,Nat.reduceAdd,Nat.reduceSub,← hx,w108]
theorem w75 (H : BkOk b o w s) (n : Int) (st : Bool) : Iso E 75 [bkV b o w s,I n] st = some (Bo (inR n 0 (wr .i64 (b.t.ch - 1)))):=by
 refine Iso_of (es _ _ _ _) e75 ?_
 obtain ⟨x,hx⟩ : ∃ x,x = wr .i64 (b.t.ch - 1):=⟨_,rfl⟩
 simp only [f75,bkV,← hx]
 simp (disch:=first|assumption|omega|(simp only[az];done)) only [ru,eq_self,if_true,if_false,binI,AO.row?,loadV,Am.rowAt,Am.part,addOff,Nat.reduceAdd,Nat.reduceSub,← hx,w108]
theorem w72 (H : BkOk b o w s) (n : Int) (st : Bool) : Iso E 72 [bkV b o w s,I n] st = some (Bo (inR n 0 ((b.t.ws.length : Int) - 1))):=by
 have sw:=H.t.sw
 refine Iso_of (es _ _ _ _) e72 ?_
 simp only [f72,bkV]
 simp (disch:=first|assumption|omega|(simp only[az];done)) only [ru,eq_self,if_true,if_false,binI,AO.row?,loadV,Am.rowAt,Am.part,addOff,Nat.reduceAdd,Nat.reduceSub,lenV_sl H.t.w,w108]
theorem w69 (H : BkOk b o w s) (h1 : 1 ≤ b.t.tm) (h2 : b.t.tm ≤ 5) {l : List Int} {v : AV} (hv : IsSl 1 intL l v) (hl : l.length ≤ 1000000) (st : Bool) : Iso E 69 [bkV b o w s,v] st = some (Bo (risL l (b.t.tm - 1))):=by
 obtain ⟨A,hA⟩ : ∃ A,A = risL l (b.t.tm - 1):=⟨_,rfl⟩
 rw [← hA]
 unfold risL at hA
 refine Iso_of (es _ _ _ _) e69 ?_
 simp only [f69,bkV]
 simp (disch:=first|assumption|omega|(simp only[az];done)) only [ru,Nat.reduceAdd,Nat.reduceSub,Int.reduceNeg,lenV_sl hv]
 refine G_loop_ind (fun m ts h mk => ∃ (i : Nat) (z : Int),i ≤ l.length ∧ m = l.length - i ∧ ((List.range i).all fun i => risR l 0 (b.t.tm - 1) i) = true ∧ z = befA l i ∧ -1 ≤ z ∧ z ≤ 4 ∧
   ts.length = 25 ∧ ts.getD 8 .undef = v ∧ ts.getD 2 .undef = .ptr 0 0 ∧ ts.getD 5 .undef = I z ∧ ts.getD 9 .undef = I l.length ∧ ts.getD 10 .undef = I i ∧ h = [.cells [I b.t.ch,I b.t.tm,o,w,I b.dr,I b.rn,s] false] ∧ mk = []) ?_ _ _ _ _
  ⟨0,-1,Nat.zero_le _,rfl,rfl,rfl,by omega,by omega,rfl,rfl,rfl,rfl,rfl,rfl,rfl,rfl⟩
 rintro m ts h mk ih ⟨i,z,hi,rfl,hall,hz,z1,z2,hl',q8,q2,q5,q9,q10,rfl,rfl⟩
 rw [lit_all hl']
 simp only [lit0,litS,Nat.reduceAdd,q8,q2,q5,q9,q10]
 simp (disch:=first|assumption|omega|(simp only[az];done)) only [ru,eq_self,if_true,binI]
 by_cases hlt : (i : Int) < l.length
 case neg =>
  obtain rfl : i = l.length:=by omega
  have A1 : A = true:=by rw [hA]; exact hall
  simp (disch:=first|assumption|omega|(simp only[az];done)) only [ru,eq_self,hlt,A1]
 have hi2 : i < l.length:=by omega
 obtain ⟨x,hx⟩ : ∃ x,x = l.getD i default:=⟨_,rfl⟩
 have hx' : l.getD i 0 = x:=hx.symm
 have eq : inR x (z + 1) (b.t.tm - 1) = risR l 0 (b.t.tm - 1) i:=by
  unfold risR
  rw [hx']
  unfold befA at hz
  by_cases e : i = 0
  ·subst e; rw [if_pos rfl] at hz; subst hz; simp
  ·rw [if_neg e] at hz
   rw [← hz,Bool.eq_iff_iff]
   simp only [inR_iff,Bool.and_eq_true,Bool.not_eq_true',Bool.and_eq_false_iff,decide_eq_false_iff_not]
   have hp:=List.all_eq_true.1 hall (i - 1) (List.mem_range.2 (by omega))
   unfold risR at hp
   rw [← hz] at hp
   simp only [inR_iff,Bool.and_eq_true] at hp
   omega
 cases hs : inR x (z + 1) (b.t.tm - 1)
 ·have A0 : A = false:=by rw [hA]; exact range_not hi2 (eq.symm.trans hs)
  simp (disch:=first|assumption|omega|(simp only[az];done)) only [ru,eq_self,if_true,if_false,binI,AO.row?,loadV,Am.rowAt,Am.part,addOff,Int.toNat_natCast,elem_sl intE hv,hlt,← hx,w108,hs,A0]
 ·have hxb:=inR_iff.1 hs
  simp (disch:=first|assumption|omega|(simp only[az];done)) only [ru,eq_self,if_true,if_false,binI,AO.row?,loadV,Am.rowAt,Am.part,addOff,Int.toNat_natCast,elem_sl intE hv,hlt,← hx,w108,hs]
  refine ih (l.length - (i + 1)) _ _ _ (by omega) ⟨i + 1,x,by omega,rfl,range_all_succ hall (eq.symm.trans hs),?_,by omega,by omega,rfl,rfl,rfl,rfl,rfl,rfl,rfl,rfl⟩
  unfold befA
  rw [if_neg (by omega),Nat.add_sub_cancel,hx']
def chkB (b : Bk) : Int:=if b.valid then 0 else 110
theorem w91 (H : BkOk b o w s) (st : Bool) : Iso E 91 [bkV b o w s] st = some (Bo b.valid):=by
 refine Iso_of (es _ _ _ _) e91 ?_
 have c1:=fun st => s54 H.t st
 have ss:=H.ss
 simp only [f91,bkV,trV,chkE] at c1 ⊢
 cases hv : b.t.valid
 ·simp only [hv,Bool.false_eq_true,if_false] at c1
  have e : b.valid = false:=by simp [Bk.valid,hv]
  simp (disch:=first|assumption|omega|(simp only[az];done)) only [ru,eq_self,if_true,if_false,binI,AO.row?,loadV,Am.rowAt,Am.part,addOff,Nat.reduceAdd,Nat.reduceSub,Int.reduceEq,view_sl H.t.o,view_sl H.t.w,pure_sl H.t.o,pure_sl H.t.w,c1,e]
 have V:=valid_trb hv
 have c2:=fun st => w69 H V.t0 V.t1 H.s (by omega) st
 simp only [hv,if_true] at c1
 simp only [bkV] at c2
 cases h1 : inR b.dr 0 5
 ·have e : b.valid = false:=by simp [Bk.valid,h1]
  simp (disch:=first|assumption|omega|(simp only[az];done)) only [ru,eq_self,if_true,if_false,BEq.rfl,binI,AO.row?,loadV,Am.rowAt,Am.part,addOff,Nat.reduceAdd,Nat.reduceSub,view_sl H.t.o,view_sl H.t.w,pure_sl H.t.o,pure_sl H.t.w,c1,w108,h1,e]
 cases h2 : inR b.rn 0 5
 ·have e : b.valid = false:=by simp [Bk.valid,h2]
  simp (disch:=first|assumption|omega|(simp only[az];done)) only [ru,eq_self,if_true,if_false,BEq.rfl,binI,AO.row?,loadV,Am.rowAt,Am.part,addOff,Nat.reduceAdd,Nat.reduceSub,view_sl H.t.o,view_sl H.t.w,pure_sl H.t.o,pure_sl H.t.w,c1,w108,h1,h2,e]
 have e : b.valid = risL b.so (b.t.tm - 1):=by simp [Bk.valid,hv,h1,h2]
 simp (disch:=first|assumption|omega|(simp only[az];done)) only [ru,eq_self,if_true,if_false,BEq.rfl,binI,AO.row?,loadV,Am.rowAt,Am.part,addOff,Nat.reduceAdd,Nat.reduceSub,view_sl H.t.o,view_sl H.t.w,view_sl H.s,pure_sl H.t.o,pure_sl H.t.w,pure_sl H.s,c1,w108,h1,h2,c2,e]
theorem w48 (H : BkOk b o w s) (st : Bool) : Iso E 48 [bkV b o w s] st = some (I (chkB b)):=by
 refine Iso_of (es _ _ _ _) e48 ?_
 have c1:=fun st => w91 H st
 simp only [f48,bkV,chkB] at c1 ⊢
 cases hv : b.valid <;> simp only [hv] at c1
 ·simp (disch:=first|assumption|omega|(simp only[az];done)) only [ru,eq_self,if_true,if_false,AO.row?,loadV,Am.rowAt,Am.part,Nat.reduceAdd,Nat.reduceSub,view_sl H.t.o,view_sl H.t.w,view_sl H.s,pure_sl H.t.o,pure_sl H.t.w,pure_sl H.s,c1]
  done
 ·simp (disch:=first|assumption|omega|(simp only[az];done)) only [ru,eq_self,if_true,AO.row?,loadV,Am.rowAt,Am.part,Nat.reduceAdd,Nat.reduceSub,view_sl H.t.o,view_sl H.t.w,view_sl H.s,pure_sl H.t.o,pure_sl H.t.w,pure_sl H.s,c1]
  done
theorem w49 (H : BkOk b o w s) (st : Bool) : Iso E 49 [bkV b o w s] st = some (I (chkB b)):=by
 refine Iso_of (es _ _ _ _) e49 ?_
 have c1:=fun st => s55 H.t st
 have ss:=H.ss
 simp only [f49,bkV,trV,chkE,chkB] at c1 ⊢
 cases hv : b.t.valid
 ·simp only [hv,Bool.false_eq_true,if_false] at c1
  have e : b.valid = false:=by simp [Bk.valid,hv]
  simp (disch:=first|assumption|omega|(simp only[az];done)) only [ru,eq_self,if_true,if_false,binI,AO.row?,loadV,Am.rowAt,Am.part,addOff,Nat.reduceAdd,Nat.reduceSub,Int.reduceEq,view_sl H.t.o,view_sl H.t.w,pure_sl H.t.o,pure_sl H.t.w,c1,e,if_false]
 have V:=valid_trb hv
 have v1:=V.t0; have v2:=V.t1
 have c2:=fun lo hi st => s52 H.s (by omega) lo hi st
 simp only [hv,if_true] at c1
 cases h1 : inR b.dr 0 5
 ·have e : b.valid = false:=by simp [Bk.valid,h1]
  simp (disch:=first|assumption|omega|(simp only[az];done)) only [ru,eq_self,if_true,if_false,binI,AO.row?,loadV,Am.rowAt,Am.part,addOff,Nat.reduceAdd,Nat.reduceSub,view_sl H.t.o,view_sl H.t.w,pure_sl H.t.o,pure_sl H.t.w,c1,w89,h1,e,if_false]
 cases h2 : inR b.rn 0 5
 ·have e : b.valid = false:=by simp [Bk.valid,h2]
  simp (disch:=first|assumption|omega|(simp only[az];done)) only [ru,eq_self,if_true,if_false,binI,AO.row?,loadV,Am.rowAt,Am.part,addOff,Nat.reduceAdd,Nat.reduceSub,view_sl H.t.o,view_sl H.t.w,pure_sl H.t.o,pure_sl H.t.w,c1,w89,h1,h2,e,if_false]
 have e : b.valid = risL b.so (b.t.tm - 1):=by simp [Bk.valid,hv,h1,h2]
 cases h3 : risL b.so (b.t.tm - 1) <;> unfold risL at h3
 ·rw [risL,h3] at e
  simp (disch:=first|assumption|omega|(simp only[az];done)) only [ru,eq_self,if_true,if_false,binI,AO.row?,loadV,Am.rowAt,Am.part,addOff,Nat.reduceAdd,Nat.reduceSub,view_sl H.t.o,view_sl H.t.w,view_sl H.s,pure_sl H.t.o,pure_sl H.t.w,pure_sl H.s,c1,w89,h1,h2,c2,h3,e,if_false]
 ·rw [risL,h3] at e
  simp (disch:=first|assumption|omega|(simp only[az];done)) only [ru,eq_self,if_true,if_false,binI,AO.row?,loadV,Am.rowAt,Am.part,addOff,Nat.reduceAdd,Nat.reduceSub,view_sl H.t.o,view_sl H.t.w,view_sl H.s,pure_sl H.t.o,pure_sl H.t.w,pure_sl H.s,c1,w89,h1,h2,c2,h3,e]
end
end Go.Proofs.YtfknojncfbahpaaGreat.S
namespace Go.Proofs.YtfknojncfbahpaaGreat.S
open Go Go.Am Go.Proofs.YtfknojncfbahpaaGreat.T
set_option maxRecDepth 100000
set_option linter.unusedSimpArgs false
set_option linter.unusedVariables false
theorem any_upto_succ {α : Type} {l : List α} {q : α → Bool} {d : α} {i : Nat} (hi : i < l.length) (h : (l.take i).any q = false) (hq : q (l.getD i d) = false) : (l.take (i + 1)).any q = false:=by
 rw [List.take_succ_eq_append_getElem hi,List.any_append,h]
 simpa [List.getD_eq_getElem?_getD,hi] using hq
theorem any_at {α : Type} {l : List α} {q : α → Bool} {d : α} {i : Nat} (hi : i < l.length) (hq : q (l.getD i d) = true) : l.any q = true:=by
 rw [List.any_eq_true]
 exact ⟨l[i],List.getElem_mem hi,by simpa [List.getD_eq_getElem?_getD,hi] using hq⟩
theorem rnA_bd {g : List Int} : ∀ k,0 ≤ (rnA g k).1 ∧ (rnA g k).1 ≤ k ∧ 0 ≤ (rnA g k).2 ∧ (rnA g k).2 ≤ k
 | 0 => by simp [rnA]
 |
  k + 1 => by
  have:=rnA_bd (g:=g) k
  simp only [rnA]
  split <;> split <;> omega
theorem w138 {g : List Int} {v : AV} (hv : IsSl 1 intL g v) (hg : ris 5 g) (st : Bool) : Iso E 138 [v] st = some (I (rn g)):=by
 have hl:=ris_len hg
 refine Iso_of (es _ _ _ _) e138 ?_
 simp only [f138,rn]
 simp (disch:=first|assumption|omega|(simp only[az];done)) only [ru,Nat.reduceSub,lenV_sl hv]
 refine G_loop_ind (fun m ts h mk => ∃ (i : Nat),i ≤ g.length ∧ m = g.length - i ∧ ts.length = 25 ∧ ts.getD 0 .undef = v ∧ ts.getD 7 .undef = v ∧ ts.getD 3 .undef = I (rnA g i).1 ∧ ts.getD 4 .undef = I (rnA g i).2 ∧ ts.getD 8 .undef = I g.length ∧ ts.getD 9 .undef = I i ∧ h = [] ∧ mk = []) ?_ _ _ _ _
  ⟨0,Nat.zero_le _,rfl,rfl,rfl,rfl,rfl,rfl,rfl,rfl,rfl,rfl⟩
 rintro m ts h mk ih ⟨i,hi,rfl,hl',q0,q7,q3,q4,q8,q9,rfl,rfl⟩
 rw [lit_all hl']
 have bd:=rnA_bd (g:=g) i
 have su : rnA g (i + 1) = ((if (if hasI g (g.getD i 0 - 1) then (rnA g i).2 else 0) + 1 > (rnA g i).1 then (if hasI g (g.getD i 0 - 1) then (rnA g i).2 else 0) + 1 else (rnA g i).1),(if hasI g (g.getD i 0 - 1) then (rnA g i).2 else 0) + 1):=rfl
 obtain ⟨a,ha⟩ : ∃ a,a = (rnA g i).1:=⟨_,rfl⟩
 obtain ⟨r,hr⟩ : ∃ r,r = (rnA g i).2:=⟨_,rfl⟩
 rw [← ha,← hr] at bd su
 rw [← ha] at q3
 rw [← hr] at q4
 simp only [lit0,litS,Nat.reduceAdd,q0,q7,q3,q4,q8,q9]
 simp (disch:=first|assumption|omega|(simp only[az];done)) only [ru,eq_self,if_true,binI]
 by_cases hlt : (i : Int) < g.length
 case neg =>
  obtain rfl : i = g.length:=by omega
  simp (disch:=first|assumption|omega|(simp only[az];done)) only [ru,hlt]
  rw [← ha]
 have hi2 : i < g.length:=by omega
 obtain ⟨x,hx⟩ : ∃ x,x = g.getD i default:=⟨_,rfl⟩
 have hx' : g.getD i 0 = x:=hx.symm
 have hxb:=hg.1 x (by rw [hx]; exact getD_mem hi2)
 have c:=fun st => w111 hv (by omega) (x - 1) st
 rw [hx'] at su
 cases hh : hasI g (x - 1) <;> rw [hh] at c su <;> simp only [if_true,if_false,Bool.false_eq_true] at su
 ·simp (disch:=first|assumption|omega|(simp only[az];done)) only [ru,eq_self,if_true,if_false,binI,mmAll,loadV,Am.part,Int.reduceAdd,elem_sl intE hv,view_sl hv,pure_sl hv,hlt,Int.toNat_natCast,← hx,c]
  refine ih (g.length - (i + 1)) _ _ _ (by omega) ⟨i + 1,by omega,rfl,rfl,rfl,rfl,?_,?_,rfl,rfl,rfl,rfl⟩
  ·rw [su]; simp only [List.getD_cons_succ,List.getD_cons_zero]; unfold mmx; split <;> split <;> first | rfl | (simp only [AV.int.injEq,true_and] <;> omega) | (exfalso; simp_all <;> omega)
  ·rw [su]; rfl
 ·simp (disch:=first|assumption|omega|(simp only[az];done)) only [ru,eq_self,if_true,if_false,binI,mmAll,loadV,Am.part,elem_sl intE hv,view_sl hv,pure_sl hv,hlt,Int.toNat_natCast,← hx,c]
  refine ih (g.length - (i + 1)) _ _ _ (by omega) ⟨i + 1,by omega,rfl,rfl,rfl,rfl,?_,?_,rfl,rfl,rfl,rfl⟩
  ·rw [su]; simp only [List.getD_cons_succ,List.getD_cons_zero]; unfold mmx; split <;> split <;> first | rfl | (simp only [AV.int.injEq,true_and] <;> omega) | (exfalso; simp_all <;> omega)
  ·rw [su]; rfl
theorem w153 {L : List Int} {v : AV} {h : List AO} (H : IsSl 1 intL L v) (hl : L.length ≤ 41) {q : Int → Bool} {k : Nat} {fst : AV} (hq : ∀ x ∈ L,Ro E k [fst,I x] h = some (Bo (q x))) :
  ∃ j : Int,Ro E 153 [v,.fn k [fst] []] h = some (I j) ∧ ((j = -1 ∧ L.any q = false) ∨ ∃ i : Nat,j = i ∧ i < L.length ∧ q (L.getD i 0) = true ∧ L.any q = true):=by
 refine (fun x => ?_ : (∃ w,Ro E 153 [v,.fn k [fst] []] h = some w ∧ ∃ j : Int,w = I j ∧ ((j = -1 ∧ L.any q = false) ∨ ∃ i : Nat,j = i ∧ i < L.length ∧ q (L.getD i 0) = true ∧ L.any q = true)) → _) (Ro_ex (fun r => ∃ j : Int,r = I j ∧ ((j = -1 ∧ L.any q = false) ∨ ∃ i : Nat,j = i ∧ i < L.length ∧ q (L.getD i 0) = true ∧ L.any q = true)) (by rintro _ ⟨j,rfl,_⟩; rfl) (es _ _ _ _) e153 ?_)
 ·obtain ⟨w,hv,j,rfl,hj⟩:=x; exact ⟨j,hv,hj⟩
 have ep:=elem_in H
 simp only [f153]
 simp (disch:=first|assumption|omega|(simp only[az];done)) only [ru,Nat.reduceAdd,Nat.reduceSub,Int.reduceNeg,lenV_sl H]
 refine G_loop_ind (fun m ts hh mk => ∃ i : Nat,i ≤ L.length ∧ m = L.length - i ∧ (L.take i).any q = false ∧ ts.length = 19 ∧ ts.getD 0 .undef = v ∧ ts.getD 1 .undef = .fn k [fst] [] ∧ ts.getD 7 .undef = I L.length ∧ ts.getD 8 .undef = I i ∧ hh = h ∧ mk = []) ?_ _ _ _ _
  ⟨0,Nat.zero_le _,rfl,rfl,rfl,rfl,rfl,rfl,rfl,rfl,rfl⟩
 rintro m ts hh mk ih ⟨i,hi,rfl,hall,hl',q0,q1,q7,q8,rfl,rfl⟩
 rw [lit_all hl']
 simp only [lit0,litS,Nat.reduceAdd,q0,q1,q7,q8]
 simp (disch:=first|assumption|omega|(simp only[az];done)) only [ru,eq_self,if_true,binI,Int.reduceNeg]
 by_cases hlt : (i : Int) < L.length
 case pos =>
  have hi' : i < L.length:=by omega
  have nx:=any_upto_succ (d:=0) hi' hall
  have ya:=any_at (d:=0) (q:=q) hi'
  have hmem : L.getD i 0 ∈ L:=getD_memI hi'
  obtain ⟨x,hx⟩ : ∃ x,x = L.getD i 0:=⟨_,rfl⟩
  have hr:=hq x (by rw [hx]; exact hmem)
  rw [← hx] at nx ya 
  cases hc : q x
  ·rw [hc] at hr
   simp (disch:=first|assumption|omega|(simp only[az];done)) only [ru,eq_self,if_true,if_false,binI,loadV,Am.part,Int.reduceNeg,hlt,ep,Int.toNat_natCast,← hx,hr]
   exact ih (L.length - (i + 1)) _ _ _ (by omega) ⟨i + 1,by omega,rfl,nx hc,rfl,rfl,rfl,rfl,rfl,rfl,rfl⟩
  ·rw [hc] at hr
   simp (disch:=first|assumption|omega|(simp only[az];done)) only [ru,eq_self,if_true,if_false,loadV,Am.part,Int.reduceNeg,hlt,ep,Int.toNat_natCast,← hx,hr]
   exact ⟨i,rfl,.inr ⟨i,rfl,hi',by rw [← hx]; exact hc,ya hc⟩⟩
 obtain rfl : i = L.length:=by omega
 rw [List.take_length] at hall
 simp (disch:=first|assumption|omega|(simp only[az];done)) only [ru,Int.reduceNeg,hlt]
 exact ⟨-1,rfl,.inl ⟨rfl,hall⟩⟩
theorem w139 {L : List Int} {v : AV} {h : List AO} (H : IsSl 1 intL L v) (hl : L.length ≤ 41) {q : Int → Bool} {k : Nat} {fst : AV} (hq : ∀ x ∈ L,Ro E k [fst,I x] h = some (Bo (q x))) : Ro E 139 [v,.fn k [fst] []] h = some (Bo (L.any q)):=by
 obtain ⟨j,hr,hj⟩:=w153 H hl hq
 have e : decide (j ≥ 0) = L.any q:=by
  rcases hj with ⟨rfl,e⟩ | ⟨i,rfl,_,_,e⟩
  ·rw [e]; rfl
  ·rw [e]; simp
 refine Ro_of (es _ _ _ _) e139 ?_
 simp only [f139]
 simp (disch:=first|assumption|omega|(simp only[az];done)) only [ru,eq_self,if_true,binI,Nat.reduceAdd,Nat.reduceSub,hr]
 rw [e]; exact ⟨rfl,rfl⟩
theorem w111r {l : List Int} {v : AV} (hv : IsSl 1 intL l v) (hl : l.length ≤ 1000000) (n : Int) (h : List AO) : Ro E 111 [v,I n] h = some (Bo (hasI l n)):=by
 have c:=fun st => w137 hv hl n st
 refine Ro_of (es _ _ _ _) e111 ?_
 simp only [f111]
 simp (disch:=first|assumption|omega|(simp only[az];done)) only [ru,eq_self,Nat.reduceAdd,Nat.reduceSub,view_sl hv,pure_sl hv,c]
 rfl
abbrev wkC (b : Bk) (o w s sv : AV) : List AV:=[I b.t.ch,I b.t.tm,o,w,I b.dr,I b.rn,s,sv]
abbrev wkV (b : Bk) (o w s sv : AV) : AV:=.agg (wkC b o w s sv)
section
variable {b : Bk} {o w s : AV}
theorem any_comm {g so : List Int} : (so.any fun x => hasI g x) = g.any fun x => hasI so x:=by
 rw [Bool.eq_iff_iff]
 simp only [List.any_eq_true,hasI_iff]
 exact ⟨fun ⟨x,a,b⟩ => ⟨x,b,a⟩,fun ⟨x,a,b⟩ => ⟨x,b,a⟩⟩
theorem w112 (H : BkOk b o w s) {sv : AV} (hsv : sv.scalar = true) {g : List Int} {v : AV} (hv : IsSl 1 intL g v) (hg : ris 5 g) (h : List AO) : Ro E 112 [wkV b o w s sv,v] h = some (Bo (b.can g)):=by
 have hl:=ris_len hg
 have ss:=H.ss
 have c1:=fun st => w138 hv hg st
 have c2:=fun J => w139 (h:=h ++ J) H.s (by omega) (q:=fun x => hasI g x) (k:=111) (fst:=v) (fun x _ => w111r hv (by omega) x _)
 rw [any_comm] at c2
 unfold Bk.can
 obtain ⟨A,hA⟩ : ∃ A,A = g.any fun x => hasI b.so x:=⟨_,rfl⟩
 rw [← hA] at c2 ⊢
 refine Ro_of (es _ _ _ _) e112 ?_
 simp only [f112,wkV]
 by_cases h1 : (g.length : Int) ≤ b.dr
 ·by_cases h2 : rn g ≤ b.rn
  ·simp (disch:=first|assumption|omega|(simp only[az];done)) only [ru,eq_self,if_true,if_false,binI,AO.row?,loadV,Am.rowAt,Am.part,addOff,Nat.reduceAdd,Nat.reduceSub,lenV_sl hv,view_sl hv,pure_sl hv,lenE,h1,h2,c1,c2]
   rfl
  ·simp (disch:=first|assumption|omega|(simp only[az];done)) only [ru,eq_self,if_true,if_false,binI,AO.row?,loadV,Am.rowAt,Am.part,addOff,Nat.reduceAdd,Nat.reduceSub,lenV_sl hv,view_sl hv,pure_sl hv,lenE,h1,h2,c1]
   rfl
 ·simp (disch:=first|assumption|omega|(simp only[az];done)) only [ru,eq_self,if_true,if_false,binI,AO.row?,loadV,Am.rowAt,Am.part,addOff,Nat.reduceAdd,Nat.reduceSub,lenV_sl hv,lenE,h1]
  rfl
theorem w110 (H : BkOk b o w s) {sv : AV} {g : List Int} {v : AV} (hv : IsSl 1 intL g v) (hl : g.length ≤ 41) {h : List AO} {pg pb : Nat} (h1 : h[pg]? = some (.cells [v] false)) (h2 : h[pb]? = some (.cells (wkC b o w s sv) false)) {i : Nat} (hi : i < b.t.ws.length) :
  Ro E 110 [I i,.ptr pg 0,.ptr pb 0] h = some (Bo (qG b.t g i)):=by
 obtain ⟨y,hy⟩ : ∃ y,y = b.t.ws.getD i default:=⟨_,rfl⟩
 have c:=fun st => w111 hv (by omega) y.time st
 have hi' : (i : Int) < b.t.ws.length:=by omega
 unfold qG
 rw [← hy]
 simp only [wkC] at h2
 refine Ro_of (es _ _ _ _) e110 ?_
 simp only [f110]
 simp (disch:=first|assumption|omega|(simp only[az];done)) only [ru,eq_self,if_true,if_false,AO.row?,loadV,Am.rowAt,Am.part,addOff,Nat.reduceAdd,Nat.reduceSub,elem_sl Wd.el H.t.w,Int.toNat_natCast,view_sl hv,pure_sl hv,h1,h2,← hy,Wd.e,c]
 rfl
theorem w124 {L : List Int} {v : AV} (hv : IsSl 1 intL L v) (hl : L.length ≤ 41) {h : List AO} {p : Nat} (h1 : h[p]? = some (.cells [v] false)) (i : Nat) : Ro E 124 [I i,.ptr p 0] h = some (Bo (qL L i)):=by
 have c:=fun st => s112 hv (by omega) i st
 refine Ro_of (es _ _ _ _) e124 ?_
 simp only [f124,qL]
 simp (disch:=first|assumption|omega|(simp only[az];done)) only [ru,eq_self,if_true,if_false,AO.row?,loadV,Am.rowAt,Am.part,Nat.reduceAdd,Nat.reduceSub,view_sl hv,pure_sl hv,h1,c]
 rfl
end
end Go.Proofs.YtfknojncfbahpaaGreat.S
namespace Go.Proofs.YtfknojncfbahpaaGreat.S
open Go Go.Am Go.Proofs.YtfknojncfbahpaaGreat.T
set_option maxRecDepth 100000
set_option linter.unusedSimpArgs false
set_option linter.unusedVariables false
theorem outE_ap {α : Type} {enc : α → List AV} {esz eb : Nat} (he : ∀ a,(enc a).length = esz) (hs : ∀ a,(enc a).all AV.scalar = true) (h1 : 1 ≤ esz) (heb : 1 ≤ eb) (hb : eb ≤ 1000) {b : Nat} {h : List AO} {v : AV} {l : List α} {lim : Nat} (H : OutE enc esz b h v l) (hbl : b ≤ h.length) (hlim : lim ≤ b) (hl : l.length ≤ 1000000) (x : α) :
  ∃ v' h',appV lim h esz eb v (.cs esz 1 (enc x)) = some (v',h') ∧ OutE enc esz b h' v' (l ++ [x]) ∧ b ≤ h'.length ∧ ∀ j,j < b → h'[j]? = h[j]?:=by
 have hp : (h.take b).length = b:=by rw [List.length_take]; omega
 have e : h.take b ++ h.drop b = h:=List.take_append_drop b h
 have H' : OutE enc esz (h.take b).length (h.take b ++ h.drop b) v l:=by rw [hp,e]; exact H
 obtain ⟨v',J',ha,ho⟩:=outE_app he hs h1 heb hb H' (by rw [hp]; exact hlim) hl x
 rw [e] at ha
 rw [hp] at ho
 refine ⟨v',h.take b ++ J',ha,ho,by rw [List.length_append,hp]; omega,fun j hj => ?_⟩
 rw [List.getElem?_append_left (by omega),List.getElem?_take,if_pos hj]
theorem OutE.fr {α : Type} {enc : α → List AV} {esz b : Nat} {h h' : List AO} {v : AV} {l : List α} (H : OutE enc esz b h v l) (F : Fr h h') : OutE enc esz b h' v l:=by
 rcases H with h1 | ⟨hne,o,hb,e,hc⟩
 ·exact .inl h1
 ·exact .inr ⟨hne,o,hb,e,F.at hc⟩
theorem OutE.set {α : Type} {enc : α → List AV} {esz b j : Nat} {h : List AO} {v : AV} {l : List α} {x : AO} (H : OutE enc esz b h v l) (hj : j < b) : OutE enc esz b (h.set j x) v l:=by
 rcases H with h1 | ⟨hne,o,hb,e,hc⟩
 ·exact .inl h1
 ·exact .inr ⟨hne,o,hb,e,by rw [List.getElem?_set_ne (by omega)]; exact hc⟩
theorem OutE.le {α : Type} {enc : α → List AV} {esz b b' : Nat} {h : List AO} {v : AV} {l : List α} (H : OutE enc esz b h v l) (hb : b' ≤ b) : OutE enc esz b' h v l:=by
 rcases H with h1 | ⟨hne,o,hbo,e,hc⟩
 ·exact .inl h1
 ·exact .inr ⟨hne,o,by omega,e,hc⟩
theorem OutE.sc {α : Type} {enc : α → List AV} {esz b : Nat} {h : List AO} {v : AV} {l : List α} (H : OutE enc esz b h v l) : v.cells = [v] ∧ v.scalar = true:=by
 rcases H with ⟨_,rfl⟩ | ⟨_,o,_,rfl,_⟩ <;> exact ⟨rfl,rfl⟩
def resW (l : List Wd) : AV:=if l = [] then .nils else slV 4 Wd.e l
theorem resW_is (l : List Wd) : IsSl 4 Wd.e l (resW l):=by
 unfold resW; split
 ·exact .inr ⟨rfl,by assumption⟩
 ·exact slV_is
theorem Wd.iv (y : Wd) : ∀ x ∈ y.e,∃ k i,x = AV.int k i:=by
 intro x hx
 simp only [Wd.e,List.mem_cons,List.not_mem_nil,or_false] at hx
 rcases hx with rfl | rfl | rfl | rfl <;> exact ⟨_,_,rfl⟩
theorem OutE.viewW {b : Nat} {h : List AO} {v : AV} {l : List Wd} (H : OutE Wd.e 4 b h v l) {st : Bool} {k : Nat} : Am.view st h (k + 1) v = some (resW l):=by
 by_cases hne : l = []
 ·subst hne
  rcases H with ⟨_,rfl⟩ | ⟨h,_⟩
  ·rfl
  ·exact absurd rfl h
 ·rw [resW,if_neg hne]
  exact outE_view Wd.el H hne fun a => mapM_view fun x hx => by
   obtain ⟨k,i,rfl⟩:=Wd.iv a x hx
   exact view_int
section
variable {b : Bk} {o w s : AV}
set_option maxHeartbeats 2000000 in
theorem w109 (H : BkOk b o w s) {sv : AV} (hsv : sv.scalar = true) {q : Nat → Bool} {k : Nat} {cap : List AV} {h : List AO} {lim : Nat} (hlim : lim ≤ h.length)
  (hq : ∀ i : Nat,i < b.t.ws.length → ∀ h',Fr h h' → Ro E k (I i :: cap) h' = some (Bo (q i))) :
  ∃ wv h',R E (.fn 109) [wkV b o w s sv,.fn k [] cap] h lim = some (.agg [I b.t.ch,I b.t.tm,o,wv],h') ∧ Fr h h' ∧ OutE Wd.e 4 h.length h' wv (kpL b.t.ws q b.t.ws.length):=by
 have sw:=H.t.sw
 suffices hh : ∃ r h',R E (.fn 109) [wkV b o w s sv,.fn k [] cap] h lim = some (r,h') ∧ ∃ wv,r = .agg [I b.t.ch,I b.t.tm,o,wv] ∧ Fr h h' ∧ OutE Wd.e 4 h.length h' wv (kpL b.t.ws q b.t.ws.length) by
  obtain ⟨r,h',hr,wv,rfl,h2⟩:=hh
  exact ⟨wv,h',hr,h2⟩
 refine R_of (f:=109) (fun r h' => ∃ wv,r = .agg [I b.t.ch,I b.t.tm,o,wv] ∧ Fr h h' ∧ OutE Wd.e 4 h.length h' wv (kpL b.t.ws q b.t.ws.length)) (es _ _ _ _) e109 ?_
 simp only [f109,wkV,wkC]
 have p1 : lim ≤ h.length + 1:=by omega
 have p2 : lim ≤ h.length + 2:=by omega
 simp (disch:=first|assumption|omega|(simp only[az];done)) only [ru,eq_self,if_true,if_false,AO.row?,splice,loadV,storeV,Am.rowAt,Am.part,addOff,Nat.reduceAdd,Nat.reduceLeDiff,Nat.reduceSub,lenV_sl H.t.w,scalar_sl H.t.o,scalar_sl H.t.w,p2,List.append_assoc,lenE,setT,atT,atT0]
 refine G_loop_ind (fun m ts hk mk => ∃ (i : Nat) (wv : AV),i ≤ b.t.ws.length ∧ m = b.t.ws.length - i ∧ h.length + 2 < hk.length ∧ (∀ j,j < h.length → hk[j]? = h[j]?) ∧ hk[h.length + 1]? = some (.cells [I 0,I 0,.nils,.nils] false) ∧
   hk[h.length + 2]? = some (.cells [I b.t.ch,I b.t.tm,o,wv] false) ∧ OutE Wd.e 4 (h.length + 3) hk wv (kpL b.t.ws q i) ∧
   ts.length = 34 ∧ ts.getD 1 .undef = .fn k [] cap ∧ ts.getD 4 .undef = .ptr (h.length + 1) 0 ∧ ts.getD 5 .undef = .ptr (h.length + 2) 0 ∧ ts.getD 15 .undef = w ∧ ts.getD 16 .undef = I b.t.ws.length ∧ ts.getD 17 .undef = I i ∧ mk = []) ?_ _ _ _ _
  ⟨0,.nils,Nat.zero_le _,rfl,by simp,fun j hj => by rw [List.getElem?_append_left hj],by rw [atT]; rfl,by rw [atT]; rfl,.inl ⟨rfl,rfl⟩,rfl,rfl,rfl,rfl,rfl,rfl,rfl,rfl⟩
 rintro m ts hk mk ih ⟨i,wv,hi,rfl,n0,k0,e1,e2,ho,hl',q1,q4,q5,q15,q16,q17,rfl⟩
 rw [lit_all hl']
 simp only [lit0,litS,Nat.reduceAdd,q1,q4,q5,q15,q16,q17]
 simp (disch:=first|assumption|omega|(simp only[az];done)) only [ru,eq_self,if_true,binI]
 by_cases hlt : (i : Int) < b.t.ws.length
 case neg =>
  obtain rfl : i = b.t.ws.length:=by omega
  have n1 : h.length + 1 < hk.length:=by omega
  have hput : lim ≤ h.length + 1:=by omega
  simp (disch:=first|assumption|omega|(simp only[az];done)) only [ru,eq_self,if_true,AO.row?,splice,loadV,storeV,Am.rowAt,Am.part,Nat.reduceAdd,Nat.reduceLeDiff,scalar_sl H.t.o,hlt,e1,e2,ho.sc.2,hput,finC,getRes,List.getElem?_set_self n1,Option.some.injEq,exists_eq_left']
  refine ⟨wv,rfl,⟨by rw [List.length_set]; omega,fun j hj => by rw [List.getElem?_set_ne (by omega)]; exact k0 j hj⟩,(ho.set (by omega)).le (by omega)⟩
 have hi2 : i < b.t.ws.length:=by omega
 have hl2 : lim ≤ hk.length:=by omega
 obtain ⟨y,hy⟩ : ∃ y,y = b.t.ws.getD i default:=⟨_,rfl⟩
 have fr : Fr h (hk ++ [.cells y.e false]):=⟨by simp; omega,fun j hj => by rw [List.getElem?_append_left (by omega)]; exact k0 j hj⟩
 have cq:=hq i hi2 _ fr
 have f2 : (hk ++ [AO.cells y.e false])[h.length + 2]? = some (.cells [I b.t.ch,I b.t.tm,o,wv] false):=by rw [List.getElem?_append_left n0]; exact e2
 have f1 : (hk ++ [AO.cells y.e false])[h.length + 1]? = some (.cells [I 0,I 0,.nils,.nils] false):=by rw [List.getElem?_append_left (by omega)]; exact e1
 simp only [Wd.e] at cq f2 f1
 cases hc : q i <;> rw [hc] at cq
 ·obtain ⟨v',h',ha,ho',hb',hk'⟩:=outE_ap (lim:=lim) (eb:=32) Wd.el Wd.sc (by omega) (by omega) (by omega) (ho.fr (Fr.app hk [.cells y.e false])) (by simp; omega) (by omega) (by have:=@kpL_len b.t.ws q i; omega) y
  simp only [Wd.e] at ha
  have g2 : h'[h.length + 2]? = some (.cells [I b.t.ch,I b.t.tm,o,wv] false):=by rw [hk' _ (by omega)]; exact f2
  have g1 : h'[h.length + 1]? = some (.cells [I 0,I 0,.nils,.nils] false):=by rw [hk' _ (by omega)]; exact f1
  have hput : lim ≤ h.length + 2:=by omega
  simp (disch:=first|assumption|omega|(simp only[az];done)) only [ru,eq_self,if_true,if_false,binI,AO.row?,splice,fillL,loadV,storeV,zeros,Am.rowAt,Am.part,addOff,Nat.reduceAdd,Nat.reduceMul,Nat.reduceLeDiff,elem_sl Wd.el H.t.w,Int.toNat_natCast,hlt,← hy,Wd.e,hl2,cq,f2,ha,g2,hput,ho'.sc.1,ho'.sc.2]
  refine ih (b.t.ws.length - (i + 1)) _ _ _ (by omega) ⟨i + 1,v',by omega,rfl,by rw [List.length_set]; omega,fun j hj => ?_,?_,?_,?_,rfl,rfl,rfl,rfl,rfl,rfl,rfl,rfl⟩
  ·rw [List.getElem?_set_ne (by omega),hk' _ (by omega),List.getElem?_append_left (by omega)]; exact k0 j hj
  ·rw [List.getElem?_set_ne (by omega)]; exact g1
  ·rw [List.getElem?_set_self (by omega)]
  ·rw [kpL_no hc,← hy]; exact ho'.set (by omega)
 ·simp (disch:=first|assumption|omega|(simp only[az];done)) only [ru,eq_self,if_true,binI,splice,loadV,storeV,Am.part,Nat.reduceAdd,Nat.reduceLeDiff,elem_sl Wd.el H.t.w,Int.toNat_natCast,hlt,← hy,Wd.e,hl2,cq]
  refine ih (b.t.ws.length - (i + 1)) _ _ _ (by omega) ⟨i + 1,wv,by omega,rfl,by simp; omega,fun j hj => ?_,f1,f2,?_,rfl,rfl,rfl,rfl,rfl,rfl,rfl,rfl⟩
  ·rw [List.getElem?_append_left (by omega)]; exact k0 j hj
  ·rw [kpL_yes hc]; exact ho.fr (Fr.app _ _)
end
theorem w113 {t : Trap} {o w : AV} (H : TrOk t o w) (hv : t.valid = true) (st : Bool) : Iso E 113 [trV t o w] st = some (Bo (solB t)):=by
 obtain ⟨v,e,c,A⟩:=s33 H
 refine Iso_of (es _ _ _ _) e113 ?_
 simp only [f113,trV] at c ⊢
 cases A with
 | bad h => rw [hv] at h; cases h
 |
  none _ hn =>
  have e : solB t = false:=by
   cases h : solB t
   ·rfl
   ·exact absurd (solB_iff.1 h) hn
  simp (disch:=first|assumption|omega|(simp only[az];done)) only [ru,eq_self,if_true,binI,AO.row?,loadV,Am.rowAt,Am.part,Nat.reduceAdd,Nat.reduceSub,Int.reduceEq,view_sl H.o,view_sl H.w,pure_sl H.o,pure_sl H.w,c,e]
 |
  @ok x _ hx =>
  have e : solB t = true:=solB_iff.2 ⟨_,hx⟩
  have i1 : IsSl 1 Ls.e (numL t.C t.T x) (slV 1 Ls.e (numL t.C t.T x)):=slV_is
  simp (disch:=first|assumption|omega|(simp only[az];done)) only [ru,eq_self,if_true,BEq.rfl,binI,AO.row?,loadV,Am.rowAt,Am.part,Nat.reduceAdd,Nat.reduceSub,view_sl H.o,view_sl H.w,pure_sl H.o,pure_sl H.w,c,e]
section
variable {b : Bk} {o w s : AV}
set_option maxHeartbeats 2000000 in
theorem w70 (H : BkOk b o w s) (hb : b.t.valid = true) {sv : AV} (hsv : sv.scalar = true) {g : List Int} {gv : AV} (hv : IsSl 1 intL g gv) (hg : ris 5 g) {h : List AO} {lim : Nat} (hlim : lim ≤ h.length) :
  ∃ wv h',R E (.fn 70) [wkV b o w s sv,gv] h lim = some (.tup [.agg [gv,I b.t.ch,I b.t.tm,o,wv],Bo (b.st g)],h') ∧ Fr h h' ∧ OutE Wd.e 4 h.length h' wv (kpL b.t.ws (qG b.t g) b.t.ws.length):=by
 have gl:=ris_len hg
 suffices hh : ∃ r h',R E (.fn 70) [wkV b o w s sv,gv] h lim = some (r,h') ∧ ∃ wv,r = .tup [.agg [gv,I b.t.ch,I b.t.tm,o,wv],Bo (b.st g)] ∧ Fr h h' ∧ OutE Wd.e 4 h.length h' wv (kpL b.t.ws (qG b.t g) b.t.ws.length) by
  obtain ⟨r,h',hr,wv,rfl,h2⟩:=hh
  exact ⟨wv,h',hr,h2⟩
 refine R_of (f:=70) (fun r h' => ∃ wv,r = .tup [.agg [gv,I b.t.ch,I b.t.tm,o,wv],Bo (b.st g)] ∧ Fr h h' ∧ OutE Wd.e 4 h.length h' wv (kpL b.t.ws (qG b.t g) b.t.ws.length)) (es _ _ _ _) e70 ?_
 obtain ⟨h3,hh3⟩ : ∃ h3 : List AO,h3 = h ++ [.cells (wkC b o w s sv) false,.cells [gv] false,.cells [.nils,I 0,I 0,.nils,.nils] false]:=⟨_,rfl⟩
 have l3 : h3.length = h.length + 3:=by rw [hh3]; simp
 have a0 : h3[h.length]? = some (.cells (wkC b o w s sv) false):=by rw [hh3,atT0]; rfl
 have a1 : h3[h.length + 1]? = some (.cells [gv] false):=by rw [hh3,atT]; rfl
 have a2 : h3[h.length + 2]? = some (.cells [.nils,I 0,I 0,.nils,.nils] false):=by rw [hh3,atT]; rfl
 have fr0 : Fr h h3:=by rw [hh3]; exact Fr.app _ _
 obtain ⟨wv,h',hr,fr,ho⟩:=w109 H hsv (q:=qG b.t g) (k:=110) (cap:=[.ptr (h.length + 1) 0,.ptr h.length 0]) (h:=h3) (lim:=lim) (by omega) (fun i hi g' fg => w110 H hv (by omega) (fg.at a1) (fg.at a0) hi)
 have l4:=fr.l
 have b0:=fr.at a0
 have b1:=fr.at a1
 have b2:=fr.at a2
 have m0 : h.length < h'.length:=by omega
 have m1 : h.length + 1 < h'.length:=by omega
 have m2 : h.length + 2 < h'.length:=by omega
 obtain ⟨X,hX⟩ : ∃ X : AO,X = .cells [I b.t.ch,I b.t.tm,o,wv] false:=⟨_,rfl⟩
 have d0 : (h' ++ [X])[h.length]? = some (.cells (wkC b o w s sv) false):=by rw [List.getElem?_append_left m0]; exact b0
 have d1 : (h' ++ [X])[h.length + 1]? = some (.cells [gv] false):=by rw [List.getElem?_append_left m1]; exact b1
 have d2 : (h' ++ [X])[h.length + 2]? = some (.cells [.nils,I 0,I 0,.nils,.nils] false):=by rw [List.getElem?_append_left m2]; exact b2
 have d3 : h.length + 2 < (h' ++ [X]).length:=by simp; omega
 have K:=H.t.kp (resW_is (kpL b.t.ws (qG b.t g) b.t.ws.length))
 have c113:=fun st => w113 K (kp_valid hb) st
 have c112:=fun J => w112 H hsv hv hg J
 have vw:=fun st => (ho.fr (Fr.app h' [X])).viewW (st:=st) (k:=6)
 have hput : lim ≤ h.length + 2:=by omega
 have hput2 : lim ≤ h'.length:=by omega
 have fin : Fr h ((h' ++ [X]).set (h.length + 2) (.cells [gv,I b.t.ch,I b.t.tm,o,wv] false)):=(fr0.trans (fr.trans (Fr.app h' [X]))) |> fun F => ⟨by rw [List.length_set]; exact F.l,fun j hj => by rw [List.getElem?_set_ne (by omega)]; exact F.k j hj⟩
 have fin2 : OutE Wd.e 4 h.length ((h' ++ [X]).set (h.length + 2) (.cells [gv,I b.t.ch,I b.t.tm,o,wv] false)) wv (kpL b.t.ws (qG b.t g) b.t.ws.length):=((ho.fr (Fr.app h' [X])).set (by omega)).le (by omega)
 have est : b.st g = (b.can g && solB (b.t.kp (qG b.t g))):=rfl
 obtain ⟨A,hA⟩ : ∃ A,A = solB (b.t.kp (qG b.t g)):=⟨_,rfl⟩
 rw [← hA] at c113 est
 simp only [trV,show (b.t.kp (qG b.t g)).ch = b.t.ch from rfl,show (b.t.kp (qG b.t g)).tm = b.t.tm from rfl] at c113
 rw [hh3] at hr
 rw [hX] at d0 d1 d2 d3 vw fin fin2
 simp only [wkC] at d0 d1 d2 hr c112
 simp only [f70,wkV,wkC] at hr c112 ⊢
 cases hcan : b.can g <;> rw [hcan] at c112 est
 ·rw [Bool.false_and] at est
  rw [est]
  simp (disch:=first|assumption|omega|(simp only[az];done)) only [ru,eq_self,if_true,if_false,AO.row?,splice,fillL,loadV,storeV,Am.rowAt,Am.part,Nat.reduceAdd,Nat.reduceLeDiff,Nat.reduceSub,scalar_sl H.t.o,scalar_sl hv,cells_sl hv,List.append_assoc,lenE,setT0,atT0,hr,ho.sc.2,d0,d1,d2,c112,hput,hput2,finC2,getRes,List.getElem?_set_self d3,Option.some.injEq,exists_eq_left']
  exact ⟨wv,rfl,fin,fin2⟩
 ·rw [Bool.true_and] at est
  rw [est]
  simp (disch:=first|assumption|omega|(simp only[az];done)) only [ru,eq_self,if_true,if_false,AO.row?,splice,fillL,loadV,storeV,Am.rowAt,Am.part,Nat.reduceAdd,Nat.reduceLeDiff,Nat.reduceSub,view_sl H.t.o,scalar_sl H.t.o,pure_sl H.t.o,scalar_sl hv,cells_sl hv,List.append_assoc,lenE,setT0,atT0,hr,ho.sc.2,d0,d1,d2,c112,c113,vw,hput,hput2,finC2,getRes,List.getElem?_set_self d3,Option.some.injEq,exists_eq_left']
  exact ⟨wv,rfl,fin,fin2⟩
end
end Go.Proofs.YtfknojncfbahpaaGreat.S
namespace Go.Proofs.YtfknojncfbahpaaGreat.S
open Go Go.Am Go.Proofs.YtfknojncfbahpaaGreat.T
set_option maxRecDepth 100000
set_option linter.unusedSimpArgs false
set_option linter.unusedVariables false
def kidsP (L : List Int) (j : Nat) : List (List Int):=((List.range j).filter fun x => decide (frm L ≤ x)).map fun (x : Nat) => L ++ [(x : Int)]
theorem kidsP_no {L : List Int} {j : Nat} (h : ¬ frm L ≤ j) : kidsP L (j + 1) = kidsP L j:=by
 simp [kidsP,List.range_succ,h]
theorem kidsP_yes {L : List Int} {j : Nat} (h : frm L ≤ j) : kidsP L (j + 1) = kidsP L j ++ [L ++ [(j : Int)]]:=by
 simp [kidsP,List.range_succ,h]
theorem kids_len {L M : List Int} {j : Nat} (h : M ∈ kidsP L j) : M.length = L.length + 1:=by
 simp only [kidsP,List.mem_map] at h
 obtain ⟨x,_,rfl⟩:=h
 simp
theorem allsK : (List.range 9).all (fun n => decide (alls n = [] :: (alls n).flatMap fun L => kidsP L n)) = true:=by decide +kernel
theorem allsN : (List.range 9).all (fun n => decide ((alls n).length = 2 ^ n)) = true:=by decide +kernel
theorem alls_kids {n : Nat} (hn : n ≤ 8) : alls n = [] :: (alls n).flatMap fun L => kidsP L n:=of_decide_eq_true (List.all_eq_true.1 allsK n (List.mem_range.2 (by omega)))
theorem alls_len {n : Nat} (hn : n ≤ 8) : (alls n).length = 2 ^ n:=of_decide_eq_true (List.all_eq_true.1 allsN n (List.mem_range.2 (by omega)))
def preA (n a : Nat) : List (List Int):=[] :: ((alls n).take a).flatMap fun L => kidsP L n
theorem preA_zero {n : Nat} : preA n 0 = [[]]:=rfl
theorem preA_succ {n a : Nat} (h : a < (alls n).length) : preA n (a + 1) = preA n a ++ kidsP ((alls n).getD a []) n:=by
 unfold preA
 rw [List.take_succ_eq_append_getElem h,List.flatMap_append]
 simp [List.getD_eq_getElem?_getD,h]
theorem preA_split {n : Nat} (hn : n ≤ 8) (a : Nat) : alls n = preA n a ++ ((alls n).drop a).flatMap fun L => kidsP L n:=by
 conv => lhs; rw [alls_kids hn,← List.take_append_drop a (alls n),List.flatMap_append]
 rfl
theorem preA_all {n : Nat} (hn : n ≤ 8) : preA n (2 ^ n) = alls n:=by
 have:=preA_split hn (2 ^ n)
 rw [List.drop_eq_nil_of_le (by rw [alls_len hn]; exact Nat.le_refl _)] at this
 simpa using this.symm
theorem preA_lt {n a : Nat} (hn : n ≤ 8) (h : a < (alls n).length) : a < (preA n a).length:=by
 apply Nat.lt_of_not_le
 intro hm
 have sp:=preA_split hn a
 obtain ⟨m,hmm⟩ : ∃ m,m = (preA n a).length:=⟨_,rfl⟩
 have hml : m < (alls n).length:=by omega
 have hin : (alls n)[m] ∈ ((alls n).drop a).flatMap fun L => kidsP L n:=by
  have e : (alls n)[m]? = (((alls n).drop a).flatMap fun L => kidsP L n)[m - (preA n a).length]?:=by
   conv => lhs; rw [sp]
   rw [List.getElem?_append_right (by omega)]
  rw [List.getElem?_eq_getElem hml] at e
  exact List.mem_of_getElem? e.symm
 rw [List.mem_flatMap] at hin
 obtain ⟨p,hp,hk⟩:=hin
 have hlen:=kids_len hk
 obtain ⟨j,hj,rfl⟩:=List.mem_iff_getElem.1 hp
 rw [List.getElem_drop] at hlen
 rw [List.length_drop] at hj
 have so:=List.pairwise_iff_getElem.1 (alls_sorted (k:=n))
 rcases Nat.lt_or_ge m (a + j) with h1 | h1
 ·rcases so m (a + j) hml (by omega) h1 with h2 | h2 <;> omega
 ·have : m = a + j:=by omega
  subst this
  omega
theorem preA_at {n a : Nat} (hn : n ≤ 8) (h : a < (alls n).length) : (preA n a).getD a [] = (alls n).getD a []:=by
 have hl:=preA_lt hn h
 have e : (alls n)[a]? = (preA n a)[a]?:=by
  conv => lhs; rw [preA_split hn a]
  rw [List.getElem?_append_left hl]
 simp only [List.getD_eq_getElem?_getD,e]
structure LLv (h : List AO) (v : AV) (L : List (List Int)) (vs : List AV) : Prop where
 o : ∃ o,v = .ms 1 o 0 L.length ∧ h[o]? = some (.cells vs false)
 l : vs.length = L.length
 r : ∀ i,i < L.length → RdS h (vs.getD i .undef) (L.getD i [])
theorem RdS.sc2 {h : List AO} {u : AV} {l : List Int} (H : RdS h u l) : u.scalar = true ∧ ∀ i,u ≠ I i:=by
 rcases H with ⟨_,rfl⟩ | ⟨_,o,sh,rfl,_⟩ <;> exact ⟨rfl,fun i e => by cases e⟩
theorem LLv.app {h : List AO} {v nv : AV} {L : List (List Int)} {vs : List AV} {M : List Int} {p : Nat} (H : LLv h v L vs) (hne : L ≠ []) (hM : RdS h nv M) (hp : h[p]? = some (.cells [nv] false)) (hl : L.length ≤ 1000) :
  ∃ v' h',appV 0 h 1 24 v (.ms 1 p 0 1) = some (v',h') ∧ LLv h' v' (L ++ [M]) (vs ++ [nv]) ∧ ∀ u l,RdS h u l → RdS h' u l:=by
 obtain ⟨⟨o,rfl,hc⟩,hvl,hr⟩:=H
 have ol:=(List.getElem?_eq_some_iff.1 hc).1
 have hrow : Am.rowOf h (.ms 1 p 0 1) = some [nv]:=by
  simp only [rowOf_ms,Am.rowAt,hp,Option.bind_some,AO.row?]; rfl
 have A:=appV_ms (lim:=0) (h:=h) (esz:=1) (eb:=24) (o:=o) (len:=L.length) (n:=1) (x:=.ms 1 p 0 1) (c:=vs) (xs:=[nv]) (sh:=false) hc (by omega) rfl hrow rfl (by simp [hM.sc2.1]) (by omega) (by omega) (by omega)
 rw [if_neg (by omega)] at A
 have keep : ∀ u l,RdS h u l → RdS (h.set o .tomb ++ [.cells (vs ++ [nv]) false]) u l:=by
  rintro u l (h1 | ⟨hn,o',sh,rfl,hc'⟩)
  ·exact .inl h1
  ·refine .inr ⟨hn,o',sh,rfl,?_⟩
   have l':=(List.getElem?_eq_some_iff.1 hc').1
   rw [List.getElem?_append_left (by rw [List.length_set]; exact l'),List.getElem?_set_ne,hc']
   rintro rfl
   rw [hc] at hc'
   simp only [Option.some.injEq,AO.cells.injEq] at hc'
   obtain ⟨hc',_⟩:=hc'
   have h0:=(hr 0 (by cases L with | nil => exact absurd rfl hne | cons => simp)).sc2.2
   match l,hn with
   | x :: l,_ => rw [hc'] at h0; exact h0 x rfl
 refine ⟨_,_,A,⟨⟨h.length,by simp,by rw [List.getElem?_append_right (by simp)]; simp⟩,by simp [hvl],fun i hi => ?_⟩,keep⟩
 simp only [List.getD_eq_getElem?_getD]
 by_cases h1 : i < L.length
 ·rw [List.getElem?_append_left (by omega),List.getElem?_append_left h1,← List.getD_eq_getElem?_getD,← List.getD_eq_getElem?_getD]
  exact keep _ _ (hr i h1)
 ·have : i = L.length:=by simp at hi; omega
  subst this
  rw [List.getElem?_append_right (by omega),List.getElem?_append_right (by omega),hvl]
  simpa using keep _ _ hM
theorem LLv.fr {h h' : List AO} {v : AV} {L : List (List Int)} {vs : List AV} (H : LLv h v L vs) (F : Fr h h') : LLv h' v L vs:=by
 obtain ⟨⟨o,e,hc⟩,hl,hr⟩:=H
 exact ⟨⟨o,e,F.at hc⟩,hl,fun i hi => (hr i hi).fr F⟩
theorem LLv.out {h : List AO} {v : AV} {L : List (List Int)} {vs : List AV} (H : LLv h v L vs) (hne : L ≠ []) : OutLL 0 h v L:=by
 obtain ⟨⟨o,e,hc⟩,hl,hr⟩:=H
 exact .inr ⟨hne,o,vs,Nat.zero_le _,e,hc,hl,hr⟩
theorem more1 {h : List AO} {u : AV} {l : List Int} (H : RdS h u l) (hl : l.length ≤ 1000) {p : Nat} {y : Int} (hp : h[p]? = some (.cells [I y] false)) :
  ∃ m,slice3V 1 u (I l.length) (I l.length) = some m ∧ appV 0 h 1 8 m (.ms 1 p 0 1) = some (.ms 1 h.length 0 (l.length + 1),h ++ [.cells ((l ++ [y]).flatMap fun n => [I n]) false]):=by
 have hrow : Am.rowOf h (.ms 1 p 0 1) = some [I y]:=by
  simp only [rowOf_ms,Am.rowAt,hp,Option.bind_some,AO.row?]; rfl
 rcases H with ⟨rfl,rfl⟩ | ⟨hne,o,sh,rfl,hc⟩
 ·refine ⟨.nils,rfl,?_⟩
  rw [appV_nil (n:=1) (xs:=[I y]) rfl hrow rfl rfl (by omega) (by omega),if_neg (by omega)]
  rfl
 ·refine ⟨_,slice3_ms,?_⟩
  have fl : (l.flatMap fun n => [I n]).length = l.length:=flat1 l
  rw [appV_mc (n:=1) (xs:=[I y]) (c:=l.flatMap fun n => [I n]) (by simp only [Am.rowAt,hc,Option.bind_some,AO.row?]) (by omega) rfl hrow rfl rfl (by omega) (by omega),if_neg (by omega),List.take_of_length_le (by omega),List.flatMap_append]
  rfl
theorem alls_le {k : Nat} (h : k ≤ 8) : (alls k).length ≤ 256:=by
 rw [alls_len h]
 exact Nat.pow_le_pow_right (n:=2) (by omega) h
set_option maxHeartbeats 4000000 in
theorem w122 {n : Nat} (hn : n ≤ 8) (st : Bool) : Iso E 122 [I n] st = some (resLL (alls n)):=by
 suffices hh : ∃ r h',R E (.fn 122) [I n] [] 0 = some (r,h') ∧ OutLL 0 h' r (alls n) by
  obtain ⟨r,h',hr,ho⟩:=hh
  simp only [Iso,hr]; exact ho.view st
 have p2 : (2 : Int) ^ n ≤ 256:=by
  have:=Nat.pow_le_pow_right (n:=2) (by omega) hn
  have e : ((2 ^ n : Nat) : Int) = (2 : Int) ^ n:=by simp
  omega
 obtain ⟨N,hN⟩ : ∃ N,N = 2 ^ n:=⟨_,rfl⟩
 have hN2 : (N : Int) = (2 : Int) ^ n:=by rw [hN]; simp
 have al:=alls_len hn
 rw [← hN] at al
 have N0 : 0 < N:=by rw [hN]; exact Nat.two_pow_pos n
 have n0 : ¬ (n : Int) < 0:=by omega
 have hsh : wr .i64 (1 * 2 ^ min (n : Int).toNat IntKind.i64.bits) = (N : Int):=by
  have e1 : (n : Int).toNat = n:=Int.toNat_natCast n
  have e2 : IntKind.i64.bits = 64:=rfl
  rw [e1,e2,Nat.min_eq_left (by omega),Int.one_mul,hN2,wr64 (by omega) (by omega)]
 refine R_of (f:=122) (fun r h' => OutLL 0 h' r (alls n)) (es _ _ _ _) e122 ?_
 simp only [f122]
 simp (disch:=first|assumption|omega|(simp only[az];done)) only [ru,eq_self,if_true,if_false,binI,splice,fillL,zeros,Nat.reduceMul,Nat.reduceLeDiff,Nat.reduceSub,n0,hsh]
 refine G_loop_ind (fun m ts hk mk => ∃ (a : Nat) (v : AV) (vs : List AV),a ≤ N ∧ m = N - a ∧ LLv hk v (preA n a) vs ∧ ts.length = 49 ∧ ts.getD 0 .undef = I n ∧ ts.getD 3 .undef = v ∧ ts.getD 9 .undef = I N ∧ ts.getD 10 .undef = I a ∧ mk = []) ?_ _ _ _ _
  ⟨0,_,[.nils],Nat.zero_le _,rfl,⟨⟨0,rfl,rfl⟩,rfl,fun i hi => by
   have : i = 0:=by simp [preA_zero] at hi; exact hi
   subst this; exact .inl ⟨rfl,rfl⟩⟩,rfl,rfl,rfl,rfl,rfl,rfl⟩
 rintro m ts hk mk ihA ⟨a,v,vs,ha,rfl,HL,hl',q0,q3,q9,q10,rfl⟩
 rw [lit_all hl']
 simp only [lit0,litS,Nat.reduceAdd,q0,q3,q9,q10]
 simp (disch:=first|assumption|omega|(simp only[az];done)) only [ru,eq_self,if_true,binI]
 by_cases hlt : (a : Int) < N
 case neg =>
  obtain rfl : a = N:=by omega
  simp (disch:=first|assumption|omega|(simp only[az];done)) only [ru,hlt]
  rw [hN,preA_all hn] at HL
  exact HL.out (by rw [alls_kids hn]; simp)
 have ha2 : a < (alls n).length:=by omega
 have pa:=preA_at hn ha2
 have plt:=preA_lt hn ha2
 obtain ⟨L,hL⟩ : ∃ L,L = (alls n).getD a []:=⟨_,rfl⟩
 have su:=preA_succ ha2
 rw [← hL] at pa su
 have hLr : ris n L:=mem_alls.1 (by rw [hL]; exact getD_memL ha2)
 have hLl:=ris_len hLr
 obtain ⟨u,hu⟩ : ∃ u,u = vs.getD a .undef:=⟨_,rfl⟩
 have RL:=HL.r a plt
 rw [pa,← hu] at RL
 have hne : preA n a ≠ []:=by simp [preA]
 have al2:=alls_le hn
 obtain ⟨⟨oo,hv,hc⟩,hvl,hrr⟩:=HL
 have ea : elemAt 1 v (I a) = some (.ptr oo a):=by
  rw [hv,elemAt_ms (by omega) (by omega)]; simp
 have ld : (vs.drop a).head? = some u:=by
  rw [List.head?_drop,hu,List.getD_eq_getElem?_getD,List.getElem?_eq_getElem (by omega)]; rfl
 simp (disch:=first|assumption|omega|(simp only[az];done)) only [ru,if_false,AO.row?,loadV,Am.rowAt,Am.part,hlt,ea,hc,ld]
 have HL : LLv hk v (preA n a) vs:=⟨⟨oo,hv,hc⟩,hvl,hrr⟩
 clear hl' q0 q3 q9 q10 ea ld hrr
 refine G_loop_ind (fun m ts hk mk => ∃ (j : Nat) (v : AV) (vs : List AV),j ≤ n ∧ m = n - j ∧ LLv hk v (preA n a ++ kidsP L j) vs ∧ RdS hk u L ∧ ts.length = 49 ∧ ts.getD 0 .undef = I n ∧ ts.getD 3 .undef = v ∧ ts.getD 4 .undef = I a ∧ ts.getD 5 .undef = u ∧ ts.getD 9 .undef = I N ∧ ts.getD 10 .undef = I a ∧ ts.getD 17 .undef = I n ∧ ts.getD 18 .undef = I j ∧ mk = []) ?_ _ _ _ _
  ⟨0,v,vs,Nat.zero_le _,rfl,by simpa [kidsP] using HL,RL,rfl,rfl,rfl,rfl,rfl,rfl,rfl,rfl,rfl,rfl⟩
 clear HL RL hu hv hc hvl vs v hk
 rintro m ts hk mk ihJ ⟨j,v,vs,hj,rfl,HL,RL,hl',q0,q3,q4,q5,q9,q10,q17,q18,rfl⟩
 rw [lit_all hl']
 simp only [lit0,litS,Nat.reduceAdd,q0,q3,q4,q5,q9,q10,q17,q18]
 simp (disch:=first|assumption|omega|(simp only[az];done)) only [ru,eq_self,if_true,binI]
 by_cases hltj : (j : Int) < n
 case neg =>
  obtain rfl : j = n:=by omega
  simp (disch:=first|assumption|omega|(simp only[az];done)) only [ru,eq_self,if_true,binI,hltj]
  refine ihA (N - (a + 1)) _ _ _ (by omega) ⟨a + 1,v,vs,by omega,rfl,by rw [su]; exact HL,rfl,rfl,rfl,rfl,rfl,rfl⟩
 have kl : (kidsP L j).length ≤ j:=by
  have:=List.length_filter_le (fun x => decide (frm L ≤ x)) (List.range j)
  simpa [kidsP] using this
 have pl : (preA n a).length ≤ 256:=by
  have:=congrArg List.length (preA_split hn a)
  rw [List.length_append] at this
  omega
 have fin : frm L ≤ j → ∀ {m : AV} {x : AO},True:=fun _ _ _ => trivial
 by_cases hfr : frm L ≤ j
 ·obtain ⟨mm,hm1,hm2⟩:=more1 (h:=hk ++ [.cells [I (j : Int)] false]) (RL.fr (Fr.app _ _)) (by omega) (p:=hk.length) (y:=j) atE
  obtain ⟨h2,hh2⟩ : ∃ h2,h2 = hk ++ [AO.cells [I (j : Int)] false] ++ [AO.cells ((L ++ [(j : Int)]).flatMap fun n => [I n]) false]:=⟨_,rfl⟩
  rw [← hh2] at hm2
  have f2 : Fr hk h2:=by rw [hh2]; exact (Fr.app _ _).trans (Fr.app _ _)
  have nv : RdS h2 (.ms 1 (hk ++ [AO.cells [I (j : Int)] false]).length 0 (L.length + 1)) (L ++ [(j : Int)]):=.inr ⟨by simp,(hk ++ [AO.cells [I (j : Int)] false]).length,false,by simp,by rw [hh2]; exact atE⟩
  obtain ⟨v',h',hap,HL',keep⟩:=LLv.app (h:=h2 ++ [.cells [.ms 1 (hk ++ [AO.cells [I (j : Int)] false]).length 0 (L.length + 1)] false]) (p:=h2.length) (HL.fr (f2.trans (Fr.app _ _))) (by simp [preA]) (nv.fr (Fr.app _ _)) atE (by rw [List.length_append]; omega)
  rw [List.append_assoc,← kidsP_yes hfr] at HL'
  have RL':=keep _ _ (RL.fr (f2.trans (Fr.app _ _)))
  by_cases h0 : L.length = 0
  ·have h0' : (L.length : Int) = 0:=by omega
   rw [h0'] at hm1
   simp (disch:=first|assumption|omega|(simp only[az];done)) only [ru,eq_self,if_true,BEq.rfl,binI,splice,fillL,zeros,Nat.reduceMul,Nat.reduceLeDiff,hltj,RL.len.1,h0',pex_slice3,hm1,hm2,hap]
   refine ihJ (n - (j + 1)) _ _ _ (by omega) ⟨j + 1,v',_,by omega,rfl,HL',RL',rfl,rfl,rfl,rfl,rfl,rfl,rfl,rfl,rfl,rfl⟩
  ·have h0' : ¬ (L.length : Int) = 0:=by omega
   rcases RL with ⟨rfl,_⟩ | ⟨hne,o1,sh1,rfl,hc1⟩
   ·simp at h0
   have hd:=flat_head (F:=L) (i:=L.length - 1) (by omega)
   have hb1 : (0 : Int) ≤ (L.length : Int) - 1:=by omega
   have hb2 : (L.length : Int) - 1 < L.length:=by omega
   have et : ((L.length : Int) - 1).toNat = L.length - 1:=by omega
   have hge : L.getD (L.length - 1) 0 < j:=by
    unfold frm at hfr; rw [if_neg h0] at hfr; omega
   simp (disch:=first|assumption|omega|(simp only[az];done)) only [ru,eq_self,if_true,if_false,binI,AO.row?,splice,fillL,loadV,zeros,Am.rowAt,Am.part,Nat.reduceLeDiff,hltj,h0',et,Nat.mul_one,hc1,hd,hge,pex_slice3,hm1,hm2,hap]
   refine ihJ (n - (j + 1)) _ _ _ (by omega) ⟨j + 1,v',_,by omega,rfl,HL',RL',rfl,rfl,rfl,rfl,rfl,rfl,rfl,rfl,rfl,rfl⟩
 ·have h0 : ¬ L.length = 0:=by intro h; unfold frm at hfr; rw [if_pos h] at hfr; omega
  have h0' : ¬ (L.length : Int) = 0:=by omega
  have RL0:=RL
  rcases RL with ⟨rfl,_⟩ | ⟨hne,o1,sh1,rfl,hc1⟩
  ·simp at h0
  have hd:=flat_head (F:=L) (i:=L.length - 1) (by omega)
  have hb1 : (0 : Int) ≤ (L.length : Int) - 1:=by omega
  have hb2 : (L.length : Int) - 1 < L.length:=by omega
  have et : ((L.length : Int) - 1).toNat = L.length - 1:=by omega
  have hm:=hLr.1 (L.getD (L.length - 1) 0) (getD_memI (by omega))
  have hge : ¬ L.getD (L.length - 1) 0 < j:=by
   unfold frm at hfr; rw [if_neg h0] at hfr; omega
  simp (disch:=first|assumption|omega|(simp only[az];done)) only [ru,eq_self,if_true,if_false,binI,AO.row?,loadV,Am.rowAt,Am.part,hltj,h0',et,Nat.mul_one,hc1,hd,hge]
  refine ihJ (n - (j + 1)) _ _ _ (by omega) ⟨j + 1,v,vs,by omega,rfl,by rw [kidsP_no hfr]; exact HL,RL0,rfl,rfl,rfl,rfl,rfl,rfl,rfl,rfl,rfl,rfl⟩
end Go.Proofs.YtfknojncfbahpaaGreat.S
namespace Go.Proofs.YtfknojncfbahpaaGreat.S
open Go Go.Am Go.Proofs.YtfknojncfbahpaaGreat.T
set_option maxRecDepth 100000
set_option linter.unusedSimpArgs false
set_option linter.unusedVariables false
def stE (b : Bk) (o : AV) (g : List Int) : List AV:=[resL g,I b.t.ch,I b.t.tm,o,resW (kpL b.t.ws (qG b.t g) b.t.ws.length)]
theorem stE_len {b : Bk} {o : AV} (g : List Int) : (stE b o g).length = 5:=rfl
def resS (b : Bk) (o : AV) (L : List (List Int)) : AV:=if L = [] then .nils else slV 5 (stE b o) L
theorem resS_is {b : Bk} {o : AV} (L : List (List Int)) : IsSl 5 (stE b o) L (resS b o L):=by
 unfold resS; split
 ·exact .inr ⟨rfl,by assumption⟩
 ·exact slV_is
def rowS (b : Bk) (o : AV) : List (List Int) → List AV → List AV
 | g :: L,wv :: ws => [resL g,I b.t.ch,I b.t.tm,o,wv] ++ rowS b o L ws
 | _,_ => []
theorem rowS_len {b : Bk} {o : AV} : ∀ {L : List (List Int)} {ws : List AV},ws.length = L.length → (rowS b o L ws).length = L.length * 5
 | [],[],_ => rfl
 |
  g :: L,wv :: ws,h => by
  simp only [rowS,List.length_append,List.length_cons,List.length_nil,rowS_len (L:=L) (ws:=ws) (by simpa using h)]
  omega
 | [],_ :: _,h => by simp at h
 | _ :: _,[],h => by simp at h
theorem rowS_snoc {b : Bk} {o : AV} {g : List Int} {wv : AV} : ∀ {L : List (List Int)} {ws : List AV},ws.length = L.length → rowS b o (L ++ [g]) (ws ++ [wv]) = rowS b o L ws ++ [resL g,I b.t.ch,I b.t.tm,o,wv]
 | [],[],_ => rfl
 |
  g' :: L,wv' :: ws,h => by
  simp only [rowS,List.cons_append,rowS_snoc (L:=L) (ws:=ws) (by simpa using h),List.nil_append]
 | [],_ :: _,h => by simp at h
 | _ :: _,[],h => by simp at h
def OutS (b : Bk) (o : AV) (d : Nat) (h : List AO) (v : AV) (L : List (List Int)) : Prop:=(L = [] ∧ v = .nils) ∨ (L ≠ [] ∧ ∃ oo ws,d ≤ oo ∧ v = .ms 5 oo 0 L.length ∧ h[oo]? = some (.cells (rowS b o L ws) false) ∧ ws.length = L.length ∧
 ∀ i,i < L.length → OutE Wd.e 4 d h (ws.getD i .undef) (kpL b.t.ws (qG b.t (L.getD i [])) b.t.ws.length))
theorem OutS.fr {b : Bk} {o : AV} {d : Nat} {h h' : List AO} {v : AV} {L : List (List Int)} (H : OutS b o d h v L) (F : Fr h h') : OutS b o d h' v L:=by
 rcases H with h1 | ⟨hne,oo,ws,ho,rfl,hc,hl,hr⟩
 ·exact .inl h1
 ·exact .inr ⟨hne,oo,ws,ho,rfl,F.at hc,hl,fun i hi => (hr i hi).fr F⟩
theorem OutS.set {b : Bk} {o : AV} {d j : Nat} {h : List AO} {v : AV} {L : List (List Int)} {x : AO} (H : OutS b o d h v L) (hj : j < d) : OutS b o d (h.set j x) v L:=by
 rcases H with h1 | ⟨hne,oo,ws,ho,rfl,hc,hl,hr⟩
 ·exact .inl h1
 ·exact .inr ⟨hne,oo,ws,ho,rfl,by rw [List.getElem?_set_ne (by omega)]; exact hc,hl,fun i hi => (hr i hi).set hj⟩
theorem OutS.le {b : Bk} {o : AV} {d d' : Nat} {h : List AO} {v : AV} {L : List (List Int)} (H : OutS b o d h v L) (hd : d' ≤ d) : OutS b o d' h v L:=by
 rcases H with h1 | ⟨hne,oo,ws,ho,rfl,hc,hl,hr⟩
 ·exact .inl h1
 ·exact .inr ⟨hne,oo,ws,by omega,rfl,hc,hl,fun i hi => (hr i hi).le hd⟩
theorem OutS.sc {b : Bk} {o : AV} {d : Nat} {h : List AO} {v : AV} {L : List (List Int)} (H : OutS b o d h v L) : v.cells = [v] ∧ v.scalar = true ∧ lenV v = some (I L.length):=by
 rcases H with ⟨rfl,rfl⟩ | ⟨_,oo,ws,_,rfl,_⟩ <;> exact ⟨rfl,rfl,rfl⟩
section
variable {b : Bk} {o w s : AV}
theorem resL_sc (g : List Int) : (resL g).scalar = true ∧ (resL g).cells = [resL g]:=by
 unfold resL; split <;> exact ⟨rfl,rfl⟩
theorem resL_ne (g : List Int) (i : Int) : resL g ≠ I i:=by
 unfold resL; split <;> (intro h; cases h)
theorem OutS.view (H : BkOk b o w s) {d : Nat} {h : List AO} {v : AV} {L : List (List Int)} (hS : OutS b o d h v L) {k : Nat} : Am.view false h (k + 2) v = some (resS b o L):=by
 rcases hS with ⟨rfl,rfl⟩ | ⟨hne,oo,ws,ho,rfl,hc,hl,hr⟩
 ·rfl
 have key : ∀ (L : List (List Int)) (ws : List AV),ws.length = L.length → (∀ i,i < L.length → OutE Wd.e 4 d h (ws.getD i .undef) (kpL b.t.ws (qG b.t (L.getD i [])) b.t.ws.length)) → (rowS b o L ws).mapM (Am.view false h (k + 1)) = some (L.flatMap (stE b o)):=by
  intro L
  induction L with
  | nil => intro ws h1 _; rw [List.eq_nil_of_length_eq_zero h1]; rfl
  |
   cons g L ih =>
   intro ws h1 h2
   match ws,h1 with
   |
    wv :: ws,h1 =>
    have e0:=(h2 0 (by simp)).viewW (st:=false) (k:=k)
    simp only [List.getD_cons_zero] at e0
    have e1:=ih ws (by simpa using h1) fun i hi => by
     have:=h2 (i + 1) (by simpa using hi)
     simpa only [List.getD_cons_succ] using this
    have v1 : Am.view false h (k + 1) (resL g) = some (resL g):=view_sl (resL_is g) _ _
    have v2 : Am.view false h (k + 1) o = some o:=view_sl H.t.o _ _
    simp only [rowS,List.flatMap_cons,stE]
    rw [mapM_app,e1]
    simp only [List.mapM_cons,List.mapM_nil,v1,v2,view_int,e0,Option.bind_eq_bind,Option.bind_some,Option.pure_def]
    rfl
 rw [resS,if_neg hne]
 have e:=key L ws hl hr
 have hrl:=rowS_len (b:=b) (o:=o) hl
 simp only [view_ms,rowOf_ms,Am.rowAt,hc,Option.bind_some,AO.row?,List.drop_zero,← hrl,List.take_length,if_true,e]
 rfl
where
 mapM_app {α β : Type} {f : α → Option β} {l m : List α} : (l ++ m).mapM f = (l.mapM f).bind fun x => (m.mapM f).map fun y => x ++ y:=by
  induction l with
  | nil => simp
  |
   cons a l ih =>
   simp only [List.cons_append,List.mapM_cons,ih,Option.bind_eq_bind,Option.pure_def]
   cases f a with
   | none => rfl
   |
    some x =>
    simp only [Option.bind_some]
    cases l.mapM f with
    | none => rfl
    |
     some y =>
     simp only [Option.bind_some]
     cases m.mapM f <;> rfl
theorem app_st (H : BkOk b o w s) {d : Nat} {hk : List AO} {v wv : AV} {L : List (List Int)} {g : List Int} {p lim : Nat} (hS : OutS b o d hk v L) (hE : OutE Wd.e 4 d hk wv (kpL b.t.ws (qG b.t g) b.t.ws.length))
  (hp : hk[p]? = some (.cells [resL g,I b.t.ch,I b.t.tm,o,wv] false)) (hd : d ≤ hk.length) (hlim : lim ≤ d) (hl : L.length ≤ 1000) :
  ∃ v' h',appV lim hk 5 88 v (.ms 5 p 0 1) = some (v',h') ∧ OutS b o d h' v' (L ++ [g]) ∧ d ≤ h'.length ∧ ∀ j,j < d → h'[j]? = hk[j]?:=by
 have hrow : Am.rowOf hk (.ms 5 p 0 1) = some [resL g,I b.t.ch,I b.t.tm,o,wv]:=by
  simp only [rowOf_ms,Am.rowAt,hp,Option.bind_some,AO.row?]; rfl
 have sc:=resL_sc g
 have so : o.scalar = true:=scalar_sl H.t.o
 have hsc : [resL g,I b.t.ch,I b.t.tm,o,wv].all AV.scalar = true:=by simp [sc.1,so,hE.sc.2,scI]
 rcases hS with ⟨rfl,rfl⟩ | ⟨hne,oo,ws,ho,rfl,hc,hwl,hr⟩
 ·have A:=appV_nil (lim:=lim) (h:=hk) (esz:=5) (eb:=88) (n:=1) (x:=.ms 5 p 0 1) rfl hrow rfl hsc (by omega) (by omega)
  rw [if_neg (by omega)] at A
  refine ⟨_,_,A,.inr ⟨by simp,hk.length,[wv],hd,rfl,atE,rfl,fun i hi => ?_⟩,by simp; omega,fun j hj => List.getElem?_append_left (by omega)⟩
  have : i = 0:=by simp at hi; exact hi
  subst this
  exact hE.fr (Fr.app _ _)
 ·have ol:=(List.getElem?_eq_some_iff.1 hc).1
  have A:=appV_ms (lim:=lim) (h:=hk) (esz:=5) (eb:=88) (o:=oo) (len:=L.length) (n:=1) (x:=.ms 5 p 0 1) (c:=rowS b o L ws) (xs:=[resL g,I b.t.ch,I b.t.tm,o,wv]) (sh:=false) hc (rowS_len hwl).symm rfl hrow rfl hsc (by omega) (by omega) (by omega)
  rw [if_neg (by omega)] at A
  have ne : ∀ {x : AV} {l : List Wd},OutE Wd.e 4 d hk x l → OutE Wd.e 4 d (hk.set oo .tomb ++ [.cells (rowS b o L ws ++ [resL g,I b.t.ch,I b.t.tm,o,wv]) false]) x l:=by
   intro x l hx
   rcases hx with h1 | ⟨hn,o',hb,e,hc'⟩
   ·exact .inl h1
   ·refine .inr ⟨hn,o',hb,e,?_⟩
    have l':=(List.getElem?_eq_some_iff.1 hc').1
    rw [List.getElem?_append_left (by rw [List.length_set]; exact l'),List.getElem?_set_ne,hc']
    rintro rfl
    rw [hc] at hc'
    simp only [Option.some.injEq,AO.cells.injEq,and_true] at hc'
    match L,ws,l,hne,hwl,hn with
    |
     g' :: L,wv' :: ws,y :: l,_,_,_ =>
     simp only [rowS,List.cons_append,List.flatMap_cons,Wd.e,List.nil_append,List.cons.injEq] at hc'
     exact resL_ne g' _ hc'.1
    | g' :: L,[],_,_,h,_ => simp at h
  refine ⟨_,_,A,.inr ⟨by simp,hk.length,ws ++ [wv],hd,by simp,?_,by simp [hwl],fun i hi => ?_⟩,by simp; omega,fun j hj => ?_⟩
  ·rw [List.getElem?_append_right (by simp),rowS_snoc hwl]; simp
  ·simp only [List.getD_eq_getElem?_getD]
   by_cases h1 : i < L.length
   ·rw [List.getElem?_append_left (by omega),List.getElem?_append_left h1,← List.getD_eq_getElem?_getD,← List.getD_eq_getElem?_getD]
    exact ne (hr i h1)
   ·have : i = L.length:=by simp at hi; omega
    subst this
    rw [List.getElem?_append_right (by omega),List.getElem?_append_right (by omega),hwl]
    simpa using ne hE
  ·rw [List.getElem?_append_left (by simp; omega),List.getElem?_set_ne (by omega)]
end
section
variable {b : Bk} {o w s : AV}
theorem tm5 (h : b.t.valid = true) : (b.t.T : Int) = b.t.tm ∧ 1 ≤ b.t.T ∧ b.t.T ≤ 5:=by
 have V:=valid_trb h
 have:=V.t0; have:=V.t1
 unfold Trap.T; omega
theorem flt_snoc {α : Type} [Inhabited α] {l : List α} {p : α → Bool} {i : Nat} (hi : i < l.length) : (l.take (i + 1)).filter p = (l.take i).filter p ++ if p (l.getD i default) then [l.getD i default] else []:=by
 rw [List.take_succ_eq_append_getElem hi,List.filter_append]
 congr 1
 simp only [List.getD_eq_getElem?_getD,List.getElem?_eq_getElem hi,Option.getD_some,List.filter_cons,List.filter_nil]
set_option maxHeartbeats 4000000 in
theorem w93 (H : BkOk b o w s) (hb : b.t.valid = true) {h : List AO} {lim : Nat} (hlim : lim ≤ h.length) :
  ∃ sv h',R E (.fn 93) [bkV b o w s] h lim = some (wkV b o w s sv,h') ∧ Fr h h' ∧ OutS b o h.length h' sv b.sts:=by
 obtain ⟨T1,T2,T3⟩:=tm5 hb
 suffices hh : ∃ r h',R E (.fn 93) [bkV b o w s] h lim = some (r,h') ∧ ∃ sv,r = wkV b o w s sv ∧ Fr h h' ∧ OutS b o h.length h' sv b.sts by
  obtain ⟨r,h',hr,sv,rfl,h2⟩:=hh
  exact ⟨sv,h',hr,h2⟩
 have c122:=fun st => w122 (n:=b.t.T) (by omega) st
 have hsts : b.sts = (alls b.t.T).filter b.st:=rfl
 have hmem : ∀ x ∈ alls b.t.T,ris 5 x:=fun x hx => ris_mono (by omega) (mem_alls.1 hx)
 have hal:=alls_le (k:=b.t.T) (by omega)
 obtain ⟨A,hA⟩ : ∃ A,A = alls b.t.T:=⟨_,rfl⟩
 rw [← hA] at c122 hsts hmem hal
 have IA:=resLL_is A
 obtain ⟨av,hav⟩ : ∃ av,av = resLL A:=⟨_,rfl⟩
 rw [← hav] at c122 IA
 rw [T1] at c122
 refine R_of (f:=93) (fun r h' => ∃ sv,r = wkV b o w s sv ∧ Fr h h' ∧ OutS b o h.length h' sv b.sts) (es _ _ _ _) e93 ?_
 simp only [f93,bkV]
 have p1 : lim ≤ h.length + 1:=by omega
 have p2 : lim ≤ h.length + 2:=by omega
 simp (disch:=first|assumption|omega|(simp only[az];done)) only [ru,eq_self,if_true,if_false,AO.row?,splice,fillL,loadV,storeV,Am.rowAt,Am.part,addOff,Nat.reduceAdd,Nat.reduceLeDiff,Nat.reduceSub,scalar_sl H.t.o,scalar_sl H.t.w,scalar_sl H.s,p2,List.append_assoc,lenE,setT,atT,atT0,c122,lenV_sl IA]
 refine G_loop_ind (fun m ts hk mk => ∃ (i : Nat) (sv : AV),i ≤ A.length ∧ m = A.length - i ∧ h.length + 2 < hk.length ∧ (∀ j,j < h.length → hk[j]? = h[j]?) ∧ hk[h.length + 1]? = some (.cells [I 0,I 0,.nils,.nils,I 0,I 0,.nils,.nils] false) ∧
   hk[h.length + 2]? = some (.cells (wkC b o w s sv) false) ∧ OutS b o (h.length + 3) hk sv ((A.take i).filter b.st) ∧
   ts.length = 34 ∧ ts.getD 2 .undef = .ptr (h.length + 1) 0 ∧ ts.getD 3 .undef = .ptr (h.length + 2) 0 ∧ ts.getD 13 .undef = av ∧ ts.getD 14 .undef = I A.length ∧ ts.getD 15 .undef = I i ∧ mk = []) ?_ _ _ _ _
  ⟨0,.nils,Nat.zero_le _,rfl,by simp,fun j hj => by rw [List.getElem?_append_left hj],by rw [atT]; rfl,by rw [atT]; rfl,.inl ⟨rfl,rfl⟩,rfl,rfl,rfl,rfl,rfl,rfl,rfl⟩
 rintro m ts hk mk ih ⟨i,sv,hi,rfl,n0,k0,e1,e2,ho,hl',q2,q3,q13,q14,q15,rfl⟩
 rw [lit_all hl']
 simp only [lit0,litS,Nat.reduceAdd,q2,q3,q13,q14,q15]
 simp (disch:=first|assumption|omega|(simp only[az];done)) only [ru,eq_self,if_true,binI]
 simp only [wkC] at e2
 by_cases hlt : (i : Int) < A.length
 case neg =>
  obtain rfl : i = A.length:=by omega
  have n1 : h.length + 1 < hk.length:=by omega
  have hput : lim ≤ h.length + 1:=by omega
  simp (disch:=first|assumption|omega|(simp only[az];done)) only [ru,eq_self,if_true,AO.row?,splice,loadV,storeV,Am.rowAt,Am.part,Nat.reduceAdd,Nat.reduceLeDiff,scalar_sl H.t.o,scalar_sl H.t.w,scalar_sl H.s,hlt,e1,e2,ho.sc.2.1,hput,finC,getRes,List.getElem?_set_self n1,Option.some.injEq,exists_eq_left']
  refine ⟨sv,rfl,⟨by rw [List.length_set]; omega,fun j hj => by rw [List.getElem?_set_ne (by omega)]; exact k0 j hj⟩,?_⟩
  rw [hsts]
  rw [List.take_length] at ho
  exact (ho.set (by omega)).le (by omega)
 have hi2 : i < A.length:=by omega
 have hl2 : lim ≤ hk.length:=by omega
 obtain ⟨g,hg⟩ : ∃ g,g = A.getD i []:=⟨_,rfl⟩
 have hgm : g ∈ A:=by rw [hg]; exact getD_memL hi2
 have sn:=flt_snoc (p:=b.st) hi2
 rw [show A.getD i default = g from hg.symm] at sn
 have gi:=resL_is g
 have ea:=elem_ll IA i (by omega) hlt
 rw [Int.toNat_natCast,← hg] at ea
 obtain ⟨gv,hgv⟩ : ∃ gv,gv = resL g:=⟨_,rfl⟩
 obtain ⟨wv,h',hr,fr,he⟩:=w70 H hb ho.sc.2.1 gi (hmem g hgm) (h:=hk) (lim:=lim) (by omega)
 have l4:=fr.l
 have hl3 : lim ≤ h'.length:=by omega
 have b2:=fr.at e2
 have b1:=fr.at e1
 have d2 : (h' ++ [AO.cells [gv,I b.t.ch,I b.t.tm,o,wv] false])[h.length + 2]? = some (.cells [I b.t.ch,I b.t.tm,o,w,I b.dr,I b.rn,s,sv] false):=by rw [List.getElem?_append_left (by omega)]; exact b2
 have frx : Fr hk (h' ++ [AO.cells [gv,I b.t.ch,I b.t.tm,o,wv] false]):=fr.trans (Fr.app _ _)
 rw [← hgv] at hr ea gi
 simp only [wkV,wkC] at hr
 cases hs : b.st g <;> rw [hs] at hr sn
 ·simp (disch:=first|assumption|omega|(simp only[az];done)) only [ru,eq_self,if_true,if_false,binI,AO.row?,splice,loadV,storeV,Am.rowAt,Am.part,Nat.reduceAdd,Nat.reduceLeDiff,scalar_sl H.t.o,hl3,hlt,e2,ea,scalar_sl gi,hr,he.sc.2]
  refine ih (A.length - (i + 1)) _ _ _ (by omega) ⟨i + 1,sv,by omega,rfl,by simp; omega,fun j hj => ?_,frx.at e1,frx.at e2,?_,rfl,rfl,rfl,rfl,rfl,rfl,rfl⟩
  ·rw [frx.k j (by omega)]; exact k0 j hj
  ·rw [sn]; simp only [Bool.false_eq_true,if_false,List.append_nil]; exact ho.fr frx
 ·obtain ⟨h4,hh4⟩ : ∃ h4,h4 = h' ++ [AO.cells [gv,I b.t.ch,I b.t.tm,o,wv] false]:=⟨_,rfl⟩
  have l5 : h4.length = h'.length + 1:=by rw [hh4]; simp
  have he4 : OutE Wd.e 4 (h.length + 3) (h4 ++ [AO.cells [gv,I b.t.ch,I b.t.tm,o,wv] false]) wv (kpL b.t.ws (qG b.t g) b.t.ws.length):=by
   rw [hh4]; exact ((he.fr (Fr.app _ _)).fr (Fr.app _ _)).le (by omega)
  have hp : (h4 ++ [AO.cells [gv,I b.t.ch,I b.t.tm,o,wv] false])[h4.length]? = some (.cells [resL g,I b.t.ch,I b.t.tm,o,wv] false):=by rw [← hgv]; exact atE
  obtain ⟨v',h5,ha,ho',hb',hk'⟩:=app_st (lim:=lim) H (ho.fr (frx.trans (by rw [← hh4]; exact Fr.app h4 [AO.cells [gv,I b.t.ch,I b.t.tm,o,wv] false]))) he4 hp (by simp; omega) (by omega) (by
   have:=List.length_filter_le b.st (A.take i)
   have:=List.length_take_le i A
   omega)
  have g2 : h5[h.length + 2]? = some (.cells [I b.t.ch,I b.t.tm,o,w,I b.dr,I b.rn,s,sv] false):=by rw [hk' _ (by omega),List.getElem?_append_left (by omega),hh4]; exact d2
  have g1 : h5[h.length + 1]? = some (.cells [I 0,I 0,.nils,.nils,I 0,I 0,.nils,.nils] false):=by rw [hk' _ (by omega),List.getElem?_append_left (by omega),hh4,List.getElem?_append_left (by omega)]; exact b1
  have d3 : (h4 ++ [AO.cells [gv,I b.t.ch,I b.t.tm,o,wv] false])[h.length + 2]? = some (.cells [I b.t.ch,I b.t.tm,o,w,I b.dr,I b.rn,s,sv] false):=by rw [List.getElem?_append_left (by omega),hh4]; exact d2
  have hput : lim ≤ h.length + 2:=by omega
  rw [← hh4] at d2
  have at4 : h4[h'.length]? = some (.cells [gv,I b.t.ch,I b.t.tm,o,wv] false):=by rw [hh4]; exact atE
  simp (disch:=first|assumption|omega|(simp only[az];done)) only [ru,eq_self,if_true,if_false,binI,AO.row?,splice,fillL,loadV,storeV,zeros,Am.rowAt,Am.part,addOff,Nat.reduceAdd,Nat.reduceMul,Nat.reduceLeDiff,scalar_sl H.t.o,hl3,hlt,e2,ea,scalar_sl gi,hr,he.sc.2,← hh4,d2,at4,ha,g2,hput,ho'.sc.1,ho'.sc.2.1]
  refine ih (A.length - (i + 1)) _ _ _ (by omega) ⟨i + 1,v',by omega,rfl,by rw [List.length_set]; omega,fun j hj => ?_,?_,?_,?_,rfl,rfl,rfl,rfl,rfl,rfl,rfl⟩
  ·rw [List.getElem?_set_ne (by omega),hk' _ (by omega),List.getElem?_append_left (by omega),hh4,List.getElem?_append_left (by omega),fr.k _ (by omega)]; exact k0 j hj
  ·rw [List.getElem?_set_ne (by omega)]; exact g1
  ·rw [List.getElem?_set_self (by omega)]
  ·rw [sn]; simp only [if_true]; exact ho'.set (by omega)
end
end Go.Proofs.YtfknojncfbahpaaGreat.S
namespace Go.Proofs.YtfknojncfbahpaaGreat.S
open Go Go.Am Go.Proofs.YtfknojncfbahpaaGreat.T
set_option maxRecDepth 100000
set_option linter.unusedSimpArgs false
set_option linter.unusedVariables false
def zer8 : List AV:=[I 0,I 0,.nils,.nils,I 0,I 0,.nils,.nils]
inductive StA (b : Bk) (o w s : AV) (fit : Bool) : List AV → Int → Prop
 | bad (h : b.valid = false) : StA b o w s fit zer8 110
 | arg (h : b.valid = true) (hf : fit = false) : StA b o w s fit zer8 1
 | none (h : b.valid = true) (hf : fit = true) (hn : b.sts = []) : StA b o w s fit zer8 3
 | ok (h : b.valid = true) (hf : fit = true) (hs : b.sts ≠ []) : StA b o w s fit (wkC b o w s (resS b o b.sts)) 0
inductive AnB {α : Type} (b : Bk) (fit : Bool) (D : Int → α) (P : α → Prop) : α → Prop
 | bad (h : b.valid = false) : AnB b fit D P (D 110)
 | arg (h : b.valid = true) (hf : fit = false) : AnB b fit D P (D 1)
 | none (h : b.valid = true) (hf : fit = true) (hn : b.sts = []) : AnB b fit D P (D 3)
 | ok {v : α} (h : b.valid = true) (hf : fit = true) (hs : b.sts ≠ []) (hp : P v) : AnB b fit D P v
theorem AnB.uniq {α : Type} {b : Bk} {fit : Bool} {D : Int → α} {P : α → Prop} (hu : b.valid = true → fit = true → b.sts ≠ [] → ∀ x y,P x → P y → x = y) {x y : α} (A : AnB b fit D P x) (B : AnB b fit D P y) : x = y:=by
 cases A <;> cases B <;> first | rfl | (exfalso; simp_all; done) | (apply hu <;> assumption)
theorem bk_t {b : Bk} (h : b.valid = true) : b.t.valid = true:=by
 simp only [Bk.valid,Bool.and_eq_true] at h; exact h.1.1.1
theorem bk_ris {b : Bk} {g : List Int} (h : b.valid = true) : risL g (b.t.tm - 1) = true ↔ ris b.t.T g:=by
 obtain ⟨T1,T2,T3⟩:=tm5 (bk_t h)
 rw [← T1,risL_ris T2]
noncomputable def Bk.good (b : Bk) (g : List Int) : Bool:=risL g (b.t.tm - 1) && b.st g
section
variable {b : Bk} {o w s : AV}
set_option maxHeartbeats 4000000 in
theorem w71 (H : BkOk b o w s) (fit : Bool) : ∃ r e,Iso E 71 [bkV b o w s,Bo fit] false = some (.tup [.agg r,I e]) ∧ StA b o w s fit r e:=by
 have c48:=fun st => w48 H st
 unfold chkB at c48
 cases hv : b.valid
 ·refine ⟨_,_,?_,.bad hv⟩
  refine Iso_of (es _ _ _ _) e71 ?_
  simp only [f71,bkV,zer8,hv,Bool.false_eq_true,if_false] at c48 ⊢
  simp (disch:=first|assumption|omega|(simp only[az];done)) only [ru,eq_self,if_true,binI,AO.row?,splice,fillL,loadV,storeV,Am.rowAt,Am.part,Nat.reduceAdd,Nat.reduceLeDiff,Nat.reduceSub,Int.reduceEq,view_sl H.t.o,view_sl H.t.w,view_sl H.s,pure_sl H.t.o,pure_sl H.t.w,pure_sl H.s,c48,finC2,getRes,Option.some.injEq,exists_eq_left']
 cases fit
 ·refine ⟨_,_,?_,.arg hv rfl⟩
  refine Iso_of (es _ _ _ _) e71 ?_
  simp only [f71,bkV,zer8,hv,if_true] at c48 ⊢
  simp (disch:=first|assumption|omega|(simp only[az];done)) only [ru,eq_self,if_true,binI,AO.row?,splice,fillL,loadV,storeV,Am.rowAt,Am.part,Nat.reduceAdd,Nat.reduceLeDiff,Nat.reduceSub,view_sl H.t.o,view_sl H.t.w,view_sl H.s,pure_sl H.t.o,pure_sl H.t.w,pure_sl H.s,c48,finC2,getRes,Option.some.injEq,exists_eq_left']
 obtain ⟨sv,h',hr,fr,ho⟩:=w93 H (bk_t hv) (h:=[.cells [I b.t.ch,I b.t.tm,o,w,I b.dr,I b.rn,s] false,.cells zer8 false]) (lim:=0) (Nat.zero_le _)
 have l4:=fr.l
 simp only [List.length_cons,List.length_nil,Nat.zero_add,Nat.reduceAdd] at l4
 have b1 : h'[1]? = some (.cells zer8 false):=fr.at (j:=1) rfl
 have d1 : (h' ++ [AO.cells [I b.t.ch,I b.t.tm,o,w,I b.dr,I b.rn,s,sv] false])[1]? = some (.cells zer8 false):=by rw [List.getElem?_append_left (by omega)]; exact b1
 have d2 : 1 < (h' ++ [AO.cells [I b.t.ch,I b.t.tm,o,w,I b.dr,I b.rn,s,sv] false]).length:=by simp; omega
 have sc:=ho.sc
 by_cases hs : b.sts = []
 ·have e0 : ((b.sts.length : Nat) : Int) = 0:=by rw [hs]; rfl
  refine ⟨_,_,?_,.none hv rfl hs⟩
  refine Iso_of (es _ _ _ _) e71 ?_
  simp only [f71,bkV,wkV,wkC,zer8,hv,if_true] at c48 hr d1 ⊢
  simp (disch:=first|assumption|omega|(simp only[az];done)) only [ru,eq_self,if_true,if_false,BEq.rfl,binI,AO.row?,splice,fillL,loadV,storeV,Am.rowAt,Am.part,addOff,Nat.reduceAdd,Nat.reduceLeDiff,Nat.reduceSub,view_sl H.t.o,view_sl H.t.w,view_sl H.s,scalar_sl H.t.o,scalar_sl H.t.w,scalar_sl H.s,pure_sl H.t.o,pure_sl H.t.w,pure_sl H.s,c48,hr,sc.2.1,sc.2.2,e0,d1,finC2,getRes,List.getElem?_set_self d2,Option.some.injEq,exists_eq_left']
 ·have e0 : ¬ ((b.sts.length : Nat) : Int) = 0:=by intro h; exact hs (List.eq_nil_of_length_eq_zero (by omega))
  have vw:=fun x : AO => ((ho.le (d':=2) (Nat.le_refl _)).fr (Fr.app h' [AO.cells [I b.t.ch,I b.t.tm,o,w,I b.dr,I b.rn,s,sv] false]) |>.set (j:=1) (x:=x) (by omega)).view H (k:=4)
  refine ⟨_,_,?_,.ok hv rfl hs⟩
  refine Iso_of (es _ _ _ _) e71 ?_
  simp only [f71,bkV,wkV,wkC,zer8,hv,if_true] at c48 hr d1 ⊢
  simp (disch:=first|assumption|omega|(simp only[az];done)) only [ru,eq_self,if_true,if_false,binI,AO.row?,splice,loadV,storeV,Am.rowAt,Am.part,addOff,Nat.reduceAdd,Nat.reduceLeDiff,Nat.reduceSub,view_sl H.t.o,view_sl H.t.w,view_sl H.s,scalar_sl H.t.o,scalar_sl H.t.w,scalar_sl H.s,pure_sl H.t.o,pure_sl H.t.w,pure_sl H.s,c48,hr,sc.2.1,sc.2.2,e0,d1,finC2,getRes,List.getElem?_set_self d2,Option.some.injEq,exists_eq_left',vw]
theorem w51 (H : BkOk b o w s) : Iso E 51 [bkV b o w s] false = some (.tup [I (if b.valid then (b.sts.length : Int) else 0),I (chkB b)]):=by
 have c48:=fun st => w48 H st
 unfold chkB at c48 ⊢
 cases hv : b.valid
 ·refine Iso_of (es _ _ _ _) e51 ?_
  simp only [f51,bkV,hv,Bool.false_eq_true,if_false] at c48 ⊢
  simp (disch:=first|assumption|omega|(simp only[az];done)) only [ru,eq_self,if_true,binI,AO.row?,loadV,Am.rowAt,Am.part,Nat.reduceAdd,Nat.reduceSub,Int.reduceEq,view_sl H.t.o,view_sl H.t.w,view_sl H.s,pure_sl H.t.o,pure_sl H.t.w,pure_sl H.s,c48]
 obtain ⟨sv,h',hr,fr,ho⟩:=w93 H (bk_t hv) (h:=[.cells [I b.t.ch,I b.t.tm,o,w,I b.dr,I b.rn,s] false]) (lim:=0) (Nat.zero_le _)
 have sc:=ho.sc
 refine Iso_of (es _ _ _ _) e51 ?_
 simp only [f51,bkV,wkV,wkC,hv,if_true] at c48 hr ⊢
 simp (disch:=first|assumption|omega|(simp only[az];done)) only [ru,eq_self,if_true,if_false,binI,AO.row?,loadV,Am.rowAt,Am.part,Nat.reduceAdd,Nat.reduceSub,view_sl H.t.o,view_sl H.t.w,view_sl H.s,pure_sl H.t.o,pure_sl H.t.w,pure_sl H.s,c48,hr,sc.2.2]
theorem w18 (H : BkOk b o w s) {g : List Int} {gv : AV} (hg : IsSl 1 intL g gv) (hl : g.length ≤ 1000000) (st : Bool) : Iso E 18 [bkV b o w s,gv] st = some (.tup [Bo (b.valid && b.good g),I (chkB b)]):=by
 have c48:=fun st => w48 H st
 unfold chkB at c48 ⊢
 cases hv : b.valid
 ·refine Iso_of (es _ _ _ _) e18 ?_
  simp only [f18,bkV,hv,Bool.false_eq_true,if_false,Bool.false_and] at c48 ⊢
  simp (disch:=first|assumption|omega|(simp only[az];done)) only [ru,eq_self,if_true,binI,AO.row?,loadV,Am.rowAt,Am.part,Nat.reduceAdd,Nat.reduceSub,Int.reduceEq,view_sl H.t.o,view_sl H.t.w,view_sl H.s,pure_sl H.t.o,pure_sl H.t.w,pure_sl H.s,c48]
 have V:=valid_trb (bk_t hv)
 obtain ⟨T1,T2,T3⟩:=tm5 (bk_t hv)
 have c69:=fun st => w69 H V.t0 V.t1 hg hl st
 unfold Bk.good
 cases hr : risL g (b.t.tm - 1)
 ·rw [hr] at c69
  refine Iso_of (es _ _ _ _) e18 ?_
  simp only [f18,bkV,hv,if_true,Bool.false_and,Bool.and_false] at c48 c69 ⊢
  simp (disch:=first|assumption|omega|(simp only[az];done)) only [ru,eq_self,if_true,binI,AO.row?,loadV,Am.rowAt,Am.part,Nat.reduceAdd,Nat.reduceSub,view_sl H.t.o,view_sl H.t.w,view_sl H.s,pure_sl H.t.o,pure_sl H.t.w,pure_sl H.s,view_sl hg,pure_sl hg,c48,c69]
 rw [hr] at c69
 obtain ⟨wv,h',hr70,fr,he⟩:=w70 H (bk_t hv) (sv:=.nils) rfl hg (ris_mono T3 ((bk_ris hv).1 hr)) (h:=[.cells [I b.t.ch,I b.t.tm,o,w,I b.dr,I b.rn,s] false]) (lim:=0) (Nat.zero_le _)
 rw [Bool.true_and,Bool.true_and]
 refine Iso_of (es _ _ _ _) e18 ?_
 simp only [f18,bkV,wkV,wkC,hv,if_true] at c48 c69 hr70 ⊢
 simp (disch:=first|assumption|omega|(simp only[az];done)) only [ru,eq_self,if_true,binI,AO.row?,splice,fillL,loadV,storeV,Am.rowAt,Am.part,Nat.reduceAdd,Nat.reduceLeDiff,Nat.reduceSub,view_sl H.t.o,view_sl H.t.w,view_sl H.s,scalar_sl H.t.o,pure_sl H.t.o,pure_sl H.t.w,pure_sl H.s,view_sl hg,scalar_sl hg,pure_sl hg,c48,c69,hr70,he.sc.2]
theorem w28 (H : BkOk b o w s) : ∃ v l e,Iso E 28 [bkV b o w s] false = some (.tup [v,I e]) ∧ IsSl 1 intL l v ∧ AnB b true (fun e => (([] : List Int),e)) (fun r => r = (b.sts.getD 0 [],0)) (l,e):=by
 obtain ⟨r,e,c71,A⟩:=w71 H true
 cases A with
 |
  bad hv =>
  refine ⟨.nils,[],110,?_,.inr ⟨rfl,rfl⟩,.bad hv⟩
  refine Iso_of (es _ _ _ _) e28 ?_
  simp only [f28,bkV,zer8] at c71 ⊢
  simp (disch:=first|assumption|omega|(simp only[az];done)) only [ru,eq_self,if_true,binI,AO.row?,splice,loadV,storeV,Am.rowAt,Am.part,Nat.reduceAdd,Nat.reduceLeDiff,Nat.reduceSub,Int.reduceEq,view_sl H.t.o,view_sl H.t.w,view_sl H.s,pure_sl H.t.o,pure_sl H.t.w,pure_sl H.s,c71]
 | arg hv hf => cases hf
 |
  none hv hf hn =>
  refine ⟨.nils,[],3,?_,.inr ⟨rfl,rfl⟩,.none hv rfl hn⟩
  refine Iso_of (es _ _ _ _) e28 ?_
  simp only [f28,bkV,zer8] at c71 ⊢
  simp (disch:=first|assumption|omega|(simp only[az];done)) only [ru,eq_self,if_true,binI,AO.row?,splice,loadV,storeV,Am.rowAt,Am.part,Nat.reduceAdd,Nat.reduceLeDiff,Nat.reduceSub,Int.reduceEq,view_sl H.t.o,view_sl H.t.w,view_sl H.s,pure_sl H.t.o,pure_sl H.t.w,pure_sl H.s,c71]
 |
  ok hv hf hs =>
  obtain ⟨L,hL⟩ : ∃ L,L = b.sts:=⟨_,rfl⟩
  have HS:=resS_is (b:=b) (o:=o) L
  rw [← hL] at c71 hs
  obtain ⟨sv,hsv⟩ : ∃ sv,sv = resS b o L:=⟨_,rfl⟩
  rw [← hsv] at c71 HS
  have h0 : (0 : Int) < L.length:=by
   have : L.length ≠ 0:=fun h => hs (List.eq_nil_of_length_eq_zero h)
   omega
  obtain ⟨g,hg⟩ : ∃ g,g = L.getD 0 default:=⟨_,rfl⟩
  have gi:=resL_is g
  refine ⟨resL g,g,0,?_,gi,.ok hv rfl (by rw [← hL]; exact hs) (by rw [hg,← hL]; rfl)⟩
  have g0 : L.getD (0 : Int).toNat default = g:=hg.symm
  refine Iso_of (es _ _ _ _) e28 ?_
  simp only [f28,bkV,wkC] at c71 ⊢
  simp (disch:=first|assumption|omega|(simp only[az];done)) only [ru,eq_self,if_true,if_false,binI,AO.row?,splice,loadV,storeV,Am.rowAt,Am.part,addOff,Nat.reduceAdd,Nat.reduceLeDiff,Nat.reduceSub,Int.reduceToNat,view_sl H.t.o,view_sl H.t.w,view_sl H.s,scalar_sl H.t.o,scalar_sl H.t.w,scalar_sl H.s,pure_sl H.t.o,pure_sl H.t.w,pure_sl H.s,elem_sl stE_len HS,scalar_sl HS,c71,← hg,stE,view_sl gi]
end
end Go.Proofs.YtfknojncfbahpaaGreat.S
namespace Go.Proofs.YtfknojncfbahpaaGreat.S
open Go Go.Am Go.Proofs.YtfknojncfbahpaaGreat.T
set_option maxRecDepth 100000
set_option linter.unusedSimpArgs false
set_option linter.unusedVariables false
def agr (f : List Int → Int) : List (List Int) → Int
 | [] => 0
 | g :: M => if M.all (fun x => decide (f x = f g)) then f g else 3
def inG (t : Int) (g : List Int) : Int:=if hasI g t then 1 else 2
section
variable {b : Bk} {o w s : AV}
theorem w120 {g : List Int} (hg : ris 5 g) {t : Int} {h : List AO} {p : Nat} (hp : h[p]? = some (.cells [I t] false)) (H : BkOk b o w s) : Ro E 120 [.agg (stE b o g),.ptr p 0] h = some (I (inG t g)):=by
 have gi:=resL_is g
 have gl:=ris_len hg
 have wi:=resW_is (kpL b.t.ws (qG b.t g) b.t.ws.length)
 have c:=fun st => w111 gi (by omega) t st
 have pl:=(List.getElem?_eq_some_iff.1 hp).1
 unfold inG
 refine Ro_of (es _ _ _ _) e120 ?_
 simp only [f120,stE]
 cases hh : hasI g t <;> rw [hh] at c
 ·simp (disch:=first|assumption|omega|(simp only[az];done)) only [ru,eq_self,if_true,if_false,AO.row?,loadV,Am.rowAt,Am.part,addOff,Nat.reduceAdd,Nat.reduceSub,view_sl gi,pure_sl gi,at_ap pl,hp,c]
  rfl
 ·simp (disch:=first|assumption|omega|(simp only[az];done)) only [ru,eq_self,if_true,if_false,AO.row?,loadV,Am.rowAt,Am.part,addOff,Nat.reduceAdd,Nat.reduceSub,view_sl gi,pure_sl gi,at_ap pl,hp,c]
  rfl
set_option maxHeartbeats 2000000 in
theorem w114 (H : BkOk b o w s) {sv : AV} {L : List (List Int)} (HS : IsSl 5 (stE b o) L sv) (hne : L ≠ []) (hl : L.length ≤ 1000) {f : List Int → Int} {k : Nat} {cap : List AV} {h : List AO}
  (hq : ∀ g ∈ L,∀ J,Ro E k (.agg (stE b o g) :: cap) (h ++ J) = some (I (f g))) : Ro E 114 [wkV b o w s sv,.fn k [] cap] h = some (I (agr f L)):=by
 obtain ⟨g0,M,rfl⟩ : ∃ g0 M,L = g0 :: M:=by
  cases L with
  | nil => exact absurd rfl hne
  | cons g M => exact ⟨g,M,rfl⟩
 obtain ⟨u,su,iu⟩:=slice_hi stE_len HS (k:=1) (by simp)
 simp only [List.drop_succ_cons,List.drop_zero] at iu
 have su : sliceV 5 sv (some (I 1)) none = some u:=su
 have h0 : (0 : Int) < ((g0 :: M).length : Int):=by simp only [List.length_cons]; omega
 have ml : M.length ≤ 1000:=by simp only [List.length_cons] at hl; omega
 have hq0:=hq g0 (by simp)
 obtain ⟨z,hz⟩ : ∃ z,z = f g0:=⟨_,rfl⟩
 rw [← hz] at hq0
 have gi0:=resL_is g0
 have wi0:=resW_is (kpL b.t.ws (qG b.t g0) b.t.ws.length)
 have g00 : (g0 :: M).getD 0 default = g0:=rfl
 obtain ⟨A,hA⟩ : ∃ A,A = agr f (g0 :: M):=⟨_,rfl⟩
 rw [← hA]
 simp only [agr,← hz] at hA
 refine (fun x => ?_ : (∃ w',Ro E 114 [wkV b o w s sv,.fn k [] cap] h = some w' ∧ w' = I A) → _) (Ro_ex (fun r => r = I A) (by rintro _ rfl; rfl) (es _ _ _ _) e114 ?_)
 ·obtain ⟨w',hv,rfl⟩:=x; exact hv
 simp only [stE] at hq0
 simp only [f114,wkV,wkC]
 simp (disch:=first|assumption|omega|(simp only[az];done)) only [ru,eq_self,if_true,if_false,AO.row?,loadV,Am.rowAt,Am.part,addOff,Nat.reduceAdd,Nat.reduceSub,Int.reduceToNat,elem_sl stE_len HS,lenE,atT0,g00,stE,hq0,su,lenV_sl iu]
 refine G_loop_ind (fun m ts hk mk => ∃ (i : Nat) (J : List AO),i ≤ M.length ∧ m = M.length - i ∧ hk = h ++ J ∧ (M.take i).all (fun x => decide (f x = z)) = true ∧
   ts.length = 29 ∧ ts.getD 1 .undef = .fn k [] cap ∧ ts.getD 5 .undef = I z ∧ ts.getD 16 .undef = u ∧ ts.getD 17 .undef = I M.length ∧ ts.getD 18 .undef = I i ∧ mk = []) ?_ _ _ _ _
  ⟨0,_,Nat.zero_le _,rfl,rfl,rfl,rfl,rfl,rfl,rfl,rfl,rfl,rfl⟩
 rintro m ts hk mk ih ⟨i,J,hi,rfl,rfl,hall,hl',q1,q5,q16,q17,q18,rfl⟩
 rw [lit_all hl']
 simp only [lit0,litS,Nat.reduceAdd,q1,q5,q16,q17,q18]
 simp (disch:=first|assumption|omega|(simp only[az];done)) only [ru,eq_self,if_true,binI]
 by_cases hlt : (i : Int) < M.length
 case neg =>
  obtain rfl : i = M.length:=by omega
  rw [List.take_length] at hall
  rw [hall,if_pos rfl] at hA
  simp (disch:=first|assumption|omega|(simp only[az];done)) only [ru,hlt]
  rw [hA]
 have hi2 : i < M.length:=by omega
 obtain ⟨g,hg⟩ : ∃ g,g = M.getD i default:=⟨_,rfl⟩
 have hqg:=hq g (List.mem_cons_of_mem _ (by rw [hg]; exact getD_mem hi2))
 obtain ⟨y,hy⟩ : ∃ y,y = f g:=⟨_,rfl⟩
 rw [← hy] at hqg
 have gi:=resL_is g
 have wi:=resW_is (kpL b.t.ws (qG b.t g) b.t.ws.length)
 have hlJ : h.length ≤ (h ++ J).length:=by simp
 have hqJ:=hqg (J ++ [.cells (stE b o g) false])
 rw [← List.append_assoc] at hqJ
 simp only [stE] at hqJ
 by_cases hyz : y = z
 ·have e : ¬ y ≠ z:=fun h => h hyz
  have e1 : (y != z) = false:=by simp [hyz]
  simp (disch:=first|assumption|omega|(simp only[az];done)) only [ru,eq_self,if_true,binI,AO.row?,splice,loadV,storeV,Am.rowAt,Am.part,Nat.reduceAdd,Nat.reduceLeDiff,scalar_sl H.t.o,Int.toNat_natCast,hlt,elem_sl stE_len iu,Int.toNat_natCast,← hg,stE,scalar_sl gi,scalar_sl wi,hlJ,hqJ,e1]
  refine ih (M.length - (i + 1)) _ _ _ (by omega) ⟨i + 1,_,by omega,rfl,by rw [List.append_assoc],all_upto_succ hi2 hg.symm hall (by simp [← hy,hyz]),rfl,rfl,rfl,rfl,rfl,rfl,rfl⟩
 ·have e1 : (y != z) = true:=by simp [hyz]
  have : M.all (fun x => decide (f x = z)) = false:=all_not hi2 hg.symm (by simp [← hy,hyz])
  rw [this] at hA
  simp only [Bool.false_eq_true,if_false] at hA
  simp (disch:=first|assumption|omega|(simp only[az];done)) only [ru,eq_self,if_true,binI,AO.row?,splice,loadV,storeV,Am.rowAt,Am.part,Nat.reduceAdd,Nat.reduceLeDiff,scalar_sl H.t.o,Int.toNat_natCast,hlt,elem_sl stE_len iu,Int.toNat_natCast,← hg,stE,scalar_sl gi,scalar_sl wi,hlJ,hqJ,e1]
  rw [hA]
theorem w79 (H : BkOk b o w s) {sv : AV} {L : List (List Int)} (HS : IsSl 5 (stE b o) L sv) (hne : L ≠ []) (hl : L.length ≤ 1000) (hr : ∀ g ∈ L,ris 5 g) (t : Int) : Iso E 79 [wkV b o w s sv,I t] false = some (I (agr (inG t) L)):=by
 have c:=w114 H HS hne hl (f:=inG t) (k:=120) (cap:=[.ptr 1 0]) (h:=[.cells (wkC b o w s sv) false,.cells [I t] false]) (fun g hg J => w120 (hr g hg) (by rfl) H)
 refine Iso_of (es _ _ _ _) e79 ?_
 simp only [f79,wkV,wkC] at c ⊢
 simp (disch:=first|assumption|omega|(simp only[az];done)) only [ru,eq_self,if_true,AO.row?,loadV,Am.rowAt,Am.part,Nat.reduceAdd,Nat.reduceSub,c]
end
theorem sts_ris {b : Bk} (h : b.valid = true) : ∀ g ∈ b.sts,ris 5 g:=fun g hg => ris_mono (tm5 (bk_t h)).2.2 (mem_sts.1 hg).1
theorem sts_len {b : Bk} (h : b.valid = true) : b.sts.length ≤ 256:=by
 have h1:=List.length_filter_le b.st (alls b.t.T)
 have h2:=alls_le (k:=b.t.T) (by have:=(tm5 (bk_t h)).2.2; omega)
 show ((alls b.t.T).filter b.st).length ≤ 256
 omega
def cntN (L : List (List Int)) (t : Int) : Nat:=(L.filter fun g => hasI g t).length
theorem cntN_le {L : List (List Int)} {t : Int} : cntN L t ≤ L.length:=List.length_filter_le _ _
noncomputable def Bk.mus (b : Bk) : List Int:=((List.range b.t.T).filter fun (t : Nat) => decide (agr (inG ((t : Nat) : Int)) b.sts = 1)).map fun (t : Nat) => (t : Int)
section
variable {b : Bk} {o w s : AV}
theorem w30 (H : BkOk b o w s) (t : Int) : ∃ v e,Iso E 30 [bkV b o w s,I t] false = some (.tup [I v,I e]) ∧ AnB b (inR t 0 (wr .i64 (b.t.tm - 1))) (fun e => ((0 : Int),e)) (fun r => r = (agr (inG t) b.sts,0)) (v,e):=by
 have c74:=fun st => w74 H t st
 obtain ⟨fit,hfit⟩ : ∃ fit,fit = inR t 0 (wr .i64 (b.t.tm - 1)):=⟨_,rfl⟩
 rw [← hfit] at c74 ⊢
 obtain ⟨r,e,c71,A⟩:=w71 H fit
 cases A with
 |
  bad hv =>
  refine ⟨0,110,?_,.bad hv⟩
  refine Iso_of (es _ _ _ _) e30 ?_
  simp only [f30,bkV,zer8] at c71 c74 ⊢
  simp (disch:=first|assumption|omega|(simp only[az];done)) only [ru,eq_self,if_true,binI,AO.row?,splice,loadV,storeV,Am.rowAt,Am.part,Nat.reduceAdd,Nat.reduceLeDiff,Nat.reduceSub,Int.reduceEq,view_sl H.t.o,view_sl H.t.w,view_sl H.s,pure_sl H.t.o,pure_sl H.t.w,pure_sl H.s,c74,c71]
 |
  arg hv hf =>
  refine ⟨0,1,?_,.arg hv hf⟩
  refine Iso_of (es _ _ _ _) e30 ?_
  simp only [f30,bkV,zer8] at c71 c74 ⊢
  simp (disch:=first|assumption|omega|(simp only[az];done)) only [ru,eq_self,if_true,binI,AO.row?,splice,loadV,storeV,Am.rowAt,Am.part,Nat.reduceAdd,Nat.reduceLeDiff,Nat.reduceSub,Int.reduceEq,view_sl H.t.o,view_sl H.t.w,view_sl H.s,pure_sl H.t.o,pure_sl H.t.w,pure_sl H.s,c74,c71]
 |
  none hv hf hn =>
  refine ⟨0,3,?_,.none hv hf hn⟩
  refine Iso_of (es _ _ _ _) e30 ?_
  simp only [f30,bkV,zer8] at c71 c74 ⊢
  simp (disch:=first|assumption|omega|(simp only[az];done)) only [ru,eq_self,if_true,binI,AO.row?,splice,loadV,storeV,Am.rowAt,Am.part,Nat.reduceAdd,Nat.reduceLeDiff,Nat.reduceSub,Int.reduceEq,view_sl H.t.o,view_sl H.t.w,view_sl H.s,pure_sl H.t.o,pure_sl H.t.w,pure_sl H.s,c74,c71]
 |
  ok hv hf hs =>
  have HS:=resS_is (b:=b) (o:=o) b.sts
  have c:=w79 H HS hs (by have:=sts_len hv; omega) (sts_ris hv) t
  obtain ⟨sv,hsv⟩ : ∃ sv,sv = resS b o b.sts:=⟨_,rfl⟩
  rw [← hsv] at c71 HS c
  refine ⟨_,_,?_,.ok hv hf hs rfl⟩
  refine Iso_of (es _ _ _ _) e30 ?_
  simp only [f30,bkV,wkV,wkC] at c71 c c74 ⊢
  simp (disch:=first|assumption|omega|(simp only[az];done)) only [ru,eq_self,if_true,binI,AO.row?,splice,loadV,storeV,Am.rowAt,Am.part,Nat.reduceAdd,Nat.reduceLeDiff,Nat.reduceSub,view_sl H.t.o,view_sl H.t.w,view_sl H.s,scalar_sl H.t.o,scalar_sl H.t.w,scalar_sl H.s,pure_sl H.t.o,pure_sl H.t.w,pure_sl H.s,view_sl HS,scalar_sl HS,pure_sl HS,c74,c71,c]
set_option maxHeartbeats 2000000 in
theorem w27 (H : BkOk b o w s) : ∃ v l e,Iso E 27 [bkV b o w s] false = some (.tup [v,I e]) ∧ IsSl 1 intL l v ∧ AnB b true (fun e => (([] : List Int),e)) (fun r => r = (b.mus,0)) (l,e):=by
 obtain ⟨r,e,c71,A⟩:=w71 H true
 cases A with
 |
  bad hv =>
  refine ⟨.nils,[],110,?_,.inr ⟨rfl,rfl⟩,.bad hv⟩
  refine Iso_of (es _ _ _ _) e27 ?_
  simp only [f27,bkV,zer8] at c71 ⊢
  simp (disch:=first|assumption|omega|(simp only[az];done)) only [ru,eq_self,if_true,binI,AO.row?,splice,loadV,storeV,Am.rowAt,Am.part,Nat.reduceAdd,Nat.reduceLeDiff,Nat.reduceSub,Int.reduceEq,view_sl H.t.o,view_sl H.t.w,view_sl H.s,pure_sl H.t.o,pure_sl H.t.w,pure_sl H.s,c71]
 | arg hv hf => cases hf
 |
  none hv hf hn =>
  refine ⟨.nils,[],3,?_,.inr ⟨rfl,rfl⟩,.none hv rfl hn⟩
  refine Iso_of (es _ _ _ _) e27 ?_
  simp only [f27,bkV,zer8] at c71 ⊢
  simp (disch:=first|assumption|omega|(simp only[az];done)) only [ru,eq_self,if_true,binI,AO.row?,splice,loadV,storeV,Am.rowAt,Am.part,Nat.reduceAdd,Nat.reduceLeDiff,Nat.reduceSub,Int.reduceEq,view_sl H.t.o,view_sl H.t.w,view_sl H.s,pure_sl H.t.o,pure_sl H.t.w,pure_sl H.s,c71]
 |
  ok hv hf hs =>
  obtain ⟨T1,T2,T3⟩:=tm5 (bk_t hv)
  have HS:=resS_is (b:=b) (o:=o) b.sts
  have c:=fun t => w79 H HS hs (by have:=sts_len hv; omega) (sts_ris hv) t
  obtain ⟨sv,hsv⟩ : ∃ sv,sv = resS b o b.sts:=⟨_,rfl⟩
  rw [← hsv] at c71 HS c
  refine ⟨resL b.mus,b.mus,0,?_,resL_is _,.ok hv rfl hs rfl⟩
  obtain ⟨F,hF⟩ : ∃ F : Nat → List Int,F = fun k => ((List.range k).filter fun (t : Nat) => decide (agr (inG ((t : Nat) : Int)) b.sts = 1)).map fun (t : Nat) => (t : Int):=⟨_,rfl⟩
  have hm : b.mus = F b.t.T:=by rw [hF]; rfl
  have F0 : F 0 = []:=by rw [hF]; rfl
  have Fy : ∀ k : Nat,agr (inG (k : Int)) b.sts = 1 → F (k + 1) = F k ++ [(k : Int)]:=fun k h => by simp [hF,List.range_succ,h]
  have Fn : ∀ k : Nat,¬ agr (inG (k : Int)) b.sts = 1 → F (k + 1) = F k:=fun k h => by simp [hF,List.range_succ,h]
  have Fl : ∀ k,(F k).length ≤ k:=fun k => by
   have:=List.length_filter_le (fun (t : Nat) => decide (agr (inG ((t : Nat) : Int)) b.sts = 1)) (List.range k)
   simpa [hF] using this
  refine Iso_of (es _ _ _ _) e27 ?_
  simp only [f27,bkV,wkV,wkC] at c71 c ⊢
  simp (disch:=first|assumption|omega|(simp only[az];done)) only [ru,eq_self,if_true,if_false,binI,AO.row?,splice,loadV,storeV,Am.rowAt,Am.part,addOff,Nat.reduceAdd,Nat.reduceLeDiff,Nat.reduceSub,view_sl H.t.o,view_sl H.t.w,view_sl H.s,scalar_sl H.t.o,scalar_sl H.t.w,scalar_sl H.s,pure_sl H.t.o,pure_sl H.t.w,pure_sl H.s,scalar_sl HS,c71]
  refine G_loop_ind (fun m ts hk mk => ∃ (i : Nat) (v : AV),i ≤ b.t.T ∧ m = b.t.T - i ∧ hk[1]? = some (.cells [I b.t.ch,I b.t.tm,o,w,I b.dr,I b.rn,s,sv] false) ∧ 2 ≤ hk.length ∧ OutE intL 1 2 hk v (F i) ∧
    ts.length = 32 ∧ ts.getD 4 .undef = .ptr 1 0 ∧ ts.getD 6 .undef = v ∧ ts.getD 18 .undef = I b.t.tm ∧ ts.getD 19 .undef = I i ∧ mk = []) ?_ _ _ _ _
   ⟨0,.nils,Nat.zero_le _,rfl,rfl,by simp,.inl ⟨F0,rfl⟩,rfl,rfl,rfl,rfl,rfl,rfl⟩
  rintro m ts hk mk ih ⟨i,v,hi,rfl,e1,n2,ho,hl',q4,q6,q18,q19,rfl⟩
  rw [lit_all hl']
  simp only [lit0,litS,Nat.reduceAdd,q4,q6,q18,q19]
  simp (disch:=first|assumption|omega|(simp only[az];done)) only [ru,eq_self,if_true,binI]
  by_cases hlt : (i : Int) < b.t.tm
  case neg =>
   obtain rfl : i = b.t.T:=by omega
   rw [← hm] at ho
   have vw:=ho.viewL (st:=false) (k:=6)
   simp (disch:=first|assumption|omega|(simp only[az];done)) only [ru,eq_self,hlt,vw]
  have ci:=c i
  by_cases hd : agr (inG (i : Int)) b.sts = 1
  ·rw [hd] at ci
   obtain ⟨v',h',ha,ho',hb',hk'⟩:=outE_ap (lim:=0) (eb:=8) intE (fun _ => rfl) (by omega) (by omega) (by omega) ho n2 (by omega) (by have:=Fl i; omega) (i : Int)
   simp (disch:=first|assumption|omega|(simp only[az];done)) only [ru,eq_self,if_true,BEq.rfl,binI,AO.row?,splice,fillL,loadV,zeros,Am.rowAt,Am.part,Nat.reduceAdd,Nat.reduceMul,Nat.reduceLeDiff,view_sl H.t.o,view_sl H.t.w,view_sl H.s,pure_sl H.t.o,pure_sl H.t.w,pure_sl H.s,view_sl HS,pure_sl HS,hlt,e1,ci,ha]
   refine ih (b.t.T - (i + 1)) _ _ _ (by omega) ⟨i + 1,v',by omega,rfl,by rw [hk' 1 (by omega)]; exact e1,hb',by rw [Fy i hd]; exact ho',rfl,rfl,rfl,rfl,rfl,rfl⟩
  ·obtain ⟨z,hz⟩ : ∃ z,z = agr (inG (i : Int)) b.sts:=⟨_,rfl⟩
   rw [← hz] at ci
   have hd' : ¬ z = 1:=by rw [hz]; exact hd
   simp (disch:=first|assumption|omega|(simp only[az];done)) only [ru,eq_self,if_true,binI,AO.row?,loadV,Am.rowAt,Am.part,Nat.reduceAdd,view_sl H.t.o,view_sl H.t.w,view_sl H.s,pure_sl H.t.o,pure_sl H.t.w,pure_sl H.s,view_sl HS,pure_sl HS,hlt,e1,ci,hd']
   refine ih (b.t.T - (i + 1)) _ _ _ (by omega) ⟨i + 1,v,by omega,rfl,e1,n2,by rw [Fn i hd]; exact ho,rfl,rfl,rfl,rfl,rfl,rfl⟩
end
end Go.Proofs.YtfknojncfbahpaaGreat.S
namespace Go.Proofs.YtfknojncfbahpaaGreat.S
open Go Go.Am Go.Proofs.YtfknojncfbahpaaGreat.T
set_option maxRecDepth 100000
set_option linter.unusedSimpArgs false
set_option linter.unusedVariables false
end Go.Proofs.YtfknojncfbahpaaGreat.S
namespace Go.Proofs.YtfknojncfbahpaaGreat.S
open Go Go.Am Go.Proofs.YtfknojncfbahpaaGreat.T
set_option maxRecDepth 100000
set_option linter.unusedSimpArgs false
set_option linter.unusedVariables false
theorem rnB_mono {g : List Int} {i j : Nat} (h : i ≤ j) : (rnB g i).1 ≤ (rnB g j).1:=by
 induction j with
 | zero =>
      have : i = 0:=by omega
      subst this; exact Int.le_refl _
 |
  succ j ih =>
  by_cases e : i = j + 1
  ·subst e; exact Int.le_refl _
  ·have:=ih (by omega)
   simp only [rnB]
   split
   ·simp only; split <;> omega
   ·exact this
theorem rnB_bd {g : List Int} : ∀ k,0 ≤ (rnB g k).1 ∧ 0 ≤ (rnB g k).2 ∧ (rnB g k).2 ≤ k
 | 0 => by simp [rnB]
 |
  k + 1 => by
  have:=rnB_bd (g:=g) k
  simp only [rnB]
  split
  ·simp only; split <;> omega
  ·simp only; omega
section
variable {b : Bk} {o w s : AV}
set_option maxHeartbeats 2000000 in
theorem w31 (H : BkOk b o w s) (hv : b.valid = true) {g : List Int} {gv : AV} (hg : IsSl 1 intL g gv) (hl : g.length ≤ 1000000) (st : Bool) : Iso E 31 [bkV b o w s,gv] st = some (Bo (risL g (b.t.tm - 1) && b.can g)):=by
 have hb:=bk_t hv
 have rn0 : 0 ≤ b.rn:=by
  simp only [Bk.valid,Bool.and_eq_true,inR_iff] at hv
  exact hv.1.2.1
 obtain ⟨T1,T2,T3⟩:=tm5 hb
 have V:=valid_trb hb
 have v1:=V.t0; have v2:=V.t1
 have ss:=H.ss
 have c42:=fun lo hi st => s52 hg hl lo hi st
 have eris : risL g (b.t.tm - 1) = (List.range g.length).all fun i => risR g 0 (b.t.tm - 1) i:=rfl
 cases hr : risL g (b.t.tm - 1)
 ·rw [eris] at hr
  refine Iso_of (es _ _ _ _) e31 ?_
  simp only [f31,bkV]
  simp (disch:=first|assumption|omega|(simp only[az];done)) only [ru,eq_self,if_true,if_false,binI,AO.row?,loadV,Am.rowAt,Am.part,addOff,Nat.reduceAdd,Nat.reduceSub,view_sl hg,pure_sl hg,c42,hr]
 have hrr : ris b.t.T g:=by rw [← T1] at hr; exact (risL_ris T2).1 hr
 rw [eris] at hr
 have gl:=ris_len hrr
 obtain ⟨A,hA⟩ : ∃ A,A = b.can g:=⟨_,rfl⟩
 rw [Bool.true_and,← hA]
 unfold Bk.can at hA
 by_cases h1 : (g.length : Int) ≤ b.dr
 case neg =>
  have h1' : (g.length : Int) > b.dr:=by omega
  have A0 : A = false:=by rw [hA]; simp [h1]
  refine Iso_of (es _ _ _ _) e31 ?_
  simp only [f31,bkV]
  simp (disch:=first|assumption|omega|(simp only[az];done)) only [ru,eq_self,if_true,if_false,binI,AO.row?,loadV,Am.rowAt,Am.part,addOff,Nat.reduceAdd,Nat.reduceSub,lenV_sl hg,view_sl hg,pure_sl hg,c42,hr,h1',A0]
 have h1' : ¬ (g.length : Int) > b.dr:=by omega
 rw [decide_eq_true h1,Bool.true_and,rn_eq T3 hrr] at hA
 refine Iso_of (es _ _ _ _) e31 ?_
 simp only [f31,bkV]
 simp (disch:=first|assumption|omega|(simp only[az];done)) only [ru,eq_self,if_true,if_false,binI,AO.row?,loadV,Am.rowAt,Am.part,addOff,Nat.reduceAdd,Nat.reduceSub,lenV_sl hg,view_sl hg,pure_sl hg,c42,hr,h1']
 refine G_loop_ind (fun m ts hk mk => ∃ (i : Nat),i ≤ b.t.T ∧ m = b.t.T - i ∧ (rnB g i).1 ≤ b.rn ∧ (∀ t : Nat,t < i → hasI g t = true → hasI b.so t = false) ∧ ts.length = 44 ∧ ts.getD 1 .undef = gv ∧ ts.getD 2 .undef = .ptr 0 0 ∧ ts.getD 5 .undef = I (rnB g i).2 ∧ ts.getD 6 .undef = I i ∧
   hk = [.cells [I b.t.ch,I b.t.tm,o,w,I b.dr,I b.rn,s] false] ∧ mk = []) ?_ _ _ _ _
  ⟨0,Nat.zero_le _,rfl,rn0,fun t ht => absurd ht (by omega),rfl,rfl,rfl,rfl,rfl,rfl,rfl⟩
 rintro m ts hk mk ih ⟨i,hi,rfl,hrn,hso,hl',q1,q2,q5,q6,rfl,rfl⟩
 rw [lit_all hl']
 have bd:=rnB_bd (g:=g) i
 have mono:=rnB_mono (g:=g) (i:=i + 1) (j:=b.t.T)
 have su : rnB g (i + 1) = if hasI g i then (if (rnB g i).2 + 1 > (rnB g i).1 then (rnB g i).2 + 1 else (rnB g i).1,(rnB g i).2 + 1) else ((rnB g i).1,0):=rfl
 obtain ⟨mx1,hmx⟩ : ∃ x,x = (rnB g i).1:=⟨_,rfl⟩
 obtain ⟨r,hrr2⟩ : ∃ x,x = (rnB g i).2:=⟨_,rfl⟩
 rw [← hmx,← hrr2] at bd su
 rw [← hmx] at hrn
 rw [← hrr2] at q5
 simp only [lit0,litS,Nat.reduceAdd,q1,q2,q5,q6]
 simp (disch:=first|assumption|omega|(simp only[az];done)) only [ru,eq_self,if_true,if_false,binI,AO.row?,loadV,Am.rowAt,Am.part,addOff]
 by_cases hlt : (i : Int) < b.t.tm
 case neg =>
  obtain rfl : i = b.t.T:=by omega
  have A1 : A = true:=by
   rw [hA,Bool.and_eq_true,decide_eq_true_eq,Bool.not_eq_true',List.any_eq_false]
   refine ⟨?_,fun x hx => ?_⟩
   ·rw [← hmx]; exact hrn
   ·have hb:=hrr.1 x hx
    have:=hso x.toNat (by omega) (by rw [Int.toNat_of_nonneg hb.1]; exact hasI_iff.2 hx)
    rw [Int.toNat_of_nonneg hb.1] at this
    rw [this]; simp
  simp (disch:=first|assumption|omega|(simp only[az];done)) only [ru,eq_self,hlt,A1]
 have hi2 : i < b.t.T:=by omega
 have mono:=mono hi2
 have c40:=fun st => s40 hg hl (i : Int) st
 have c40b:=fun st => s40 H.s (by omega) (i : Int) st
 cases hh : hasI g i
 ·rw [hh] at c40 su
  simp only [Bool.false_eq_true,if_false] at su
  simp (disch:=first|assumption|omega|(simp only[az];done)) only [ru,eq_self,if_true,binI,view_sl hg,pure_sl hg,hlt,c40]
  exact ih (b.t.T - (i + 1)) _ _ _ (by omega) ⟨i + 1,by omega,rfl,by rw [su]; exact hrn,fun t ht hg' => by
   by_cases e : t = i
   ·subst e; rw [hh] at hg'; cases hg'
   ·exact hso t (by omega) hg',rfl,rfl,rfl,by rw [su]; rfl,rfl,rfl,rfl⟩
 ·rw [hh] at c40 su
  simp only [if_true] at su
  have hin : (i : Int) ∈ g:=hasI_iff.1 hh
  have up : r + 1 ≤ (rnB g (i + 1)).1 ∧ ((rnB g (i + 1)).1 ≤ r + 1 ∨ (rnB g (i + 1)).1 ≤ mx1):=by
   rw [su]; simp only; split <;> omega
  by_cases hgt : r + 1 > b.rn
  ·have A0 : A = false:=by rw [hA,decide_eq_false (by omega)]; rfl
   simp (disch:=first|assumption|omega|(simp only[az];done)) only [ru,eq_self,if_true,if_false,binI,AO.row?,loadV,Am.rowAt,Am.part,addOff,view_sl hg,pure_sl hg,hlt,c40,hgt,A0]
  cases hsb : hasI b.so i
  ·rw [hsb] at c40b
   simp (disch:=first|assumption|omega|(simp only[az];done)) only [ru,eq_self,if_true,if_false,binI,AO.row?,loadV,Am.rowAt,Am.part,addOff,view_sl H.s,pure_sl H.s,view_sl hg,pure_sl hg,hlt,c40,hgt,c40b]
   exact ih (b.t.T - (i + 1)) _ _ _ (by omega) ⟨i + 1,by omega,rfl,by omega,fun t ht hg' => by
    by_cases e : t = i
    ·subst e; exact hsb
    ·exact hso t (by omega) hg',rfl,rfl,rfl,by rw [su]; rfl,rfl,rfl,rfl⟩
  ·rw [hsb] at c40b
   have A0 : A = false:=by
    rw [hA,Bool.and_eq_false_iff]; right
    rw [Bool.not_eq_false',List.any_eq_true]
    exact ⟨_,hin,hsb⟩
   simp (disch:=first|assumption|omega|(simp only[az];done)) only [ru,eq_self,if_true,if_false,binI,AO.row?,loadV,Am.rowAt,Am.part,addOff,view_sl H.s,pure_sl H.s,view_sl hg,pure_sl hg,hlt,c40,hgt,c40b,A0]
theorem at_apT {α : Type} {l : List α} {k : Nat} {x : α} (h : k < l.length) : (l ++ [x])[k]? = l[k]?:=List.getElem?_append_left h
theorem outE_apG {α : Type} {enc : α → List AV} {esz eb : Nat} (he : ∀ a,(enc a).length = esz) (hs : ∀ a,(enc a).all AV.scalar = true) (heb : 1 ≤ eb) (hb : eb ≤ 1000) {b p : Nat} {h : List AO} {v : AV} {l : List α} {lim : Nat} (H : OutE enc esz b h v l) (hp : h[p]? = some .tomb) (hbp : b ≤ p) (hlim : lim ≤ b) (hl : l.length ≤ 1000000) (x : α) :
  ∃ h',appG false lim p esz eb h v (.cs esz 1 (enc x)) = some (.ms esz p 0 (l.length + 1),h') ∧ h'.length = h.length ∧ h'[p]? = some (.cells ((l ++ [x]).flatMap enc) false) ∧ ∀ j,j < b → h'[j]? = h[j]?:=by
 have pl:=(List.getElem?_eq_some_iff.1 hp).1
 have hx : (enc x).length = 1 * esz:=by rw [he]; omega
 rcases H with ⟨rfl,rfl⟩ | ⟨hne,o,ho,rfl,hc⟩
 ·refine ⟨h.set p (.cells (enc x) false),appG_nil (n:=1) (by omega) rfl rfl hx (hs x) (by omega) heb,by simp,?_,fun j hj => by rw [List.getElem?_set_ne (by omega)]⟩
  rw [List.getElem?_set_self pl]; simp
 ·refine ⟨_,appG_ms (n:=1) (by omega) hc (by rw [flat_len he]) rfl rfl hx (hs x) ?_ heb (by omega),by simp,?_,fun j hj => by rw [List.getElem?_set_ne (by omega),List.getElem?_set_ne (by omega)]⟩
  ·have : (l.length + 1) * eb ≤ 1000001 * 1000:=Nat.mul_le_mul (by omega) hb
   omega
  ·rw [List.getElem?_set_self (by simpa using pl)]
   simp [List.flatMap_append]
abbrev cpW (t : Trap) (q : Nat → Bool) : AV:=.agg [I t.ch,I t.tm,cpO t.op,resW (kpL t.ws q t.ws.length)]
set_option maxHeartbeats 2000000 in
theorem w67 (H : BkOk b o w s) {g : List Int} {gv : AV} (hg : IsSl 1 intL g gv) (hl : g.length ≤ 1000000) : Iso E 67 [bkV b o w s,gv] false = some (cpW b.t (qG b.t g)):=by
 have sw:=H.t.sw
 have c41:=fun st => s41 H.t st
 have oi : IsSl 1 Ls.e (cpL b.t.op) (cpO b.t.op):=cpO_is
 obtain ⟨co,hco⟩ : ∃ co,co = cpO b.t.op:=⟨_,rfl⟩
 have wi : IsSl 4 Wd.e b.t.ws (slV 4 Wd.e b.t.ws):=slV_is
 unfold cpW
 simp only [cpV,trV,← hco] at c41 oi ⊢
 refine Iso_of (es _ _ _ _) e67 ?_
 simp only [f67,bkV]
 simp (disch:=first|assumption|omega|(simp only[az];done)) only [ru,eq_self,if_true,AO.row?,splice,loadV,storeV,Am.rowAt,Am.part,addOff,Nat.reduceAdd,Nat.reduceLeDiff,Nat.reduceSub,view_sl H.t.o,view_sl H.t.w,pure_sl H.t.o,pure_sl H.t.w,c41,scalar_sl oi,scalar_sl wi]
 refine G_loop_ind (fun m ts hk mk => ∃ (i : Nat) (wv : AV),i ≤ b.t.ws.length ∧ m = b.t.ws.length - i ∧ hk[0]? = some (.cells [I b.t.ch,I b.t.tm,o,w,I b.dr,I b.rn,s] false) ∧ hk[1]? = some (.cells [I 0,I 0,.nils,.nils] false) ∧ hk[2]? = some (.cells [I b.t.ch,I b.t.tm,co,wv] false) ∧ OutE Wd.e 4 3 hk wv (kpL b.t.ws (qG b.t g) i) ∧ 3 ≤ hk.length ∧
   ts.length = 41 ∧ ts.getD 1 .undef = gv ∧ ts.getD 2 .undef = .ptr 0 0 ∧ ts.getD 4 .undef = .ptr 1 0 ∧ ts.getD 5 .undef = .ptr 2 0 ∧ ts.getD 6 .undef = I i ∧ mk = []) ?_ _ _ _ _
  ⟨0,.nils,Nat.zero_le _,rfl,rfl,rfl,rfl,.inl ⟨rfl,rfl⟩,by simp,rfl,rfl,rfl,rfl,rfl,rfl,rfl⟩
 rintro m ts hk mk ih ⟨i,wv,hi,rfl,e0,e1,e2,ho,hle,hl',q1,q2,q4,q5,q6,rfl⟩
 rw [lit_all hl']
 simp only [lit0,litS,Nat.reduceAdd,q1,q2,q4,q5,q6]
 simp (disch:=first|assumption|omega|(simp only[az];done)) only [ru,eq_self,if_true,if_false,binI,AO.row?,loadV,Am.rowAt,Am.part,addOff,lenV_sl H.t.w,e0]
 by_cases hlt : (i : Int) < b.t.ws.length
 case neg =>
  obtain rfl : i = b.t.ws.length:=by omega
  have n1 : 1 < hk.length:=by omega
  have vw:=fun x : AO => (ho.set (j:=1) (x:=x) (by omega)).viewW (st:=false) (k:=6)
  simp (disch:=first|assumption|omega|(simp only[az];done)) only [ru,eq_self,if_true,AO.row?,splice,loadV,storeV,Am.rowAt,Am.part,Nat.reduceAdd,Nat.reduceLeDiff,hlt,e1,e2,view_sl oi,scalar_sl oi,ho.sc.2,finC,getRes,List.getElem?_set_self n1,Option.some.injEq,exists_eq_left',vw]
 have hi2 : i < b.t.ws.length:=by omega
 obtain ⟨y,hy⟩ : ∃ y,y = b.t.ws.getD i default:=⟨_,rfl⟩
 have c40:=fun st => s40 hg hl y.time st
 have eq : qG b.t g i = hasI g y.time:=by unfold qG; rw [← hy]
 cases hh : hasI g y.time <;> rw [hh] at c40 eq
 ·have ho' : OutE Wd.e 4 3 (hk ++ [.tomb]) wv (kpL b.t.ws (qG b.t g) i):=ho.fr (Fr.app hk _)
  obtain ⟨h',A2,l2,hp,k2⟩:=outE_apG (eb:=32) (p:=hk.length) (lim:=0) Wd.el Wd.sc (by omega) (by omega) ho' (by simp) hle (by omega) (by have:=@kpL_len b.t.ws (qG b.t g) i; omega) y
  simp only [Wd.e] at A2
  have m0 : 0 < hk.length:=by omega
  have m2 : 2 < hk.length:=by omega
  have d2 : h'[2]? = some (.cells [I b.t.ch,I b.t.tm,co,wv] false):=by rw [k2 _ (by omega),at_apT m2]; exact e2
  have a0 : (hk ++ [AO.tomb])[0]? = some (.cells [I b.t.ch,I b.t.tm,o,w,I b.dr,I b.rn,s] false):=by rw [at_apT m0]; exact e0
  have a2 : (hk ++ [AO.tomb])[2]? = some (.cells [I b.t.ch,I b.t.tm,co,wv] false):=by rw [at_apT m2]; exact e2
  simp (disch:=first|assumption|omega|(simp only[az];done)) only [ru,eq_self,if_true,if_false,binI,AO.row?,splice,fillL,loadV,storeV,zeros,Am.rowAt,Am.part,addOff,Nat.reduceAdd,Nat.reduceMul,Nat.reduceLeDiff,elem_sl Wd.el H.t.w,Int.toNat_natCast,view_sl hg,pure_sl hg,hlt,e0,← hy,Wd.e,c40,GO_mapp,hide,unhN,a0,a2,AV.pureV.go,AV.pureV,A2,d2]
  refine ih (b.t.ws.length - (i + 1)) _ _ _ (by omega) ⟨i + 1,.ms 4 hk.length 0 ((kpL b.t.ws (qG b.t g) i).length + 1),by omega,rfl,?_,?_,?_,?_,by simp [l2]; omega,rfl,rfl,rfl,rfl,rfl,rfl,rfl⟩
  ·rw [List.getElem?_set_ne (by omega),k2 _ (by omega)]; exact a0
  ·rw [List.getElem?_set_ne (by omega),k2 _ (by omega),at_apT (by omega)]; exact e1
  ·rw [List.getElem?_set_self (by rw [l2]; simp; omega)]
  ·rw [kpL_no eq,← hy]
   exact .inr ⟨by simp,hk.length,by omega,by simp,by rw [List.getElem?_set_ne (by omega),hp]⟩
 ·simp (disch:=first|assumption|omega|(simp only[az];done)) only [ru,eq_self,if_true,if_false,binI,AO.row?,loadV,Am.rowAt,Am.part,addOff,elem_sl Wd.el H.t.w,Int.toNat_natCast,view_sl hg,pure_sl hg,hlt,e0,← hy,Wd.e,c40]
  exact ih (b.t.ws.length - (i + 1)) _ _ _ (by omega) ⟨i + 1,wv,by omega,rfl,e0,e1,e2,by rw [kpL_yes eq]; exact ho,hle,rfl,rfl,rfl,rfl,rfl,rfl,rfl⟩
end
end Go.Proofs.YtfknojncfbahpaaGreat.S
namespace Go.Proofs.YtfknojncfbahpaaGreat.S
open Go Go.Am Go.Proofs.YtfknojncfbahpaaGreat.T
set_option maxRecDepth 100000
set_option linter.unusedSimpArgs false
set_option linter.unusedVariables false
theorem solB_congr {t t' : Trap} (h : Solv t'.C t'.T t' ↔ Solv t.C t.T t) {x : Bool} (hx : x = true ↔ Solv t'.C t'.T t') : x = solB t:=by
 rw [Bool.eq_iff_iff,hx,h]
 exact (solB_iff (t:=t)).symm
section
variable {b : Bk} {o w s : AV}
theorem w32 {t : Trap} {o w : AV} (H : TrOk t o w) (hv : t.valid = true) (q : Nat → Bool) (st : Bool) : Iso E 32 [cpW t q] st = some (Bo (solB (t.kp q))):=by
 have K:=(H.kp (resW_is (kpL t.ws q t.ws.length))).cp (o':=cpO t.op) (w':=resW (kpL t.ws q t.ws.length)) cpO_is (resW_is _)
 have V:=cp_trb (kp_trb (q:=q) (valid_trb hv))
 obtain ⟨x,c,hx⟩:=s36 K V (C:=t.C) (T:=t.T) (trC V) (trT V)
 rw [← solB_congr (t:=t.kp q) (t':=(t.kp q).cp) cp_solv hx]
 exact c st
theorem w26 (H : BkOk b o w s) (hv : b.valid = true) {g : List Int} {gv : AV} (hg : IsSl 1 intL g gv) (hl : g.length ≤ 1000000) : Iso E 26 [bkV b o w s,gv] false = some (Bo (b.good g)):=by
 have c31:=fun st => w31 H hv hg hl st
 have c67:=w67 H hg hl
 have c32:=fun st => w32 H.t (bk_t hv) (qG b.t g) st
 have K:=H.t.kp (resW_is (kpL b.t.ws (qG b.t g) b.t.ws.length))
 have wi:=resW_is (kpL b.t.ws (qG b.t g) b.t.ws.length)
 have oi : IsSl 1 Ls.e (cpL b.t.op) (cpO b.t.op):=cpO_is
 obtain ⟨co,hco⟩ : ∃ co,co = cpO b.t.op:=⟨_,rfl⟩
 obtain ⟨cw,hcw⟩ : ∃ cw,cw = resW (kpL b.t.ws (qG b.t g) b.t.ws.length):=⟨_,rfl⟩
 have e : b.good g = ((risL g (b.t.tm - 1) && b.can g) && solB (b.t.kp (qG b.t g))):=by unfold Bk.good Bk.st; rw [Bool.and_assoc]
 obtain ⟨A,hA⟩ : ∃ A,A = (risL g (b.t.tm - 1) && b.can g):=⟨_,rfl⟩
 obtain ⟨B,hB⟩ : ∃ B,B = solB (b.t.kp (qG b.t g)):=⟨_,rfl⟩
 rw [e,← hA,← hB]
 rw [← hA] at c31
 rw [← hB] at c32
 refine Iso_of (es _ _ _ _) e26 ?_
 simp only [f26,bkV,cpW,← hco,← hcw] at c31 c67 c32 oi wi ⊢
 cases A
 ·simp (disch:=first|assumption|omega|(simp only[az];done)) only [ru,eq_self,if_true,if_false,AO.row?,loadV,Am.rowAt,Am.part,Nat.reduceAdd,Nat.reduceSub,view_sl H.t.o,view_sl H.t.w,view_sl H.s,pure_sl H.t.o,pure_sl H.t.w,pure_sl H.s,view_sl hg,pure_sl hg,c31]
 ·simp (disch:=first|assumption|omega|(simp only[az];done)) only [ru,eq_self,if_true,AO.row?,loadV,Am.rowAt,Am.part,Nat.reduceAdd,Nat.reduceSub,view_sl H.t.o,view_sl H.t.w,view_sl H.s,pure_sl H.t.o,pure_sl H.t.w,pure_sl H.s,view_sl hg,pure_sl hg,c31,c67,c32,view_sl oi,pure_sl oi,view_sl wi,pure_sl wi]
end
end Go.Proofs.YtfknojncfbahpaaGreat.S
namespace Go.Proofs.YtfknojncfbahpaaGreat.S
open Go Go.Am Go.Proofs.YtfknojncfbahpaaGreat.T
set_option maxRecDepth 100000
set_option linter.unusedSimpArgs false
set_option linter.unusedVariables false
noncomputable def jud (t : Trap) (y : Wd) : Int:=@ite Int (∀ x,Tr t x → saysW t.C x y) (Classical.propDecidable _) 1 (@ite Int (∀ x,Tr t x → ¬ saysW t.C x y) (Classical.propDecidable _) 2 3)
theorem jud_ok {t : Trap} {y : Wd} : JudP t y (jud t y):=by
 unfold jud JudP
 by_cases h1 : ∀ x,Tr t x → saysW t.C x y
 ·exact .inl ⟨if_pos h1,h1⟩
 ·by_cases h2 : ∀ x,Tr t x → ¬ saysW t.C x y
  ·refine .inr (.inl ⟨?_,h2⟩)
   rw [if_neg h1,if_pos h2]
  ·refine .inr (.inr ⟨?_,?_,?_⟩)
   ·rw [if_neg h1,if_neg h2]
   ·exact Classical.byContradiction fun h => h2 fun x hx hs => h ⟨x,hx,hs⟩
   ·exact Classical.byContradiction fun h => h1 fun x hx => Classical.byContradiction fun hs => h ⟨x,hx,hs⟩
def lieJ (k : Int) : Int:=if k = 1 then 2 else if k = 2 then 1 else 3
noncomputable def lieV (b : Bk) (n : Nat) (g : List Int) : Int:=lieJ (jud (b.t.kp (qG b.t g)) (b.t.ws.getD n default))
theorem kp_fit {t : Trap} {q : Nat → Bool} {y : Wd} : fitB (t.kp q) y = fitB t y:=rfl
theorem kp_solv {b : Bk} {g : List Int} (h : g ∈ b.sts) : Solv (b.t.kp (qG b.t g)).C (b.t.kp (qG b.t g)).T (b.t.kp (qG b.t g)):=solv_tr.2 (mem_sts.1 h).2.2
structure HulX (b : Bk) (L : List (List Int)) (f : (Nat → Int) → Int) (lo hi : Int) : Prop where
 bd : ∀ g ∈ L,∀ x,Tr (b.t.kp (qG b.t g)) x → lo ≤ f x ∧ f x ≤ hi
 l : ∃ g ∈ L,∃ x,Tr (b.t.kp (qG b.t g)) x ∧ f x = lo
 h : ∃ g ∈ L,∃ x,Tr (b.t.kp (qG b.t g)) x ∧ f x = hi
theorem HulX.uniq {b : Bk} {L : List (List Int)} {f : (Nat → Int) → Int} {lo hi lo' hi' : Int} (X : HulX b L f lo hi) (Y : HulX b L f lo' hi') : lo = lo' ∧ hi = hi':=by
 obtain ⟨g,m,x,a1,a2⟩:=X.l
 obtain ⟨g2,m2,y,b1,b2⟩:=Y.l
 obtain ⟨g3,m3,z,c1,c2⟩:=X.h
 obtain ⟨g4,m4,u,d1,d2⟩:=Y.h
 have:=X.bd g2 m2 y b1
 have:=Y.bd g m x a1
 have:=X.bd g4 m4 u d1
 have:=Y.bd g3 m3 z c1
 omega
theorem HulX.one {b : Bk} {g : List Int} {f : (Nat → Int) → Int} {lo hi : Int} (X : Xt (b.t.kp (qG b.t g)) f lo hi) : HulX b [g] f lo hi:=by
 obtain ⟨a,⟨x,b1,b2⟩,y,c1,c2⟩:=xt_tr X
 exact ⟨fun g' hg => by rw [List.mem_singleton] at hg; subst hg; exact a,⟨g,by simp,x,b1,b2⟩,⟨g,by simp,y,c1,c2⟩⟩
theorem HulX.snoc {b : Bk} {L : List (List Int)} {g : List Int} {f : (Nat → Int) → Int} {lo hi lo' hi' : Int} (X : HulX b L f lo hi) (Y : HulX b [g] f lo' hi') : HulX b (L ++ [g]) f (mmx false lo lo') (mmx true hi hi'):=by
 have e1 : mmx false lo lo' = if lo' < lo then lo' else lo:=rfl
 have e2 : mmx true hi hi' = if hi' > hi then hi' else hi:=rfl
 rw [e1,e2]
 refine ⟨fun g' hg x hx => ?_,?_,?_⟩
 ·rcases List.mem_append.1 hg with h | h
  ·have:=X.bd g' h x hx
   split <;> split <;> omega
  ·have:=Y.bd g' h x hx
   split <;> split <;> omega
 ·split
  ·obtain ⟨g',m,x,a⟩:=Y.l; exact ⟨g',List.mem_append_right _ m,x,a⟩
  ·obtain ⟨g',m,x,a⟩:=X.l; exact ⟨g',List.mem_append_left _ m,x,a⟩
 ·split
  ·obtain ⟨g',m,x,a⟩:=Y.h; exact ⟨g',List.mem_append_right _ m,x,a⟩
  ·obtain ⟨g',m,x,a⟩:=X.h; exact ⟨g',List.mem_append_left _ m,x,a⟩
section
variable {b : Bk} {o w s : AV}
theorem stOk (H : BkOk b o w s) (g : List Int) : TrOk (b.t.kp (qG b.t g)) o (resW (kpL b.t.ws (qG b.t g) b.t.ws.length)):=H.t.kp (resW_is _)
theorem w115 (H : BkOk b o w s) (hv : b.valid = true) {sv : AV} {g : List Int} (hg : g ∈ b.sts) {n : Nat} (hn : n < b.t.ws.length) {h : List AO} {pb pw : Nat} (h1 : h[pb]? = some (.cells (wkC b o w s sv) false)) (h2 : h[pw]? = some (.cells [I n] false)) :
  Ro E 115 [.agg (stE b o g),.ptr pb 0,.ptr pw 0] h = some (I (lieV b n g)):=by
 have gi:=resL_is g
 have K:=stOk H g
 have wi:=resW_is (kpL b.t.ws (qG b.t g) b.t.ws.length)
 have V:=valid_trb (bk_t hv)
 have hn' : (n : Int) < b.t.ws.length:=by omega
 have fy:=V.fw _ (getD_mem hn)
 unfold lieV
 obtain ⟨y,hy⟩ : ∃ y,y = b.t.ws.getD n default:=⟨_,rfl⟩
 rw [← hy] at fy ⊢
 obtain ⟨v,e,c29,A⟩:=s29 K y
 have hj : v = jud (b.t.kp (qG b.t g)) y:=by
  cases A with
  | bad h => rw [kp_valid (bk_t hv)] at h; cases h
  | arg _ h => rw [kp_fit,fy] at h; cases h
  | none _ _ h => exact absurd (kp_solv hg) h
  | ok _ _ hs hp => exact hp.1.uniq hs jud_ok
 rw [← hj]
 have pl1:=(List.getElem?_eq_some_iff.1 h1).1
 have pl2:=(List.getElem?_eq_some_iff.1 h2).1
 unfold lieJ
 simp only [wkC] at h1
 simp only [trV,Wd.e,show (b.t.kp (qG b.t g)).ch = b.t.ch from rfl,show (b.t.kp (qG b.t g)).tm = b.t.tm from rfl] at c29
 refine Ro_of (es _ _ _ _) e115 ?_
 simp only [f115,stE]
 by_cases e1 : v = 1
 ·simp (disch:=first|assumption|omega|(simp only[az];done)) only [ru,eq_self,if_true,if_false,BEq.rfl,binI,AO.row?,loadV,Am.rowAt,Am.part,addOff,Nat.reduceAdd,Nat.reduceSub,Int.reduceEq,elem_sl Wd.el H.t.w,view_sl H.t.o,pure_sl H.t.o,Int.toNat_natCast,view_sl wi,pure_sl wi,at_ap pl1,at_ap pl2,h1,h2,← hy,Wd.e,c29,e1]
  rfl
 ·by_cases e2 : v = 2
  ·simp (disch:=first|assumption|omega|(simp only[az];done)) only [ru,eq_self,if_true,if_false,BEq.rfl,binI,AO.row?,loadV,Am.rowAt,Am.part,addOff,Nat.reduceAdd,Nat.reduceSub,Int.reduceEq,elem_sl Wd.el H.t.w,view_sl H.t.o,pure_sl H.t.o,Int.toNat_natCast,view_sl wi,pure_sl wi,at_ap pl1,at_ap pl2,h1,h2,← hy,Wd.e,c29,e2]
   rfl
  ·simp (disch:=first|assumption|omega|(simp only[az];done)) only [ru,eq_self,if_true,if_false,binI,AO.row?,loadV,Am.rowAt,Am.part,addOff,Nat.reduceAdd,Nat.reduceSub,elem_sl Wd.el H.t.w,view_sl H.t.o,pure_sl H.t.o,Int.toNat_natCast,view_sl wi,pure_sl wi,at_ap pl1,at_ap pl2,h1,h2,← hy,Wd.e,c29,e1,e2]
   rfl
theorem w73 (H : BkOk b o w s) (hv : b.valid = true) (hs : b.sts ≠ []) {sv : AV} (HS : IsSl 5 (stE b o) b.sts sv) {n : Nat} (hn : n < b.t.ws.length) : Iso E 73 [wkV b o w s sv,I n] false = some (I (agr (lieV b n) b.sts)):=by
 have c:=w114 H HS hs (by have:=sts_len hv; omega) (f:=lieV b n) (k:=115) (cap:=[.ptr 0 0,.ptr 1 0]) (h:=[.cells (wkC b o w s sv) false,.cells [I n] false]) (fun g hg J => w115 H hv hg hn (by rfl) (by rfl))
 refine Iso_of (es _ _ _ _) e73 ?_
 simp only [f73,wkV,wkC] at c ⊢
 simp (disch:=first|assumption|omega|(simp only[az];done)) only [ru,eq_self,if_true,AO.row?,loadV,Am.rowAt,Am.part,Nat.reduceAdd,Nat.reduceSub,c]
theorem w21 (H : BkOk b o w s) (n : Int) : ∃ v e,Iso E 21 [bkV b o w s,I n] false = some (.tup [I v,I e]) ∧ AnB b (inR n 0 ((b.t.ws.length : Int) - 1)) (fun e => ((0 : Int),e)) (fun r => r = (agr (lieV b n.toNat) b.sts,0)) (v,e):=by
 have c72:=fun st => w72 H n st
 obtain ⟨fit,hfit⟩ : ∃ fit,fit = inR n 0 ((b.t.ws.length : Int) - 1):=⟨_,rfl⟩
 rw [← hfit] at c72 ⊢
 obtain ⟨r,e,c71,A⟩:=w71 H fit
 cases A with
 |
  bad hv =>
  refine ⟨0,110,?_,.bad hv⟩
  refine Iso_of (es _ _ _ _) e21 ?_
  simp only [f21,bkV,zer8] at c71 c72 ⊢
  simp (disch:=first|assumption|omega|(simp only[az];done)) only [ru,eq_self,if_true,binI,AO.row?,splice,loadV,storeV,Am.rowAt,Am.part,Nat.reduceAdd,Nat.reduceLeDiff,Nat.reduceSub,Int.reduceEq,view_sl H.t.o,view_sl H.t.w,view_sl H.s,pure_sl H.t.o,pure_sl H.t.w,pure_sl H.s,c72,c71]
 |
  arg hv hf =>
  refine ⟨0,1,?_,.arg hv hf⟩
  refine Iso_of (es _ _ _ _) e21 ?_
  simp only [f21,bkV,zer8] at c71 c72 ⊢
  simp (disch:=first|assumption|omega|(simp only[az];done)) only [ru,eq_self,if_true,binI,AO.row?,splice,loadV,storeV,Am.rowAt,Am.part,Nat.reduceAdd,Nat.reduceLeDiff,Nat.reduceSub,Int.reduceEq,view_sl H.t.o,view_sl H.t.w,view_sl H.s,pure_sl H.t.o,pure_sl H.t.w,pure_sl H.s,c72,c71]
 |
  none hv hf hn =>
  refine ⟨0,3,?_,.none hv hf hn⟩
  refine Iso_of (es _ _ _ _) e21 ?_
  simp only [f21,bkV,zer8] at c71 c72 ⊢
  simp (disch:=first|assumption|omega|(simp only[az];done)) only [ru,eq_self,if_true,binI,AO.row?,splice,loadV,storeV,Am.rowAt,Am.part,Nat.reduceAdd,Nat.reduceLeDiff,Nat.reduceSub,Int.reduceEq,view_sl H.t.o,view_sl H.t.w,view_sl H.s,pure_sl H.t.o,pure_sl H.t.w,pure_sl H.s,c72,c71]
 |
  ok hv hf hs =>
  have hr:=inR_iff.1 (hfit.symm.trans hf)
  have HS:=resS_is (b:=b) (o:=o) b.sts
  have c:=w73 H hv hs HS (n:=n.toNat) (by omega)
  rw [Int.toNat_of_nonneg hr.1] at c
  obtain ⟨sv,hsv⟩ : ∃ sv,sv = resS b o b.sts:=⟨_,rfl⟩
  rw [← hsv] at c71 HS c
  refine ⟨_,_,?_,.ok hv hf hs rfl⟩
  refine Iso_of (es _ _ _ _) e21 ?_
  simp only [f21,bkV,wkV,wkC] at c71 c c72 ⊢
  simp (disch:=first|assumption|omega|(simp only[az];done)) only [ru,eq_self,if_true,binI,AO.row?,splice,loadV,storeV,Am.rowAt,Am.part,Nat.reduceAdd,Nat.reduceLeDiff,Nat.reduceSub,view_sl H.t.o,view_sl H.t.w,view_sl H.s,scalar_sl H.t.o,scalar_sl H.t.w,scalar_sl H.s,pure_sl H.t.o,pure_sl H.t.w,pure_sl H.s,view_sl HS,scalar_sl HS,pure_sl HS,c72,c71,c]
set_option maxHeartbeats 4000000 in
theorem w76 (H : BkOk b o w s) {sv : AV} {L : List (List Int)} (HS : IsSl 5 (stE b o) L sv) (hne : L ≠ []) (hl : L.length ≤ 1000) {f : (Nat → Int) → Int} {k : Nat} {cap : List AV} {h : List AO}
  (hq : ∀ g ∈ L,∃ lo hi,(∃ e,∀ h',Fr h h' → Ro E k (.agg [I b.t.ch,I b.t.tm,o,resW (kpL b.t.ws (qG b.t g) b.t.ws.length)] :: cap) h' = some (.tup [.agg [I lo,I hi],I e])) ∧ HulX b [g] f lo hi) :
  ∃ lo hi,Ro E 76 [wkV b o w s sv,.fn k [] cap] h = some (.agg [I lo,I hi]) ∧ HulX b L f lo hi:=by
 obtain ⟨g0,M,rfl⟩ : ∃ g0 M,L = g0 :: M:=by
  cases L with
  | nil => exact absurd rfl hne
  | cons g M => exact ⟨g,M,rfl⟩
 obtain ⟨u,su,iu⟩:=slice_hi stE_len HS (k:=1) (by simp)
 simp only [List.drop_succ_cons,List.drop_zero] at iu
 have su : sliceV 5 sv (some (I 1)) none = some u:=su
 have h0 : (0 : Int) < ((g0 :: M).length : Int):=by simp only [List.length_cons]; omega
 have ml : M.length ≤ 1000:=by simp only [List.length_cons] at hl; omega
 obtain ⟨lo0,hi0,⟨ee0,hq0⟩,X0⟩:=hq g0 (by simp)
 have gi0:=resL_is g0
 have wi0:=resW_is (kpL b.t.ws (qG b.t g0) b.t.ws.length)
 have g00 : (g0 :: M).getD 0 default = g0:=rfl
 refine (fun x => ?_ : (∃ w',Ro E 76 [wkV b o w s sv,.fn k [] cap] h = some w' ∧ ∃ lo hi,w' = .agg [I lo,I hi] ∧ HulX b (g0 :: M) f lo hi) → _) (Ro_ex (fun r => ∃ lo hi,r = .agg [I lo,I hi] ∧ HulX b (g0 :: M) f lo hi) (by rintro _ ⟨lo,hi,rfl,_⟩; rfl) (es _ _ _ _) e76 ?_)
 ·obtain ⟨w',hv,lo,hi,rfl,hh⟩:=x; exact ⟨lo,hi,hv,hh⟩
 have hq1:=hq0 (h ++ [.cells [I b.t.ch,I b.t.tm,o,w,I b.dr,I b.rn,s,sv] false,.cells [I 0,I 0] false]) (Fr.app _ _)
 have pp1 : h.length ≤ h.length + 1:=by omega
 have pp2 : h.length ≤ h.length + 2:=by omega
 simp only [f76,wkV,wkC]
 simp (disch:=first|assumption|omega|(simp only[az];done)) only [ru,eq_self,if_true,if_false,AO.row?,splice,loadV,storeV,Am.rowAt,Am.part,addOff,Nat.reduceAdd,Nat.reduceLeDiff,Nat.reduceSub,Int.reduceToNat,pp2,elem_sl stE_len HS,List.append_assoc,lenE,setT,atT,atT0,g00,stE,hq1,su,lenV_sl iu]
 refine G_loop_ind (fun m ts hk mk => ∃ (i : Nat) (lo hi : Int),i ≤ M.length ∧ m = M.length - i ∧ h.length + 2 < hk.length ∧ (∀ j,j < h.length → hk[j]? = h[j]?) ∧ hk[h.length + 1]? = some (.cells [I 0,I 0] false) ∧ hk[h.length + 2]? = some (.cells [I lo,I hi] false) ∧
   HulX b (g0 :: M.take i) f lo hi ∧ ts.length = 50 ∧ ts.getD 1 .undef = .fn k [] cap ∧ ts.getD 4 .undef = .ptr (h.length + 1) 0 ∧ ts.getD 5 .undef = .ptr (h.length + 2) 0 ∧ ts.getD 23 .undef = u ∧ ts.getD 24 .undef = I M.length ∧ ts.getD 25 .undef = I i ∧ mk = []) ?_ _ _ _ _
  ⟨0,lo0,hi0,Nat.zero_le _,rfl,by simp,fun j hj => by rw [List.getElem?_append_left hj],by rw [atT]; rfl,by rw [atT]; rfl,X0,rfl,rfl,rfl,rfl,rfl,rfl,rfl,rfl⟩
 rintro m ts hk mk ih ⟨i,lo,hi',hi,rfl,n0,k0,e1,e2,X,hl',q1,q4,q5,q23,q24,q25,rfl⟩
 rw [lit_all hl']
 simp only [lit0,litS,Nat.reduceAdd,q1,q4,q5,q23,q24,q25]
 simp (disch:=first|assumption|omega|(simp only[az];done)) only [ru,eq_self,if_true,binI]
 by_cases hlt : (i : Int) < M.length
 case neg =>
  obtain rfl : i = M.length:=by omega
  rw [List.take_length] at X
  have n1 : h.length + 1 < hk.length:=by omega
  have hput : h.length ≤ h.length + 1:=by omega
  simp (disch:=first|assumption|omega|(simp only[az];done)) only [ru,eq_self,if_true,AO.row?,splice,loadV,storeV,Am.rowAt,Am.part,Nat.reduceAdd,Nat.reduceLeDiff,hlt,e1,e2,hput,finC,getRes,List.getElem?_set_self n1,Option.some.injEq,exists_eq_left']
  exact ⟨lo,hi',rfl,X⟩
 have hi2 : i < M.length:=by omega
 obtain ⟨g,hg⟩ : ∃ g,g = M.getD i default:=⟨_,rfl⟩
 obtain ⟨lo1,hi1,⟨ee,hqg⟩,X1⟩:=hq g (List.mem_cons_of_mem _ (by rw [hg]; exact getD_mem hi2))
 have gi:=resL_is g
 have wi:=resW_is (kpL b.t.ws (qG b.t g) b.t.ws.length)
 have tk : M.take (i + 1) = M.take i ++ [g]:=by
  rw [List.take_succ_eq_append_getElem hi2,hg,List.getD_eq_getElem?_getD,List.getElem?_eq_getElem hi2]; rfl
 obtain ⟨h1,hh1⟩ : ∃ h1,h1 = hk ++ [.cells [resL g,I b.t.ch,I b.t.tm,o,resW (kpL b.t.ws (qG b.t g) b.t.ws.length)] false]:=⟨_,rfl⟩
 have f1 : Fr hk h1:=by rw [hh1]; exact Fr.app _ _
 have l1 : h1.length = hk.length + 1:=by rw [hh1]; simp
 have f0 : Fr h hk:=⟨by omega,k0⟩
 have hql:=hqg h1 (f0.trans f1)
 have a1 : h1[hk.length]? = some (.cells [resL g,I b.t.ch,I b.t.tm,o,resW (kpL b.t.ws (qG b.t g) b.t.ws.length)] false):=by rw [hh1]; exact atE
 obtain ⟨h2,hh2⟩ : ∃ h2,h2 = h1 ++ [.cells [I lo1,I hi1] false]:=⟨_,rfl⟩
 have f2 : Fr h1 h2:=by rw [hh2]; exact Fr.app _ _
 have l2 : h2.length = h1.length + 1:=by rw [hh2]; simp
 have d2 : h2[h.length + 2]? = some (.cells [I lo,I hi'] false):=f2.at (f1.at e2)
 have d1 : h2[h.length + 1]? = some (.cells [I 0,I 0] false):=f2.at (f1.at e1)
 have d3 : h2[h1.length]? = some (.cells [I lo1,I hi1] false):=by rw [hh2]; exact atE
 have p2 : h.length + 2 < h2.length:=by omega
 have hp1 : h.length ≤ hk.length:=by omega
 have hp2 : h.length ≤ h1.length:=by omega
 have hp3 : h.length ≤ h.length + 2:=by omega
 have on1 : (h1.length != h.length + 2) = true:=by simp; omega
 have on2 : (h1.length == h1.length) = true:=by simp
 simp (disch:=first|assumption|omega|(simp only[az];done)) only [ru,eq_self,if_true,if_false,BEq.rfl,binI,AO.row?,splice,mmAll,loadV,storeV,Am.rowAt,Am.part,addOff,Nat.reduceAdd,Nat.reduceLeDiff,scalar_sl H.t.o,Int.toNat_natCast,hlt,elem_sl stE_len iu,Int.toNat_natCast,← hg,stE,scalar_sl gi,scalar_sl wi,← hh1,hp1,hp2,hp3,a1,hql,← hh2,d2,d3,exOp_loadR,exOp_storeR,objIs,objNot,on1,List.getElem?_set_self p2]
 refine ih (M.length - (i + 1)) _ _ _ (by omega) ⟨i + 1,mmx false lo lo1,mmx true hi' hi1,by omega,rfl,by simp; omega,fun j hj => ?_,?_,?_,by rw [tk]; exact X.snoc X1,rfl,rfl,rfl,rfl,rfl,rfl,rfl,rfl⟩
 ·rw [List.getElem?_set_ne (by omega),List.getElem?_set_ne (by omega)]; exact ((f0.trans f1).trans f2).k j hj
 ·rw [List.getElem?_set_ne (by omega),List.getElem?_set_ne (by omega)]; exact d1
 ·rw [List.getElem?_set_self (by simp; omega)]
theorem w77 (H : BkOk b o w s) (hv : b.valid = true) {g : List Int} (hg : g ∈ b.sts) {x y : Int} (hp : placeB b.t x y = true) {h : List AO} {px py : Nat} (h1 : h[px]? = some (.cells [I x] false)) (h2 : h[py]? = some (.cells [I y] false)) :
  ∃ lo hi,(∃ e,∀ h',Fr h h' → Ro E 77 [.agg [I b.t.ch,I b.t.tm,o,resW (kpL b.t.ws (qG b.t g) b.t.ws.length)],.ptr px 0,.ptr py 0] h' = some (.tup [.agg [I lo,I hi],I e])) ∧ HulX b [g] (fun z => gap b.t.C z x.toNat y.toNat) lo hi:=by
 have K:=stOk H g
 have wi:=resW_is (kpL b.t.ws (qG b.t g) b.t.ws.length)
 obtain ⟨lo,hi,e,c,A⟩:=s32 K x y
 have X : Xt (b.t.kp (qG b.t g)) (fun z => gap b.t.C z x.toNat y.toNat) lo hi:=by
  cases A with
  | bad h => rw [kp_valid (bk_t hv)] at h; cases h
  | arg _ h => exact absurd (h.symm.trans hp) (by decide)
  | none _ _ h => exact absurd (kp_solv hg) h
  | ok _ _ hs hx => exact hx
 refine ⟨lo,hi,⟨e,fun h' fr => ?_⟩,.one X⟩
 have g1:=fr.at h1
 have g2:=fr.at h2
 have pl1:=(List.getElem?_eq_some_iff.1 g1).1
 have pl2:=(List.getElem?_eq_some_iff.1 g2).1
 have pp1 : h'.length ≤ h'.length + 1:=by omega
 simp only [trV,show (b.t.kp (qG b.t g)).ch = b.t.ch from rfl,show (b.t.kp (qG b.t g)).tm = b.t.tm from rfl] at c
 have n1 : h'.length + 1 < h'.length + 2:=by omega
 refine Ro_of (es _ _ _ _) e77 ?_
 simp only [f77]
 simp (disch:=first|assumption|omega|(simp only[az];done)) only [ru,eq_self,if_true,if_false,AO.row?,splice,loadV,storeV,Am.rowAt,Am.part,Nat.reduceAdd,Nat.reduceLeDiff,Nat.reduceSub,view_sl H.t.o,pure_sl H.t.o,view_sl wi,pure_sl wi,pp1,List.append_assoc,lenE,setT,atT,atT0,at_ap pl1,at_ap pl2,g1,g2,c,finC2,getRes,Option.some.injEq,exists_eq_left']
 rfl
theorem w24 (H : BkOk b o w s) (x y : Int) : ∃ lo hi e,Iso E 24 [bkV b o w s,I x,I y] false = some (.tup [.agg [I lo,I hi],I e]) ∧ AnB b (inR x 0 (wr .i64 (b.t.tm - 1)) && inR y 0 (wr .i64 (b.t.ch - 1))) (fun e => ((0 : Int),(0 : Int),e)) (fun r => HulX b b.sts (fun z => gap b.t.C z x.toNat y.toNat) r.1 r.2.1 ∧ r.2.2 = 0) (lo,hi,e):=by
 have c1:=fun st => w74 H x st
 have c2:=fun st => w75 H y st
 obtain ⟨f1,hf1⟩ : ∃ f,f = inR x 0 (wr .i64 (b.t.tm - 1)):=⟨_,rfl⟩
 obtain ⟨f2,hf2⟩ : ∃ f,f = inR y 0 (wr .i64 (b.t.ch - 1)):=⟨_,rfl⟩
 rw [← hf1] at c1 ⊢
 rw [← hf2] at c2 ⊢
 obtain ⟨r,e,c71,A⟩:=w71 H (f1 && f2)
 cases A with
 |
  bad hv =>
  refine ⟨0,0,110,?_,.bad hv⟩
  refine Iso_of (es _ _ _ _) e24 ?_
  simp only [f24,bkV,zer8] at c71 c1 c2 ⊢
  cases f1
  ·rw [Bool.false_and] at c71
   simp (disch:=first|assumption|omega|(simp only[az];done)) only [ru,eq_self,if_true,if_false,binI,AO.row?,splice,fillL,loadV,storeV,Am.rowAt,Am.part,Nat.reduceAdd,Nat.reduceLeDiff,Nat.reduceSub,Int.reduceEq,view_sl H.t.o,view_sl H.t.w,view_sl H.s,pure_sl H.t.o,pure_sl H.t.w,pure_sl H.s,c1,c71,hide,finC2,getRes,Option.some.injEq,exists_eq_left']
  ·rw [Bool.true_and] at c71
   simp (disch:=first|assumption|omega|(simp only[az];done)) only [ru,eq_self,if_true,if_false,binI,AO.row?,splice,fillL,loadV,storeV,Am.rowAt,Am.part,Nat.reduceAdd,Nat.reduceLeDiff,Nat.reduceSub,Int.reduceEq,view_sl H.t.o,view_sl H.t.w,view_sl H.s,pure_sl H.t.o,pure_sl H.t.w,pure_sl H.s,c1,c2,c71,hide,finC2,getRes,Option.some.injEq,exists_eq_left']
 |
  arg hv hf =>
  refine ⟨0,0,1,?_,.arg hv hf⟩
  refine Iso_of (es _ _ _ _) e24 ?_
  simp only [f24,bkV,zer8] at c71 c1 c2 ⊢
  cases f1
  ·rw [Bool.false_and] at c71
   simp (disch:=first|assumption|omega|(simp only[az];done)) only [ru,eq_self,if_true,if_false,binI,AO.row?,splice,fillL,loadV,storeV,Am.rowAt,Am.part,Nat.reduceAdd,Nat.reduceLeDiff,Nat.reduceSub,Int.reduceEq,view_sl H.t.o,view_sl H.t.w,view_sl H.s,pure_sl H.t.o,pure_sl H.t.w,pure_sl H.s,c1,c71,hide,finC2,getRes,Option.some.injEq,exists_eq_left']
  ·rw [Bool.true_and] at c71
   simp (disch:=first|assumption|omega|(simp only[az];done)) only [ru,eq_self,if_true,if_false,binI,AO.row?,splice,fillL,loadV,storeV,Am.rowAt,Am.part,Nat.reduceAdd,Nat.reduceLeDiff,Nat.reduceSub,Int.reduceEq,view_sl H.t.o,view_sl H.t.w,view_sl H.s,pure_sl H.t.o,pure_sl H.t.w,pure_sl H.s,c1,c2,c71,hide,finC2,getRes,Option.some.injEq,exists_eq_left']
 |
  none hv hf hn =>
  refine ⟨0,0,3,?_,.none hv hf hn⟩
  obtain ⟨rfl,rfl⟩ : f1 = true ∧ f2 = true:=by simpa using hf
  refine Iso_of (es _ _ _ _) e24 ?_
  simp only [f24,bkV,zer8,Bool.and_self] at c71 c1 c2 ⊢
  simp (disch:=first|assumption|omega|(simp only[az];done)) only [ru,eq_self,if_true,if_false,binI,AO.row?,splice,fillL,loadV,storeV,Am.rowAt,Am.part,Nat.reduceAdd,Nat.reduceLeDiff,Nat.reduceSub,Int.reduceEq,view_sl H.t.o,view_sl H.t.w,view_sl H.s,pure_sl H.t.o,pure_sl H.t.w,pure_sl H.s,c1,c2,c71,hide,finC2,getRes,Option.some.injEq,exists_eq_left']
 |
  ok hv hf hs =>
  obtain ⟨rfl,rfl⟩ : f1 = true ∧ f2 = true:=by simpa using hf
  have V:=valid_trb (bk_t hv)
  have v0:=V.c0; have v1:=V.c1; have v2:=V.t0; have v3:=V.t1
  have hx:=inR_iff.1 hf1.symm
  have hy:=inR_iff.1 hf2.symm
  rw [wr64 (by omega) (by omega)] at hx hy
  have hp : placeB b.t x y = true:=by simp only [placeB,Bool.and_eq_true,decide_eq_true_eq]; omega
  have HS:=resS_is (b:=b) (o:=o) b.sts
  obtain ⟨sv,hsv⟩ : ∃ sv,sv = resS b o b.sts:=⟨_,rfl⟩
  obtain ⟨lo,hi,c76,X⟩:=w76 (sv:=sv) H (by rw [hsv]; exact HS) hs (by have:=sts_len hv; omega) (k:=77) (cap:=[.ptr 1 0,.ptr 2 0]) (h:=[.cells [I b.t.ch,I b.t.tm,o,w,I b.dr,I b.rn,s] false,.cells [I x] false,.cells [I y] false,.cells [I 0,I 0] false,.cells (wkC b o w s sv) false])
   (fun g hg => w77 H hv hg hp (by rfl) (by rfl))
  rw [← hsv] at c71 HS
  refine ⟨lo,hi,0,?_,.ok hv rfl hs ⟨X,rfl⟩⟩
  refine Iso_of (es _ _ _ _) e24 ?_
  simp only [f24,bkV,wkV,wkC,Bool.and_self] at c71 c76 c1 c2 ⊢
  simp (disch:=first|assumption|omega|(simp only[az];done)) only [ru,eq_self,if_true,if_false,binI,AO.row?,splice,loadV,storeV,Am.rowAt,Am.part,Nat.reduceAdd,Nat.reduceLeDiff,Nat.reduceSub,view_sl H.t.o,view_sl H.t.w,view_sl H.s,scalar_sl H.t.o,scalar_sl H.t.w,scalar_sl H.s,pure_sl H.t.o,pure_sl H.t.w,pure_sl H.s,scalar_sl HS,c1,c2,c71,c76,hide,finC2,getRes,Option.some.injEq,exists_eq_left']
end
end Go.Proofs.YtfknojncfbahpaaGreat.S
namespace Go.Proofs.YtfknojncfbahpaaGreat.S
open Go Go.Am Go.Proofs.YtfknojncfbahpaaGreat.T
set_option maxRecDepth 100000
set_option linter.unusedSimpArgs false
set_option linter.unusedVariables false
theorem flatI : ∀ {l : List Int} {i : Nat},i < l.length → (l.flatMap intL)[i]? = some (I (l.getD i 0))
 | [],i,h => by simp at h
 | a :: l,0,_ => rfl
 |
  a :: l,i + 1,h => by
  rw [List.flatMap_cons]
  show (intL a ++ l.flatMap intL)[i + 1]? = _
  rw [List.getElem?_append_right (by simp)]
  simpa using flatI (l:=l) (i:=i) (by simpa using h)
theorem flatIh {l : List Int} {i : Nat} (h : i < l.length) : ((l.flatMap intL).drop i).head? = some (I (l.getD i 0)):=by rw [List.head?_drop]; exact flatI h
def swp (m : List Int) (j : Nat) : List Int:=(m.set j (m.getD (j - 1) 0)).set (j - 1) (m.getD j 0)
theorem swp_len {m : List Int} {j : Nat} : (swp m j).length = m.length:=by simp [swp]
theorem swp_at {m : List Int} {j p : Nat} (h0 : 0 < j) (hj : j < m.length) : (swp m j).getD p 0 = if p = j then m.getD (j - 1) 0 else if p = j - 1 then m.getD j 0 else m.getD p 0:=by
 unfold swp
 simp only [List.getD_eq_getElem?_getD,List.getElem?_set,List.length_set]
 by_cases h1 : p = j
 ·subst h1
  rw [if_neg (by omega),if_pos rfl,if_pos hj,if_pos rfl]; rfl
 ·by_cases h2 : p = j - 1
  ·subst h2
   rw [if_pos rfl,if_pos (by omega),if_neg h1,if_pos rfl]; rfl
  ·rw [if_neg (by omega),if_neg (by omega),if_neg h1,if_neg h2]
theorem mem_swp {m : List Int} {j : Nat} (h0 : 0 < j) (hj : j < m.length) {x : Int} : x ∈ swp m j ↔ x ∈ m:=by
 have at' : ∀ (l : List Int) (i : Nat) (hi : i < l.length),l.getD i 0 = l[i]:=fun l i hi => by simp [List.getD_eq_getElem?_getD,hi]
 constructor
 ·intro h
  obtain ⟨p,hp,rfl⟩:=mem_atI h
  rw [swp_len] at hp
  rw [swp_at h0 hj]
  split
  ·exact getD_memI (by omega)
  ·split
   ·exact getD_memI hj
   ·exact getD_memI hp
 ·intro h
  obtain ⟨p,hp,rfl⟩:=mem_atI h
  by_cases h1 : p = j
  ·have : (swp m j).getD (j - 1) 0 = m.getD p 0:=by rw [swp_at h0 hj,if_neg (by omega),if_pos rfl,h1]
   rw [← this]; exact getD_memI (by rw [swp_len]; omega)
  ·by_cases h2 : p = j - 1
   ·have : (swp m j).getD j 0 = m.getD p 0:=by rw [swp_at h0 hj,if_pos rfl,h2]
    rw [← this]; exact getD_memI (by rw [swp_len]; omega)
   ·have : (swp m j).getD p 0 = m.getD p 0:=by rw [swp_at h0 hj,if_neg h1,if_neg h2]
    rw [← this]; exact getD_memI (by rw [swp_len]; omega)
def srt (m : List Int) (i j : Nat) : Prop:=∀ p q,p < q → q ≤ i → q ≠ j → m.getD p 0 ≤ m.getD q 0
theorem srt_swp {m : List Int} {i j : Nat} (h : srt m i j) (h0 : 0 < j) (hji : j ≤ i) (hj : j < m.length) (hlt : m.getD j 0 < m.getD (j - 1) 0) : srt (swp m j) i (j - 1):=by
 intro p q hpq hq hqj
 rw [swp_at h0 hj,swp_at h0 hj]
 by_cases q1 : q = j
 ·subst q1
  rw [if_pos rfl,if_neg (by omega)]
  split
  ·omega
  ·exact h p (q - 1) (by omega) (by omega) (by omega)
 ·rw [if_neg q1,if_neg hqj]
  split
  ·exact h (j - 1) q (by omega) hq q1
  ·split
   ·exact h j q (by omega) hq q1
   ·exact h p q hpq hq q1
theorem srt_end {m : List Int} {i j : Nat} (h : srt m i j) (hji : j ≤ i) (hge : j = 0 ∨ m.getD (j - 1) 0 ≤ m.getD j 0) : ∀ p q,p < q → q ≤ i → m.getD p 0 ≤ m.getD q 0:=by
 intro p q hpq hq
 by_cases q1 : q = j
 ·subst q1
  rcases hge with h1 | h1
  ·omega
  ·by_cases e : p = q - 1
   ·subst e; exact h1
   ·exact Int.le_trans (h p (q - 1) (by omega) (by omega) (by omega)) h1
 ·exact h p q hpq hq q1
theorem w183 (x : Int) (st : Bool) : Iso E 183 [I x] st = some (Bo false):=by
 refine Iso_of (es _ _ _ _) e183 ?_
 simp only [f183]
 have e : (x != x) = false:=by simp
 simp (disch:=first|assumption|omega|(simp only[az];done)) only [ru,eq_self,if_true,binI,Nat.reduceSub,e]
theorem w172 (x y : Int) (st : Bool) : Iso E 172 [I x,I y] st = some (Bo (decide (x < y))):=by
 refine Iso_of (es _ _ _ _) e172 ?_
 simp only [f172]
 simp (disch:=first|assumption|omega|(simp only[az];done)) only [ru,eq_self,if_true,if_false,binI,Nat.reduceAdd,Nat.reduceSub,w183]
def isN : Option AV → Bool
 | some (.int .i64 _) => true
 | _ => false
theorem lenR : (List.range 9).all (fun (n : Nat) => isN ((callN E 50 (.fn 160) [.int .u64 n] [] 0).map (·.1))) = true:=by decide +kernel
theorem w160 {n : Nat} (hn : n ≤ 8) (st : Bool) : ∃ k,Iso E 160 [.int .u64 n] st = some (I k):=by
 have h:=List.all_eq_true.1 lenR n (List.mem_range.2 (by omega))
 cases e : callN E 50 (.fn 160) [.int .u64 n] [] 0 with
 | none => simp only [e] at h; cases h
 |
  some y =>
  simp only [e,Option.map_some] at h
  obtain ⟨v,h'⟩:=y
  simp only at h
  unfold isN at h
  split at h
  ·rename_i k hk
   cases hk
   exact ⟨k,by simp only [Iso,R_run e]; exact view_int⟩
  ·cases h
set_option maxHeartbeats 4000000 in
theorem w166 {l : List Int} {oo lim : Nat} {h : List AO} (ho : h[oo]? = some (.cells (l.flatMap intL) false)) (hl : l.length ≤ 12) (hlim : lim ≤ oo) :
  ∃ m : List Int,R E (.fn 166) [.ms 1 oo 0 l.length,I 0,I l.length] h lim = some (.tup [],h.set oo (.cells (m.flatMap intL) false)) ∧ m.length = l.length ∧ (∀ x,x ∈ m ↔ x ∈ l) ∧ ∀ p q,p < q → q < m.length → m.getD p 0 ≤ m.getD q 0:=by
 have ol:=(List.getElem?_eq_some_iff.1 ho).1
 suffices hh : ∃ r h',R E (.fn 166) [.ms 1 oo 0 l.length,I 0,I l.length] h lim = some (r,h') ∧ ∃ m : List Int,r = .tup [] ∧ h' = h.set oo (.cells (m.flatMap intL) false) ∧ m.length = l.length ∧ (∀ x,x ∈ m ↔ x ∈ l) ∧ ∀ p q,p < q → q < m.length → m.getD p 0 ≤ m.getD q 0 by
  obtain ⟨r,h',hr,m,rfl,rfl,h2⟩:=hh
  exact ⟨m,hr,h2⟩
 refine R_of (f:=166) (fun r h' => ∃ m : List Int,r = .tup [] ∧ h' = h.set oo (.cells (m.flatMap intL) false) ∧ m.length = l.length ∧ (∀ x,x ∈ m ↔ x ∈ l) ∧ ∀ p q,p < q → q < m.length → m.getD p 0 ≤ m.getD q 0) (es _ _ _ _) e166 ?_
 simp only [f166]
 simp (disch:=first|assumption|omega|(simp only[az];done)) only [ru,eq_self,if_true,binI,Nat.reduceAdd,Nat.reduceSub,Int.reduceAdd]
 have same : h = h.set oo (.cells (l.flatMap intL) false):=(set_same ho).symm
 obtain ⟨N,hN⟩ : ∃ N,N = l.length:=⟨_,rfl⟩
 rw [← hN]
 refine G_loop_ind (fun y ts hk mk => ∃ (i : Nat) (m : List Int),1 ≤ i ∧ i ≤ N + 1 ∧ y = N + 1 - i ∧ hk = h.set oo (.cells (m.flatMap intL) false) ∧ m.length = N ∧ (∀ x,x ∈ m ↔ x ∈ l) ∧ (∀ p q,p < q → q < i → q < N → m.getD p 0 ≤ m.getD q 0) ∧
   ts.length = 49 ∧ ts.getD 0 .undef = .ms 1 oo 0 N ∧ ts.getD 1 .undef = I 0 ∧ ts.getD 2 .undef = I N ∧ ts.getD 6 .undef = I i ∧ mk = []) ?_ _ _ _ _
  ⟨1,l,by omega,by omega,rfl,same,hN.symm,fun _ => Iff.rfl,fun p q h1 h2 => by omega,rfl,rfl,rfl,rfl,rfl,rfl⟩
 rintro y ts hk mk ihI ⟨i,m,i1,iN,rfl,rfl,ml,mm,ms,hl',q0,q1,q2,q6,rfl⟩
 rw [lit_all hl']
 simp only [lit0,litS,Nat.reduceAdd,q0,q1,q2,q6]
 simp (disch:=first|assumption|omega|(simp only[az];done)) only [ru,eq_self,if_true,binI]
 by_cases hlt : (i : Int) < N
 case neg =>
  simp (disch:=first|assumption|omega|(simp only[az];done)) only [ru,eq_self,hlt]
  exact ⟨m,rfl,ml,mm,fun p q h1 h2 => ms p q h1 (by omega) (by omega)⟩
 have hi2 : i < N:=by omega
 simp (disch:=first|assumption|omega|(simp only[az];done)) only [ru,hlt]
 clear hl' q0 q1 q2 q6
 refine G_loop_ind (fun y ts hk mk => ∃ (j : Nat) (m : List Int),j ≤ i ∧ y = j + 1 ∧ hk = h.set oo (.cells (m.flatMap intL) false) ∧ m.length = N ∧ (∀ x,x ∈ m ↔ x ∈ l) ∧ srt m i j ∧
   ts.length = 49 ∧ ts.getD 0 .undef = .ms 1 oo 0 N ∧ ts.getD 1 .undef = I 0 ∧ ts.getD 2 .undef = I N ∧ ts.getD 6 .undef = I i ∧ ts.getD 7 .undef = I j ∧ mk = []) ?_ _ _ _ _
  ⟨i,m,Nat.le_refl _,rfl,rfl,ml,mm,fun p q h1 h2 h3 => ms p q h1 (by omega) (by omega),rfl,rfl,rfl,rfl,rfl,rfl,rfl⟩
 clear ml mm ms m
 rintro y ts hk mk ihJ ⟨j,m,hj,rfl,rfl,ml,mm,ms,hl',q0,q1,q2,q6,q7,rfl⟩
 rw [lit_all hl']
 simp only [lit0,litS,Nat.reduceAdd,q0,q1,q2,q6,q7]
 have hc : (h.set oo (AO.cells (m.flatMap intL) false))[oo]? = some (.cells (m.flatMap intL) false):=List.getElem?_set_self ol
 have fl : (m.flatMap intL).length = N:=by rw [flat1]; exact ml
 have done' : (∀ p q,p < q → q ≤ i → m.getD p 0 ≤ m.getD q 0) → ∀ p q,p < q → q < i + 1 → q < N → m.getD p 0 ≤ m.getD q 0:=fun hh p q h1 h2 h3 => hh p q h1 (by omega)
 by_cases hj0 : j = 0
 ·subst hj0
  simp (disch:=first|assumption|omega|(simp only[az];done)) only [ru,eq_self,if_true,if_false,binI,Int.reduceGT]
  refine ihI (N + 1 - (i + 1)) _ _ _ (by omega) ⟨i + 1,m,by omega,by omega,rfl,rfl,ml,mm,done' (srt_end ms (by omega) (.inl rfl)),rfl,rfl,rfl,rfl,rfl,rfl⟩
 have hj0' : (j : Int) > 0:=by omega
 have jn : j < N:=by omega
 have ea : elemAt 1 (.ms 1 oo 0 N) (I j) = some (.ptr oo j):=by rw [elemAt_ms (by omega) (by omega)]; simp
 have eb : elemAt 1 (.ms 1 oo 0 N) (I ((j : Int) - 1)) = some (.ptr oo (j - 1)):=by
  rw [elemAt_ms (by omega) (by omega)]
  have : ((j : Int) - 1).toNat = j - 1:=by omega
  rw [this]; simp
 have da:=flatIh (l:=m) (i:=j) (by omega)
 have db:=flatIh (l:=m) (i:=j - 1) (by omega)
 by_cases hls : m.getD j 0 < m.getD (j - 1) 0
 ·have pa : j + 1 ≤ (m.flatMap intL).length:=by omega
  have p1:=int_put (l:=m) (i:=j) (by omega) (m.getD (j - 1) 0)
  have fl2 : ((m.set j (m.getD (j - 1) 0)).flatMap intL).length = N:=by rw [flat1,List.length_set]; exact ml
  have pb : j - 1 + 1 ≤ ((m.set j (m.getD (j - 1) 0)).flatMap intL).length:=by omega
  have p2:=int_put (l:=m.set j (m.getD (j - 1) 0)) (i:=j - 1) (by rw [List.length_set]; omega) (m.getD j 0)
  have hc2 : ∀ c : List AV,((h.set oo (AO.cells (m.flatMap intL) false)).set oo (.cells c false))[oo]? = some (.cells c false):=fun c => List.getElem?_set_self (by simpa using ol)
  have hc3 : ∀ c : List AV,(h.set oo (AO.cells c false))[oo]? = some (.cells c false):=fun c => List.getElem?_set_self ol
  have ej : j - 1 + 1 = j:=by omega
  rw [ej] at p2 pb
  simp (disch:=first|assumption|omega|(simp only[az];done)) only [ru,eq_self,if_true,if_false,binI,AO.row?,splice,loadV,storeV,Am.rowAt,Am.part,hj0',ea,eb,hc,da,db,w172,hls,pa,p1,hlim,hc3,ej,pb,p2,List.set_set]
  refine ihJ (j - 1 + 1) _ _ _ (by omega) ⟨j - 1,swp m j,by omega,rfl,rfl,by rw [swp_len]; exact ml,fun x => (mem_swp (by omega) (by omega)).trans (mm x),srt_swp ms (by omega) hj (by omega) hls,rfl,rfl,rfl,rfl,rfl,by show I _ = I _; congr 1; omega,rfl⟩
 ·simp (disch:=first|assumption|omega|(simp only[az];done)) only [ru,eq_self,if_true,if_false,binI,AO.row?,loadV,Am.rowAt,Am.part,hj0',ea,eb,hc,da,db,w172,hls]
  refine ihI (N + 1 - (i + 1)) _ _ _ (by omega) ⟨i + 1,m,by omega,by omega,rfl,rfl,ml,mm,done' (srt_end ms hj (.inr (by omega))),rfl,rfl,rfl,rfl,rfl,rfl⟩
theorem w166n {lim : Nat} {h : List AO} : R E (.fn 166) [.nils,I 0,I 0] h lim = some (.tup [],h):=by
 obtain ⟨r,h',hr,rfl,rfl⟩:=R_of (f:=166) (vs:=[.nils,I 0,I 0]) (h:=h) (lim:=lim) (fun r h' => r = .tup [] ∧ h' = h) (es _ _ _ _) e166 (by
  simp only [f166]
  simp (disch:=first|assumption|omega|(simp only[az];done)) only [ru,eq_self,if_true,binI,Nat.reduceAdd,Nat.reduceSub,Int.reduceAdd]
  rw [G_loop]
  simp (disch:=first|assumption|omega|(simp only[az];done)) only [ru,eq_self,if_true,binI,Int.reduceLT])
 exact hr
theorem w159 {n : Nat} {v : AV} {k : Int} {lim : Nat} {h h' : List AO} (hn : n ≤ 12) (hr : R E (.fn 166) [v,I 0,I n] h lim = some (.tup [],h')) : R E (.fn 159) [v,I 0,I n,I k] h lim = some (.tup [],h'):=by
 obtain ⟨r,h2,hr2,rfl,rfl⟩:=R_of (f:=159) (vs:=[v,I 0,I n,I k]) (h:=h) (lim:=lim) (fun r h2 => r = .tup [] ∧ h2 = h') (es _ _ _ _) e159 (by
  simp only [f159]
  have h12 : (n : Int) - 0 ≤ 12:=by omega
  simp (disch:=first|assumption|omega|(simp only[az];done)) only [ru,Nat.reduceAdd,Nat.reduceSub]
  rw [G_loop]
  simp (disch:=first|assumption|omega|(simp only[az];done)) only [ru,eq_self,if_true,binI,h12,hr])
 exact hr2
theorem w147 {n : Nat} {v : AV} {lim : Nat} {h h' : List AO} (hv : lenV v = some (I n)) (hn : n ≤ 8) (hr : R E (.fn 166) [v,I 0,I n] h lim = some (.tup [],h')) : R E (.fn 147) [v] h lim = some (.tup [],h'):=by
 obtain ⟨k,hk⟩:=w160 hn false
 have c:=w159 (k:=k) (by omega) hr
 obtain ⟨r,h2,hr2,rfl,rfl⟩:=R_of (f:=147) (vs:=[v]) (h:=h) (lim:=lim) (fun r h2 => r = .tup [] ∧ h2 = h') (es _ _ _ _) e147 (by
  simp only [f147]
  have e : wr .u64 (n : Int) = n:=by
   simp only [wr,IntKind.wrap]
   simp [IntKind.signed,IntKind.bits]
   omega
  simp (disch:=first|assumption|omega|(simp only[az];done)) only [ru,eq_self,Nat.reduceSub,hv,e,hk,c])
 exact hr2
theorem pex_sliceR {ρ : Opd → AV} {e : Nat} {x : Opd} {lo hi mx : Option Opd} : pex ρ (.sliceR e x lo hi mx) = sliceRV e (ρ x) (lo.map ρ) (hi.map ρ) (mx.map ρ):=id rfl
theorem slR_hi {oo n k : Nat} (hk : k ≤ n) (hn : k < n) : sliceRV 1 (.ms 1 oo 0 n) (some (I k)) none none = some (.mr 1 oo k (n - k) (n - k)):=by
 have c : (0 : Int) ≤ k ∧ (k : Int) ≤ n:=by omega
 simp only [sliceRV,AV.toR,sliceB,c,and_self,if_true,Int.toNat_natCast,Nat.le_refl,Option.isSome_none,Bool.false_eq_true,false_implies,hn,true_or,Nat.zero_add,Nat.mul_one]
theorem slR_lo {oo n k : Nat} (hk : k ≤ n) : sliceRV 1 (.ms 1 oo 0 n) none (some (I k)) none = some (.mr 1 oo 0 k n):=by
 have c : (0 : Int) ≤ k ∧ (k : Int) ≤ n:=by omega
 simp only [sliceRV,AV.toR,sliceB,c,and_self,if_true,Int.toNat_natCast,hk,Option.isSome_none,Bool.false_eq_true,false_implies,or_true,Nat.zero_mul,Nat.zero_add,Nat.sub_zero]
theorem clr_ok {R : List Int} {oo k n lim : Nat} {h : List AO} (hc : h[oo]? = some (.cells (R.flatMap intL) false)) (hR : R.length = n) (hk : k < n) (hl : lim ≤ oo) :
  wClr lim h 1 [I 0] (.mr 1 oo k (n - k) (n - k)) = some (.undef,h.set oo (.cells ((R.take k ++ List.replicate (n - k) 0).flatMap intL) false)):=by
 have hz : zeros (n - k) [I 0] = (List.replicate (n - k) (0 : Int)).flatMap intL:=by
  generalize n - k = d
  induction d with
  | zero => rfl
  |
   succ d ih =>
   show zeros (d + 1) [I 0] = _
   rw [List.replicate_succ,List.flatMap_cons,← ih]
   rfl
 have l1 : ((List.replicate (n - k) (0 : Int)).flatMap intL).length = n - k:=by rw [flat1,List.length_replicate]
 have sc : ((List.replicate (n - k) (0 : Int)).flatMap intL).all AV.scalar = true:=flat_sc _
 have e0 : ¬ n - k = 0:=by omega
 simp only [wClr,lenOf_mr,e0,if_false,destOf,if_true,hz]
 rw [putR_ok hc (by rw [l1,flat1]; omega) hl sc]
 simp only [Option.map_some,Option.some.injEq,Prod.mk.injEq,true_and]
 congr 2
 unfold splice
 rw [l1,List.flatMap_append]
 have t1 : (R.flatMap intL).take k = (R.take k).flatMap intL:=by
  have:=flat_takeN (enc:=intL) (esz:=1) intE R k
  rwa [Nat.mul_one] at this
 rw [t1,List.drop_eq_nil_of_le (by rw [flat1]; omega),List.append_nil]
theorem view_lo {R : List Int} {oo k n : Nat} {h : List AO} (hc : h[oo]? = some (.cells (R.flatMap intL) false)) (hk : k ≤ R.length) {st : Bool} {d : Nat} : Am.view st h (d + 1) (.mr 1 oo 0 k n) = some (slV 1 intL (R.take k)):=by
 have t1 : (R.flatMap intL).take (k * 1) = (R.take k).flatMap intL:=flat_takeN (enc:=intL) (esz:=1) intE R k
 have l1 : ((R.take k).flatMap intL).length = k * 1:=by rw [flat1,List.length_take]; omega
 have l2 : (R.take k).length = k:=by rw [List.length_take]; omega
 simp only [view_mr,rowOf_mr,Am.rowAt,hc,Option.bind_some,AO.row?,List.drop_zero,t1,l1,if_true,flat_view intIv]
 simp only [Option.map_some,slV,l2]
theorem pw_of {m : List Int} {k : Nat} (h : ∀ p q,p < q → q < k → m.getD p 0 < m.getD q 0) (hk : k ≤ m.length) : (m.take k).Pairwise (· < ·):=by
 rw [List.pairwise_iff_getElem]
 intro i j hi hj hij
 rw [List.length_take] at hi hj
 have:=h i j hij (by omega)
 simp only [List.getElem_take]
 simpa [List.getD_eq_getElem?_getD,show i < m.length by omega,show j < m.length by omega] using this
theorem mem_take {m : List Int} {k : Nat} (hk : k ≤ m.length) {x : Int} : x ∈ m.take k ↔ ∃ p,p < k ∧ m.getD p 0 = x:=by
 constructor
 ·intro h
  obtain ⟨p,hp,rfl⟩:=mem_atI h
  rw [List.length_take] at hp
  exact ⟨p,by omega,by simp only [List.getD_eq_getElem?_getD,List.getElem?_take,show p < k by omega,if_true]⟩
 ·rintro ⟨p,hp,rfl⟩
  have : m.getD p 0 = (m.take k).getD p 0:=by simp only [List.getD_eq_getElem?_getD,List.getElem?_take,hp,if_true]
  rw [this]
  exact getD_memI (by rw [List.length_take]; omega)
set_option maxHeartbeats 4000000 in
theorem w148 {m : List Int} {oo lim : Nat} {h : List AO} (ho : h[oo]? = some (.cells (m.flatMap intL) false)) (hm1 : 1 ≤ m.length) (hl : m.length ≤ 12) (hlim : lim ≤ oo) (hs : ∀ p q,p < q → q < m.length → m.getD p 0 ≤ m.getD q 0) :
  ∃ v h' l',R E (.fn 148) [.ms 1 oo 0 m.length] h lim = some (v,h') ∧ (∀ st d,Am.view st h' (d + 1) v = some (slV 1 intL l')) ∧ l'.Pairwise (· < ·) ∧ ∀ x,x ∈ l' ↔ x ∈ m:=by
 have ol:=(List.getElem?_eq_some_iff.1 ho).1
 suffices hh : ∃ r h',R E (.fn 148) [.ms 1 oo 0 m.length] h lim = some (r,h') ∧ ∃ l',(∀ st d,Am.view st h' (d + 1) r = some (slV 1 intL l')) ∧ l'.Pairwise (· < ·) ∧ ∀ x,x ∈ l' ↔ x ∈ m by
  obtain ⟨r,h',hr,l',h2⟩:=hh
  exact ⟨r,h',l',hr,h2⟩
 have same : (∀ p q,p < q → q < m.length → m.getD p 0 < m.getD q 0) → ∃ l',(∀ st d,Am.view st h (d + 1) (.ms 1 oo 0 m.length) = some (slV 1 intL l')) ∧ l'.Pairwise (· < ·) ∧ ∀ x,x ∈ l' ↔ x ∈ m:=fun hst => by
  refine ⟨m,fun st d => ?_,?_,fun _ => Iff.rfl⟩
  ·have:=RdC.view (enc:=intL) (esz:=1) (l:=m) ⟨oo,rfl,ho⟩ intE intIv (st:=st) (k:=d)
   exact this
  ·have:=pw_of hst (Nat.le_refl _)
   rwa [List.take_length] at this
 refine R_of (f:=148) (fun r h' => ∃ l',(∀ st d,Am.view st h' (d + 1) r = some (slV 1 intL l')) ∧ l'.Pairwise (· < ·) ∧ ∀ x,x ∈ l' ↔ x ∈ m) (es _ _ _ _) e148 ?_
 simp only [f148]
 obtain ⟨N,hN⟩ : ∃ N,N = m.length:=⟨_,rfl⟩
 rw [← hN] at same hm1 hl hs ⊢
 by_cases h2 : (N : Int) < 2
 ·simp (disch:=first|assumption|omega|(simp only[az];done)) only [ru,eq_self,if_true,binI,Am.rowAt,Nat.reduceSub,h2]
  exact same fun p q h1 h3 => by omega
 simp (disch:=first|assumption|omega|(simp only[az];done)) only [ru,eq_self,if_true,binI,Nat.reduceSub,h2]
 refine G_loop_ind (fun y ts hk mk => ∃ (k : Nat),1 ≤ k ∧ k ≤ N ∧ y = N - k ∧ hk = h ∧ (∀ p q,p < q → q < k → m.getD p 0 < m.getD q 0) ∧
   ts.length = 61 ∧ ts.getD 0 .undef = .ms 1 oo 0 N ∧ ts.getD 3 .undef = I k ∧ mk = []) ?_ _ _ _ _
  ⟨1,by omega,by omega,rfl,rfl,fun p q h1 h3 => by omega,rfl,rfl,rfl,rfl⟩
 rintro y ts hk mk ih ⟨k,k1,kN,rfl,rfl,hst,hl',q0,q3,rfl⟩
 rw [lit_all hl']
 simp only [lit0,litS,Nat.reduceAdd,q0,q3]
 simp (disch:=first|assumption|omega|(simp only[az];done)) only [ru,eq_self,if_true,binI]
 by_cases hlt : (k : Int) < N
 case neg =>
  obtain rfl : k = N:=by omega
  simp (disch:=first|assumption|omega|(simp only[az];done)) only [ru,Am.rowAt,hlt]
  exact same hst
 have kn : k < N:=by omega
 have ea : elemAt 1 (.ms 1 oo 0 N) (I k) = some (.ptr oo k):=by rw [elemAt_ms (by omega) (by omega)]; simp
 have eb : elemAt 1 (.ms 1 oo 0 N) (I ((k : Int) - 1)) = some (.ptr oo (k - 1)):=by
  rw [elemAt_ms (by omega) (by omega)]
  have : ((k : Int) - 1).toNat = k - 1:=by omega
  rw [this]; simp
 have da:=flatIh (l:=m) (i:=k) (by omega)
 have db:=flatIh (l:=m) (i:=k - 1) (by omega)
 by_cases heq : m.getD k 0 = m.getD (k - 1) 0
 case neg =>
  simp (disch:=first|assumption|omega|(simp only[az];done)) only [ru,eq_self,if_true,if_false,binI,AO.row?,loadV,Am.rowAt,Am.part,hlt,ea,eb,ho,da,db,heq]
  refine ih (N - (k + 1)) _ _ _ (by omega) ⟨k + 1,by omega,by omega,rfl,rfl,fun p q h1 h3 => ?_,rfl,rfl,rfl,rfl⟩
  by_cases e : q = k
  ·subst e
   have s1:=hs (q - 1) q (by omega) kn
   by_cases e2 : p = q - 1
   ·subst e2; omega
   ·have:=hst p (q - 1) (by omega) (by omega); omega
  ·exact hst p q h1 (by omega)
 have es2:=slR_hi (oo:=oo) (n:=N) (k:=k) (by omega) kn
 have h0' : ∀ c : List AV,(hk.set oo (AO.cells c false))[oo]? = some (.cells c false):=fun c => List.getElem?_set_self ol
 simp (disch:=first|assumption|omega|(simp only[az];done)) only [ru,eq_self,if_true,if_false,BEq.rfl,binI,AO.row?,loadV,Am.rowAt,Am.part,hlt,ea,eb,ho,da,db,heq,pex_sliceR,es2]
 refine G_loop_ind (fun y ts h2 mk => ∃ (j kk : Nat) (R : List Int),1 ≤ j ∧ k + j ≤ N ∧ y = N - k - j ∧ k ≤ kk ∧ kk ≤ k + j - 1 ∧ R.length = N ∧ h2 = hk.set oo (.cells (R.flatMap intL) false) ∧
   (∀ p,k + j - 1 ≤ p → p < N → R.getD p 0 = m.getD p 0) ∧ (∀ p q,p < q → q < kk → R.getD p 0 < R.getD q 0) ∧ (∀ p,p < kk → ∃ q,q < k + j ∧ m.getD q 0 = R.getD p 0) ∧ (∀ q,q < k + j → ∃ p,p < kk ∧ R.getD p 0 = m.getD q 0) ∧ R.getD (kk - 1) 0 = m.getD (k + j - 1) 0 ∧
   ts.length = 61 ∧ ts.getD 0 .undef = .ms 1 oo 0 N ∧ ts.getD 3 .undef = I kk ∧ ts.getD 4 .undef = .mr 1 oo k (N - k) (N - k) ∧ ts.getD 5 .undef = I j ∧ mk = []) ?_ _ _ _ _
  ⟨1,k,m,by omega,by omega,rfl,by omega,by omega,hN.symm,(set_same ho).symm,fun p _ _ => rfl,hst,fun p hp => ⟨p,by omega,rfl⟩,fun q hq => by
   by_cases e : q = k
   ·subst e; exact ⟨q - 1,by omega,heq.symm⟩
   ·exact ⟨q,by omega,rfl⟩,by rw [show k + 1 - 1 = k by omega]; exact heq.symm,rfl,rfl,rfl,rfl,rfl,rfl⟩
 rintro y ts h2 mk ihJ ⟨j,kk,R,j1,jN,rfl,k2,k3,RL,rfl,Ru,Rs,Rm,mR,Re,hl2,q0,q3,q4,q5,rfl⟩
 rw [lit_all hl2]
 simp only [lit0,litS,Nat.reduceAdd,q0,q3,q4,q5]
 have fl : (R.flatMap intL).length = N:=by rw [flat1]; exact RL
 have cN : ((N - k : Nat) : Int) = (N : Int) - k:=by omega
 simp (disch:=first|assumption|omega|(simp only[az];done)) only [ru,eq_self,if_true,binI,rmr,cN]
 by_cases hltj : (j : Int) < (N : Int) - k
 case neg =>
  have hj : k + j = N:=by omega
  have es3:=slR_hi (oo:=oo) (n:=N) (k:=kk) (by omega) (by omega)
  have es4:=slR_lo (oo:=oo) (n:=N) (k:=kk) (by omega)
  have ec:=clr_ok (lim:=lim) (h0' (R.flatMap intL)) RL (k:=kk) (by omega) hlim
  have vl : (R.take kk ++ List.replicate (N - kk) 0).length = N:=by simp; omega
  have tk : (R.take kk ++ List.replicate (N - kk) 0).take kk = R.take kk:=by rw [List.take_append_of_le_length (by simp; omega),List.take_take,Nat.min_self]
  simp (disch:=first|assumption|omega|(simp only[az];done)) only [ru,Am.rowAt,hltj,pex_sliceR,es3,es4,rmr,ec,List.set_set]
  refine ⟨R.take kk,fun st d => ?_,pw_of Rs (by omega),fun x => ?_⟩
  ·have:=view_lo (oo:=oo) (k:=kk) (n:=N) (h0' ((R.take kk ++ List.replicate (N - kk) 0).flatMap intL)) (by omega) (st:=st) (d:=d)
   rw [tk] at this
   exact this
  ·rw [mem_take (by omega)]
   constructor
   ·rintro ⟨p,hp,rfl⟩
    obtain ⟨q,hq,e⟩:=Rm p hp
    rw [← e]; exact getD_memI (by omega)
   ·intro hx
    obtain ⟨q,hq,rfl⟩:=mem_atI hx
    exact mR q (by omega)
 have jn : k + j < N:=by omega
 have ec1 : elemAt 1 (.mr 1 oo k (N - k) (N - k)) (I j) = some (.ptr oo (k + j)):=by rw [elemAt_mr (by omega) (by omega)]; simp
 have ec2 : elemAt 1 (.mr 1 oo k (N - k) (N - k)) (I ((j : Int) - 1)) = some (.ptr oo (k + j - 1)):=by
  rw [elemAt_mr (by omega) (by omega)]
  have : ((j : Int) - 1).toNat = j - 1:=by omega
  rw [this,Nat.mul_one]; congr 2; omega
 have ec3 : elemAt 1 (.ms 1 oo 0 N) (I kk) = some (.ptr oo kk):=by rw [elemAt_ms (by omega) (by omega)]; simp
 have d1:=flatIh (l:=R) (i:=k + j) (by omega)
 have d2:=flatIh (l:=R) (i:=k + j - 1) (by omega)
 have u1:=Ru (k + j) (by omega) jn
 have u2:=Ru (k + j - 1) (by omega) (by omega)
 rw [u1] at d1
 rw [u2] at d2
 have sm:=hs (k + j - 1) (k + j) (by omega) jn
 by_cases hne : m.getD (k + j) 0 = m.getD (k + j - 1) 0
 ·simp (disch:=first|assumption|omega|(simp only[az];done)) only [ru,eq_self,if_true,if_false,binI,AO.row?,loadV,Am.rowAt,Am.part,hltj,ec1,ec2,h0',d1,d2,hne]
  refine ihJ (N - k - (j + 1)) _ _ _ (by omega) ⟨j + 1,kk,R,by omega,by omega,rfl,k2,by omega,RL,rfl,fun p h1 h3 => Ru p (by omega) h3,Rs,fun p hp => ?_,fun q hq => ?_,?_,rfl,rfl,rfl,rfl,rfl,rfl⟩
  ·obtain ⟨q,hq,e⟩:=Rm p hp; exact ⟨q,by omega,e⟩
  ·by_cases e : q = k + j
   ·subst e
    obtain ⟨p,hp,e⟩:=mR (k + j - 1) (by omega)
    exact ⟨p,hp,by rw [e,hne]⟩
   ·exact mR q (by omega)
  ·rw [Re,show k + (j + 1) - 1 = k + j by omega,hne]
 ·have pa : kk + 1 ≤ (R.flatMap intL).length:=by omega
  have p1:=int_put (l:=R) (i:=kk) (by omega) (m.getD (k + j) 0)
  simp (disch:=first|assumption|omega|(simp only[az];done)) only [ru,eq_self,if_true,if_false,binI,AO.row?,splice,loadV,storeV,Am.rowAt,Am.part,hltj,ec1,ec2,ec3,h0',d1,d2,hne,pa,p1,hlim,List.set_set]
  have at1 : ∀ p,p ≠ kk → (R.set kk (m.getD (k + j) 0)).getD p 0 = R.getD p 0:=fun p hp => by
   simp only [List.getD_eq_getElem?_getD,List.getElem?_set_ne (Ne.symm hp)]
  have at2 : (R.set kk (m.getD (k + j) 0)).getD kk 0 = m.getD (k + j) 0:=by
   simp only [List.getD_eq_getElem?_getD,List.getElem?_set_self (show kk < R.length by omega),Option.getD_some]
  refine ihJ (N - k - (j + 1)) _ _ _ (by omega) ⟨j + 1,kk + 1,R.set kk (m.getD (k + j) 0),by omega,by omega,rfl,by omega,by omega,by simp [RL],rfl,fun p h1 h3 => ?_,fun p q h1 h3 => ?_,fun p hp => ?_,fun q hq => ?_,?_,rfl,rfl,rfl,rfl,rfl,rfl⟩
  ·rw [at1 p (by omega)]; exact Ru p (by omega) h3
  ·by_cases e : q = kk
   ·subst e
    rw [at2,at1 p (by omega)]
    by_cases e2 : p = q - 1
    ·subst e2; rw [Re]; omega
    ·have:=Rs p (q - 1) (by omega) (by omega); rw [Re] at this; omega
   ·rw [at1 p (by omega),at1 q e]; exact Rs p q h1 (by omega)
  ·by_cases e : p = kk
   ·subst e; exact ⟨k + j,by omega,at2.symm⟩
   ·obtain ⟨q,hq,e'⟩:=Rm p (by omega)
    exact ⟨q,by omega,by rw [at1 p e]; exact e'⟩
  ·by_cases e : q = k + j
   ·subst e; exact ⟨kk,by omega,at2⟩
   ·obtain ⟨p,hp,e'⟩:=mR q (by omega)
    exact ⟨p,by omega,by rw [at1 p (by omega)]; exact e'⟩
  ·rw [Nat.add_sub_cancel,at2,show k + (j + 1) - 1 = k + j by omega]
end Go.Proofs.YtfknojncfbahpaaGreat.S
