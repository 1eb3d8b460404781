/-
The specification: Lies, Fish, Came; the law of Fish.
-/
import Derived.Test.YtfknojncfbahpaaGreatWk
import Derived.Test.YtfknojncfbahpaaGreatS2
namespace Go.Proofs.YtfknojncfbahpaaGreat.S
open Go Go.Am Go.Proofs.YtfknojncfbahpaaGreat.T
set_option maxRecDepth 100000
set_option linter.unusedSimpArgs false
set_option linter.unusedVariables false
theorem w102 (a c d e : Int) (st : Bool) : Iso E 102 [.agg [I a,I c],.agg [I d,I e]] st = some (.agg [I (mmx false a d),I (mmx true c e)]):=by
 refine Iso_of (es _ _ _ _) e102 ?_
 simp only [f102]
 simp (disch:=first|assumption|omega|(simp only[az];done)) only [ru,eq_self,if_true,if_false,AO.row?,splice,fillL,mmAll,loadV,storeV,Am.rowAt,Am.part,addOff,Nat.reduceAdd,Nat.reduceLeDiff,Nat.reduceSub,finC,getRes,Option.some.injEq,exists_eq_left']
theorem cpOk {t : Trap} {o w : AV} (H : TrOk t o w) (q : Nat → Bool) : TrOk (t.kp q).cp (cpO t.op) (resW (kpL t.ws q t.ws.length)):=(H.kp (resW_is (kpL t.ws q t.ws.length))).cp (o':=cpO t.op) (w':=resW (kpL t.ws q t.ws.length)) cpO_is (resW_is _)
theorem HulX.mem {b : Bk} {L : List (List Int)} {g : List Int} {f : (Nat → Int) → Int} {lo hi : Int} (X : HulX b (g :: L) f lo hi) (hg : g ∈ L) : HulX b L f lo hi:=by
 refine ⟨fun g' h => X.bd g' (List.mem_cons_of_mem _ h),?_,?_⟩
 ·obtain ⟨g',m,x,a⟩:=X.l
  rcases List.mem_cons.1 m with rfl | m
  ·exact ⟨g',hg,x,a⟩
  ·exact ⟨g',m,x,a⟩
 ·obtain ⟨g',m,x,a⟩:=X.h
  rcases List.mem_cons.1 m with rfl | m
  ·exact ⟨g',hg,x,a⟩
  ·exact ⟨g',m,x,a⟩
theorem jud_val (t : Trap) (y : Wd) : jud t y = 1 ∨ jud t y = 2 ∨ jud t y = 3:=by
 rcases @jud_ok t y with h | h | h
 ·exact .inl h.1
 ·exact .inr (.inl h.1)
 ·exact .inr (.inr h.1)
theorem agr_lie {j : List Int → Int} (hj : ∀ g,j g = 1 ∨ j g = 2 ∨ j g = 3) {L : List (List Int)} (hne : L ≠ []) : agr (fun g => lieJ (j g)) L = if !(L.any fun g => decide (j g ≠ 2)) then 1 else if !(L.any fun g => decide (j g ≠ 1)) then 2 else 3:=by
 obtain ⟨g,M,rfl⟩ : ∃ g M,L = g :: M:=by
  cases L with
  | nil => exact absurd rfl hne
  | cons g M => exact ⟨g,M,rfl⟩
 have l1 : ∀ x,j x = 1 → lieJ (j x) = 2:=fun x h => by rw [h]; rfl
 have l2 : ∀ x,j x = 2 → lieJ (j x) = 1:=fun x h => by rw [h]; rfl
 have l3 : ∀ x,j x = 3 → lieJ (j x) = 3:=fun x h => by rw [h]; rfl
 by_cases h2 : ∀ x ∈ g :: M,j x = 2
 ·have e : ((g :: M).any fun g => decide (j g ≠ 2)) = false:=by
   rw [List.any_eq_false]; intro x hx; simp [h2 x hx]
  rw [e]
  simp only [agr]
  rw [if_pos,l2 g (h2 g (by simp))]; rfl
  rw [List.all_eq_true]; intro x hx
  exact decide_eq_true ((l2 x (h2 x (List.mem_cons_of_mem _ hx))).trans (l2 g (h2 g (by simp))).symm)
 ·have e : ((g :: M).any fun g => decide (j g ≠ 2)) = true:=by
   rw [List.any_eq_true]
   apply Classical.byContradiction
   intro h
   apply h2
   intro x hx
   apply Classical.byContradiction
   intro h3
   exact h ⟨x,hx,by simp [h3]⟩
  rw [e]
  by_cases h1 : ∀ x ∈ g :: M,j x = 1
  ·have e : ((g :: M).any fun g => decide (j g ≠ 1)) = false:=by
    rw [List.any_eq_false]; intro x hx; simp [h1 x hx]
   rw [e]
   simp only [agr]
   rw [if_pos,l1 g (h1 g (by simp))]; rfl
   rw [List.all_eq_true]; intro x hx
   exact decide_eq_true ((l1 x (h1 x (List.mem_cons_of_mem _ hx))).trans (l1 g (h1 g (by simp))).symm)
  ·have e : ((g :: M).any fun g => decide (j g ≠ 1)) = true:=by
    rw [List.any_eq_true]
    apply Classical.byContradiction
    intro h
    apply h1
    intro x hx
    apply Classical.byContradiction
    intro h3
    exact h ⟨x,hx,by simp [h3]⟩
   rw [e]
   simp only [agr]
   show (if (M.all fun x => decide (lieJ (j x) = lieJ (j g))) = true then lieJ (j g) else 3) = 3
   split
   ·rename_i hall
    rw [List.all_eq_true] at hall
    rcases hj g with hg | hg | hg
    ·exfalso
     apply h1
     intro x hx
     rcases List.mem_cons.1 hx with rfl | hx
     ·exact hg
     ·have:=of_decide_eq_true (hall x hx)
      rw [l1 g hg] at this
      rcases hj x with h | h | h
      ·exact h
      ·rw [l2 x h] at this; cases this
      ·rw [l3 x h] at this; cases this
    ·exfalso
     apply h2
     intro x hx
     rcases List.mem_cons.1 hx with rfl | hx
     ·exact hg
     ·have:=of_decide_eq_true (hall x hx)
      rw [l2 g hg] at this
      rcases hj x with h | h | h
      ·rw [l1 x h] at this; cases this
      ·exact h
      ·rw [l3 x h] at this; cases this
    ·exact l3 g hg
   ·rfl
section
variable {b : Bk} {o w s : AV}
theorem w98 (H : BkOk b o w s) (hv : b.valid = true) {g : List Int} (hg : g ∈ b.sts) {n : Nat} (hn : n < b.t.ws.length) : ∃ e,Iso E 98 [cpW b.t (qG b.t g),.agg (b.t.ws.getD n default).e] false = some (.tup [I (jud (b.t.kp (qG b.t g)) (b.t.ws.getD n default)),I e]):=by
 have V:=valid_trb (bk_t hv)
 have fy:=V.fw _ (getD_mem hn)
 obtain ⟨v,e,c,A⟩:=s64 (cpOk H.t (qG b.t g)) (b.t.ws.getD n default)
 have A:=cp_ansJ A
 have hj : v = jud (b.t.kp (qG b.t g)) (b.t.ws.getD n default):=by
  cases A with
  | bad h => rw [kp_valid (bk_t hv)] at h; cases h
  | arg _ h => rw [kp_fit,fy] at h; cases h
  | none _ _ h => exact absurd (kp_solv hg) h
  | ok _ _ hs hp => exact hp.1.uniq hs jud_ok
 rw [← hj]
 exact ⟨e,c⟩
set_option maxHeartbeats 4000000 in
theorem w59 (H : BkOk b o w s) (n : Int) : ∃ v e,Iso E 59 [bkV b o w s,I n] false = some (.tup [I v,I e]) ∧ AnB b (inR n 0 ((b.t.ws.length : Int) - 1)) (fun e => ((0 : Int),e)) (fun r => r = (agr (lieV b n.toNat) b.sts,0)) (v,e):=by
 have c44:=fun st => w44 H n st
 obtain ⟨fit,hfit⟩ : ∃ fit,fit = inR n 0 ((b.t.ws.length : Int) - 1):=⟨_,rfl⟩
 rw [← hfit] at c44 ⊢
 obtain ⟨r,e,c95,A⟩:=w95 H fit
 cases A with
 |
  bad hv =>
  refine ⟨0,110,?_,.bad hv⟩
  refine Iso_of (es _ _ _ _) e59 ?_
  simp only [f59,bkV] at c95 c44 ⊢
  simp (disch:=first|assumption|omega|(simp only[az];done)) only [ru,eq_self,if_true,binI,AO.row?,loadV,Am.rowAt,Am.part,Nat.reduceAdd,Nat.reduceSub,Int.reduceEq,view_sl H.t.o,view_sl H.t.w,view_sl H.s,pure_sl H.t.o,pure_sl H.t.w,pure_sl H.s,c44,c95]
 |
  arg hv hf =>
  refine ⟨0,1,?_,.arg hv hf⟩
  refine Iso_of (es _ _ _ _) e59 ?_
  simp only [f59,bkV] at c95 c44 ⊢
  simp (disch:=first|assumption|omega|(simp only[az];done)) only [ru,eq_self,if_true,binI,AO.row?,loadV,Am.rowAt,Am.part,Nat.reduceAdd,Nat.reduceSub,Int.reduceEq,view_sl H.t.o,view_sl H.t.w,view_sl H.s,pure_sl H.t.o,pure_sl H.t.w,pure_sl H.s,c44,c95]
 |
  none hv hf hn =>
  refine ⟨0,3,?_,.none hv hf hn⟩
  refine Iso_of (es _ _ _ _) e59 ?_
  simp only [f59,bkV] at c95 c44 ⊢
  simp (disch:=first|assumption|omega|(simp only[az];done)) only [ru,eq_self,if_true,binI,AO.row?,loadV,Am.rowAt,Am.part,Nat.reduceAdd,Nat.reduceSub,Int.reduceEq,view_sl H.t.o,view_sl H.t.w,view_sl H.s,pure_sl H.t.o,pure_sl H.t.w,pure_sl H.s,c44,c95]
 |
  ok hv hf hs =>
  have hr:=inR_iff.1 (hfit.symm.trans hf)
  have sl:=sts_len hv
  obtain ⟨k,hk⟩ : ∃ k : Nat,n = k ∧ k < b.t.ws.length:=⟨n.toNat,by omega,by omega⟩
  obtain ⟨rfl,hkl⟩:=hk
  rw [Int.toNat_natCast]
  obtain ⟨y,hy⟩ : ∃ y,y = b.t.ws.getD k default:=⟨_,rfl⟩
  obtain ⟨j,hj⟩ : ∃ j : List Int → Int,j = fun g => jud (b.t.kp (qG b.t g)) y:=⟨_,rfl⟩
  have jv : ∀ g,j g = 1 ∨ j g = 2 ∨ j g = 3:=fun g => by rw [hj]; exact jud_val _ _
  have ea : agr (lieV b k) b.sts = agr (fun g => lieJ (j g)) b.sts:=by rw [hj,hy]; rfl
  refine ⟨_,_,?_,.ok hv hf hs rfl⟩
  rw [ea,agr_lie jv hs]
  have c98 : ∀ g ∈ b.sts,∃ e,Iso E 98 [cpW b.t (qG b.t g),.agg y.e] false = some (.tup [I (j g),I e]):=fun g hg => by rw [hj,hy]; exact w98 H hv hg hkl
  have sr:=sts_ris hv
  have IA:=resLL_is b.sts
  obtain ⟨L,hL⟩ : ∃ L,L = b.sts:=⟨_,rfl⟩
  rw [← hL] at c95 IA sl c98 sr ⊢
  obtain ⟨av,hav⟩ : ∃ av,av = resLL L:=⟨_,rfl⟩
  rw [← hav] at c95 IA
  have hkl' : (k : Int) < b.t.ws.length:=by omega
  refine Iso_of (es _ _ _ _) e59 ?_
  simp only [f59,bkV] at c95 c44 ⊢
  simp (disch:=first|assumption|omega|(simp only[az];done)) only [ru,eq_self,if_true,binI,AO.row?,loadV,Am.rowAt,Am.part,Nat.reduceAdd,Nat.reduceSub,view_sl H.t.o,view_sl H.t.w,view_sl H.s,pure_sl H.t.o,pure_sl H.t.w,pure_sl H.s,c44,c95]
  refine G_loop_ind (fun m ts hk mk => ∃ (i : Nat),i ≤ L.length ∧ m = L.length - i ∧ hk = [.cells [I b.t.ch,I b.t.tm,o,w,I b.dr,I b.rn,s] false] ∧
    ts.length = 62 ∧ ts.getD 1 .undef = I k ∧ ts.getD 2 .undef = .ptr 0 0 ∧ ts.getD 6 .undef = av ∧ ts.getD 8 .undef = Bo ((L.take i).any fun g => decide (j g ≠ 2)) ∧ ts.getD 9 .undef = Bo ((L.take i).any fun g => decide (j g ≠ 1)) ∧ ts.getD 10 .undef = I i ∧ mk = []) ?_ _ _ _ _
   ⟨0,Nat.zero_le _,rfl,rfl,rfl,rfl,rfl,rfl,rfl,rfl,rfl,rfl⟩
  rintro m ts hk mk ih ⟨i,hi,rfl,rfl,hl',q1,q2,q6,q8,q9,q10,rfl⟩
  rw [lit_all hl']
  have snoc : ∀ (p : List Int → Bool),i < L.length → (L.take (i + 1)).any p = ((L.take i).any p || p (L.getD i [])):=fun p hi => by
   rw [List.take_succ_eq_append_getElem hi,List.any_append]
   simp [List.getD_eq_getElem?_getD,hi]
  have s2:=snoc fun g => decide (j g ≠ 2)
  have s1:=snoc fun g => decide (j g ≠ 1)
  obtain ⟨A2,hA2⟩ : ∃ A,A = (L.take i).any fun g => decide (j g ≠ 2):=⟨_,rfl⟩
  obtain ⟨A1,hA1⟩ : ∃ A,A = (L.take i).any fun g => decide (j g ≠ 1):=⟨_,rfl⟩
  rw [← hA2] at q8 s2
  rw [← hA1] at q9 s1
  simp only [lit0,litS,Nat.reduceAdd,q1,q2,q6,q8,q9,q10]
  simp (disch:=first|assumption|omega|(simp only[az];done)) only [ru,eq_self,if_true,binI,lenV_sl IA]
  by_cases hlt : (i : Int) < L.length
  case neg =>
   obtain rfl : i = L.length:=by omega
   rw [List.take_length] at hA1 hA2
   rw [← hA1,← hA2]
   cases A2
   ·simp (disch:=first|assumption|omega|(simp only[az];done)) only [ru,eq_self,if_true,hlt]
   ·cases A1
    ·simp (disch:=first|assumption|omega|(simp only[az];done)) only [ru,eq_self,if_true,if_false,hlt]
    ·simp (disch:=first|assumption|omega|(simp only[az];done)) only [ru,eq_self,if_false,hlt]
  have hi2 : i < L.length:=by omega
  have s2:=s2 hi2
  have s1:=s1 hi2
  obtain ⟨g,hg⟩ : ∃ g,g = L.getD i []:=⟨_,rfl⟩
  have hgm : g ∈ L:=by rw [hg]; exact getD_memL hi2
  have ea:=elem_ll IA i (by omega) hlt
  rw [Int.toNat_natCast,← hg] at ea
  have gi:=resL_is g
  have gl:=ris_len (sr g hgm)
  have c67:=w67 H gi (by omega)
  obtain ⟨ee,cj⟩:=c98 g hgm
  have wi:=resW_is (kpL b.t.ws (qG b.t g) b.t.ws.length)
  have oi : IsSl 1 Ls.e (cpL b.t.op) (cpO b.t.op):=cpO_is
  rw [← hg] at s1 s2
  obtain ⟨co,hco⟩ : ∃ co,co = cpO b.t.op:=⟨_,rfl⟩
  simp only [bkV,cpW,← hco,Wd.e] at c67 cj oi
  have jg:=jv g
  obtain ⟨z,hz⟩ : ∃ z,z = j g:=⟨_,rfl⟩
  rw [← hz] at cj s1 s2 jg
  simp (disch:=first|assumption|omega|(simp only[az];done)) only [ru,eq_self,if_true,if_false,AO.row?,loadV,Am.rowAt,Am.part,addOff,Nat.reduceAdd,elem_sl Wd.el H.t.w,view_sl H.t.o,view_sl H.t.w,view_sl H.s,pure_sl H.t.o,pure_sl H.t.w,pure_sl H.s,Int.toNat_natCast,hlt,ea,view_sl gi,pure_sl gi,c67,view_sl wi,pure_sl wi,view_sl oi,pure_sl oi,Int.toNat_natCast,← hy,Wd.e,cj]
  rcases jg with rfl | rfl | rfl <;> cases A1 <;> cases A2 <;>
   (
    simp (disch:=first|assumption|omega|(simp only[az];done)) only [ru,eq_self,if_true,if_false,binI,Int.reduceEq]
    refine ih (L.length - (i + 1)) _ _ _ (by omega) ⟨i + 1,by omega,rfl,rfl,rfl,rfl,rfl,rfl,by rw [s2]; rfl,by rw [s1]; rfl,rfl,rfl⟩)
theorem st_ne {g : List Int} : (b.t.kp (qG b.t g)).cp.valid = (b.t.kp (qG b.t g)).valid:=cp_valid
theorem w101 (H : BkOk b o w s) (hv : b.valid = true) {g : List Int} (hg : g ∈ b.sts) {x y : Nat} (hx : x < b.t.T) (hy : y < b.t.C) : ∃ lo hi,Iso E 101 [cpW b.t (qG b.t g),I x,I y] false = some (.agg [I lo,I hi]) ∧ HulX b [g] (fun z => gap b.t.C z x y) lo hi:=by
 have V:=cp_trb (kp_trb (q:=qG b.t g) (valid_trb (bk_t hv)))
 obtain ⟨lo,hi,c,X⟩:=s93 (cpOk H.t (qG b.t g)) V (cp_solv.2 (kp_solv hg)) (i:=x) (c:=y) hx hy
 exact ⟨lo,hi,c false,.one (cp_xt X)⟩
theorem w105 (H : BkOk b o w s) (hv : b.valid = true) {g : List Int} (hg : g ∈ b.sts) {x y : Int} (hp : (timeB b.t x && timeB b.t y && decide (x ≤ y)) = true) : ∃ lo hi e,Iso E 105 [cpW b.t (qG b.t g),I x,I y] false = some (.tup [.agg [I lo,I hi],I e]) ∧ HulX b [g] (fun z => z (sumN b.t.C y.toNat 0) - z (sumN b.t.C x.toNat 0)) lo hi:=by
 obtain ⟨lo,hi,e,c,A⟩:=s62 (cpOk H.t (qG b.t g)) x y
 refine ⟨lo,hi,e,c false,.one ?_⟩
 cases A with
 | bad h => rw [st_ne,kp_valid (bk_t hv)] at h; cases h
 | arg _ h => exact absurd (h.symm.trans hp) (by decide)
 | none _ _ h => exact absurd (cp_solv.2 (kp_solv hg)) h
 | ok _ _ hs hx => exact cp_xt hx
set_option maxHeartbeats 4000000 in
theorem w63 (H : BkOk b o w s) (x y : Int) : ∃ lo hi e,Iso E 63 [bkV b o w s,I x,I y] false = some (.tup [.agg [I lo,I hi],I e]) ∧ AnB b (inR x 0 (wr .i64 (b.t.tm - 1)) && inR y 0 (wr .i64 (b.t.ch - 1))) (fun e => ((0 : Int),(0 : Int),e)) (fun r => HulX b b.sts (fun z => gap b.t.C z x.toNat y.toNat) r.1 r.2.1 ∧ r.2.2 = 0) (lo,hi,e):=by
 have c1:=fun st => w38 H x st
 have c2:=fun st => s39 H.t y st
 obtain ⟨f1,hf1⟩ : ∃ f,f = inR x 0 (wr .i64 (b.t.tm - 1)):=⟨_,rfl⟩
 obtain ⟨f2,hf2⟩ : ∃ f,f = inR y 0 (wr .i64 (b.t.ch - 1)):=⟨_,rfl⟩
 rw [← hf1] at c1 ⊢
 rw [← hf2] at c2 ⊢
 obtain ⟨r,e,c95,A⟩:=w95 H (f1 && f2)
 simp only [bkV,trV] at c1 c2 c95
 cases A with
 |
  bad hv =>
  refine ⟨0,0,110,?_,.bad hv⟩
  refine Iso_of (es _ _ _ _) e63 ?_
  simp only [f63,bkV]
  cases f1
  ·rw [Bool.false_and] at c95
   simp (disch:=first|assumption|omega|(simp only[az];done)) only [ru,eq_self,if_true,if_false,binI,AO.row?,splice,fillL,loadV,storeV,Am.rowAt,Am.part,Nat.reduceAdd,Nat.reduceLeDiff,Nat.reduceSub,Int.reduceEq,view_sl H.t.o,view_sl H.t.w,view_sl H.s,pure_sl H.t.o,pure_sl H.t.w,pure_sl H.s,c1,c95,finC2,getRes,Option.some.injEq,exists_eq_left']
  ·rw [Bool.true_and] at c95
   simp (disch:=first|assumption|omega|(simp only[az];done)) only [ru,eq_self,if_true,binI,AO.row?,splice,fillL,loadV,storeV,Am.rowAt,Am.part,addOff,Nat.reduceAdd,Nat.reduceLeDiff,Nat.reduceSub,Int.reduceEq,view_sl H.t.o,view_sl H.t.w,view_sl H.s,pure_sl H.t.o,pure_sl H.t.w,pure_sl H.s,c1,c2,c95,finC2,getRes,Option.some.injEq,exists_eq_left']
 |
  arg hv hf =>
  refine ⟨0,0,1,?_,.arg hv hf⟩
  refine Iso_of (es _ _ _ _) e63 ?_
  simp only [f63,bkV]
  cases f1
  ·rw [Bool.false_and] at c95
   simp (disch:=first|assumption|omega|(simp only[az];done)) only [ru,eq_self,if_true,if_false,binI,AO.row?,splice,fillL,loadV,storeV,Am.rowAt,Am.part,Nat.reduceAdd,Nat.reduceLeDiff,Nat.reduceSub,Int.reduceEq,view_sl H.t.o,view_sl H.t.w,view_sl H.s,pure_sl H.t.o,pure_sl H.t.w,pure_sl H.s,c1,c95,finC2,getRes,Option.some.injEq,exists_eq_left']
  ·rw [Bool.true_and] at c95
   simp (disch:=first|assumption|omega|(simp only[az];done)) only [ru,eq_self,if_true,binI,AO.row?,splice,fillL,loadV,storeV,Am.rowAt,Am.part,addOff,Nat.reduceAdd,Nat.reduceLeDiff,Nat.reduceSub,Int.reduceEq,view_sl H.t.o,view_sl H.t.w,view_sl H.s,pure_sl H.t.o,pure_sl H.t.w,pure_sl H.s,c1,c2,c95,finC2,getRes,Option.some.injEq,exists_eq_left']
 |
  none hv hf hn =>
  refine ⟨0,0,3,?_,.none hv hf hn⟩
  obtain ⟨rfl,rfl⟩ : f1 = true ∧ f2 = true:=by simpa using hf
  refine Iso_of (es _ _ _ _) e63 ?_
  simp only [f63,bkV,Bool.and_self] at c95 ⊢
  simp (disch:=first|assumption|omega|(simp only[az];done)) only [ru,eq_self,if_true,binI,AO.row?,splice,fillL,loadV,storeV,Am.rowAt,Am.part,addOff,Nat.reduceAdd,Nat.reduceLeDiff,Nat.reduceSub,Int.reduceEq,view_sl H.t.o,view_sl H.t.w,view_sl H.s,pure_sl H.t.o,pure_sl H.t.w,pure_sl H.s,c1,c2,c95,finC2,getRes,Option.some.injEq,exists_eq_left']
 |
  ok hv hf hs =>
  obtain ⟨rfl,rfl⟩ : f1 = true ∧ f2 = true:=by simpa using hf
  have V:=valid_trb (bk_t hv)
  have v0:=V.c0; have v1:=V.c1; have v2:=V.t0; have v3:=V.t1
  have eC:=trC V; have eT:=trT V
  have hx:=inR_iff.1 hf1.symm
  have hy:=inR_iff.1 hf2.symm
  rw [wr64 (by omega) (by omega)] at hx hy
  have sl:=sts_len hv
  have sr:=sts_ris hv
  have pos : 0 < b.sts.length:=List.length_pos_iff.2 hs
  have cF : ∀ g ∈ b.sts,∃ lo hi,Iso E 101 [cpW b.t (qG b.t g),I x,I y] false = some (.agg [I lo,I hi]) ∧ HulX b [g] (fun z => gap b.t.C z x.toNat y.toNat) lo hi:=fun g hg => by
   have:=w101 H hv hg (x:=x.toNat) (y:=y.toNat) (by omega) (by omega)
   rwa [Int.toNat_of_nonneg hx.1,Int.toNat_of_nonneg hy.1] at this
  suffices hh : ∃ r h',R E (.fn 63) [bkV b o w s,I x,I y] [] 0 = some (r,h') ∧ ∃ lo hi,r = .tup [.agg [I lo,I hi],I 0] ∧ HulX b b.sts (fun z => gap b.t.C z x.toNat y.toNat) lo hi by
   obtain ⟨r,h',hr,lo,hi,rfl,X⟩:=hh
   exact ⟨lo,hi,0,by simp only [Iso,hr]; rfl,.ok hv rfl hs ⟨X,rfl⟩⟩
  obtain ⟨L,hL⟩ : ∃ L,L = b.sts:=⟨_,rfl⟩
  have IA:=resLL_is b.sts
  rw [← hL] at c95 IA sl sr pos cF ⊢
  obtain ⟨av,hav⟩ : ∃ av,av = resLL L:=⟨_,rfl⟩
  rw [← hav] at c95 IA
  obtain ⟨F,hF⟩ : ∃ F,F = (fun z : Nat → Int => gap b.t.C z x.toNat y.toNat):=⟨_,rfl⟩
  rw [← hF] at cF ⊢
  have oi : IsSl 1 Ls.e (cpL b.t.op) (cpO b.t.op):=cpO_is
  obtain ⟨co,hco⟩ : ∃ co,co = cpO b.t.op:=⟨_,rfl⟩
  have h0 : (0 : Int) < L.length:=by omega
  have ea0:=elem_ll IA 0 (by omega) h0
  obtain ⟨g0,hg0⟩ : ∃ g,g = L.getD 0 []:=⟨_,rfl⟩
  have g0m : g0 ∈ L:=by rw [hg0]; exact getD_memL pos
  rw [show (0 : Int).toNat = 0 from rfl,← hg0] at ea0
  have gi0:=resL_is g0
  have gl0:=ris_len (sr g0 g0m)
  have d67:=w67 H gi0 (by omega)
  have wi0:=resW_is (kpL b.t.ws (qG b.t g0) b.t.ws.length)
  obtain ⟨lo0,hi0,d101,X0⟩:=cF g0 g0m
  simp only [bkV,cpW,← hco] at d67 d101 oi
  refine R_of (f:=63) (fun r h' => ∃ lo hi,r = .tup [.agg [I lo,I hi],I 0] ∧ HulX b L F lo hi) (es _ _ _ _) e63 ?_
  simp only [f63,bkV,Bool.and_self] at c95 ⊢
  simp (disch:=first|assumption|omega|(simp only[az];done)) only [ru,eq_self,if_true,if_false,binI,AO.row?,splice,loadV,storeV,Am.rowAt,Am.part,addOff,Nat.reduceAdd,Nat.reduceLeDiff,Nat.reduceSub,view_sl H.t.o,view_sl H.t.w,view_sl H.s,pure_sl H.t.o,pure_sl H.t.w,pure_sl H.s,c1,c2,c95,hide,ea0,view_sl gi0,pure_sl gi0,d67,view_sl oi,pure_sl oi,view_sl wi0,pure_sl wi0,d101]
  refine G_loop_ind (fun m ts hk mk => ∃ (i : Nat) (lo hi : Int),i ≤ L.length ∧ m = L.length - i ∧ hk = [.cells [I b.t.ch,I b.t.tm,o,w,I b.dr,I b.rn,s] false,.cells [I 0,I 0] false,.cells [I lo,I hi] false] ∧ HulX b (g0 :: L.take i) F lo hi ∧
    ts.length = 56 ∧ ts.getD 1 .undef = I x ∧ ts.getD 2 .undef = I y ∧ ts.getD 3 .undef = .ptr 0 0 ∧ ts.getD 6 .undef = .ptr 1 0 ∧ ts.getD 8 .undef = av ∧ ts.getD 10 .undef = .ptr 2 0 ∧ ts.getD 11 .undef = I i ∧ mk = []) ?_ _ _ _ _
   ⟨0,lo0,hi0,Nat.zero_le _,rfl,rfl,X0,rfl,rfl,rfl,rfl,rfl,rfl,rfl,rfl,rfl⟩
  rintro m ts hk mk ih ⟨i,lo,hi',hi,rfl,rfl,X,hl',q1,q2,q3,q6,q8,q10,q11,rfl⟩
  rw [lit_all hl']
  simp only [lit0,litS,Nat.reduceAdd,q1,q2,q3,q6,q8,q10,q11]
  simp (disch:=first|assumption|omega|(simp only[az];done)) only [ru,eq_self,if_true,binI,Nat.reduceAdd,lenV_sl IA]
  by_cases hlt : (i : Int) < L.length
  case neg =>
   obtain rfl : i = L.length:=by omega
   rw [List.take_length] at X
   simp (disch:=first|assumption|omega|(simp only[az];done)) only [ru,eq_self,if_true,AO.row?,splice,loadV,storeV,Am.rowAt,Am.part,Nat.reduceAdd,Nat.reduceLeDiff,hlt,finC2,getRes,Option.some.injEq,exists_eq_left']
   exact ⟨lo,hi',rfl,X.mem g0m⟩
  have hi2 : i < L.length:=by omega
  obtain ⟨g,hg⟩ : ∃ g,g = L.getD i []:=⟨_,rfl⟩
  have hgm : g ∈ L:=by rw [hg]; exact getD_memL hi2
  have ea:=elem_ll IA i (by omega) hlt
  rw [Int.toNat_natCast,← hg] at ea
  have gi:=resL_is g
  have gl:=ris_len (sr g hgm)
  have c67:=w67 H gi (by omega)
  have wi:=resW_is (kpL b.t.ws (qG b.t g) b.t.ws.length)
  obtain ⟨lo1,hi1,c101,X1⟩:=cF g hgm
  simp only [bkV,cpW,← hco] at c67 c101
  have tk : L.take (i + 1) = L.take i ++ [g]:=by
   rw [List.take_succ_eq_append_getElem hi2,hg,List.getD_eq_getElem?_getD,List.getElem?_eq_getElem hi2]; rfl
  simp (disch:=first|assumption|omega|(simp only[az];done)) only [ru,eq_self,if_true,if_false,binI,AO.row?,splice,loadV,storeV,Am.rowAt,Am.part,Nat.reduceAdd,Nat.reduceLeDiff,view_sl H.t.o,view_sl H.t.w,view_sl H.s,pure_sl H.t.o,pure_sl H.t.w,pure_sl H.s,hlt,ea,view_sl gi,pure_sl gi,c67,view_sl wi,pure_sl wi,view_sl oi,pure_sl oi,c101,w102]
  exact ih (L.length - (i + 1)) _ _ _ (by omega) ⟨i + 1,_,_,by omega,rfl,rfl,by rw [tk]; exact X.snoc X1,rfl,rfl,rfl,rfl,rfl,rfl,rfl,rfl,rfl⟩
set_option maxHeartbeats 4000000 in
theorem w65 (H : BkOk b o w s) (x y : Int) : ∃ lo hi e,Iso E 65 [bkV b o w s,I x,I y] false = some (.tup [.agg [I lo,I hi],I e]) ∧ AnB b (inR x 0 (wr .i64 (b.t.tm - 1)) && inR y 0 (wr .i64 (b.t.tm - 1)) && decide (x ≤ y)) (fun e => ((0 : Int),(0 : Int),e)) (fun r => HulX b b.sts (fun z => z (sumN b.t.C y.toNat 0) - z (sumN b.t.C x.toNat 0)) r.1 r.2.1 ∧ r.2.2 = 0) (lo,hi,e):=by
 have c1:=fun st => w38 H x st
 have c2:=fun st => w38 H y st
 obtain ⟨f1,hf1⟩ : ∃ f,f = inR x 0 (wr .i64 (b.t.tm - 1)):=⟨_,rfl⟩
 obtain ⟨f2,hf2⟩ : ∃ f,f = inR y 0 (wr .i64 (b.t.tm - 1)):=⟨_,rfl⟩
 rw [← hf1] at c1 ⊢
 rw [← hf2] at c2 ⊢
 obtain ⟨r,e,c95,A⟩:=w95 H (f1 && f2 && decide (x ≤ y))
 simp only [bkV] at c1 c2 c95
 cases A with
 |
  bad hv =>
  refine ⟨0,0,110,?_,.bad hv⟩
  refine Iso_of (es _ _ _ _) e65 ?_
  simp only [f65,bkV]
  cases f1
  ·simp only [Bool.false_and] at c95
   simp (disch:=first|assumption|omega|(simp only[az];done)) only [ru,eq_self,if_true,if_false,binI,AO.row?,splice,fillL,loadV,storeV,Am.rowAt,Am.part,Nat.reduceAdd,Nat.reduceLeDiff,Nat.reduceSub,Int.reduceEq,view_sl H.t.o,view_sl H.t.w,view_sl H.s,pure_sl H.t.o,pure_sl H.t.w,pure_sl H.s,c1,c95,finC2,getRes,Option.some.injEq,exists_eq_left']
  ·cases f2
   ·simp only [Bool.and_false,Bool.false_and] at c95
    simp (disch:=first|assumption|omega|(simp only[az];done)) only [ru,eq_self,if_true,if_false,binI,AO.row?,splice,fillL,loadV,storeV,Am.rowAt,Am.part,Nat.reduceAdd,Nat.reduceLeDiff,Nat.reduceSub,Int.reduceEq,view_sl H.t.o,view_sl H.t.w,view_sl H.s,pure_sl H.t.o,pure_sl H.t.w,pure_sl H.s,c1,c2,c95,finC2,getRes,Option.some.injEq,exists_eq_left']
   ·simp only [Bool.and_self,Bool.true_and] at c95
    simp (disch:=first|assumption|omega|(simp only[az];done)) only [ru,eq_self,if_true,binI,AO.row?,splice,fillL,loadV,storeV,Am.rowAt,Am.part,Nat.reduceAdd,Nat.reduceLeDiff,Nat.reduceSub,Int.reduceEq,view_sl H.t.o,view_sl H.t.w,view_sl H.s,pure_sl H.t.o,pure_sl H.t.w,pure_sl H.s,c1,c2,c95,finC2,getRes,Option.some.injEq,exists_eq_left']
 |
  arg hv hf =>
  refine ⟨0,0,1,?_,.arg hv hf⟩
  refine Iso_of (es _ _ _ _) e65 ?_
  simp only [f65,bkV]
  cases f1
  ·simp only [Bool.false_and] at c95
   simp (disch:=first|assumption|omega|(simp only[az];done)) only [ru,eq_self,if_true,if_false,binI,AO.row?,splice,fillL,loadV,storeV,Am.rowAt,Am.part,Nat.reduceAdd,Nat.reduceLeDiff,Nat.reduceSub,Int.reduceEq,view_sl H.t.o,view_sl H.t.w,view_sl H.s,pure_sl H.t.o,pure_sl H.t.w,pure_sl H.s,c1,c95,finC2,getRes,Option.some.injEq,exists_eq_left']
  ·cases f2
   ·simp only [Bool.and_false,Bool.false_and] at c95
    simp (disch:=first|assumption|omega|(simp only[az];done)) only [ru,eq_self,if_true,if_false,binI,AO.row?,splice,fillL,loadV,storeV,Am.rowAt,Am.part,Nat.reduceAdd,Nat.reduceLeDiff,Nat.reduceSub,Int.reduceEq,view_sl H.t.o,view_sl H.t.w,view_sl H.s,pure_sl H.t.o,pure_sl H.t.w,pure_sl H.s,c1,c2,c95,finC2,getRes,Option.some.injEq,exists_eq_left']
   ·simp only [Bool.and_self,Bool.true_and] at c95
    simp (disch:=first|assumption|omega|(simp only[az];done)) only [ru,eq_self,if_true,binI,AO.row?,splice,fillL,loadV,storeV,Am.rowAt,Am.part,Nat.reduceAdd,Nat.reduceLeDiff,Nat.reduceSub,Int.reduceEq,view_sl H.t.o,view_sl H.t.w,view_sl H.s,pure_sl H.t.o,pure_sl H.t.w,pure_sl H.s,c1,c2,c95,finC2,getRes,Option.some.injEq,exists_eq_left']
 |
  none hv hf hn =>
  refine ⟨0,0,3,?_,.none hv hf hn⟩
  obtain ⟨⟨rfl,rfl⟩,hxy⟩ : (f1 = true ∧ f2 = true) ∧ x ≤ y:=by simpa using hf
  refine Iso_of (es _ _ _ _) e65 ?_
  simp only [f65,bkV,Bool.and_self,Bool.true_and] at c95 ⊢
  simp (disch:=first|assumption|omega|(simp only[az];done)) only [ru,eq_self,if_true,binI,AO.row?,splice,fillL,loadV,storeV,Am.rowAt,Am.part,Nat.reduceAdd,Nat.reduceLeDiff,Nat.reduceSub,Int.reduceEq,view_sl H.t.o,view_sl H.t.w,view_sl H.s,pure_sl H.t.o,pure_sl H.t.w,pure_sl H.s,c1,c2,c95,finC2,getRes,Option.some.injEq,exists_eq_left']
 |
  ok hv hf hs =>
  obtain ⟨⟨rfl,rfl⟩,hxy⟩ : (f1 = true ∧ f2 = true) ∧ x ≤ y:=by simpa using hf
  have V:=valid_trb (bk_t hv)
  have v0:=V.c0; have v1:=V.c1; have v2:=V.t0; have v3:=V.t1
  have hx:=inR_iff.1 hf1.symm
  have hy:=inR_iff.1 hf2.symm
  rw [wr64 (by omega) (by omega)] at hx hy
  have hp : (timeB b.t x && timeB b.t y && decide (x ≤ y)) = true:=by simp only [timeB,Bool.and_eq_true,decide_eq_true_eq]; omega
  have sl:=sts_len hv
  have sr:=sts_ris hv
  have pos : 0 < b.sts.length:=List.length_pos_iff.2 hs
  have cF : ∀ g ∈ b.sts,∃ lo hi e,Iso E 105 [cpW b.t (qG b.t g),I x,I y] false = some (.tup [.agg [I lo,I hi],I e]) ∧ HulX b [g] (fun z => z (sumN b.t.C y.toNat 0) - z (sumN b.t.C x.toNat 0)) lo hi:=fun g hg => w105 H hv hg hp
  suffices hh : ∃ r h',R E (.fn 65) [bkV b o w s,I x,I y] [] 0 = some (r,h') ∧ ∃ lo hi,r = .tup [.agg [I lo,I hi],I 0] ∧ HulX b b.sts (fun z => z (sumN b.t.C y.toNat 0) - z (sumN b.t.C x.toNat 0)) lo hi by
   obtain ⟨r,h',hr,lo,hi,rfl,X⟩:=hh
   exact ⟨lo,hi,0,by simp only [Iso,hr]; rfl,.ok hv (by simpa using hxy) hs ⟨X,rfl⟩⟩
  obtain ⟨L,hL⟩ : ∃ L,L = b.sts:=⟨_,rfl⟩
  have IA:=resLL_is b.sts
  rw [← hL] at c95 IA sl sr pos cF ⊢
  obtain ⟨av,hav⟩ : ∃ av,av = resLL L:=⟨_,rfl⟩
  rw [← hav] at c95 IA
  obtain ⟨F,hF⟩ : ∃ F,F = (fun z : Nat → Int => z (sumN b.t.C y.toNat 0) - z (sumN b.t.C x.toNat 0)):=⟨_,rfl⟩
  rw [← hF] at cF ⊢
  have oi : IsSl 1 Ls.e (cpL b.t.op) (cpO b.t.op):=cpO_is
  obtain ⟨co,hco⟩ : ∃ co,co = cpO b.t.op:=⟨_,rfl⟩
  have h0 : (0 : Int) < L.length:=by omega
  have ea0:=elem_ll IA 0 (by omega) h0
  obtain ⟨g0,hg0⟩ : ∃ g,g = L.getD 0 []:=⟨_,rfl⟩
  have g0m : g0 ∈ L:=by rw [hg0]; exact getD_memL pos
  rw [show (0 : Int).toNat = 0 from rfl,← hg0] at ea0
  have gi0:=resL_is g0
  have gl0:=ris_len (sr g0 g0m)
  have d67:=w67 H gi0 (by omega)
  have wi0:=resW_is (kpL b.t.ws (qG b.t g0) b.t.ws.length)
  obtain ⟨lo0,hi0,ee0,d101,X0⟩:=cF g0 g0m
  simp only [bkV,cpW,← hco] at d67 d101 oi
  refine R_of (f:=65) (fun r h' => ∃ lo hi,r = .tup [.agg [I lo,I hi],I 0] ∧ HulX b L F lo hi) (es _ _ _ _) e65 ?_
  simp only [f65,bkV,Bool.and_self,decide_eq_true hxy] at c95 ⊢
  simp (disch:=first|assumption|omega|(simp only[az];done)) only [ru,eq_self,if_true,if_false,binI,AO.row?,splice,loadV,storeV,Am.rowAt,Am.part,Nat.reduceAdd,Nat.reduceLeDiff,Nat.reduceSub,view_sl H.t.o,view_sl H.t.w,view_sl H.s,pure_sl H.t.o,pure_sl H.t.w,pure_sl H.s,c1,c2,hxy,c95,hide,ea0,view_sl gi0,pure_sl gi0,d67,view_sl oi,pure_sl oi,view_sl wi0,pure_sl wi0,d101]
  refine G_loop_ind (fun m ts hk mk => ∃ (i : Nat) (lo hi : Int) (J : List AO),i ≤ L.length ∧ m = L.length - i ∧ hk = .cells [I b.t.ch,I b.t.tm,o,w,I b.dr,I b.rn,s] false :: .cells [I 0,I 0] false :: .cells [I lo,I hi] false :: J ∧ HulX b (g0 :: L.take i) F lo hi ∧
    ts.length = 70 ∧ ts.getD 1 .undef = I x ∧ ts.getD 2 .undef = I y ∧ ts.getD 3 .undef = .ptr 0 0 ∧ ts.getD 6 .undef = .ptr 1 0 ∧ ts.getD 8 .undef = av ∧ ts.getD 10 .undef = .ptr 2 0 ∧ ts.getD 12 .undef = I i ∧ mk = []) ?_ _ _ _ _
   ⟨0,lo0,hi0,[],Nat.zero_le _,rfl,rfl,X0,rfl,rfl,rfl,rfl,rfl,rfl,rfl,rfl,rfl⟩
  rintro m ts hk mk ih ⟨i,lo,hi',J,hi,rfl,rfl,X,hl',q1,q2,q3,q6,q8,q10,q12,rfl⟩
  rw [lit_all hl']
  simp only [lit0,litS,Nat.reduceAdd,q1,q2,q3,q6,q8,q10,q12]
  simp (disch:=first|assumption|omega|(simp only[az];done)) only [ru,eq_self,if_true,binI,lenV_sl IA]
  by_cases hlt : (i : Int) < L.length
  case neg =>
   obtain rfl : i = L.length:=by omega
   rw [List.take_length] at X
   simp (disch:=first|assumption|omega|(simp only[az];done)) only [ru,eq_self,if_true,AO.row?,splice,loadV,storeV,Am.rowAt,Am.part,Nat.reduceAdd,Nat.reduceLeDiff,hlt,finC2,getRes,Option.some.injEq,exists_eq_left']
   exact ⟨lo,hi',rfl,X.mem g0m⟩
  have hi2 : i < L.length:=by omega
  obtain ⟨g,hg⟩ : ∃ g,g = L.getD i []:=⟨_,rfl⟩
  have hgm : g ∈ L:=by rw [hg]; exact getD_memL hi2
  have ea:=elem_ll IA i (by omega) hlt
  rw [Int.toNat_natCast,← hg] at ea
  have gi:=resL_is g
  have gl:=ris_len (sr g hgm)
  have c67:=w67 H gi (by omega)
  have wi:=resW_is (kpL b.t.ws (qG b.t g) b.t.ws.length)
  obtain ⟨lo1,hi1,ee1,c101,X1⟩:=cF g hgm
  simp only [bkV,cpW,← hco] at c67 c101
  have tk : L.take (i + 1) = L.take i ++ [g]:=by
   rw [List.take_succ_eq_append_getElem hi2,hg,List.getD_eq_getElem?_getD,List.getElem?_eq_getElem hi2]; rfl
  have sE : ∀ x : AO,(J ++ [AO.tomb]).set J.length x = J ++ [x]:=fun x => by simp
  have aE : ∀ x : AO,(J ++ [x])[J.length]? = some x:=fun x => by simp
  simp (disch:=first|assumption|omega|(simp only[az];done)) only [ru,eq_self,if_true,if_false,binI,AO.row?,splice,loadV,storeV,Am.rowAt,Am.part,Nat.reduceAdd,Nat.reduceLeDiff,view_sl H.t.o,view_sl H.t.w,view_sl H.s,pure_sl H.t.o,pure_sl H.t.w,pure_sl H.s,hlt,hide,sE,aE,ea,view_sl gi,pure_sl gi,c67,view_sl wi,pure_sl wi,view_sl oi,pure_sl oi,c101,w102]
  exact ih (L.length - (i + 1)) _ _ _ (by omega) ⟨i + 1,_,_,_,by omega,rfl,rfl,by rw [tk]; exact X.snoc X1,rfl,rfl,rfl,rfl,rfl,rfl,rfl,rfl,rfl⟩
end
end Go.Proofs.YtfknojncfbahpaaGreat.S
