/-
An abstract machine for the Go code of the model, proved sound, and rules to run code in it (AmX).
-/
import Derived.Test.YtfknojncfbahpaaGreatAmW
import Derived.AtR
import Derived.RangeFuncIn
/-
Operations but for calls: all of them.
-/
namespace Go.Am
open Go
set_option linter.unusedVariables false
set_option linter.unusedSimpArgs false
variable {P : Program} {mode : Nat → Nat → Nat} {S : Fz} {φ : Mp} {B : Nat} {h : List AO} {w : World} {ρ : Operand → Value} {τ : Opd → AV} {m : Nat → Nat}
def AOp.isCall : AOp → Bool
 | .call .. | .callv .. => true
 | _ => false
def AOp.isLit : AOp → Bool
 | .litS .. => true
 | _ => false
theorem kept_call {a b : AOp} (h : a.kept = b.kept) (hb : b.isCall = false) : a.isCall = false:=by
 cases a <;> cases b <;> simp_all [AOp.kept,AOp.isCall]
theorem kept_p {a : AOp} {p : POp} (h : a.kept = (AOp.p p).kept) : a = .p p:=by
 cases a <;> simp_all [AOp.kept]
theorem kept_load {ag : Bool} {size : Nat} {x : Opd} {a : AOp} (h : (AOp.load ag size x).kept = a.kept) : a = .load ag size x ∨ (∃ r,a = .loadR ag size x r) ∨ ∃ rs,a = .loadN ag size x rs:=by
 cases a <;> simp_all [AOp.kept]
theorem kept_store {size : Nat} {x u : Opd} {a : AOp} (h : (AOp.store size x u).kept = a.kept) : a = .store size x u ∨ ∃ rs,a = .storeR size x u rs:=by
 cases a <;> simp_all [AOp.kept]
theorem kept_append {k0 : Bool} {x y : Nat} {s t : Opd} {a : AOp} (h : (AOp.append k0 x y s t).kept = a.kept) : ∃ k,a = .append k x y s t:=by
 cases a <;> simp_all [AOp.kept]
theorem zv_len {z : AV} {zv : Value} (hz : ∀ S φ,Rel S φ z zv) : zv.cells.size = z.cells.length:=by
 have:=(hz (fun _ => none) Mp.no).cells.1; simp at this; omega
theorem appendZ_snd (H : HR P mode S φ B h w) {lim : Nat} (pl : Option Nat) (hp : PlOk φ h pl) {t u ty e : TypeId} {esz eb n : Nat} {z : AV} (ht : P.underlying t = some (.slice e)) (hu : P.underlying u = some (.int .i64)) (hz : zeroP P e = some z) (hs : szP P e = some esz) (hb : ebP P e = some eb)
  (hzs : z.cells.length = esz) (hs1 : 1 ≤ esz) (hn : 1 ≤ n) (hbig : eb * n ≤ 140737488355328) (heb : 1 ≤ eb) :
  ∃ v w' φ',(Builtin.append_ #[t,u] ty #[.slice none 0 0,.int .i64 (n : Int)]).run P w = .ok v w' ∧ Rel S φ' (.ms esz (pl.getD h.length) 0 n) v ∧ Post P mode S φ B lim h w pl S φ' (newAt pl h (zeros n z.cells)) w':=by
 obtain ⟨i,hi,hisz⟩:=szP_info hs
 obtain ⟨zv,hzv,hzr⟩:=zeroP_info hz hi
 have hib : i.bytes = eb:=by simp only [ebP,hi,Option.map_some,Option.some.injEq] at hb; exact hb
 have hzz : zv.cells.size = esz:=by rw [zv_len hzr,hzs]
 have hn1 : n ≤ 140737488355328:=Nat.le_trans (Nat.le_mul_of_pos_left _ heb) hbig
 have hwrap : IntKind.i64.wrap (n : Int) = n:=by rw [IntKind.wrap_i64]; omega
 have hbig' : (n : Int) * (i.bytes : Int) ≤ 140737488355328:=by
  have : ((eb * n : Nat) : Int) ≤ 140737488355328:=by omega
  rw [Int.natCast_mul,Int.mul_comm] at this; rw [hib]; exact this
 have h1 : ¬ ((n : Int) < 0):=by omega
 have h2 : ¬ (281474976710656 < (n : Int) * (i.bytes : Int)):=by omega
 have h3 : ¬ n = 0:=by omega
 have h4 : ¬ (9223372036854775807 < (n : Int)):=by omega
 have hbn : n * i.bytes ≤ 140737488355328:=by rw [hib,Nat.mul_comm]; exact hbig
 have h5 : ¬ (281474976710656 < Builtin.nextslicecap n 0 * i.bytes):=by rw [nextslicecap_zero (by omega)]; omega
 have h6 : ¬ n * i.size = 0:=by rw [hisz]; have:=Nat.mul_pos hn hs1; omega
 have hr : (Builtin.append_ #[t,u] ty #[.slice none 0 0,.int .i64 (n : Int)]).run P w = .ok (.slice (some ⟨w.heap.size,0,none⟩) n (grownCap w n 0 e))
   (w.drew.alloc (.cells (Builtin.zeroCells zv.cells n ++ Builtin.zeroCells zv.cells (grownCap w n 0 e - n)) e)):=by
  have hne : i.size ≠ 0:=by omega
  simp [Builtin.append_,run_underlying ht,run_underlying hu,sizeOf,typeInfo,zeroValue,hi,hzv,Builtin.lenOf,asInt,asIntOf,hwrap,h1,h2,h3,h4,h5,hne,Question.forced,run_firstCells_none,newRow,grownCap]
  exact fun h0 => absurd h0 h6
 have Hd:=H.heap (w':=w.drew) rfl
 have hrow : ∀ (j : Nat) x,(zeros n z.cells)[j]? = some x → ∃ v,(Builtin.zeroCells zv.cells n ++ Builtin.zeroCells zv.cells (grownCap w n 0 e - n))[j]? = some v ∧ Rel S φ x v:=by
  intro j x hx
  obtain ⟨v,hv,hrv⟩:=zeros_row ((hzr S φ).cells) n (n * zv.cells.size) (by rw [hzz,hzs]; exact Nat.le_refl _) (f:=fun i => zv.cells[i % zv.cells.size]!) (fun j _ => rfl) j x hx
  refine ⟨v,?_,hrv⟩
  have hl:=(List.getElem?_eq_some_iff.1 hx).1
  rw [zeros_len,hzs] at hl
  rw [Array.getElem?_append_left (by rw [size_zeroCells,hzz]; exact hl)]
  exact hv
 have hp2:=newRow_post Hd pl hp e (c:=zeros n z.cells) (cs:=Builtin.zeroCells zv.cells n ++ Builtin.zeroCells zv.cells (grownCap w n 0 e - n)) (by
  rw [zeros_len,Array.size_append,size_zeroCells,hzz,hzs]; omega) hrow false lim
 rw [newAt_eq]
 refine ⟨_,_,_,hr,?_,⟨hp2.hr,hp2.le,hp2.sle,⟨rfl,rfl,rfl,by simp,fun q hq => hp2.fx.old q hq⟩,hp2.len,hp2.keep,hp2.none⟩⟩
 refine .ms _ _ _ _ _ _ _ _ (Mp.set_same _ _ _) (grownCap_ge w n 0 e) ?_
 simp only [Array.size_append,size_zeroCells,hzz,Nat.zero_add]
 rw [← Nat.add_mul]
 have:=grownCap_ge w n 0 e
 exact Nat.mul_le_mul_right _ (by omega)
theorem kept_w {o : WOp} {a : AOp} (h : (AOp.w o).kept = a.kept) (ho : ∀ e s x r,o ≠ .app e s x r) : a = .w o:=by
 have e0 : o.kept = o:=by
  cases o with
  | app e s x r => exact absurd rfl (ho e s x r)
  | _ => rfl
 cases a with
 |
  w p =>
  simp only [AOp.kept,AOp.w.injEq,e0] at h
  cases p with
  | app e s x r => exact absurd h (ho _ _ _ _)
  | _ => rw [h]; rfl
 | _ => simp [AOp.kept] at h
theorem kept_app {e : Nat} {s x : Opd} {q : Option Nat} {a : AOp} (h : (AOp.w (.app e s x q)).kept = a.kept) : ∃ r,a = .w (.app e s x r):=by
 cases a with
 |
  w p =>
  simp only [AOp.kept,AOp.w.injEq] at h
  cases p with
  |
   app e' s' x' r =>
   simp only [WOp.kept,WOp.app.injEq] at h
   obtain ⟨rfl,rfl,rfl,_⟩:=h
   exact ⟨r,rfl⟩
  | _ => simp [WOp.kept] at h
 | _ => simp [AOp.kept] at h
theorem putR_snd (H : HR P mode S φ B h w) {lim : Nat} (pl : Option Nat) {o off b z : Nat} {xs : List AV} {us : List Value} {h' : List AO} (hx : putR lim h o off xs = some h') (hb : φ o = some (b,z)) (hr : RelL S φ xs us) :
  ∃ (cs : Array Value) (e : TypeId) (w' : World),w.heap[b]? = some (.cells cs e (0,0)) ∧ off + us.length ≤ cs.size ∧ (∀ u ∈ us,u.oneCell' = true) ∧ w' = w.setRow b (cs.toList.take off ++ us ++ cs.toList.drop (off + us.length)).toArray ∧ Post P mode S φ B lim h w pl S φ h' w':=by
 unfold putR at hx
 split at hx
 ·rename_i c hco
  split at hx
  ·rename_i hif
   obtain ⟨hfit,hlim,hsc⟩:=hif
   cases hx
   obtain ⟨b',z',hb',hS,hor⟩ : ∃ b z,φ o = some (b,z) ∧ S b = none ∧ ORow S φ w c b z:=by
    rcases H.obj o _ hco with hh | ⟨b,z,h1,h2,h3⟩
    ·cases hh
    ·exact ⟨b,z,h1,h2,h3⟩
   rw [hb] at hb'; cases hb'
   obtain ⟨cs,e,g1,g2,g3,g4⟩:=hor
   have:=hr.1
   exact ⟨cs,e,_,g1,by omega,rel_same_cells (r:=xs) hr hsc,rfl,H.store hco hb g1 hfit hr lim hlim pl⟩
  ·cases hx
 ·cases hx
theorem app_snd (H : HR P mode S φ B h w) {lim : Nat} (pl : Option Nat) {t ty e : TypeId} {esz : Nat} (ht : P.underlying t = some (.slice e)) (hs : szP P e = some esz) (hs1 : 1 ≤ esz)
  {s x : Opd} {sv xv : Value} (rs : Rel S φ (τ s) sv) (rx : Rel S φ (τ x) xv) {r : AV} {h' : List AO} {rr : Option Nat} (hx : wex lim τ h (.app esz s x rr) = some (r,h')) :
  ∃ v w',(Builtin.append_ #[t,t] ty #[sv,xv]).run P w = .ok v w' ∧ Rel S φ r v ∧ Post P mode S φ B lim h w pl S φ h' w':=by
 obtain ⟨i,hi,hisz⟩:=szP_info hs
 simp only [wex] at hx
 split at hx
 ·rename_i e2 o off len room n xs hq1 hq2 hq3
  split at hx
  ·rename_i hif
   obtain ⟨he,hoff,hxl,hroom,_⟩:=hif
   have he:=he.symm
   subst he; subst hoff
   obtain ⟨n',hn',hrow⟩:=rowOf_list H rx hq3
   rw [hq2] at hn'; cases hn'
   rw [hq1] at rs
   cases rs with
   |
    mr _ _ _ _ _ _ b z cap hb hl hc hz =>
    split at hx
    ·rename_i hn0
     subst hn0
     cases hx
     refine ⟨_,w,?_,by rw [hq1]; exact .mr _ _ _ _ _ _ _ _ _ hb hl hc hz,Post.refl H lim pl⟩
     have hxv : ∃ a' c',xv = .slice a' 0 c':=by
      rcases hrow with ⟨_,a',c',rfl⟩ | ⟨b,off,cap,vs,rfl,_,_⟩ <;> exact ⟨_,_,rfl⟩
     obtain ⟨a',c',rfl⟩:=hxv
     have hlc:=Nat.le_trans hl hc
     cases a' <;> simp [Builtin.append_,run_underlying ht,sizeOf,typeInfo,hi,Builtin.lenOf,hlc,Builtin.firstCells,loadCells,loadCellsFrom,storeCells]
    ·rename_i hn0
     simp only [Option.map_eq_some_iff,Prod.mk.injEq] at hx
     obtain ⟨g,hg,rfl,rfl⟩:=hx
     obtain ⟨b2,off2,cap2,us,rfl,hus,hcell⟩ : ∃ b off cap vs,xv = .slice (some ⟨b,off,none⟩) n cap ∧ RelL S φ xs vs ∧ ∀ (j : Nat) u,vs[j]? = some u → w.cell? ((⟨b,off,none⟩ : Addr).add j) = some u:=by
      rcases hrow with ⟨hxe,_⟩ | h0
      ·have h1 : 1 ≤ n * esz:=Nat.mul_pos (by omega) hs1
       rw [hxe] at hxl; simp only [List.length_nil] at hxl; omega
      ·exact h0
     have hul : us.length = n * i.size:=by rw [← hus.1,hxl,hisz]
     obtain ⟨cs,e3,w',g1,g2,g3,rfl,hp⟩:=putR_snd H pl hg hb hus
     have hr:=run_append_room' (P:=P) (w:=w) t ty e e3 i ht hi b len cap cs g1 ⟨b2,off2,none⟩ n cap2 us hul hcell g3 (by omega) (by rw [hisz]; omega)
     rw [hisz] at hr
     refine ⟨_,_,hr,.mr _ _ _ _ _ _ _ _ _ hb hroom hc hz,?_⟩
     simpa using hp
  ·cases hx
 ·cases hx
theorem cpy_snd (H : HR P mode S φ B h w) {lim : Nat} (pl : Option Nat) {t t2 ty e : TypeId} {esz : Nat} (ht : P.underlying t = some (.slice e)) (hs : szP P e = some esz) (hs1 : 1 ≤ esz)
  {s x : Opd} {sv xv : Value} (rs : Rel S φ (τ s) sv) (rx : Rel S φ (τ x) xv) {r : AV} {h' : List AO} (hx : wex lim τ h (.cpy esz s x) = some (r,h')) :
  ∃ v w',(Builtin.copy_ #[t,t2] ty #[sv,xv]).run P w = .ok v w' ∧ Rel S φ r v ∧ Post P mode S φ B lim h w pl S φ h' w':=by
 obtain ⟨i,hi,hisz⟩:=szP_info hs
 simp only [wex] at hx
 split at hx
 ·rename_i k n xs hq1 hq2 hq3
  split at hx
  ·rename_i hxl
   obtain ⟨n',hn',hrow⟩:=rowOf_list H rx hq3
   rw [hq2] at hn'; cases hn'
   have hsv : ∃ a c,sv = .slice a k c:=by
    cases hs' : τ s <;> rw [hs'] at rs hq1 <;> simp [lenOf] at hq1
    ·cases rs; subst hq1; exact ⟨_,_,rfl⟩
    ·cases rs with
     | cs0 => subst hq1; exact ⟨_,_,rfl⟩
     | cs _ _ _ _ _ _ _ _ _ _ _ hc => subst hq1; exact ⟨_,_,rfl⟩
    ·cases rs with | ms _ _ _ _ _ _ _ _ _ hc _ => subst hq1; exact ⟨_,_,rfl⟩
    ·cases rs with | mc _ _ _ _ _ _ _ _ _ => subst hq1; exact ⟨_,_,rfl⟩
    ·cases rs with | mr _ _ _ _ _ _ _ _ _ _ hl hc _ => subst hq1; exact ⟨_,_,rfl⟩
   split at hx
   ·rename_i hn0
    cases hx
    obtain ⟨a,c,rfl⟩:=hsv
    have hxv : ∃ a' c',xv = .slice a' n c':=by
     rcases hrow with ⟨_,a',c',rfl⟩ | ⟨b,off,cap,vs,rfl,_,_⟩ <;> exact ⟨_,_,rfl⟩
    obtain ⟨a',c',rfl⟩:=hxv
    refine ⟨_,w,?_,.int _ _ _,Post.refl H lim pl⟩
    have hn1 : Nat.min n k = 0:=hn0
    have hl : ∀ (x : Addr),(loadCells x 0).run P w = .ok #[] w:=fun x => by simpa using run_loadCells_list (P:=P) w x [] (by simp)
    cases a <;> cases a' <;> simp [Builtin.copy_,run_underlying ht,Builtin.lenOf,Builtin.firstCells,sizeOf,typeInfo,hi,hn1,storeCells,hl,goInt]
   ·rename_i hn0
    split at hx
    ·rename_i e2 o off l2 hd
     split at hx
     ·rename_i he
      have he:=he.symm
      subst he
      simp only [Option.map_eq_some_iff,Prod.mk.injEq] at hx
      obtain ⟨g,hg,rfl,rfl⟩:=hx
      obtain ⟨b2,off2,cap2,us,rfl,hus,hcell⟩ : ∃ b off cap vs,xv = .slice (some ⟨b,off,none⟩) n cap ∧ RelL S φ xs vs ∧ ∀ (j : Nat) u,vs[j]? = some u → w.cell? ((⟨b,off,none⟩ : Addr).add j) = some u:=by
       rcases hrow with ⟨hxe,_⟩ | h0
       ·have h1 : 1 ≤ n * esz:=Nat.mul_pos (by omega) hs1
        rw [hxe] at hxl; simp only [List.length_nil] at hxl; omega
       ·exact h0
      have hle : min n k * esz ≤ n * esz:=Nat.mul_le_mul_right _ (Nat.min_le_left _ _)
      have hus2 : RelL S φ (xs.take (min n k * esz)) (us.take (min n k * esz)):=hus.take _
      have hul : (us.take (min n k * esz)).length = min n k * i.size:=by rw [List.length_take,← hus.1,hxl,hisz]; omega
      have hcell2 : ∀ (j : Nat) u,(us.take (min n k * esz))[j]? = some u → w.cell? ((⟨b2,off2,none⟩ : Addr).add j) = some u:=by
       intro j u hj
       rw [List.getElem?_take] at hj
       split at hj
       ·exact hcell j u hj
       ·cases hj
      obtain ⟨b,z,cap,hb,rfl⟩ : ∃ b z cap,φ o = some (b,z) ∧ sv = .slice (some ⟨b,off,none⟩) k cap:=by
       obtain ⟨a,c,rfl⟩:=hsv
       cases hs' : τ s <;> rw [hs'] at rs hd <;> simp [destOf] at hd
       ·obtain ⟨rfl,rfl,rfl,rfl⟩:=hd
        cases rs with | ms _ _ _ _ _ b z cap hb _ _ => exact ⟨b,z,_,hb,rfl⟩
       ·obtain ⟨rfl,rfl,rfl,rfl⟩:=hd
        cases rs with | mr _ _ _ _ _ _ b z cap hb _ _ _ => exact ⟨b,z,_,hb,rfl⟩
      obtain ⟨cs,e3,w',g1,g2,g3,rfl,hp⟩:=putR_snd H pl hg hb hus2
      refine ⟨_,_,?_,.int _ _ _,hp⟩
      have hf:=run_firstCells_some (P:=P) w i.size (min n k) ⟨b2,off2,none⟩ n cap2 _ hul hcell2
      have hst:=run_storeCells_at P b off e3 _ 0 cs w g1 (by simpa using g2) g3
      simp only [Nat.add_zero] at hst
      have hmin : Nat.min n k = min n k:=rfl
      simp [Builtin.copy_,run_underlying ht,Builtin.lenOf,sizeOf,typeInfo,hi,hmin,hf,hst,goInt]
      omega
     ·cases hx
    ·cases hx
  ·cases hx
 ·cases hx
theorem clr_snd (H : HR P mode S φ B h w) {lim : Nat} (pl : Option Nat) {t ty e : TypeId} {esz : Nat} {z : AV} (ht : P.underlying t = some (.slice e)) (hz : zeroP P e = some z) (hs : szP P e = some esz) (hzs : z.cells.length = esz) (hs1 : 1 ≤ esz)
  {x : Opd} {xv : Value} (rx : Rel S φ (τ x) xv) {r : AV} {h' : List AO} (hx : wex lim τ h (.clr esz z.cells x) = some (r,h')) :
  ∃ v w',(Builtin.clear_ #[t] ty #[xv]).run P w = .ok v w' ∧ Rel S φ r v ∧ Post P mode S φ B lim h w pl S φ h' w':=by
 obtain ⟨i,hi,hisz⟩:=szP_info hs
 obtain ⟨zv,hzv,hzr⟩:=zeroP_info hz hi
 simp only [wex] at hx
 split at hx
 ·rename_i k hq1
  have hsv : ∃ a c,xv = .slice a k c:=by
   cases hs' : τ x <;> rw [hs'] at rx hq1 <;> simp [lenOf] at hq1
   ·cases rx; subst hq1; exact ⟨_,_,rfl⟩
   ·cases rx with
    | cs0 => subst hq1; exact ⟨_,_,rfl⟩
    | cs _ _ _ _ _ _ _ _ _ _ _ hc => subst hq1; exact ⟨_,_,rfl⟩
   ·cases rx with | ms _ _ _ _ _ _ _ _ _ hc _ => subst hq1; exact ⟨_,_,rfl⟩
   ·cases rx with | mc _ _ _ _ _ _ _ _ _ => subst hq1; exact ⟨_,_,rfl⟩
   ·cases rx with | mr _ _ _ _ _ _ _ _ _ _ hl hc _ => subst hq1; exact ⟨_,_,rfl⟩
  split at hx
  ·rename_i hn0
   subst hn0
   cases hx
   obtain ⟨a,c,rfl⟩:=hsv
   refine ⟨_,w,?_,Rel.undef,Post.refl H lim pl⟩
   cases a <;> simp [Builtin.clear_,run_underlying ht,Go.undef]
  ·rename_i hn0
   split at hx
   ·rename_i e2 o off l2 hd
    split at hx
    ·rename_i he
     have he:=he.symm
     subst he
     simp only [Option.map_eq_some_iff,Prod.mk.injEq] at hx
     obtain ⟨g,hg,rfl,rfl⟩:=hx
     obtain ⟨b,z2,cap,hb,rfl⟩ : ∃ b z cap,φ o = some (b,z) ∧ xv = .slice (some ⟨b,off,none⟩) k cap:=by
      obtain ⟨a,c,rfl⟩:=hsv
      cases hs' : τ x <;> rw [hs'] at rx hd <;> simp [destOf] at hd
      ·obtain ⟨rfl,rfl,rfl,rfl⟩:=hd
       cases rx with | ms _ _ _ _ _ b z cap hb _ _ => exact ⟨b,z,_,hb,rfl⟩
      ·obtain ⟨rfl,rfl,rfl,rfl⟩:=hd
       cases rx with | mr _ _ _ _ _ _ b z cap hb _ _ _ => exact ⟨b,z,_,hb,rfl⟩
     have hzz : zv.cells.size = esz:=by rw [zv_len hzr,hzs]
     have hz0 : RelL S φ (zeros k z.cells) (Builtin.zeroCells zv.cells k).toList:=by
      refine ⟨by simp [zeros_len,hzs,Builtin.zeroCells,hzz],fun j x u hx hu => ?_⟩
      obtain ⟨v,hv,hr⟩:=zeros_row (hzr S φ).cells k (k * zv.cells.size) (by rw [hzs,hzz]; exact Nat.le_refl _) (f:=fun i => zv.cells[i % zv.cells.size]!) (fun j _ => rfl) j x hx
      have hu' : (Builtin.zeroCells zv.cells k)[j]? = some u:=by rw [← Array.getElem?_toList]; exact hu
      unfold Builtin.zeroCells at hu'
      rw [hv] at hu'; cases hu'; exact hr
     obtain ⟨cs,e3,w',g1,g2,g3,rfl,hp⟩:=putR_snd H pl hg hb hz0
     refine ⟨_,_,?_,Rel.undef,hp⟩
     have hst:=run_storeCells_at P b off e3 _ 0 cs w g1 (by simpa using g2) g3
     simp only [Nat.add_zero] at hst
     obtain ⟨k',rfl⟩ : ∃ k',k = k' + 1:=⟨k - 1,by omega⟩
     simp [Builtin.clear_,run_underlying ht,zeroValue,typeInfo,hi,hzv,hst,Go.undef]
    ·cases hx
   ·cases hx
 ·cases hx
def memOp : Op → Bool
 | .load .. | .store .. | .alloc _ | .box .. | .buildSlice .. | .makeSlice .. | .call _ | .slice .. | .makeMap .. | .lookup .. | .mapUpdate .. | .insert .. => true
 | _ => false
theorem cOp_cls {P : Program} {m : Nat → Nat} {op : Op} {a : AOp} (h : cOp P m op = some a) :
  (∃ p,a = .p p) ∨ memOp op = true:=by
 cases op with
 |
  unOp op t x =>
  left
  cases op <;> simp only [cOp,Option.bind_eq_bind,Option.bind_eq_some_iff,Option.some.injEq,reduceCtorEq] at h
  all_goals (obtain ⟨_,_,h⟩:=h; exact ⟨_,h.symm⟩)
 |
  makeFunc fn a b =>
  left
  cases fn <;> simp only [cOp,Option.bind_eq_bind,Option.bind_eq_some_iff,Option.some.injEq,reduceCtorEq] at h
  all_goals (obtain ⟨_,_,_,_,h⟩:=h; exact ⟨_,h.symm⟩)
 |
  binOp op t x y yt =>
  left
  simp only [cOp,Option.bind_eq_bind,Option.bind_eq_some_iff] at h
  obtain ⟨_,_,_,_,h⟩:=h
  split at h
  ·split at h
   ·simp only [Option.some.injEq] at h; exact ⟨_,h.symm⟩
   ·cases h
  ·simp only [Option.some.injEq] at h; exact ⟨_,h.symm⟩
  ·simp only [Option.some.injEq] at h; exact ⟨_,h.symm⟩
  all_goals first
   | (simp only [Option.some.injEq] at h; exact ⟨_,h.symm⟩)
   | (simp only [Option.bind_eq_some_iff,Option.some.injEq] at h; obtain ⟨_,_,h⟩:=h; exact ⟨_,h.symm⟩)
   | cases h
 |
  build t ps =>
  left
  simp only [cOp,Option.bind_eq_bind,Option.bind_eq_some_iff] at h
  obtain ⟨_,_,h⟩:=h
  split at h
  ·simp only [Option.bind_eq_some_iff] at h
   obtain ⟨_,_,h⟩:=h
   split at h
   ·simp only [Option.some.injEq] at h; exact ⟨_,h.symm⟩
   ·cases h
  ·simp only [Option.bind_eq_some_iff,Option.some.injEq] at h
   obtain ⟨_,_,_,_,h⟩:=h; exact ⟨_,h.symm⟩
  ·cases h
 |
  fieldAddr t x f =>
  left
  simp only [cOp,Option.bind_eq_bind] at h
  split at h
  ·simp only [Option.bind_eq_some_iff] at h
   obtain ⟨_,_,_,_,h⟩:=h
   split at h
   ·cases h
   ·simp only [Option.bind_eq_some_iff,Option.some.injEq] at h
    obtain ⟨_,_,h⟩:=h; exact ⟨_,h.symm⟩
  ·cases h
 |
  field t x f =>
  left
  simp only [cOp,Option.bind_eq_bind] at h
  split at h
  ·simp only [Option.bind_eq_some_iff,Option.some.injEq] at h
   obtain ⟨_,_,_,_,_,_,_,_,h⟩:=h; exact ⟨_,h.symm⟩
  ·cases h
 |
  indexAddr t x i =>
  left
  simp only [cOp,Option.bind_eq_bind] at h
  split at h
  ·simp only [Option.bind_eq_some_iff,Option.some.injEq] at h
   obtain ⟨_,_,_,_,_,_,h⟩:=h; exact ⟨_,h.symm⟩
  ·simp only [Option.bind_eq_some_iff,Option.some.injEq] at h
   obtain ⟨_,_,_,_,_,_,h⟩:=h; exact ⟨_,h.symm⟩
  ·cases h
 |
  index t x i =>
  left
  simp only [cOp,Option.bind_eq_bind] at h
  split at h
  ·simp only [Option.bind_eq_some_iff,Option.some.injEq] at h
   obtain ⟨_,_,_,_,_,_,_,_,h⟩:=h; exact ⟨_,h.symm⟩
  ·simp only [Option.bind_eq_some_iff,Option.some.injEq] at h
   obtain ⟨_,_,_,_,h⟩:=h; exact ⟨_,h.symm⟩
  ·cases h
 |
  convert s d x =>
  left
  simp only [cOp,Option.bind_eq_bind] at h
  split at h
  ·simp only [Option.bind_eq_some_iff,Option.some.injEq] at h
   obtain ⟨_,_,h⟩:=h; exact ⟨_,h.symm⟩
  ·cases h
 |
  move x | assign x | nilCheck x =>
  left
  simp only [cOp,Option.bind_eq_bind,Option.bind_eq_some_iff,Option.some.injEq] at h
  obtain ⟨_,_,h⟩:=h; exact ⟨_,h.symm⟩
 |
  pick a b c =>
  left
  simp only [cOp,Option.bind_eq_bind,Option.bind_eq_some_iff,Option.some.injEq] at h
  obtain ⟨_,_,_,_,_,_,h⟩:=h; exact ⟨_,h.symm⟩
 |
  extract x ix =>
  left
  simp only [cOp,Option.bind_eq_bind,Option.bind_eq_some_iff,Option.some.injEq] at h
  obtain ⟨_,_,h⟩:=h; exact ⟨_,h.symm⟩
 | load | store | alloc | box | buildSlice | makeSlice | call | slice | makeMap | lookup | mapUpdate | insert => exact .inr rfl
 | _ => simp [cOp] at h
theorem memOp_snd (H : HR P mode S φ B h w) (hρ : ∀ x y,cOpd x = some y → Rel S φ (τ y) (ρ x)) {lim : Nat} (pl : Option Nat) (hp : PlOk φ h pl) {o : Oper} {a0 a : AOp} (hc : cOp P m o.op = some a0) (hk : a0.kept = a.kept) (ha : a.isCall = false) (hlit : a.isLit = false) (hnp : ∀ p,a ≠ .p p)
  {call : Callee} {r : AV} {h' : List AO} (hx : exOp call lim pl τ h a = some (r,h')) (hm : memOp o.op = true) : OpOk P mode S φ B lim h w pl (execOp ρ o) r h':=by
 unfold execOp
 cases hop : o.op with
 |
  slice t y lo hi mx =>
  cases mx with
  |
   none =>
   simp only [hop,cOp,Option.bind_eq_bind] at hc
   split at hc
   ·split at hc
    all_goals
     simp only [Option.bind_eq_some_iff,Option.some.injEq] at hc
     obtain ⟨_,_,_,_,_,_,_,_,rfl⟩:=hc
     exact absurd (kept_p hk.symm) (hnp _)
   ·rename_i n e ht
    split at hc
    ·rename_i hnone
     simp only [Option.isNone_iff_eq_none] at hnone
     subst hnone
     cases hi with
     |
      some y9 =>
      simp only [Option.bind_eq_some_iff,Option.some.injEq] at hc
      obtain ⟨esz,hs,x,hx',x2,hx2,rfl⟩:=hc
      obtain rfl : a = .sliceA n esz x (some (x2,none)):=by cases a <;> simp_all [AOp.kept]
      have r1:=hρ _ _ hx'
      have r2:=hρ _ _ hx2
      simp only [exOp] at hx
      split at hx
      ·rename_i q off hq
       split at hx
       ·rename_i c hrow
        split at hx
        ·rename_i hfit
         simp only [Option.map_some,Option.map_none,Option.map_eq_some_iff,Prod.mk.injEq] at hx
         obtain ⟨v,hv,rfl,rfl⟩:=hx
         rw [hq] at r1
         obtain ⟨b,z,hb,hor⟩:=row_of H hrow
         obtain ⟨cs,e1,_,hcz,hcl,_⟩:=hor
         obtain ⟨u,hu,hr⟩:=sliceA_hi (w:=w) ht hs r1 hb (by omega) r2 hv
         exact OpOk.of_run hu hr (Post.refl H lim pl)
        ·cases hx
       ·cases hx
      ·cases hx
     | none =>
     simp only [Option.bind_eq_some_iff,Option.some.injEq] at hc
     obtain ⟨esz,hs,x,hx',rfl⟩:=hc
     obtain rfl : a = .sliceA n esz x none:=by cases a <;> simp_all [AOp.kept]
     have r1:=hρ _ _ hx'
     simp only [exOp] at hx
     split at hx
     ·rename_i q off hq
      split at hx
      ·rename_i c hrow
       split at hx
       ·rename_i hfit
        simp only [Option.map_none,sliceAV,Option.map_some,Option.some.injEq,Prod.mk.injEq] at hx
        obtain ⟨rfl,rfl⟩:=hx
        rw [hq] at r1
        obtain ⟨b,z,hb,hor⟩:=row_of H hrow
        obtain ⟨cs,e1,_,hcz,hcl,_⟩:=hor
        obtain ⟨u,hu,hr⟩:=sliceA_none (w:=w) ht hs r1 hb (by omega)
        exact OpOk.of_run hu hr (Post.refl H lim pl)
       ·cases hx
      ·cases hx
     ·cases hx
    ·cases hc
   ·cases hc
  |
   some m9 =>
   cases lo with
   |
    some _ =>
    cases hi with
    | none => simp only [hop,cOp,reduceCtorEq] at hc
    |
     some _ =>
     simp only [hop,cOp,Option.bind_eq_bind] at hc
     split at hc
     ·simp only [Option.bind_eq_some_iff,Option.some.injEq] at hc
      obtain ⟨_,_,_,_,_,_,_,_,_,_,rfl⟩:=hc
      exact absurd (kept_p hk.symm) (hnp _)
     ·cases hc
   |
    none =>
    cases hi with
    | none => simp only [hop,cOp,reduceCtorEq] at hc
    |
     some h9 =>
     simp only [hop,cOp,Option.bind_eq_bind] at hc
     split at hc
     ·simp only [Option.bind_eq_some_iff,Option.some.injEq] at hc
      obtain ⟨_,_,_,_,_,_,_,_,rfl⟩:=hc
      exact absurd (kept_p hk.symm) (hnp _)
     ·rename_i n e ht
      simp only [Option.bind_eq_some_iff,Option.some.injEq] at hc
      obtain ⟨esz,hs,x,hx',x2,hx2,x3,hx3,rfl⟩:=hc
      obtain rfl : a = .sliceA n esz x (some (x2,some x3)):=by cases a <;> simp_all [AOp.kept]
      have r1:=hρ _ _ hx'
      have r2:=hρ _ _ hx2
      have r3:=hρ _ _ hx3
      simp only [exOp] at hx
      split at hx
      ·rename_i q off hq
       split at hx
       ·rename_i c hrow
        split at hx
        ·rename_i hfit
         simp only [Option.map_some,Option.map_eq_some_iff,Prod.mk.injEq] at hx
         obtain ⟨v,hv,rfl,rfl⟩:=hx
         rw [hq] at r1
         obtain ⟨b,z,hb,hor⟩:=row_of H hrow
         obtain ⟨cs,e1,_,hcz,hcl,_⟩:=hor
         obtain ⟨u,hu,hr⟩:=sliceA_some (w:=w) ht hs r1 hb (by omega) r2 r3 hv
         exact OpOk.of_run hu hr (Post.refl H lim pl)
        ·cases hx
       ·cases hx
      ·cases hx
     ·cases hc
 |
  load t y =>
  simp only [hop,cOp,Option.bind_eq_bind,Option.bind_eq_some_iff,Option.some.injEq] at hc
  obtain ⟨ag,hag,size,hsz,x,hx',rfl⟩:=hc
  replace hx : exOp call lim pl τ h (.load ag size x) = some (r,h'):=by
   rcases kept_load hk with e | ⟨_,e⟩ | ⟨_,e⟩ <;> rw [e] at hx
   ·exact hx
   ·exact (loadR_load hx).1
   ·exact (loadN_load hx).1
  have r1:=hρ _ _ hx'
  simp only [exOp] at hx
  split at hx
  ·rename_i q off hq
   split at hx
   ·rename_i c hrow
    simp only [Option.map_eq_some_iff,Prod.mk.injEq] at hx
    obtain ⟨v,hv,rfl,rfl⟩:=hx
    rw [hq] at r1
    obtain ⟨b,hb,hcell⟩:=ptr_cells H hrow r1
    obtain ⟨u,hu,hr⟩:=loadVar_snd hag hsz hcell hv
    exact OpOk.of_run (by simpa [Instr.loadAt,Instr.sureAddr,hb] using hu) hr (Post.refl H lim pl)
   ·cases hx
  ·rename_i c hq
   simp only [Option.map_eq_some_iff,Prod.mk.injEq] at hx
   obtain ⟨v,hv,rfl,rfl⟩:=hx
   rw [hq] at r1
   obtain ⟨b,off,hb,hcell⟩:=cptr_cells H r1
   obtain ⟨u,hu,hr⟩:=loadVar_snd hag hsz hcell hv
   exact OpOk.of_run (by simpa [Instr.loadAt,Instr.sureAddr,hb] using hu) hr (Post.refl H lim pl)
  ·cases hx
 |
  store t y z =>
  simp only [hop,cOp,Option.bind_eq_bind,Option.bind_eq_some_iff,Option.some.injEq] at hc
  obtain ⟨size,hsz,x,hx',u,hu,rfl⟩:=hc
  replace hx : exOp call lim pl τ h (.store size x u) = some (r,h'):=by
   rcases kept_store hk with e | ⟨_,e⟩ <;> rw [e] at hx
   ·exact hx
   ·exact (storeR_store hx).1
  have r1:=hρ _ _ hx'
  have r2:=hρ _ _ hu
  simp only [exOp] at hx
  split at hx
  ·rename_i q off hq
   split at hx
   ·rename_i c hrow
    split at hx
    ·rename_i hcc
     obtain ⟨hl,hfit,hsc,hlim⟩:=hcc
     cases hx
     rw [hq] at r1
     obtain ⟨b1,z1,hb1,hSb,hor⟩ : ∃ b z,φ q = some (b,z) ∧ S b = none ∧ ORow S φ w c b z:=by
      rcases H.obj q _ hrow with hh | ⟨b,z,h1,h2,h3⟩
      ·cases hh
      ·exact ⟨b,z,h1,h2,h3⟩
     obtain ⟨cs,e2,g1,g2,g3,g4⟩:=hor
     have hy : ρ y = .pointer (some ⟨b1,off,none⟩):=by
      cases hv : ρ y <;> rw [hv] at r1 <;> cases r1
      rename_i h0
      rw [hb1] at h0; cases h0; rfl
     have hrc:=r2.cells
     have hpost:=H.store (off:=off) (vs:=(τ u).cells) (us:=(ρ z).cells.toList) hrow hb1 g1 (by omega) hrc lim hlim pl
     have hone:=rel_same_cells (r:=c) hrc hsc
     have hst:=run_storeCells_at P b1 off e2 (ρ z).cells.toList 0 cs w g1 (by have:=hrc.1; omega) hone
     simp only [Nat.add_zero] at hst
     have hsize : (ρ z).cells.size = size:=by have:=hrc.1; simp at this; omega
     refine ⟨.skip,_,φ,?_,.inl ⟨rfl,rfl⟩,hpost⟩
     simp [Instr.storeAt,Instr.sureAddr,hy,storeVar,run_szP hsz,hsize,hst]
    ·cases hx
   ·cases hx
  ·cases hx
 |
  alloc e =>
  simp only [hop,cOp,Option.bind_eq_bind,Option.bind_eq_some_iff,Option.some.injEq] at hc
  obtain ⟨z,hz,rfl⟩:=hc
  obtain rfl : a = .alloc z.cells:=by cases a <;> simp_all [AOp.kept]
  obtain ⟨zv,hzv,hzr⟩:=run_zeroP hz w
  simp only [exOp] at hx
  cases hx
  rw [newAt_eq]
  obtain ⟨g1,g2⟩:=relL_row (hzr S φ).cells
  refine OpOk.of_run (v:=.pointer (some ⟨w.heap.size,0,none⟩)) (w':=w.alloc (.cells zv.cells e)) ?_ (.ptr _ _ _ _ _ (Mp.set_same _ _ _)) (newRow_post H pl hp e g1 g2 false lim)
  simp [Instr.alloc,hzv,newVar,newRow]
 |
  box e x =>
  simp only [hop,cOp,Option.bind_eq_bind,Option.bind_eq_some_iff,Option.some.injEq] at hc
  obtain ⟨y,hy,rfl⟩:=hc
  obtain rfl : a = .box y:=by cases a <;> simp_all [AOp.kept]
  simp only [exOp] at hx
  cases hx
  rw [newAt_eq]
  obtain ⟨g1,g2⟩:=relL_row (hρ _ _ hy).cells
  refine OpOk.of_run (v:=.pointer (some ⟨w.heap.size,0,none⟩)) (w':=w.alloc (.cells (ρ x).cells e)) ?_ (.ptr _ _ _ _ _ (Mp.set_same _ _ _)) (newRow_post H pl hp e g1 g2 false lim)
  simp [Instr.box,newVar,newRow]
 |
  buildSlice t len parts =>
  simp only [hop,cOp,Option.bind_eq_bind] at hc
  split at hc
  ·rename_i e hu
   simp only [Option.bind_eq_some_iff] at hc
   obtain ⟨s,hs,z,hz,l,hl,hc⟩:=hc
   split at hc
   ·rename_i hcc
    obtain ⟨hbig,hzs,hs1⟩:=hcc
    simp only [Option.some.injEq] at hc
    have hc : AOp.buildSlice s len z.cells l = a0:=by
     split at hc
     ·subst hc
      exfalso
      cases a <;> first | (simp [AOp.kept] at hk; done) | (simp [AOp.isLit] at hlit; done)
     ·exact hc
    subst hc
    obtain rfl : a = .buildSlice s len z.cells l:=by cases a <;> simp_all [AOp.kept]
    obtain ⟨zv,hzv,hzr⟩:=run_zeroP hz w
    simp only [exOp,Option.map_eq_some_iff,Prod.mk.injEq] at hx
    obtain ⟨row,hrow,rfl,rfl⟩:=hx
    rw [newAt_eq]
    obtain ⟨h1,h2⟩:=partsI_snd hρ s _ _ hl
    have hzz : zv.cells.size = s:=by rw [zv_len hzr,hzs]
    have hz0 : RelL S φ (zeros len z.cells) ((Array.range (len * s)).map (zv.cells[· % zv.cells.size]!)).toList:=by
     refine ⟨by simp [zeros_len,hzs],fun j x u hx hu => ?_⟩
     obtain ⟨v,hv,hr⟩:=zeros_row (hzr S φ).cells len (len * s) (by rw [hzs]; exact Nat.le_refl _) (f:=fun i => zv.cells[i % zv.cells.size]!) (fun j _ => rfl) j x hx
     have hu' : ((Array.range (len * s)).map (fun i => zv.cells[i % zv.cells.size]!))[j]? = some u:=by rw [← Array.getElem?_toList]; exact hu
     rw [hv] at hu'; cases hu'; exact hr
    obtain ⟨c',hc',hr',hsz'⟩:=fill_snd (S:=S) (φ:=φ) (place:=fun i => some (i * s,s)) (parts.toList.map fun (i,x) => (i,ρ x)) _ _ _ row (by simpa using h1) h2 hz0 hrow
    obtain ⟨g1,g2⟩:=relL_row hr'
    have hpost:=newRow_post H pl hp e g1 g2 false lim
    have hcsz : c'.size = len * s:=by rw [hsz']; simp
    refine OpOk.of_run (v:=.slice (some ⟨w.heap.size,0,none⟩) len len) (w':=w.alloc (.cells c' e)) ?_ (.ms _ _ _ _ _ _ c'.size _ (Mp.set_same _ _ _) (Nat.le_refl _) (by omega)) hpost
    have hc3 : Instr.fill (fun i => some (i * s,s)) ((Array.range (len * s)).map (zv.cells[· % zv.cells.size]!)) (parts.toList.map fun x => (x.1,ρ x.2)) = some c':=hc'
    by_cases hl0 : len = 0
    ·subst hl0
     have e0 : (Array.range (0 * s)).map (zv.cells[· % zv.cells.size]!) = #[]:=by rw [Nat.zero_mul,Array.range_zero']; simp
     rw [e0] at hc3
     have e1 : (Array.range 0) = #[]:=Array.range_zero'
     simp [Instr.buildSlice,run_underlying hu,run_szP hs,e1,hc3,newRow]
    ·have hls : len * s ≠ 0:=by have:=Nat.mul_pos (Nat.pos_of_ne_zero hl0) hs1; omega
     have hbig2 : ¬ (16777216 < len * s):=by omega
     simp [Instr.buildSlice,run_underlying hu,run_szP hs,hbig2,hl0,show s ≠ 0 by omega,hzv,hc3,newRow]
     exact fun h0 => absurd h0 hls
   ·cases hc
  ·cases hc
 |
  makeSlice t l c =>
  simp only [hop,cOp,Option.bind_eq_bind] at hc
  split at hc
  ·rename_i e hu
   simp only [Option.bind_eq_some_iff] at hc
   obtain ⟨s,hs,eb,heb,z,hz,hc⟩:=hc
   split at hc
   ·rename_i hcc
    obtain ⟨hzs,hs1⟩:=hcc
    simp only [Option.bind_eq_some_iff,Option.some.injEq] at hc
    obtain ⟨yl,hyl,yc,hyc,rfl⟩:=hc
    generalize (m 1000002 == 1) = rm at hk
    obtain rfl : a = .makeSlice rm s eb z.cells yl yc:=by cases a <;> simp_all [AOp.kept]
    have r1:=hρ _ _ hyl
    have r2:=hρ _ _ hyc
    obtain ⟨i,hi,hisz⟩:=szP_info hs
    obtain ⟨zv,hzv,hzr⟩:=zeroP_info hz hi
    have hib : i.bytes = eb:=by simp only [ebP,hi,Option.map_some,Option.some.injEq] at heb; exact heb
    simp only [exOp] at hx
    split at hx
    ·rename_i k1 n1 k2 n2 hq1 hq2
     rw [hq1] at r1; rw [hq2] at r2
     split at hx
     ·rename_i hcc
      obtain ⟨h0,h1,hbig,hb1⟩:=hcc
      cases hx
      rw [newAt_eq]
      have hn2 : n2 ≤ 140737488355328:=by
       have h5 : 0 ≤ n2:=by omega
       obtain ⟨m2,rfl⟩:=Int.eq_ofNat_of_zero_le h5
       have h6 : eb * m2 ≤ 140737488355328:=by
        have h7 : ((eb * m2 : Nat) : Int) ≤ 140737488355328:=by rw [Int.natCast_mul]; exact hbig
        omega
       have:=Nat.le_trans (Nat.le_mul_of_pos_left m2 hb1) h6
       omega
      have hv1 : ρ l = .int k1 n1:=by cases hv : ρ l <;> rw [hv] at r1 <;> cases r1; rfl
      have hv2 : ρ c = .int k2 n2:=by cases hv : ρ c <;> rw [hv] at r2 <;> cases r2; rfl
      have hr:=run_make (P:=P) w t e i zv hu hi hzv k1 k2 n1 n2 h0 h1 (by rw [hib]; omega) (by omega)
      have hzz : zv.cells.size = s:=by rw [zv_len hzr,hzs]
      have hmul : n1.toNat * s ≤ n2.toNat * s:=Nat.mul_le_mul_right _ (by omega)
      cases rm with
      |
       false =>
       simp only [Bool.false_eq_true,if_false]
       have hpost:=newRow_post H pl hp e (c:=zeros n1.toNat z.cells) (cs:=madeCells zv.cells (n2.toNat * i.size)) (by rw [size_madeCells,zeros_len,hzs,hisz]; exact hmul) (by
        intro j x hx
        exact zeros_row (hzr S φ).cells n1.toNat (n2.toNat * i.size) (by rw [hzs,hisz]; exact hmul) (f:=fun i => zv.cells[i % zv.cells.size]!) (fun j _ => rfl) j x hx) false lim
       refine OpOk.of_run (by rw [hv1,hv2]; exact hr) (.ms _ _ _ _ _ _ _ _ (Mp.set_same _ _ _) (by omega) ?_) hpost
       rw [size_madeCells,hisz,Nat.zero_add]; exact Nat.le_refl _
      |
       true =>
       simp only [if_true]
       have hpost:=newRow_post H pl hp e (c:=zeros n2.toNat z.cells) (cs:=madeCells zv.cells (n2.toNat * i.size)) (by rw [size_madeCells,zeros_len,hzs,hisz]; exact Nat.le_refl _) (by
        intro j x hx
        exact zeros_row (hzr S φ).cells n2.toNat (n2.toNat * i.size) (by rw [hzs,hisz]; exact Nat.le_refl _) (f:=fun i => zv.cells[i % zv.cells.size]!) (fun j _ => rfl) j x hx) false lim
       refine OpOk.of_run (by rw [hv1,hv2]; exact hr) (.mr _ _ _ _ _ _ _ _ _ (Mp.set_same _ _ _) (by omega) (Nat.le_refl _) ?_) hpost
       rw [size_madeCells,hisz,Nat.zero_add]; exact Nat.le_refl _
     ·cases hx
    ·cases hx
   ·cases hc
  ·cases hc
 |
  call c =>
  simp only [hop,cOp,Option.bind_eq_bind,Option.bind_eq_some_iff] at hc
  obtain ⟨as,has,hc⟩:=hc
  have q:=opds_snd hρ has
  cases hcal : c.callee with
  |
   value x =>
   exfalso
   cases x <;> simp [hcal,Option.bind_eq_some_iff] at hc
   all_goals first
    | (obtain ⟨_,_,rfl⟩:=hc; cases a <;> simp_all [AOp.kept,AOp.isCall])
    | (subst hc; cases a <;> simp_all [AOp.kept,AOp.isCall])
  | invoke r n => simp [hcal] at hc
  |
   builtin b =>
   have hargs : (c.args.map ρ).toList = c.args.toList.map ρ:=by simp
   cases b <;> simp only [hcal,reduceCtorEq] at hc
   case append =>
    split at hc
    ·rename_i e e1 s x hu1 hu2
     simp only [Option.bind_eq_some_iff] at hc
     obtain ⟨z,hz,s',hs,hc⟩:=hc
     split at hc
     ·rename_i hcc
      obtain ⟨hzs,hs1,hty⟩:=hcc
      simp only [Option.bind_eq_some_iff] at hc
      obtain ⟨eb,heb,hc⟩:=hc
      obtain ⟨v1,rest,e2,rv1,hrest⟩:=q.cons_inv
      obtain ⟨v2,rest2,rfl,rv2,hrest2⟩:=hrest.cons_inv
      obtain rfl : rest2 = []:=List.eq_nil_of_length_eq_zero hrest2.1.symm
      have e3 : c.args.map ρ = #[v1,v2]:=by apply Array.ext'; rw [hargs,e2]
      have ht : P.underlying (c.argTypes.getD 0 0) = some (.slice e):=by
       rw [hty] at hu1; simpa using hu1
      split at hc
      ·simp only [Option.some.injEq] at hc
       subst hc
       obtain ⟨rr,rfl⟩:=kept_app hk
       obtain ⟨v,w',hr,hrel,hpost⟩:=app_snd (ty:=o.type) (lim:=lim) H pl ht hs hs1 rv1 rv2 hx
       refine ⟨.value v,w',φ,?_,.inr ⟨v,rfl,hrel⟩,hpost⟩
       rw [hty.symm] at hr
       simp [resolve,hcal,invoke,builtin,e3,hr]
      ·simp only [Option.some.injEq] at hc
       subst hc
       obtain ⟨keep,rfl⟩:=kept_append hk
       obtain ⟨v,w',φ',hr,hrel,hpost⟩:=append_snd (ty:=o.type) H pl hp ht hz hs heb hzs hs1 rv1 rv2 hx
       refine ⟨.value v,w',φ',?_,.inr ⟨v,rfl,hrel⟩,hpost⟩
       rw [hty.symm] at hr
       simp [resolve,hcal,invoke,builtin,e3,hr]
     ·cases hc
    ·rename_i e s x hu1 hu2
     simp only [Option.bind_eq_some_iff] at hc
     obtain ⟨z,hz,s',hs,hc⟩:=hc
     split at hc
     ·rename_i hcc
      obtain ⟨hzs,hs1⟩:=hcc
      simp only [Option.bind_eq_some_iff,Option.some.injEq] at hc
      obtain ⟨eb,heb,rfl⟩:=hc
      obtain rfl : a = .appendZ s' eb z.cells s x:=by cases a <;> simp_all [AOp.kept]
      obtain ⟨v1,rest,e2,rv1,hrest⟩:=q.cons_inv
      obtain ⟨v2,rest2,rfl,rv2,hrest2⟩:=hrest.cons_inv
      obtain rfl : rest2 = []:=List.eq_nil_of_length_eq_zero hrest2.1.symm
      have e3 : c.args.map ρ = #[v1,v2]:=by apply Array.ext'; rw [hargs,e2]
      simp only [Option.bind_eq_some_iff] at hu1 hu2
      obtain ⟨t1,ht1,hu1⟩:=hu1
      obtain ⟨t2,ht2,hu2⟩:=hu2
      simp only [exOp] at hx
      split at hx
      ·rename_i n hq1 hq2
       rw [hq1] at rv1; rw [hq2] at rv2
       cases rv1; cases rv2
       split at hx
       ·rename_i hcc
        obtain ⟨hn1,hbig,hb1⟩:=hcc
        cases hx
        have h5 : 0 ≤ n:=by omega
        obtain ⟨m2,rfl⟩:=Int.eq_ofNat_of_zero_le h5
        have h6 : eb * m2 ≤ 140737488355328:=by
         have h7 : ((eb * m2 : Nat) : Int) ≤ 140737488355328:=by rw [Int.natCast_mul]; exact hbig
         omega
        obtain ⟨v,w',φ',hr,hrel,hpost⟩:=appendZ_snd (t:=t1) (u:=t2) (ty:=o.type) (lim:=lim) H pl hp hu1 hu2 hz hs heb hzs hs1 (n:=m2) (by omega) h6 hb1
        refine ⟨.value v,w',φ',?_,.inr ⟨v,rfl,by simpa using hrel⟩,by simpa using hpost⟩
        have happ : ∀ (A : Array TypeId) (ty : TypeId) (V : Array Value),A[0]? = some t1 → A[1]? = some t2 → Builtin.append_ A ty V = Builtin.append_ #[t1,t2] ty V:=by
         intro A ty V hA0 hA1
         unfold Builtin.append_
         simp only [hA0,hA1]
         rfl
        simp [resolve,hcal,invoke,builtin,e3,happ _ _ _ ht1 ht2,hr]
       ·cases hx
      ·cases hx
     ·cases hc
    ·cases hc
   case copy =>
    split at hc
    ·rename_i e e1 d x hu1 hu2
     simp only [Option.bind_eq_some_iff] at hc
     obtain ⟨s',hs,hc⟩:=hc
     split at hc
     ·rename_i hs1
      simp only [Option.some.injEq] at hc
      subst hc
      obtain rfl : a = .w (.cpy s' d x):=kept_w hk (fun _ _ _ _ e => by cases e)
      obtain ⟨v1,rest,e2,rv1,hrest⟩:=q.cons_inv
      obtain ⟨v2,rest2,rfl,rv2,hrest2⟩:=hrest.cons_inv
      obtain rfl : rest2 = []:=List.eq_nil_of_length_eq_zero hrest2.1.symm
      have e3 : c.args.map ρ = #[v1,v2]:=by apply Array.ext'; rw [hargs,e2]
      simp only [Option.bind_eq_some_iff] at hu1 hu2
      obtain ⟨t1,ht1,hu1⟩:=hu1
      obtain ⟨v,w',hr,hrel,hpost⟩:=cpy_snd (t:=t1) (t2:=t1) (ty:=o.type) (lim:=lim) H pl hu1 hs hs1 rv1 rv2 hx
      refine ⟨.value v,w',φ,?_,.inr ⟨v,rfl,hrel⟩,hpost⟩
      have happ : ∀ (A : Array TypeId) (ty : TypeId) (V : Array Value),A[0]? = some t1 → Builtin.copy_ A ty V = Builtin.copy_ #[t1,t1] ty V:=by
       intro A ty V hA0
       unfold Builtin.copy_
       simp only [hA0]
       rfl
      simp [resolve,hcal,invoke,builtin,e3,happ _ _ _ ht1,hr]
     ·cases hc
    ·cases hc
   case clear =>
    split at hc
    ·rename_i e x hu1
     simp only [Option.bind_eq_some_iff] at hc
     obtain ⟨z,hz,s',hs,hc⟩:=hc
     split at hc
     ·rename_i hcc
      obtain ⟨hzs,hs1⟩:=hcc
      simp only [Option.some.injEq] at hc
      subst hc
      obtain rfl : a = .w (.clr s' z.cells x):=kept_w hk (fun _ _ _ _ e => by cases e)
      obtain ⟨v1,rest,e2,rv1,hrest⟩:=q.cons_inv
      obtain rfl : rest = []:=List.eq_nil_of_length_eq_zero hrest.1.symm
      have e3 : c.args.map ρ = #[v1]:=by apply Array.ext'; rw [hargs,e2]
      simp only [Option.bind_eq_some_iff] at hu1
      obtain ⟨t1,ht1,hu1⟩:=hu1
      obtain ⟨v,w',hr,hrel,hpost⟩:=clr_snd (t:=t1) (ty:=o.type) (lim:=lim) H pl hu1 hz hs hzs hs1 rv1 hx
      refine ⟨.value v,w',φ,?_,.inr ⟨v,rfl,hrel⟩,hpost⟩
      have happ : ∀ (A : Array TypeId) (ty : TypeId) (V : Array Value),A[0]? = some t1 → Builtin.clear_ A ty V = Builtin.clear_ #[t1] ty V:=by
       intro A ty V hA0
       unfold Builtin.clear_
       simp only [hA0]
       rfl
      simp [resolve,hcal,invoke,builtin,e3,happ _ _ _ ht1,hr]
     ·cases hc
    ·cases hc
   case len =>
    split at hc
    ·exfalso; simp only [Option.some.injEq] at hc; subst hc; exact hnp _ (kept_p hk.symm)
    ·exfalso; simp only [Option.some.injEq] at hc; subst hc; exact hnp _ (kept_p hk.symm)
    ·rename_i kt e x hu1
     simp only [Option.some.injEq] at hc; subst hc
     obtain rfl : a = .w (.mln x):=kept_w hk (fun _ _ _ _ e => by cases e)
     obtain ⟨v1,rest,e2,rv1,hrest⟩:=q.cons_inv
     obtain rfl : rest = []:=List.eq_nil_of_length_eq_zero hrest.1.symm
     have e3 : c.args.map ρ = #[v1]:=by apply Array.ext'; rw [hargs,e2]
     simp only [Option.bind_eq_some_iff] at hu1
     obtain ⟨t1,ht1,hu1⟩:=hu1
     simp only [exOp,wex] at hx
     split at hx
     ·rename_i ks es hes
      cases hx
      unfold getMap at hes
      split at hes
      ·rename_i o1 eo
       split at hes
       ·rename_i ks' es' ho
        cases hes
        rcases H.obj _ _ ho with h0 | ⟨b,zz,h1,h2,h3⟩
        ·cases h0
        rw [eo] at rv1
        obtain rfl : v1 = .map (some b):=by
         cases rv1
         rename_i hb
         rw [h1] at hb; cases hb; rfl
        obtain ⟨ents,ck,l,hb,hp,hr,hs,hst⟩:=h3
        have hsz : ents.size = es.length:=by
         rw [← Array.length_toList,← hp.length_eq,hr.len]
        refine ⟨.value (.int .i64 ents.size),w,φ,?_,.inr ⟨_,rfl,by rw [hsz]; exact .int _ _ _⟩,Post.refl H lim pl⟩
        have hg : (getObj b).run P w = .ok (.map ents ck) w:=by simp [getObj,Sem.run,hb]
        simp [resolve,hcal,invoke,builtin,e3,Builtin.len_,ht1,run_underlying hu1,hg,goInt]
       ·cases hes
      ·cases hes
     ·cases hx
    ·split at hc
     ·exfalso; simp only [Option.some.injEq] at hc; subst hc; exact hnp _ (kept_p hk.symm)
     ·cases hc
    ·cases hc
   all_goals
    exfalso
    have hpa : ∃ p,a0 = .p p:=by
     split at hc
     all_goals first
      | (cases hc; done)
      | (simp only [Option.some.injEq] at hc; exact ⟨_,hc.symm⟩)
      | (split at hc <;> first | (cases hc; done) | (simp only [Option.some.injEq] at hc; exact ⟨_,hc.symm⟩))
    obtain ⟨p,rfl⟩:=hpa
    exact hnp p (kept_p hk.symm)
 |
  makeMap t r =>
  cases r with
  | some _ => simp [hop,cOp] at hc
  |
   none =>
   simp only [hop,cOp] at hc
   split at hc
   ·simp only [Option.bind_eq_bind,Option.bind_eq_some_iff,Option.some.injEq] at hc
    obtain ⟨ks0,_,rfl⟩:=hc
    obtain ⟨ks,rfl⟩ : ∃ ks,a = .makeMap ks:=by cases a <;> simp_all [AOp.kept]
    simp only [exOp] at hx
    cases hx
    refine OpOk.of_run (v:=.map (some w.heap.size)) (w':=w.alloc (.map #[] 0)) ?_ (.mp _ _ _ _ (Mp.set_same _ _ _)) (H.newObj pl hp _ 0 lim ⟨#[],0,[],heap_new w _,List.Perm.refl _,trivial,List.Pairwise.nil,MapKept.stamped_empty 0⟩)
    simp [Instr.makeMap]
   ·cases hc
 |
  lookup t x i ok =>
  simp only [hop,cOp] at hc
  split at hc
  ·rename_i kt e ht
   simp only [Option.bind_eq_bind,Option.bind_eq_some_iff,Option.some.injEq] at hc
   obtain ⟨kt0,hk2,z,hz,y,hy,u,hu,rfl⟩:=hc
   obtain rfl : a = .mapGet kt0 z ok y u:=by cases a <;> simp_all [AOp.kept]
   have r1:=hρ _ _ hy
   have r2:=hρ _ _ hu
   simp only [exOp] at hx
   split at hx
   ·rename_i ks es hes
    simp only [Option.map_eq_some_iff,Prod.mk.injEq] at hx
    obtain ⟨n,hn,rfl,rfl⟩:=hx
    obtain ⟨rfl,hn⟩:=keyAs_some hn
    unfold getMap at hes
    split at hes
    ·rename_i o eo
     split at hes
     ·rename_i ks' es' ho
      simp only [Option.some.injEq,Prod.mk.injEq] at hes
      obtain ⟨rfl,rfl⟩:=hes
      rcases H.obj _ _ ho with h0 | ⟨b,zz,h1,h2,h3⟩
      ·cases h0
      rw [eo] at r1
      have v1 : ρ x = .map (some b):=by
       cases hv : ρ x <;> rw [hv] at r1 <;> cases r1
       rename_i hb
       rw [h1] at hb; cases hb; rfl
      obtain ⟨v,hv,hrel⟩:=lookup_snd (φ:=φ) ht hk2 hz h3 hn r2 ok
      refine OpOk.of_run (w':=w) (v:=v) ?_ hrel (Post.refl H lim pl)
      rw [v1]; exact hv
     ·cases hes
    ·cases hes
   ·cases hx
  ·cases hc
 |
  mapUpdate t mm kx vx =>
  simp only [hop,cOp] at hc
  split at hc
  ·rename_i kt e ht
   simp only [Option.bind_eq_bind,Option.bind_eq_some_iff,Option.some.injEq] at hc
   obtain ⟨kt0,hk2,y,hy,u,hu,z,hz,rfl⟩:=hc
   obtain ⟨rs,rfl⟩ : ∃ rs,a = .mapSet kt0 y u z rs:=by cases a <;> simp_all [AOp.kept]
   have r1:=hρ _ _ hy
   have r2:=hρ _ _ hu
   have r3:=hρ _ _ hz
   simp only [exOp] at hx
   split at hx
   ·rename_i o eo
    split at hx
    ·rename_i ks es ho
     split at hx
     ·rename_i n hn
      obtain ⟨rfl,hn⟩:=keyAs_some hn
      split at hx
      ·rename_i hif
       obtain ⟨_,hpure,hlim⟩:=hif
       cases hx
       rcases H.obj _ _ ho with h0 | ⟨b,zz,h1,h2,h3⟩
       ·cases h0
       rw [eo] at r1
       have v1 : ρ mm = .map (some b):=by
        cases hv : ρ mm <;> rw [hv] at r1 <;> cases r1
        rename_i hb
        rw [h1] at hb; cases hb; rfl
       obtain ⟨ents',ck',hrun,hrel⟩:=update_snd (P:=P) (w:=w) (φ:=φ) ht hk2 h3 hn r2 (r3.ofPure hpure Mp.no)
       refine ⟨.skip,World.put w b (.map ents' ck'),φ,?_,.inl ⟨rfl,rfl⟩,(H.replace (a':=.mpo kt0 (putM n (τ z) es)) (ob:=.map ents' ck') ho h1 (fun x hx => by cases x <;> simp_all [mayShare]) (by simp) hrel trivial lim hlim).wk pl⟩
       simp only [v1]
       simp [hrun]
      ·cases hx
     ·cases hx
    ·cases hx
   ·cases hx
  ·cases hc
 |
  insert t mm kx vx =>
  simp only [hop,cOp] at hc
  split at hc
  ·rename_i kt e ht
   simp only [Option.bind_eq_bind,Option.bind_eq_some_iff,Option.some.injEq] at hc
   obtain ⟨kt0,hk2,y,hy,u,hu,z,hz,rfl⟩:=hc
   obtain ⟨rs,rfl⟩ : ∃ rs,a = .mapSet kt0 y u z rs:=by cases a <;> simp_all [AOp.kept]
   have r1:=hρ _ _ hy
   have r2:=hρ _ _ hu
   have r3:=hρ _ _ hz
   simp only [exOp] at hx
   split at hx
   ·rename_i o eo
    split at hx
    ·rename_i ks es ho
     split at hx
     ·rename_i n hn
      obtain ⟨rfl,hn⟩:=keyAs_some hn
      split at hx
      ·rename_i hif
       obtain ⟨_,hpure,hlim⟩:=hif
       cases hx
       rcases H.obj _ _ ho with h0 | ⟨b,zz,h1,h2,h3⟩
       ·cases h0
       rw [eo] at r1
       have v1 : ρ mm = .map (some b):=by
        cases hv : ρ mm <;> rw [hv] at r1 <;> cases r1
        rename_i hb
        rw [h1] at hb; cases hb; rfl
       obtain ⟨ents',ck',hrun,hrel⟩:=update_snd (P:=P) (w:=w) (φ:=φ) ht hk2 h3 hn r2 (r3.ofPure hpure Mp.no)
       refine ⟨.skip,World.put w b (.map ents' ck'),φ,?_,.inl ⟨rfl,rfl⟩,(H.replace (a':=.mpo kt0 (putM n (τ z) es)) (ob:=.map ents' ck') ho h1 (fun x hx => by cases x <;> simp_all [mayShare]) (by simp) hrel trivial lim hlim).wk pl⟩
       simp only [v1]
       simp [hrun]
      ·cases hx
     ·cases hx
    ·cases hx
   ·cases hx
  ·cases hc
 | _ => simp [hop,memOp] at hm
theorem mem_snd (H : HR P mode S φ B h w) (hρ : ∀ x y,cOpd x = some y → Rel S φ (τ y) (ρ x)) {lim : Nat} (pl : Option Nat) (hp : PlOk φ h pl) {o : Oper} {a0 a : AOp} (hc : cOp P m o.op = some a0) (hk : a0.kept = a.kept) (ha : a.isCall = false) (hlit : a.isLit = false)
  {call : Callee} {r : AV} {h' : List AO} (hx : exOp call lim pl τ h a = some (r,h')) : OpOk P mode S φ B lim h w pl (execOp ρ o) r h':=by
 by_cases hpp : ∃ p,a = .p p
 ·obtain ⟨p,rfl⟩:=hpp
  obtain rfl:=kept_p hk
  simp only [exOp,Option.map_eq_some_iff,Prod.mk.injEq] at hx
  obtain ⟨v,hv,rfl,rfl⟩:=hx
  obtain ⟨u,hu,hr⟩:=pex_snd (w:=w) hρ hc hv
  exact ⟨_,w,φ,hu,.inr ⟨u,rfl,hr⟩,Post.refl H lim pl⟩
 ·have hnp : ∀ p,a ≠ .p p:=fun p e => hpp ⟨p,e⟩
  rcases cOp_cls hc with ⟨p,rfl⟩ | hm
  ·exact absurd (kept_p hk.symm) (hnp p)
  ·exact memOp_snd H hρ pl hp hc hk ha hlit hnp hx hm
end Go.Am
/-
Values seen from another heap: what a call is given,and what it hands back.
-/
namespace Go.Am
open Go
set_option linter.unusedVariables false
set_option linter.unusedSimpArgs false
variable {P : Program} {mode : Nat → Nat → Nat} {S : Fz} {φ : Mp} {B : Nat} {h : List AO} {w : World}
theorem underGo {n : Nat} {l : List AV} (h : AV.under.go n l = true) : ∀ (j : Nat) x,l[j]? = some x → x.under n = true:=by
 induction l with
 | nil => intro j x hx; simp at hx
 |
  cons a l ih =>
  simp only [AV.under.go,Bool.and_eq_true] at h
  intro j x hx
  cases j with
  | zero => simp at hx; subst hx; exact h.1
  | succ j => exact ih h.2 j x (by simpa using hx)
theorem shiftGo (n : Nat) (l : List AV) : AV.shift.go n l = l.map (AV.shift n):=by
 induction l with
 | nil => rfl
 | cons a l ih => simp [AV.shift.go,ih]
theorem Rel.under {a : AV} {v : Value} (h : Rel S φ a v) : ∀ n,a.under n = true → ∀ φ',(∀ o x,o < n → φ o = some x → φ' o = some x) → Rel S φ' a v:=by
 induction h with
 | bool φ b => exact fun _ _ φ' _ => .bool φ' b
 | int φ k n => exact fun _ _ φ' _ => .int φ' k n
 | str φ s => exact fun _ _ φ' _ => .str φ' s
 | nilp φ => exact fun _ _ φ' _ => .nilp φ'
 | ptr φ o off b z h => exact fun n hn φ' hp => .ptr φ' o off b z (hp _ _ (by simpa [AV.under] using hn) h)
 | cptr φ cells b off c vs hs h hr ih => exact fun _ _ φ' _ => .cptr φ' cells b off c vs hs h hr
 | nils φ => exact fun _ _ φ' _ => .nils φ'
 | cs0 φ esz a cap => exact fun _ _ φ' _ => .cs0 φ' esz a cap
 | cs φ esz len cells b off cap c vs hs hl hc h hr ih => exact fun _ _ φ' _ => .cs φ' esz len cells b off cap c vs hs hl hc h hr
 | ms φ esz o off len b z cap h hc hz => exact fun n hn φ' hp => .ms φ' esz o off len b z cap (hp _ _ (by simpa [AV.under] using hn) h) hc hz
 | mc φ esz o off len b z h hz => exact fun n hn φ' hp => .mc φ' esz o off len b z (hp _ _ (by simpa [AV.under] using hn) h) hz
 | mr φ esz o off len room b z cap h hl hc hz => exact fun n hn φ' hp => .mr φ' esz o off len room b z cap (hp _ _ (by simpa [AV.under] using hn) h) hl hc hz
 |
  fn φ f a b va vb ha hb hra hrb iha ihb =>
  intro n hn φ' hp
  simp only [AV.under,Bool.and_eq_true] at hn
  exact .fn φ' f a b va vb ha hb (fun j x v h1 h2 => iha j x v h1 h2 n (underGo hn.1 j x h1) φ' hp) (fun j x v h1 h2 => ihb j x v h1 h2 n (underGo hn.2 j x h1) φ' hp)
 | yld φ o l z h => exact fun n hn φ' hp => .yld φ' o l z (hp _ _ (by simpa [AV.under] using hn) h)
 | nilf φ => exact fun _ _ φ' _ => .nilf φ'
 | agg φ a va ha hra ih => exact fun n hn φ' hp => .agg φ' a va ha (fun j x v h1 h2 => ih j x v h1 h2 n (underGo (by simpa [AV.under] using hn) j x h1) φ' hp)
 | tup φ a va ha hra ih => exact fun n hn φ' hp => .tup φ' a va ha (fun j x v h1 h2 => ih j x v h1 h2 n (underGo (by simpa [AV.under] using hn) j x h1) φ' hp)
 | iface φ t a v h ih => exact fun n hn φ' hp => .iface φ' t a v (ih n (by simpa [AV.under] using hn) φ' hp)
 | nili φ => exact fun _ _ φ' _ => .nili φ'
 | mp φ o b z h => exact fun n hn φ' hp => .mp φ' o b z (hp _ _ (by simpa [AV.under] using hn) h)
 | nilm φ => exact fun _ _ φ' _ => .nilm φ'
theorem Rel.shift {a : AV} {v : Value} (h : Rel S φ a v) : ∀ n φ',(∀ o x,φ o = some x → φ' (o + n) = some x) → Rel S φ' (a.shift n) v:=by
 induction h with
 | bool φ b => exact fun _ φ' _ => .bool φ' b
 | int φ k n => exact fun _ φ' _ => .int φ' k n
 | str φ s => exact fun _ φ' _ => .str φ' s
 | nilp φ => exact fun _ φ' _ => .nilp φ'
 | ptr φ o off b z h => exact fun n φ' hp => .ptr φ' _ off b z (hp _ _ h)
 | cptr φ cells b off c vs hs h hr ih => exact fun _ φ' _ => .cptr φ' cells b off c vs hs h hr
 | nils φ => exact fun _ φ' _ => .nils φ'
 | cs0 φ esz a cap => exact fun _ φ' _ => .cs0 φ' esz a cap
 | cs φ esz len cells b off cap c vs hs hl hc h hr ih => exact fun _ φ' _ => .cs φ' esz len cells b off cap c vs hs hl hc h hr
 | ms φ esz o off len b z cap h hc hz => exact fun n φ' hp => .ms φ' esz _ off len b z cap (hp _ _ h) hc hz
 | mc φ esz o off len b z h hz => exact fun n φ' hp => .mc φ' esz _ off len b z (hp _ _ h) hz
 | mr φ esz o off len room b z cap h hl hc hz => exact fun n φ' hp => .mr φ' esz _ off len room b z cap (hp _ _ h) hl hc hz
 |
  fn φ f a b va vb ha hb hra hrb iha ihb =>
  intro n φ' hp
  simp only [AV.shift,shiftGo]
  exact .fn φ' f _ _ va vb (by simpa using ha) (by simpa using hb)
   (fun j x v h1 h2 => by simp only [List.getElem?_map,Option.map_eq_some_iff] at h1; obtain ⟨y,hy,rfl⟩:=h1; exact iha j y v hy h2 n φ' hp)
   (fun j x v h1 h2 => by simp only [List.getElem?_map,Option.map_eq_some_iff] at h1; obtain ⟨y,hy,rfl⟩:=h1; exact ihb j y v hy h2 n φ' hp)
 | yld φ o l z h => exact fun n φ' hp => .yld φ' _ l z (hp _ _ h)
 | nilf φ => exact fun _ φ' _ => .nilf φ'
 |
  agg φ a va ha hra ih =>
  intro n φ' hp
  simp only [AV.shift,shiftGo]
  exact .agg φ' _ va (by simpa using ha) (fun j x v h1 h2 => by simp only [List.getElem?_map,Option.map_eq_some_iff] at h1; obtain ⟨y,hy,rfl⟩:=h1; exact ih j y v hy h2 n φ' hp)
 |
  tup φ a va ha hra ih =>
  intro n φ' hp
  simp only [AV.shift,shiftGo]
  exact .tup φ' _ va (by simpa using ha) (fun j x v h1 h2 => by simp only [List.getElem?_map,Option.map_eq_some_iff] at h1; obtain ⟨y,hy,rfl⟩:=h1; exact ih j y v hy h2 n φ' hp)
 | iface φ t a v h ih => exact fun n φ' hp => .iface φ' t _ v (ih n φ' hp)
 | nili φ => exact fun _ φ' _ => .nili φ'
 | mp φ o b z h => exact fun n φ' hp => .mp φ' _ b z (hp _ _ h)
 | nilm φ => exact fun _ φ' _ => .nilm φ'
theorem view_rel (H : HR P mode S φ B h w) {S2 : Fz} {strict : Bool} (hobj : ∀ o b z cs e fr,φ o = some (b,z) → w.heap[b]? = some (.cells cs e fr) → S2 b = some cs)
  (hS : strict = false → ∀ b c,S b = some c → S2 b = some c) : ∀ (n : Nat) (a a' : AV) (v : Value),view strict h n a = some a' → Rel S φ a v → Rel S2 Mp.no a' v:=by
 have simple : ∀ (a a' : AV) (v : Value),view strict h 0 a = some a' → Rel S φ a v → Rel S2 Mp.no a' v:=by
  intro a a' v ha hr
  cases hr <;> simp [view] at ha <;> try (subst ha; constructor; done)
  ·-- a pointer into content
   rename_i cells b off c vs h1 h2 h3
   obtain ⟨hs,rfl⟩:=ha
   exact .cptr _ _ _ _ c vs (hS hs _ _ h1) h2 (fun j a hj => (h3 j a hj).mono (hS hs) _ (Mp.le_refl _))
  ·rename_i esz len cells b off cap c vs h1 hl hc h2 h3
   obtain ⟨hs,rfl⟩:=ha
   by_cases hst : strict = false
   ·exact .cs _ _ _ _ _ _ _ c vs (hS hst _ _ h1) hl hc h2 (fun j a hj => (h3 j a hj).mono (hS hst) _ (Mp.le_refl _))
   ·have hl0 : len = 0:=by
     cases strict with
     | false => exact absurd rfl hst
     | true => simpa using hs
    subst hl0
    have : cells = []:=List.eq_nil_of_length_eq_zero (by simpa using hl)
    subst this
    exact .cs0 _ _ _ _
  ·rename_i f x y va vb hx hy h3 h4
   obtain ⟨⟨rfl,rfl⟩,rfl⟩:=ha
   exact .fn _ f [] [] va vb hx hy (by simp) (by simp)
 intro n
 induction n with
 |
  zero =>
  intro a a' v ha hr
  exact simple a a' v ha hr
 |
  succ n ih =>
  intro a a' v ha hr
  have lists : ∀ (l : List AV) (l' : List AV) (vs : List Value),l.mapM (view strict h n) = some l' → RelL S φ l vs → RelL S2 Mp.no l' vs:=by
   intro l l' vs hl hrl
   obtain ⟨h1,h2⟩:=mapM_some hl
   refine ⟨by rw [h1]; exact hrl.1,fun j x u hx hu => ?_⟩
   have hj : j < l.length:=by have:=(List.getElem?_eq_some_iff.1 hx).1; omega
   obtain ⟨y,hy,hf⟩:=h2 j _ (List.getElem?_eq_getElem hj)
   rw [hx] at hy; cases hy
   exact ih _ _ u hf (hrl.2 j _ u (List.getElem?_eq_getElem hj) hu)
  cases hr with
  |
   agg _ l va hl hra =>
   simp only [view,Option.map_eq_some_iff] at ha
   obtain ⟨l',hl',rfl⟩:=ha
   exact Rel.agg_iff.2 (lists _ _ _ hl' ⟨by simpa using hl,fun j x u h1 h2 => hra j x u h1 (by simpa using h2)⟩)
  |
   tup _ l va hl hra =>
   simp only [view,Option.map_eq_some_iff] at ha
   obtain ⟨l',hl',rfl⟩:=ha
   exact Rel.tup_iff.2 (lists _ _ _ hl' ⟨by simpa using hl,fun j x u h1 h2 => hra j x u h1 (by simpa using h2)⟩)
  | mc => simp [view] at ha
  |
   ms _ esz o off len b z cap hb hc hz =>
   simp only [view] at ha
   split at ha
   ·rename_i x hx
    simp only [Option.map_eq_some_iff] at ha
    obtain ⟨l',hl',rfl⟩:=ha
    simp only [rowOf] at hx
    split at hx
    ·rename_i c hc2
     split at hx
     ·rename_i hlen
      cases hx
      obtain ⟨b',z',hb',hrow⟩:=row_of H hc2
      rw [hb] at hb'; cases hb'
      obtain ⟨cs,e,g1,g2,g3,g4⟩:=hrow
      have hr2 : RelL S φ ((c.drop off).take (len * esz)) ((cs.toList.drop off).take (len * esz)):=by
       refine ⟨?_,fun j x u hx hu => ?_⟩
       ·have e2 : len * esz ≤ cap * esz:=Nat.mul_le_mul_right _ hc
        rw [hlen]; simp; omega
       ·rw [List.getElem?_take] at hx hu
        split at hx
        ·rw [if_pos (by assumption)] at hu
         rw [List.getElem?_drop] at hx hu
         obtain ⟨v,hv,hrv⟩:=g4 _ x hx
         have : cs.toList[off + j]? = some v:=by simpa using hv
         rw [this] at hu; cases hu; exact hrv
        ·cases hx
      have hr3:=lists _ _ _ hl' hr2
      have hll : l'.length = len * esz:=by rw [(mapM_some hl').1]; exact hlen
      refine .cs _ _ _ _ _ _ _ cs (fun j => (cs[off + j]?).getD undef) (hobj _ _ _ _ _ _ hb g1) hll hc (fun j a hj => ?_) (fun j a hj => ?_)
      ·obtain ⟨u,hu,_⟩:=hr3.get hj
       rw [List.getElem?_take] at hu
       split at hu
       ·rw [List.getElem?_drop] at hu
        have : cs[off + j]? = some u:=by simpa using hu
        rw [this]; rfl
       ·cases hu
      ·obtain ⟨u,hu,hru⟩:=hr3.get hj
       rw [List.getElem?_take] at hu
       split at hu
       ·rw [List.getElem?_drop] at hu
        have : cs[off + j]? = some u:=by simpa using hu
        rw [this]; exact hru
       ·cases hu
     ·cases hx
    ·cases hx
   ·cases ha
  |
   mr _ esz o off len room b z cap hb hl0 hc0 hz =>
   have hc:=Nat.le_trans hl0 hc0
   simp only [view] at ha
   split at ha
   ·rename_i x hx
    simp only [Option.map_eq_some_iff] at ha
    obtain ⟨l',hl',rfl⟩:=ha
    simp only [rowOf] at hx
    split at hx
    ·rename_i c hc2
     split at hx
     ·rename_i hlen
      cases hx
      obtain ⟨b',z',hb',hrow⟩:=row_of H hc2
      rw [hb] at hb'; cases hb'
      obtain ⟨cs,e,g1,g2,g3,g4⟩:=hrow
      have hr2 : RelL S φ ((c.drop off).take (len * esz)) ((cs.toList.drop off).take (len * esz)):=by
       refine ⟨?_,fun j x u hx hu => ?_⟩
       ·have e2 : len * esz ≤ cap * esz:=Nat.mul_le_mul_right _ hc
        rw [hlen]; simp; omega
       ·rw [List.getElem?_take] at hx hu
        split at hx
        ·rw [if_pos (by assumption)] at hu
         rw [List.getElem?_drop] at hx hu
         obtain ⟨v,hv,hrv⟩:=g4 _ x hx
         have : cs.toList[off + j]? = some v:=by simpa using hv
         rw [this] at hu; cases hu; exact hrv
        ·cases hx
      have hr3:=lists _ _ _ hl' hr2
      have hll : l'.length = len * esz:=by rw [(mapM_some hl').1]; exact hlen
      refine .cs _ _ _ _ _ _ _ cs (fun j => (cs[off + j]?).getD undef) (hobj _ _ _ _ _ _ hb g1) hll hc (fun j a hj => ?_) (fun j a hj => ?_)
      ·obtain ⟨u,hu,_⟩:=hr3.get hj
       rw [List.getElem?_take] at hu
       split at hu
       ·rw [List.getElem?_drop] at hu
        have : cs[off + j]? = some u:=by simpa using hu
        rw [this]; rfl
       ·cases hu
      ·obtain ⟨u,hu,hru⟩:=hr3.get hj
       rw [List.getElem?_take] at hu
       split at hu
       ·rw [List.getElem?_drop] at hu
        have : cs[off + j]? = some u:=by simpa using hu
        rw [this]; exact hru
       ·cases hu
     ·cases hx
    ·cases hx
   ·cases ha
  | ptr => simp [view] at ha
  | mp => simp [view] at ha
  | nilm => simp [view] at ha; subst ha; constructor
  |
   fn _ f x y va vb hx hy h3 h4 =>
   simp only [view] at ha
   split at ha
   ·rename_i x' y' ex ey
    cases ha
    have r1:=lists x x' va.toList  ex ⟨by simpa using hx,fun j a u h1 h2 => h3 j a u h1 (by simpa using h2)⟩
    have r2:=lists y y' vb.toList  ey ⟨by simpa using hy,fun j a u h1 h2 => h4 j a u h1 (by simpa using h2)⟩
    exact .fn _ f x' y' va vb (by simpa using r1.1) (by simpa using r2.1) (fun j a v g1 g2 => r1.2 j a v g1 (by simpa using g2)) (fun j a v g1 g2 => r2.2 j a v g1 (by simpa using g2))
   ·cases ha
  | yld => simp [view] at ha
  | iface => simp [view] at ha
  | cptr _ cells b off c vs h1 h2 h3 => exact simple _ a' _ (by simpa [view] using ha) (.cptr _ cells b off c vs h1 h2 h3)
  | cs _ esz len cells b off cap c vs h1 hl hc h2 h3 => exact simple _ a' _ (by simpa [view] using ha) (.cs _ esz len cells b off cap c vs h1 hl hc h2 h3)
  | cs0 _ esz a cap => exact simple _ a' _ (by simpa [view] using ha) (.cs0 _ esz a cap)
  | bool => simp [view] at ha; subst ha; constructor
  | int => simp [view] at ha; subst ha; constructor
  | str => simp [view] at ha; subst ha; constructor
  | nilp => simp [view] at ha; subst ha; constructor
  | nils => simp [view] at ha; subst ha; constructor
  | nilf => simp [view] at ha; subst ha; constructor
  | nili => simp [view] at ha; subst ha; constructor
theorem view_pure : ∀ (n : Nat) (a a' : AV) (v : Value),a.pureV = true → view false h n a = some a' → Rel S φ a v → Rel S Mp.no a' v:=by
 intro n
 induction n with
 |
  zero =>
  intro a a' v hp ha hr
  cases hr <;> simp [view] at ha <;> first | (simp [AV.pureV] at hp; done) | skip
  case fn f x y va vb hx hy h3 h4 =>
   obtain ⟨⟨rfl,rfl⟩,rfl⟩:=ha
   exact .fn _ f [] [] va vb hx hy (by simp) (by simp)
  all_goals subst ha
  all_goals first
   | (constructor; done)
   | (rename_i h1 h2 h3; exact .cptr _ _ _ _ _ _ h1 h2 h3)
   | (rename_i h1 hl hc h2 h3; exact .cs _ _ _ _ _ _ _ _ _ h1 hl hc h2 h3)
 |
  succ n ih =>
  intro a a' v hp ha hr
  have lists : ∀ (l : List AV) (l' : List AV) (vs : List Value),(∀ (j : Nat) x,l[j]? = some x → x.pureV = true) → l.mapM (view false h n) = some l' → RelL S φ l vs → RelL S Mp.no l' vs:=by
   intro l l' vs hpl hl hrl
   obtain ⟨h1,h2⟩:=mapM_some hl
   refine ⟨by rw [h1]; exact hrl.1,fun j x u hx hu => ?_⟩
   have hj : j < l.length:=by have:=(List.getElem?_eq_some_iff.1 hx).1; omega
   obtain ⟨y,hy,hf⟩:=h2 j _ (List.getElem?_eq_getElem hj)
   rw [hx] at hy; cases hy
   exact ih _ _ u (hpl j _ (List.getElem?_eq_getElem hj)) hf (hrl.2 j _ u (List.getElem?_eq_getElem hj) hu)
  cases hr with
  |
   agg _ l va hl hra =>
   simp only [view,Option.map_eq_some_iff] at ha
   obtain ⟨l',hl',rfl⟩:=ha
   exact Rel.agg_iff.2 (lists _ _ _ (pureGo (by simpa [AV.pureV] using hp)) hl' ⟨by simpa using hl,fun j x u h1 h2 => hra j x u h1 (by simpa using h2)⟩)
  |
   tup _ l va hl hra =>
   simp only [view,Option.map_eq_some_iff] at ha
   obtain ⟨l',hl',rfl⟩:=ha
   exact Rel.tup_iff.2 (lists _ _ _ (pureGo (by simpa [AV.pureV] using hp)) hl' ⟨by simpa using hl,fun j x u h1 h2 => hra j x u h1 (by simpa using h2)⟩)
  | ms => simp [AV.pureV] at hp
  | mc => simp [AV.pureV] at hp
  | mr => simp [AV.pureV] at hp
  | ptr => simp [view] at ha
  | mp => simp [view] at ha
  | nilm => simp [view] at ha; subst ha; constructor
  |
   fn _ f x y va vb hx hy h3 h4 =>
   simp only [AV.pureV,Bool.and_eq_true] at hp
   simp only [view] at ha
   split at ha
   ·rename_i x' y' ex ey
    cases ha
    have r1:=lists x x' va.toList (pureGo hp.1) ex ⟨by simpa using hx,fun j a u h1 h2 => h3 j a u h1 (by simpa using h2)⟩
    have r2:=lists y y' vb.toList (pureGo hp.2) ey ⟨by simpa using hy,fun j a u h1 h2 => h4 j a u h1 (by simpa using h2)⟩
    exact .fn _ f x' y' va vb (by simpa using r1.1) (by simpa using r2.1) (fun j a v g1 g2 => r1.2 j a v g1 (by simpa using g2)) (fun j a v g1 g2 => r2.2 j a v g1 (by simpa using g2))
   ·cases ha
  | yld => simp [view] at ha
  | iface => simp [view] at ha
  | cptr _ cells b off c vs h1 h2 h3 => simp [view] at ha; subst ha; exact .cptr _ cells b off c vs h1 h2 h3
  | cs _ esz len cells b off cap c vs h1 hl hc h2 h3 => simp [view] at ha; subst ha; exact .cs _ esz len cells b off cap c vs h1 hl hc h2 h3
  | cs0 _ esz a cap => simp [view] at ha; subst ha; exact .cs0 _ esz a cap
  | bool => simp [view] at ha; subst ha; constructor
  | int => simp [view] at ha; subst ha; constructor
  | str => simp [view] at ha; subst ha; constructor
  | nilp => simp [view] at ha; subst ha; constructor
  | nils => simp [view] at ha; subst ha; constructor
  | nilf => simp [view] at ha; subst ha; constructor
  | nili => simp [view] at ha; subst ha; constructor
end Go.Am
/-
Calls,by each mode.
-/
namespace Go.Am
open Go
set_option linter.unusedVariables false
set_option linter.unusedSimpArgs false
variable {P : Program} {mode : Nat → Nat → Nat} {S : Fz} {φ : Mp} {B : Nat} {h : List AO} {w : World} {ρ : Operand → Value} {τ : Opd → AV} {m : Nat → Nat}
def startFr (P : Program) : Next → Frame
 | .enter f args => Frame.enter P f args .normal
 | .round l f tmps as bd => Frame.round l f tmps as bd .normal
 | _ => default
def isStart : Next → Bool
 | .enter .. | .round .. => true
 | _ => false
def Runs (P : Program) (nx : Next) (w : World) (Q : Value → World → Prop) : Prop :=
 ∀ c cs,∃ v w',Q v w' ∧ Steps P (lone (startFr P nx) (c :: cs) w) (lone (c.finish v) cs w')
def OpRun (P : Program) (s : Sem Next) (w : World) (Q : Value → World → Prop) : Prop :=
 (∃ v w',s.run P w = .ok (.value v) w' ∧ Q v w') ∨ (∃ w',s.run P w = .ok .skip w' ∧ Q undef w') ∨ (∃ nx,s.run P w = .ok nx w ∧ isStart nx = true ∧ Runs P nx w Q)
def Fits (P : Program) (mode : Nat → Nat → Nat) (S : Fz) (φ : Mp) (B lim : Nat) (h : List AO) (w : World) (pl : Option Nat) (r : AV) (h' : List AO) (v : Value) (w' : World) : Prop :=
 ∃ S' φ',Rel S' φ' r v ∧ Post P mode S φ B lim h w pl S' φ' h' w'
def CallSnd (P : Program) (mode : Nat → Nat → Nat) (call : Callee) : Prop :=
 ∀
  t args h lim r h',call t args h lim = some (r,h') → lim ≤ h.length → ∀ S φ B w vals,HR P mode S φ B h w → RelL S φ args vals →
  match t with
  | .fn f => (∀ w,(callFunc f vals.toArray).run P w = .ok (.enter f vals.toArray) w) ∧ Runs P (.enter f vals.toArray) w (Fits P mode S φ B lim h w none r h')
  | .rnd o => ∀ l z,φ o = some (l,z) → ∃ nx,(Instr.yield l vals.toArray).run P w = .ok nx w ∧ isStart nx = true ∧ Runs P nx w (Fits P mode S φ B lim h w none r h')
theorem Runs.mono {nx : Next} {Q Q' : Value → World → Prop} (h : Runs P nx w Q) (hq : ∀ v w',Q v w' → Q' v w') : Runs P nx w Q' :=
 fun c cs => let ⟨v,w',q,s⟩:=h c cs; ⟨v,w',hq _ _ q,s⟩
def frozenAll (w : World) : Fz:=fun b => match w.heap[b]? with
 | some (.cells c _ _) => some c
 | _ => none
theorem HR.empty (S : Fz) (w : World) (hS : ∀ b c,S b = some c → ∃ e fr,w.heap[b]? = some (.cells c e fr)) : HR P mode S Mp.no w.heap.size [] w :=
 ⟨Nat.le_refl _,fun o x hx => (by cases hx),fun o b z hx => (by cases hx),hS,fun o a ha => (by simp at ha),fun o o' a a' b z z' ha => (by simp at ha)⟩
theorem frozenAll_fro (w : World) : ∀ b c,frozenAll w b = some c → ∃ e fr,w.heap[b]? = some (.cells c e fr):=by
 intro b c hb
 unfold frozenAll at hb
 split at hb
 ·rename_i c' e fr he; cases hb; exact ⟨e,fr,he⟩
 ·cases hb
theorem frozenAll_of {w : World} {b : Nat} {c : Array Value} {e : TypeId} {fr : Nat × Nat} (h : w.heap[b]? = some (.cells c e fr)) : frozenAll w b = some c:=by simp [frozenAll,h]
def frozenFrom (S : Fz) (n : Nat) (w' : World) : Fz:=fun b => if b < n then S b else frozenAll w' b
theorem HR.later (H : HR P mode S φ B h w) {w' : World} (fx : Fx w.heap.size w w') : HR P mode (frozenFrom S w.heap.size w') φ B h w':=by
 have hsub : ∀ b c,S b = some c → frozenFrom S w.heap.size w' b = some c:=fun b c hs => by simp [frozenFrom,H.slt hs,hs]
 refine ⟨Nat.le_trans H.bs fx.size,H.dom,fun o b z hx => ⟨Nat.lt_of_lt_of_le (H.lt o b z hx).1 fx.size,(H.lt o b z hx).2⟩,?_,?_,H.inj⟩
 ·intro b c hs
  unfold frozenFrom at hs
  split at hs
  ·rename_i hb
   obtain ⟨e,fr,he⟩:=H.fro b c hs
   exact ⟨e,fr,(fx.old b hb).trans he⟩
  ·exact frozenAll_fro w' b c hs
 ·intro o a ho
  rcases H.obj o a ho with rfl | ⟨b,z,h1,h2,h3⟩
  ·exact .inl rfl
  ·have hb:=(H.lt o b z h1).1
   exact .inr ⟨b,z,h1,by simp [frozenFrom,hb,h2],h3.mono hsub (Mp.le_refl _) (fx.old b hb)⟩
theorem mode1_snd {call : Callee} (hcall : CallSnd P mode call) (H : HR P mode S φ B h w) {f : Nat} {as vs : List AV} {vals : List Value} (ras : RelL S φ as vals) (hvs : as.mapM (view false h 8) = some vs)
  {r r' : AV} {h' : List AO} {lim : Nat} {pl : Option Nat} (hc : call (.fn f) vs [] 0 = some (r,h')) (hr : view (!AV.pureV.go as) h' 8 r = some r') :
  (∀ w,(callFunc f vals.toArray).run P w = .ok (.enter f vals.toArray) w) ∧ Runs P (.enter f vals.toArray) w (Fits P mode S φ B lim h w pl r' h):=by
 obtain ⟨hm1,hm2⟩:=mapM_some hvs
 obtain ⟨S1,hfro,hrel,hS1⟩ : ∃ S1 : Fz,(∀ b c,S1 b = some c → ∃ e fr,w.heap[b]? = some (.cells c e fr)) ∧ RelL S1 Mp.no vs vals ∧ (AV.pureV.go as = true → S1 = S):=by
  by_cases hp : AV.pureV.go as = true
  ·refine ⟨S,H.fro,⟨by rw [hm1]; exact ras.1,fun j x u hx hu => ?_⟩,fun _ => rfl⟩
   have hj : j < as.length:=by have:=(List.getElem?_eq_some_iff.1 hx).1; omega
   obtain ⟨y,hy,hf⟩:=hm2 j _ (List.getElem?_eq_getElem hj)
   rw [hx] at hy; cases hy
   exact view_pure 8 _ _ u (pureGo hp j _ (List.getElem?_eq_getElem hj)) hf (ras.2 j _ u (List.getElem?_eq_getElem hj) hu)
  ·refine ⟨frozenAll w,frozenAll_fro w,⟨by rw [hm1]; exact ras.1,fun j x u hx hu => ?_⟩,fun h0 => absurd h0 hp⟩
   have hj : j < as.length:=by have:=(List.getElem?_eq_some_iff.1 hx).1; omega
   obtain ⟨y,hy,hf⟩:=hm2 j _ (List.getElem?_eq_getElem hj)
   rw [hx] at hy; cases hy
   exact view_rel H (fun o b z cs e fr _ hb => frozenAll_of hb) (fun _ b c hs => by obtain ⟨e,fr,he⟩:=H.fro b c hs; exact frozenAll_of he) 8 _ _ u hf (ras.2 j _ u (List.getElem?_eq_getElem hj) hu)
 obtain ⟨hf,hrun⟩:=hcall (.fn f) vs [] 0 r h' hc (Nat.zero_le _) S1 Mp.no w.heap.size w vals (HR.empty S1 w hfro) hrel
 refine ⟨hf,hrun.mono ?_⟩
 rintro v w' ⟨S',φ',hrv,hpost⟩
 have hH:=H.later hpost.fx
 refine ⟨frozenFrom S w.heap.size w',φ,?_,⟨hH,Mp.le_refl _,fun b hb => by simp [frozenFrom,hb],hpost.fx.mono H.bs,Nat.le_refl _,fun _ _ _ _ => rfl,fun _ _ _ hn => hn⟩⟩
 have h1 : Rel (frozenFrom S w.heap.size w') Mp.no r' v:=by
  refine view_rel hpost.hr (fun o b z cs e fr hb hcs => ?_) (fun hst b c hs => ?_) 8 r r' v hr hrv
  ·have:=(hpost.hr.lt o b z hb).2
   simp [frozenFrom,show ¬ b < w.heap.size by omega,frozenAll_of hcs]
  ·have hp : AV.pureV.go as = true:=by simpa using hst
   have hSS:=hS1 hp
   by_cases hb : b < w.heap.size
   ·rw [hpost.sle b hb,hSS] at hs
    simp [frozenFrom,hb,hs]
   ·obtain ⟨e,fr,he⟩:=hpost.hr.fro b c hs
    simp [frozenFrom,hb,frozenAll_of he]
 exact h1.mono (fun _ _ h => h) _ (fun _ _ h => by cases h)
theorem mode2_snd {call : Callee} (hcall : CallSnd P mode call) (H : HR P mode S φ B h w) {f : Nat} {as : List AV} {vals : List Value} (ras : RelL S φ as vals) (hp : AV.pureV.go as = true)
  {r : AV} {h' : List AO} {lim : Nat} {pl : Option Nat} (hc : call (.fn f) as [] 0 = some (r,h')) :
  (∀ w,(callFunc f vals.toArray).run P w = .ok (.enter f vals.toArray) w) ∧ Runs P (.enter f vals.toArray) w (Fits P mode S φ B lim h w pl (r.shift h.length) (h ++ h'.map (AO.shift h.length))):=by
 have hrel : RelL S Mp.no as vals:=⟨ras.1,fun j x u hx hu => (ras.2 j x u hx hu).ofPure (pureGo hp j x hx) _⟩
 obtain ⟨hf,hrun⟩:=hcall (.fn f) as [] 0 r h' hc (Nat.zero_le _) S Mp.no w.heap.size w vals (HR.empty S w H.fro) hrel
 refine ⟨hf,hrun.mono ?_⟩
 rintro v w' ⟨S',φ',hrv,q⟩
 have hSS : ∀ b c,S b = some c → S' b = some c:=fun b c hs => by rw [q.sle b (H.slt hs)]; exact hs
 obtain ⟨φ2,hφ2⟩ : ∃ φ2 : Mp,φ2 = fun o => if o < h.length then φ o else φ' (o - h.length):=⟨_,rfl⟩
 have hlo : ∀ o,o < h.length → φ2 o = φ o:=fun o ho => by rw [hφ2]; simp [ho]
 have hhi : ∀ o,φ2 (o + h.length) = φ' o:=fun o => by rw [hφ2]; simp [show ¬ o + h.length < h.length by omega]
 have hle : Mp.le φ φ2:=fun o x hx => by rw [hlo o (H.dom o x hx)]; exact hx
 have hle' : ∀ o x,φ' o = some x → φ2 (o + h.length) = some x:=fun o x hx => by rw [hhi]; exact hx
 have split2 : ∀ o,¬ o < h.length → ∃ i,o = i + h.length:=fun o ho => ⟨o - h.length,by omega⟩
 have hrow : ∀ (c : List AV) b z,ORow S' φ' w' c b z → ORow S' φ2 w' (c.map (AV.shift h.length)) b z:=by
  rintro c b z ⟨cs,e,g1,g2,g3,g4⟩
  refine ⟨cs,e,g1,g2,by simpa using g3,fun j x hx => ?_⟩
  simp only [List.getElem?_map,Option.map_eq_some_iff] at hx
  obtain ⟨y,hy,rfl⟩:=hx
  obtain ⟨u,hu,hru⟩:=g4 j y hy
  exact ⟨u,hu,hru.shift _ _ hle'⟩
 have hmay : ∀ a a',mayShare a a' → mayShare (AO.shift h.length a) (AO.shift h.length a'):=by
  intro a a' hm
  cases a <;> cases a' <;> simp_all [mayShare,AO.shift]
 refine ⟨S',φ2,hrv.shift _ _ hle',⟨⟨Nat.le_trans H.bs q.fx.size,?_,?_,q.hr.fro,?_,?_⟩,hle,q.sle,q.fx.mono H.bs,by simp,?_,?_⟩⟩
 ·intro o x hx
  by_cases ho : o < h.length
  ·simp; omega
  ·obtain ⟨i,rfl⟩:=split2 o ho
   rw [hhi] at hx
   have:=q.hr.dom i x hx
   simp; omega
 ·intro o b z hx
  by_cases ho : o < h.length
  ·rw [hlo o ho] at hx; exact ⟨Nat.lt_of_lt_of_le (H.lt o b z hx).1 q.fx.size,(H.lt o b z hx).2⟩
  ·obtain ⟨i,rfl⟩:=split2 o ho
   rw [hhi] at hx
   have:=q.hr.lt i b z hx
   exact ⟨this.1,Nat.le_trans H.bs this.2⟩
 ·intro o a ha
  by_cases ho : o < h.length
  ·rw [List.getElem?_append_left ho] at ha
   rcases H.obj o a ha with rfl | ⟨b,z,k1,k2,k3⟩
   ·exact .inl rfl
   ·have hb:=(H.lt o b z k1).1
    exact .inr ⟨b,z,by rw [hlo o ho]; exact k1,by rw [q.sle b hb]; exact k2,k3.mono hSS hle (q.fx.old b hb)⟩
  ·obtain ⟨i,rfl⟩:=split2 o ho
   rw [List.getElem?_append_right (by omega),show i + h.length - h.length = i by omega,List.getElem?_map,Option.map_eq_some_iff] at ha
   obtain ⟨a0,ha0,rfl⟩:=ha
   rcases q.hr.obj i a0 ha0 with rfl | ⟨b,z,k1,k2,k3⟩
   ·exact .inl rfl
   ·by_cases ht : AO.shift h.length a0 = .tomb
    ·exact .inl ht
    ·refine .inr ⟨b,z,by rw [hhi]; exact k1,k2,?_⟩
     cases a0 with
     | cells c sh => exact hrow c b z k3
     | ro c => exact hrow c b z k3
     | tomb => trivial
     | mpo ks es => exact k3
     | dfr => exact k3
     | loop => simp [AO.shift] at ht
 ·intro o o' a a' b z z' ha ha' hb hb' hne
  by_cases ho : o < h.length
  ·rw [List.getElem?_append_left ho] at ha
   rw [hlo o ho] at hb
   by_cases ho' : o' < h.length
   ·rw [List.getElem?_append_left ho'] at ha'
    rw [hlo o' ho'] at hb'
    exact H.inj o o' a a' b z z' ha ha' hb hb' hne
   ·obtain ⟨i,rfl⟩:=split2 o' ho'
    rw [hhi] at hb'
    have:=(q.hr.lt i b z' hb').2
    have:=(H.lt o b z hb).1
    omega
  ·obtain ⟨i,rfl⟩:=split2 o ho
   rw [hhi] at hb
   by_cases ho' : o' < h.length
   ·rw [hlo o' ho'] at hb'
    have:=(q.hr.lt i b z hb).2
    have:=(H.lt o' b z' hb').1
    omega
   ·obtain ⟨i',rfl⟩:=split2 o' ho'
    rw [hhi] at hb'
    rw [List.getElem?_append_right (by omega),show i + h.length - h.length = i by omega,List.getElem?_map,Option.map_eq_some_iff] at ha
    rw [List.getElem?_append_right (by omega),show i' + h.length - h.length = i' by omega,List.getElem?_map,Option.map_eq_some_iff] at ha'
    obtain ⟨a0,ha0,rfl⟩:=ha
    obtain ⟨a0',ha0',rfl⟩:=ha'
    exact hmay _ _ (q.hr.inj i i' a0 a0' b z z' ha0 ha0' hb hb' (by omega))
 ·intro o _ ho _; exact List.getElem?_append_left ho
 ·intro o ho _ hn; rw [hlo o ho]; exact hn
theorem Rel.back {S' : Fz} {φ' : Mp} {x : AV} {u : Value} (h : Rel S' φ' x u) : ∀ (S : Fz) (φ : Mp) (u0 : Value),Rel S φ x u0 → ∀ φ2 : Mp,(∀ o y,φ o = some y → φ2 o = φ' o) → Rel S' φ2 x u:=by
 induction h with
 | bool φ b => exact fun _ _ _ _ φ2 _ => .bool φ2 b
 | int φ k n => exact fun _ _ _ _ φ2 _ => .int φ2 k n
 | str φ s => exact fun _ _ _ _ φ2 _ => .str φ2 s
 | nilp φ => exact fun _ _ _ _ φ2 _ => .nilp φ2
 |
  ptr φ o off b z h =>
  intro S φ u0 h0 φ2 hd
  cases h0 with | ptr _ _ _ _ _ h1 => exact .ptr φ2 o off b z ((hd _ _ h1).trans h)
 | cptr φ cells b off c vs hs h hr ih => exact fun _ _ _ _ φ2 _ => .cptr φ2 cells b off c vs hs h hr
 | nils φ => exact fun _ _ _ _ φ2 _ => .nils φ2
 | cs0 φ esz a cap => exact fun _ _ _ _ φ2 _ => .cs0 φ2 esz a cap
 | cs φ esz len cells b off cap c vs hs hl hc h hr ih => exact fun _ _ _ _ φ2 _ => .cs φ2 esz len cells b off cap c vs hs hl hc h hr
 |
  ms φ esz o off len b z cap h hc hz =>
  intro S φ u0 h0 φ2 hd
  cases h0 with | ms _ _ _ _ _ _ _ _ h1 _ _ => exact .ms φ2 esz o off len b z cap ((hd _ _ h1).trans h) hc hz
 |
  mc φ esz o off len b z h hz =>
  intro S φ u0 h0 φ2 hd
  cases h0 with | mc _ _ _ _ _ _ _ h1 _ => exact .mc φ2 esz o off len b z ((hd _ _ h1).trans h) hz
 |
  mr φ esz o off len room b z cap h hl hc hz =>
  intro S φ u0 h0 φ2 hd
  cases h0 with | mr _ _ _ _ _ _ _ _ _ h1 _ _ _ => exact .mr φ2 esz o off len room b z cap ((hd _ _ h1).trans h) hl hc hz
 |
  fn φ f a b va vb ha hb hra hrb iha ihb =>
  intro S φ u0 h0 φ2 hd
  cases h0 with
  |
   fn _ _ _ _ va0 vb0 ha0 hb0 hra0 hrb0 =>
   refine .fn φ2 f a b va vb ha hb (fun j x v h1 h2 => ?_) (fun j x v h1 h2 => ?_)
   ·have hj:=(List.getElem?_eq_some_iff.1 h1).1
    exact iha j x v h1 h2 S φ va0[j] (hra0 j x _ h1 (Array.getElem?_eq_getElem (by omega))) φ2 hd
   ·have hj:=(List.getElem?_eq_some_iff.1 h1).1
    exact ihb j x v h1 h2 S φ vb0[j] (hrb0 j x _ h1 (Array.getElem?_eq_getElem (by omega))) φ2 hd
 |
  yld φ o l z h =>
  intro S φ u0 h0 φ2 hd
  cases h0 with | yld _ _ _ _ h1 => exact .yld φ2 o l z ((hd _ _ h1).trans h)
 | nilf φ => exact fun _ _ _ _ φ2 _ => .nilf φ2
 |
  agg φ a va ha hra ih =>
  intro S φ u0 h0 φ2 hd
  cases h0 with
  |
   agg _ _ va0 ha0 hra0 =>
   refine .agg φ2 a va ha (fun j x v h1 h2 => ?_)
   have hj:=(List.getElem?_eq_some_iff.1 h1).1
   exact ih j x v h1 h2 S φ va0[j] (hra0 j x _ h1 (Array.getElem?_eq_getElem (by omega))) φ2 hd
 |
  tup φ a va ha hra ih =>
  intro S φ u0 h0 φ2 hd
  cases h0 with
  |
   tup _ _ va0 ha0 hra0 =>
   refine .tup φ2 a va ha (fun j x v h1 h2 => ?_)
   have hj:=(List.getElem?_eq_some_iff.1 h1).1
   exact ih j x v h1 h2 S φ va0[j] (hra0 j x _ h1 (Array.getElem?_eq_getElem (by omega))) φ2 hd
 |
  iface φ t a v h ih =>
  intro S φ u0 h0 φ2 hd
  cases h0 with | iface _ _ _ v0 h1 => exact .iface φ2 t a v (ih S φ v0 h1 φ2 hd)
 | nili φ => exact fun _ _ _ _ φ2 _ => .nili φ2
 |
  mp φ o b z h =>
  intro S φ u0 h0 φ2 hd
  cases h0 with | mp _ _ _ _ h1 => exact .mp φ2 o b z ((hd _ _ h1).trans h)
 | nilm φ => exact fun _ _ _ _ φ2 _ => .nilm φ2
theorem mode3_snd {call : Callee} (hcall : CallSnd P mode call) (H : HR P mode S φ B h w) {f : Nat} {as : List AV} {vals : List Value} (ras : RelL S φ as vals)
  {r : AV} {h' : List AO} {lim : Nat} {pl : Option Nat} (hc : call (.fn f) as h h.length = some (r,h')) (hu : r.under h.length = true) :
  (∀ w,(callFunc f vals.toArray).run P w = .ok (.enter f vals.toArray) w) ∧ Runs P (.enter f vals.toArray) w (Fits P mode S φ B lim h w pl r h):=by
 obtain ⟨hf,hrun⟩:=hcall (.fn f) as h h.length r h' hc (Nat.le_refl _) S φ B w vals H ras
 refine ⟨hf,hrun.mono ?_⟩
 rintro v w' ⟨S',φ',hrv,q⟩
 obtain ⟨φ2,hφ2⟩ : ∃ φ2 : Mp,φ2 = fun o => if o < h.length then φ' o else none:=⟨_,rfl⟩
 have hlo : ∀ o,o < h.length → φ2 o = φ' o:=fun o ho => by rw [hφ2]; simp [ho]
 have hno : ∀ o x,φ2 o = some x → o < h.length ∧ φ' o = some x:=fun o x hx => by
  rw [hφ2] at hx
  simp only at hx
  split at hx
  ·exact ⟨by assumption,hx⟩
  ·cases hx
 have hsame : ∀ o,o < h.length → φ2 o = φ o:=fun o ho => by
  rw [hlo o ho]
  cases e : φ o with
  | none => exact q.none o ho (by simp) e
  | some x => exact q.le o x e
 have hle : Mp.le φ φ2:=fun o x hx => by rw [hsame o (H.dom o x hx)]; exact hx
 have hle2 : Mp.le φ2 φ:=fun o x hx => by rw [← hsame o (hno o x hx).1]; exact hx
 have hSS:=q.smono H
 have hdom : ∀ o y,φ o = some y → φ2 o = φ' o:=fun o y hy => hlo o (H.dom o y hy)
 refine ⟨S',φ2,hrv.under h.length hu φ2 (fun o x ho hx => by rw [hlo o ho]; exact hx),⟨⟨q.hr.bs,fun o x hx => (hno o x hx).1,fun o b z hx => q.hr.lt o b z (hno o _ hx).2,q.hr.fro,?_,?_⟩,
  hle,q.sle,q.fx,Nat.le_refl _,fun _ _ _ _ => rfl,fun o ho _ hn => by rw [hsame o ho]; exact hn⟩⟩
 ·intro o a ha
  have ho:=(List.getElem?_eq_some_iff.1 ha).1
  have ha' : h'[o]? = some a:=by rw [q.keep o ho ho (by simp)]; exact ha
  rcases q.hr.obj o a ha' with rfl | ⟨b,z,k1,k2,k3⟩
  ·exact .inl rfl
  ·refine .inr ⟨b,z,by rw [hlo o ho]; exact k1,k2,?_⟩
   rcases H.obj o a ha with rfl | ⟨b0,z0,j1,j2,j3⟩
   ·trivial
   ·have : φ' o = some (b0,z0):=q.le o _ j1
    rw [k1] at this; cases this
    have hrow : ∀ c,ORow S φ w c b z → ORow S' φ' w' c b z → ORow S' φ2 w' c b z:=by
     rintro c ⟨cs0,e0,p1,p2,p3,p4⟩ ⟨cs,e,g1,g2,g3,g4⟩
     refine ⟨cs,e,g1,g2,g3,fun j x hx => ?_⟩
     obtain ⟨u,hu,hru⟩:=g4 j x hx
     obtain ⟨u0,hu0,hru0⟩:=p4 j x hx
     exact ⟨u,hu,Rel.back hru S φ u0 hru0 φ2 hdom⟩
    cases a with
    | cells c sh => exact hrow c j3 k3
    | ro c => exact hrow c j3 k3
    | tomb => trivial
    | mpo ks es => exact k3
    | dfr => exact k3
    |
     loop st pend fid ts ps as bd d =>
     obtain ⟨l,g1,g2,g3,g4,g5,g6,g7,g8,z',g9⟩:=k3
     obtain ⟨l0,f1,f2,f3,f4,f5,f6,f7,f8,z0',f9⟩:=j3
     refine ⟨l,g1,g2,g3,g4,⟨g5.1,fun j x u hx hu => ?_⟩,g6,g7,g8,z',?_⟩
     ·obtain ⟨u0,hu0,hru0⟩:=f5.get hx
      exact Rel.back (g5.2 j x u hx hu) S φ u0 hru0 φ2 hdom
     ·have h1 : φ2 d = some (l0.defers,z0'):=hle d _ f9
      rw [hlo d (hno d _ h1).1]; exact g9
 ·intro o o' a a' b z z' ha ha' hb hb' hne
  have ho:=(List.getElem?_eq_some_iff.1 ha).1
  have ho':=(List.getElem?_eq_some_iff.1 ha').1
  exact q.hr.inj o o' a a' b z z' (by rw [q.keep o ho ho (by simp)]; exact ha) (by rw [q.keep o' ho' ho' (by simp)]; exact ha') (hno o _ hb).2 (hno o' _ hb').2 hne
def callvEx (call : Callee) (h : List AO) (lim : Nat) (q : Bool) (as : List AV) : AV → Option (AV × List AO)
 |
  .fn g first captured =>
  if q then
   match call (.fn g) (first ++ as ++ captured) h h.length with
   | some (r,_) => if r.under h.length then some (r,h) else none
   | none => none
  else call (.fn g) (first ++ as ++ captured) h lim
 | .yld o => if q then none else call (.rnd o) as h lim
 | _ => none
theorem callv_snd {call : Callee} (hcall : CallSnd P mode call) (H : HR P mode S φ B h w) {c : Call} {ty : TypeId} {x : Operand} (hcal : c.callee = .value x) {as : List AV} (ras : RelL S φ as (c.args.toList.map ρ)) {fv : AV} (rf : Rel S φ fv (ρ x))
  {lim : Nat} (hlim : lim ≤ h.length) {pl : Option Nat} {r : AV} {h' : List AO} {q : Bool} (hx : callvEx call h lim q as fv = some (r,h')) :
  OpRun P (do let d ← resolve ρ c ty; invoke d.target d.args) w (Fits P mode S φ B lim h w pl r h'):=by
 have wk : ∀ v w',Fits P mode S φ B lim h w none r h' v w' → Fits P mode S φ B lim h w pl r h' v w':=fun v w' ⟨S',φ',a,b⟩ => ⟨S',φ',a,b.wk pl⟩
 cases hv : ρ x <;> rw [hv] at rf <;> cases rf <;> simp only [callvEx,reduceCtorEq] at hx
 ·rename_i va vb f first captured ha hra hb hrb
  have r1 : RelL S φ first va.toList:=⟨by simpa using ha,fun j x u h1 h2 => hra j x u h1 (by simpa using h2)⟩
  have r2 : RelL S φ captured vb.toList:=⟨by simpa using hb,fun j x u h1 h2 => hrb j x u h1 (by simpa using h2)⟩
  have hboth : (∀ w,(callFunc f (va.toList ++ c.args.toList.map ρ ++ vb.toList).toArray).run P w = .ok (.enter f (va.toList ++ c.args.toList.map ρ ++ vb.toList).toArray) w) ∧ Runs P (.enter f (va.toList ++ c.args.toList.map ρ ++ vb.toList).toArray) w (Fits P mode S φ B lim h w pl r h'):=by
   cases q
   ·obtain ⟨h1,h2⟩:=hcall _ _ _ _ _ _ hx hlim S φ B w _ H ((r1.append ras).append r2)
    exact ⟨h1,h2.mono wk⟩
   ·simp only [if_true] at hx
    split at hx
    ·rename_i r0 h0 hc0
     split at hx
     ·rename_i hu
      cases hx
      exact mode3_snd hcall H ((r1.append ras).append r2) hc0 hu
     ·cases hx
    ·cases hx
  obtain ⟨h1,h2⟩:=hboth
  have e1 : (va.toList ++ c.args.toList.map ρ ++ vb.toList).toArray = va ++ c.args.map ρ ++ vb:=by apply Array.ext'; simp
  rw [e1] at h1 h2
  exact .inr (.inr ⟨_,by simp only [resolve,hcal,hv,Deferred.ofValue,Sem.run_bind,Sem.run_pure,Result.andThen_ok,invoke,h1],rfl,h2⟩)
 ·rename_i o l z hl
  have hq : q = false:=by cases q <;> simp_all
  subst hq
  simp only [Bool.false_eq_true,if_false] at hx
  obtain ⟨nx,h1,h2,h3⟩:=hcall _ _ _ _ _ _ hx hlim S φ B w _ H ras l z hl
  refine .inr (.inr ⟨nx,?_,h2,h3.mono wk⟩)
  have e1 : (c.args.toList.map ρ).toArray = c.args.map ρ:=by apply Array.ext'; simp
  rw [e1] at h1
  simp [resolve,hcal,hv,Deferred.ofValue,invoke,h1]
theorem kept_callm {x y : Nat} {z : List Opd} {a : AOp} (h : (AOp.call x y z).kept = a.kept) : a = .call x y z:=by
 cases a <;> simp_all [AOp.kept]
theorem kept_callv {q : Bool} {y : Opd} {z : List Opd} {a : AOp} (h : (AOp.callv q y z).kept = a.kept) : a = .callv q y z:=by
 cases a <;> simp_all [AOp.kept]
theorem cOp_call {op : Op} {a : AOp} (hc : cOp P m op = some a) (ha : a.isCall = true) : ∃ c,op = .call c:=by
 rcases cOp_cls hc with ⟨p,rfl⟩ | hm
 ·simp [AOp.isCall] at ha
 ·cases op <;> simp [memOp] at hm
  case call c => exact ⟨c,rfl⟩
  case buildSlice t len parts =>
   simp only [cOp,Option.bind_eq_bind] at hc
   split at hc
   ·simp only [Option.bind_eq_some_iff] at hc
    obtain ⟨_,_,_,_,_,_,hc⟩:=hc
    split at hc
    ·simp only [Option.some.injEq] at hc; subst hc; split at ha <;> simp [AOp.isCall] at ha
    ·cases hc
   ·cases hc
  case slice t x lo hi mx =>
   cases mx with
   |
    none =>
    simp only [cOp,Option.bind_eq_bind] at hc
    split at hc
    ·split at hc
     all_goals
      simp only [Option.bind_eq_some_iff,Option.some.injEq] at hc
      obtain ⟨_,_,_,_,_,_,_,_,rfl⟩:=hc; simp [AOp.isCall] at ha
    ·split at hc
     ·cases hi with
      |
       none =>
       simp only [Option.bind_eq_some_iff,Option.some.injEq] at hc
       obtain ⟨_,_,_,_,rfl⟩:=hc; simp [AOp.isCall] at ha
      |
       some y9 =>
       simp only [Option.bind_eq_some_iff,Option.some.injEq] at hc
       obtain ⟨_,_,_,_,_,_,rfl⟩:=hc; simp [AOp.isCall] at ha
     ·cases hc
    ·cases hc
   |
    some m9 =>
    cases lo with
    |
     some _ =>
     cases hi with
     | none => simp only [cOp,reduceCtorEq] at hc
     |
      some h9 =>
      simp only [cOp,Option.bind_eq_bind] at hc
      split at hc
      ·simp only [Option.bind_eq_some_iff,Option.some.injEq] at hc
       obtain ⟨_,_,_,_,_,_,_,_,_,_,rfl⟩:=hc; simp [AOp.isCall] at ha
      ·cases hc
    |
     none =>
     cases hi with
     | none => simp only [cOp,reduceCtorEq] at hc
     |
      some h9 =>
      simp only [cOp,Option.bind_eq_bind] at hc
      split at hc
      ·simp only [Option.bind_eq_some_iff,Option.some.injEq] at hc
       obtain ⟨_,_,_,_,_,_,_,_,rfl⟩:=hc; simp [AOp.isCall] at ha
      ·simp only [Option.bind_eq_some_iff,Option.some.injEq] at hc
       obtain ⟨_,_,_,_,_,_,_,_,rfl⟩:=hc; simp [AOp.isCall] at ha
      ·cases hc
  case makeSlice t l c =>
   simp only [cOp,Option.bind_eq_bind] at hc
   split at hc
   ·simp only [Option.bind_eq_some_iff] at hc
    obtain ⟨_,_,_,_,_,_,hc⟩:=hc
    split at hc
    ·simp only [Option.bind_eq_some_iff,Option.some.injEq] at hc
     obtain ⟨_,_,_,_,rfl⟩:=hc; simp [AOp.isCall] at ha
    ·cases hc
   ·cases hc
  case makeMap t r =>
   cases r with
   | some _ => simp [cOp] at hc
   | none =>
   simp only [cOp] at hc
   (repeat' split at hc) <;> first | (cases hc; done) | (simp only [Option.bind_eq_bind,Option.bind_eq_some_iff,Option.some.injEq] at hc; obtain ⟨_,_,rfl⟩:=hc; simp [AOp.isCall] at ha; done)
  case lookup t x i ok =>
   simp only [cOp] at hc
   (repeat' split at hc) <;> first | (cases hc; done) | (simp only [Option.bind_eq_bind,Option.bind_eq_some_iff,Option.some.injEq] at hc; obtain ⟨_,_,_,_,_,_,_,_,rfl⟩:=hc; simp [AOp.isCall] at ha; done)
  case mapUpdate t x i ok =>
   simp only [cOp] at hc
   (repeat' split at hc) <;> first | (cases hc; done) | (simp only [Option.bind_eq_bind,Option.bind_eq_some_iff,Option.some.injEq] at hc; obtain ⟨_,_,_,_,_,_,_,_,rfl⟩:=hc; simp [AOp.isCall] at ha; done)
  case insert t x i ok =>
   simp only [cOp] at hc
   (repeat' split at hc) <;> first | (cases hc; done) | (simp only [Option.bind_eq_bind,Option.bind_eq_some_iff,Option.some.injEq] at hc; obtain ⟨_,_,_,_,_,_,_,_,rfl⟩:=hc; simp [AOp.isCall] at ha; done)
  all_goals
   simp only [cOp,Option.bind_eq_bind,Option.bind_eq_some_iff,Option.some.injEq] at hc
   first
    | (obtain ⟨_,_,rfl⟩:=hc; simp [AOp.isCall] at ha; done)
    | (obtain ⟨_,_,_,_,_,_,rfl⟩:=hc; simp [AOp.isCall] at ha; done)
theorem lit_snd {call : Callee} (H : HR P mode S φ B h w) (hρ : ∀ x y,cOpd x = some y → Rel S φ (τ y) (ρ x)) {lim : Nat} (pl : Option Nat) {o : Oper} {a0 a : AOp} (hc : cOp P m o.op = some a0) (hk : a0.kept = a.kept) (hlit : a.isLit = true)
  {r : AV} {h' : List AO} (hx : exOp call lim pl τ h a = some (r,h')) : OpRun P (execOp ρ o) w (Fits P mode S φ B lim h w pl r h'):=by
 cases a <;> simp only [AOp.isLit,Bool.false_eq_true] at hlit
 rename_i esz len' zero parts'
 have ha0 : a0 = .litS esz len' zero parts':=by cases a0 <;> simp_all [AOp.kept]
 subst ha0
 cases hop : o.op with
 |
  buildSlice t len parts =>
  simp only [hop,cOp,Option.bind_eq_bind] at hc
  split at hc
  ·rename_i e hu
   simp only [Option.bind_eq_some_iff] at hc
   obtain ⟨s,hs,z,hz,l,hl,hc⟩:=hc
   split at hc
   ·rename_i hcc
    obtain ⟨hbig,hzs,hs1⟩:=hcc
    simp only [Option.some.injEq] at hc
    split at hc
    ·rename_i hlen
     obtain ⟨e1,e2,e3,e4⟩:=AOp.litS.inj hc
     subst e1; subst e2; subst e3; subst e4
     have hl0 : len ≠ 0:=by simp at hlen; exact hlen.2
     obtain ⟨zv,hzv,hzr⟩:=run_zeroP hz w
     simp only [exOp] at hx
     split at hx
     ·rename_i row hrow
      split at hx
      ·rename_i hpure
       cases hx
       obtain ⟨h1,h2⟩:=partsI_snd hρ s _ _ hl
       have hzz : zv.cells.size = s:=by rw [zv_len hzr,hzs]
       have hz0 : RelL S φ (zeros len z.cells) ((Array.range (len * s)).map (zv.cells[· % zv.cells.size]!)).toList:=by
        refine ⟨by simp [zeros_len,hzs],fun j x u hx hu => ?_⟩
        obtain ⟨v,hv,hr⟩:=zeros_row (hzr S φ).cells len (len * s) (by rw [hzs]; exact Nat.le_refl _) (f:=fun i => zv.cells[i % zv.cells.size]!) (fun j _ => rfl) j x hx
        have hu' : ((Array.range (len * s)).map (fun i => zv.cells[i % zv.cells.size]!))[j]? = some u:=by rw [← Array.getElem?_toList]; exact hu
        rw [hv] at hu'; cases hu'; exact hr
       obtain ⟨c',hc',hr',hsz'⟩:=fill_snd (S:=S) (φ:=φ) (place:=fun i => some (i * s,s)) (parts.toList.map fun (i,x) => (i,ρ x)) _ _ _ row (by simpa using h1) h2 hz0 hrow
       have hcsz : c'.size = len * s:=by rw [hsz']; simp
       have hrl : row.length = len * s:=by rw [hr'.1]; simp [hcsz]
       have hc3 : Instr.fill (fun i => some (i * s,s)) ((Array.range (len * s)).map (zv.cells[· % zv.cells.size]!)) (parts.toList.map fun x => (x.1,ρ x.2)) = some c':=hc'
       have hls : len * s ≠ 0:=by have:=Nat.mul_pos (Nat.pos_of_ne_zero hl0) hs1; omega
       have hbig2 : ¬ (16777216 < len * s):=by omega
       have hrun : (execOp ρ o).run P w = .ok (.value (.slice (some ⟨w.heap.size,0,none⟩) len len)) (w.alloc (.cells c' e)):=by
        unfold execOp
        rw [hop]
        simp [Instr.buildSlice,run_underlying hu,run_szP hs,hbig2,hl0,show s ≠ 0 by omega,hzv,hc3,newRow]
        exact fun h0 => absurd h0 hls
       obtain ⟨w',hw'⟩ : ∃ w',w' = w.alloc (.cells c' e):=⟨_,rfl⟩
       have fx : ∀ B0,B0 ≤ w.heap.size → Fx B0 w w':=fun B0 hB => by
        rw [hw']
        exact ⟨rfl,rfl,rfl,by simp,fun b hb => heap_old w _ (Nat.lt_of_lt_of_le hb hB)⟩
       have hnew : w'.heap[w.heap.size]? = some (.cells c' e (0,0)):=by rw [hw']; exact heap_new w _
       have hsub : ∀ b c,S b = some c → frozenFrom S w.heap.size w' b = some c:=fun b c hs => by simp [frozenFrom,H.slt hs,hs]
       rw [← hw'] at hrun
       refine .inl ⟨_,w',hrun,frozenFrom S w.heap.size w',φ,?_,⟨H.later (fx _ (Nat.le_refl _)),Mp.le_refl _,fun b hb => by simp [frozenFrom,hb],fx _ H.bs,Nat.le_refl _,fun _ _ _ _ => rfl,fun _ _ _ hn => hn⟩⟩
       refine .cs _ s len row w.heap.size 0 len c' (fun j => c'.getD j undef) (by simp [frozenFrom,frozenAll_of hnew]) hrl (Nat.le_refl _) (fun j a ha => ?_) (fun j a ha => ?_)
       ·have hj:=(List.getElem?_eq_some_iff.1 ha).1
        rw [Nat.zero_add,Array.getD_eq_getD_getElem?,Array.getElem?_eq_getElem (by omega)]; rfl
       ·have hj:=(List.getElem?_eq_some_iff.1 ha).1
        have hu : c'.toList[j]? = some (c'.getD j undef):=by
         rw [Array.getElem?_toList,Array.getD_eq_getD_getElem?,Array.getElem?_eq_getElem (by omega)]; rfl
        exact ((hr'.2 j a _ ha hu).ofPure (pureGo hpure j a ha) Mp.no).mono hsub _ (Mp.le_refl _)
      ·cases hx
     ·cases hx
    ·cases hc
   ·cases hc
  ·cases hc
 |
  makeSlice t l c =>
  exfalso
  simp only [hop,cOp,Option.bind_eq_bind] at hc
  split at hc
  ·simp only [Option.bind_eq_some_iff] at hc
   obtain ⟨_,_,_,_,_,_,hc⟩:=hc
   split at hc
   ·simp only [Option.bind_eq_some_iff,Option.some.injEq] at hc
    obtain ⟨_,_,_,_,hc⟩:=hc
    cases hc
   ·cases hc
  ·cases hc
 |
  call c =>
  exfalso
  simp only [hop,cOp,Option.bind_eq_bind,Option.bind_eq_some_iff] at hc
  obtain ⟨as,has,hc⟩:=hc
  cases hcal : c.callee with
  | invoke r n => simp [hcal] at hc
  |
   value x =>
   cases x with
   | func f => simp only [hcal,Option.some.injEq] at hc; cases hc
   |
    _ =>
    simp only [hcal,Option.bind_eq_some_iff,Option.some.injEq] at hc
    obtain ⟨_,_,hc⟩:=hc; cases hc
  |
   builtin b =>
   cases b <;> simp only [hcal,reduceCtorEq] at hc
   case append =>
    split at hc
    ·simp only [Option.bind_eq_some_iff] at hc
     obtain ⟨_,_,_,_,hc⟩:=hc
     split at hc
     ·simp only [Option.bind_eq_some_iff] at hc
      obtain ⟨_,_,hc⟩:=hc
      split at hc <;> cases hc
     ·cases hc
    ·simp only [Option.bind_eq_some_iff] at hc
     obtain ⟨_,_,_,_,hc⟩:=hc
     split at hc
     ·simp only [Option.bind_eq_some_iff,Option.some.injEq] at hc
      obtain ⟨_,_,hc⟩:=hc; cases hc
     ·cases hc
    ·cases hc
   case copy =>
    split at hc
    ·simp only [Option.bind_eq_some_iff] at hc
     obtain ⟨_,_,hc⟩:=hc
     split at hc <;> cases hc
    ·cases hc
   case clear =>
    split at hc
    ·simp only [Option.bind_eq_some_iff] at hc
     obtain ⟨_,_,_,_,hc⟩:=hc
     split at hc <;> cases hc
    ·cases hc
   all_goals
    split at hc
    all_goals first
     | (cases hc; done)
     | (split at hc <;> cases hc; done)
 |
  _ =>
  exfalso
  rcases cOp_cls hc with ⟨p,hp⟩ | hm
  ·cases hp
  ·rw [hop] at hm
   first
    | (simp [memOp] at hm; done)
    | (simp only [hop,cOp] at hc; (repeat' split at hc) <;> first | (cases hc; done) | (simp [Option.bind_eq_some_iff] at hc; done))
    | (rename_i t r; cases r <;> simp only [hop,cOp,reduceCtorEq] at hc <;> (repeat' split at hc) <;> first | (cases hc; done) | (simp [Option.bind_eq_some_iff] at hc; done))
    | (
      rename_i t y lo hi mx
      rcases mx with _ | m9 <;> rcases lo with _ | l9 <;> rcases hi with _ | h9 <;>
       simp only [hop,cOp,Option.bind_eq_bind,reduceCtorEq] at hc <;> split at hc <;>
       (try split at hc) <;> simp only [Option.bind_eq_some_iff,Option.some.injEq,reduceCtorEq,and_false,exists_false] at hc; done)
    | (simp only [hop,cOp,Option.bind_eq_bind,Option.bind_eq_some_iff,Option.some.injEq,reduceCtorEq,and_false,exists_false] at hc)
theorem exOp_snd {call : Callee} (hcall : CallSnd P mode call) (H : HR P mode S φ B h w) (hρ : ∀ x y,cOpd x = some y → Rel S φ (τ y) (ρ x)) (hfunc : ∀ f,ρ (.func f) = .func (.func f) #[] #[]) {lim : Nat} (hlim : lim ≤ h.length) (pl : Option Nat) (hp : PlOk φ h pl) {o : Oper} {a0 a : AOp} (hc : cOp P m o.op = some a0) (hk : a0.kept = a.kept)
  {r : AV} {h' : List AO} (hx : exOp call lim pl τ h a = some (r,h')) : OpRun P (execOp ρ o) w (Fits P mode S φ B lim h w pl r h'):=by
 have wk : ∀ r h' v w',Fits P mode S φ B lim h w none r h' v w' → Fits P mode S φ B lim h w pl r h' v w':=fun r h' v w' ⟨S',φ',a,b⟩ => ⟨S',φ',a,b.wk pl⟩
 by_cases hlit : a.isLit = true
 ·exact lit_snd H hρ pl hc hk hlit hx
 have hlit : a.isLit = false:=by simpa using hlit
 by_cases ha : a.isCall = false
 ·obtain ⟨n,w',φ',h1,h2,h3⟩:=mem_snd H hρ pl hp hc hk ha hlit hx
  rcases h2 with ⟨rfl,rfl⟩ | ⟨v,rfl,hr⟩
  ·exact .inr (.inl ⟨w',h1,S,φ',Rel.undef,h3⟩)
  ·exact .inl ⟨v,w',h1,S,φ',hr,h3⟩
 ·have ha0 : a0.isCall = true:=by
   cases e : a0.isCall with
   | true => rfl
   | false => exact absurd (kept_call hk.symm e) ha
  obtain ⟨c,hop⟩:=cOp_call hc ha0
  unfold execOp
  rw [hop]
  simp only
  ·simp only [hop,cOp,Option.bind_eq_bind,Option.bind_eq_some_iff] at hc
   obtain ⟨as,has,hc⟩:=hc
   have q:=opds_snd hρ has
   cases hcal : c.callee with
   | invoke r n => simp [hcal] at hc
   |
    builtin b =>
    exfalso
    have : a0.isCall = false:=by
     cases b <;> simp only [hcal,reduceCtorEq] at hc
     case append =>
      split at hc
      ·simp only [Option.bind_eq_some_iff] at hc
       obtain ⟨_,_,_,_,hc⟩:=hc
       split at hc
       ·simp only [Option.bind_eq_some_iff] at hc
        obtain ⟨_,_,hc⟩:=hc
        split at hc <;> (simp only [Option.some.injEq] at hc; subst hc; rfl)
       ·cases hc
      ·simp only [Option.bind_eq_some_iff] at hc
       obtain ⟨_,_,_,_,hc⟩:=hc
       split at hc
       ·simp only [Option.bind_eq_some_iff,Option.some.injEq] at hc
        obtain ⟨_,_,rfl⟩:=hc; rfl
       ·cases hc
      ·cases hc
     case copy =>
      split at hc
      ·simp only [Option.bind_eq_some_iff] at hc
       obtain ⟨_,_,hc⟩:=hc
       split at hc
       ·simp only [Option.some.injEq] at hc; subst hc; rfl
       ·cases hc
      ·cases hc
     case clear =>
      split at hc
      ·simp only [Option.bind_eq_some_iff] at hc
       obtain ⟨_,_,_,_,hc⟩:=hc
       split at hc
       ·simp only [Option.some.injEq] at hc; subst hc; rfl
       ·cases hc
      ·cases hc
     all_goals
      split at hc
      all_goals first
       | (cases hc; done)
       | (simp only [Option.some.injEq] at hc; subst hc; rfl)
       | (split at hc <;> first | (cases hc; done) | (simp only [Option.some.injEq] at hc; subst hc; rfl))
    exact ha (kept_call hk.symm this)
   |
    value x =>
    have viaV : ∀ q' y,cOpd x = some y → a = .callv q' y as → OpRun P (do let d ← resolve ρ c o.type; invoke d.target d.args) w (Fits P mode S φ B lim h w pl r h'):=by
     rintro q' y hy rfl
     simp only [exOp] at hx
     exact callv_snd hcall H hcal q (hρ x y hy) hlim hx
    cases x with
    |
     tmp t =>
     simp only [hcal,Option.bind_eq_some_iff,Option.some.injEq] at hc
     obtain ⟨y,hy,rfl⟩:=hc
     exact viaV _ y hy (kept_callv hk)
    |
     const v =>
     simp only [hcal,Option.bind_eq_some_iff,Option.some.injEq] at hc
     obtain ⟨y,hy,rfl⟩:=hc
     exact viaV _ y hy (kept_callv hk)
    | global g => simp [hcal,cOpd] at hc
    |
     func f =>
     simp only [hcal,Option.some.injEq] at hc
     subst hc
     obtain rfl:=kept_callm hk
     have hrf : ρ (.func f) = .func (.func f) #[] #[]:=by
      have rf:=hρ (.func f) (.c (.fn f [] [])) rfl
      exact hfunc f
     have fin : (∀ w,(callFunc f (c.args.toList.map ρ).toArray).run P w = .ok (.enter f (c.args.toList.map ρ).toArray) w) ∧ Runs P (.enter f (c.args.toList.map ρ).toArray) w (Fits P mode S φ B lim h w pl r h') →
       OpRun P (do let d ← resolve ρ c o.type; invoke d.target d.args) w (Fits P mode S φ B lim h w pl r h'):=by
      rintro ⟨h1,h2⟩
      refine .inr (.inr ⟨_,?_,rfl,h2⟩)
      have e1 : (c.args.toList.map ρ).toArray = c.args.map ρ:=by apply Array.ext'; simp
      rw [e1] at h1
      rw [e1]
      simp [resolve,hcal,hrf,Deferred.ofValue,invoke,h1]
     simp only [exOp] at hx
     split at hx
     ·obtain ⟨h1,h2⟩:=hcall _ _ _ _ _ _ hx hlim S φ B w _ H q
      exact fin ⟨h1,h2.mono (wk _ _)⟩
     ·split at hx
      ·rename_i vs hvs
       split at hx
       ·rename_i r0 h0 hc0
        simp only [Option.map_eq_some_iff,Prod.mk.injEq] at hx
        obtain ⟨r1,hr1,rfl,rfl⟩:=hx
        exact fin (mode1_snd hcall H q hvs hc0 hr1)
       ·cases hx
      ·cases hx
     ·split at hx
      ·rename_i hpure
       split at hx
       ·rename_i r0 h0 hc0
        cases hx
        exact fin (mode2_snd hcall H q hpure hc0)
       ·cases hx
      ·rename_i hpure
       split at hx
       ·rename_i vs hvs
        split at hx
        ·rename_i r0 h0 hc0
         simp only [Option.map_eq_some_iff,Prod.mk.injEq] at hx
         obtain ⟨r1,hr1,rfl,rfl⟩:=hx
         exact fin (mode1_snd hcall H q hvs hc0 (by rw [show AV.pureV.go (List.map τ as) = false by simpa using hpure]; exact hr1))
        ·cases hx
       ·cases hx
     ·split at hx
      ·rename_i r0 h0 hc0
       split at hx
       ·rename_i hu
        cases hx
        exact fin (mode3_snd hcall H q hc0 hu)
       ·cases hx
      ·cases hx
end Go.Am
/-
What the abstract machine never came to it never looked at: an object that is not there may be anything.
-/
namespace Go.Am
open Go
set_option linter.unusedVariables false
set_option linter.unusedSimpArgs false
def FrameOk (call : Callee) : Prop:=∀ t args h lim r h',call t args h lim = some (r,h') → ∀ (s : Nat) X,h[s]? = some .tomb → call t args (h.set s X) lim = some (r,h'.set s X) ∧ h'[s]? = some .tomb
theorem get_set {h : List AO} {s o : Nat} {X a : AO} (hs : h[s]? = some .tomb) (ho : h[o]? = some a) (ha : a ≠ .tomb) : (h.set s X)[o]? = some a:=by
 have : s ≠ o:=by intro e; subst e; rw [hs] at ho; cases ho; exact ha rfl
 rw [List.getElem?_set_ne this]; exact ho
theorem row_set {h : List AO} {s o : Nat} {X : AO} {c : List AV} (hs : h[s]? = some .tomb) (ho : rowAt h o = some c) : rowAt (h.set s X) o = some c:=by
 unfold rowAt at ho ⊢
 simp only [Option.bind_eq_some_iff] at ho ⊢
 obtain ⟨a,ha,hc⟩:=ho
 exact ⟨a,get_set hs ha (by intro e; subst e; simp [AO.row?] at hc),hc⟩
theorem rowOf_set {h : List AO} {s : Nat} {X : AO} {x : AV} {c : List AV} (hs : h[s]? = some .tomb) (ho : rowOf h x = some c) : rowOf (h.set s X) x = some c:=by
 cases x with
 |
  ms e o off len =>
  simp only [rowOf] at ho ⊢
  cases hc : rowAt h o with
  | none => rw [hc] at ho; cases ho
  | some c' => rw [hc] at ho; rw [row_set hs hc]; exact ho
 |
  mr e o off len room =>
  simp only [rowOf] at ho ⊢
  cases hc : rowAt h o with
  | none => rw [hc] at ho; cases ho
  | some c' => rw [hc] at ho; rw [row_set hs hc]; exact ho
 | _ => simp only [rowOf] at ho ⊢; exact ho
theorem view_set {h : List AO} {s : Nat} {X : AO} (hs : h[s]? = some .tomb) {st : Bool} : ∀ (n : Nat) (a a' : AV),view st h n a = some a' → view st (h.set s X) n a = some a':=by
 intro n
 induction n with
 | zero => intro a a' ha; cases a <;> (simp only [view] at ha ⊢; exact ha)
 |
  succ n ih =>
  intro a a' ha
  have lists : ∀ (l l' : List AV),l.mapM (view st h n) = some l' → l.mapM (view st (h.set s X) n) = some l':=by
   intro l
   induction l with
   | nil => intro l' hl; simpa using hl
   |
    cons x l ihl =>
    intro l' hl
    simp only [List.mapM_cons,Option.bind_eq_bind,Option.bind_eq_some_iff,Option.pure_def,Option.some.injEq] at hl ⊢
    obtain ⟨y,hy,r,hr,rfl⟩:=hl
    exact ⟨y,ih _ _ hy,r,ihl _ hr,rfl⟩
  cases a with
  |
   agg c =>
   simp only [view,Option.map_eq_some_iff] at ha ⊢
   obtain ⟨l,hl,rfl⟩:=ha
   exact ⟨l,lists _ _ hl,rfl⟩
  |
   tup c =>
   simp only [view,Option.map_eq_some_iff] at ha ⊢
   obtain ⟨l,hl,rfl⟩:=ha
   exact ⟨l,lists _ _ hl,rfl⟩
  |
   ms e o off len =>
   simp only [view] at ha ⊢
   split at ha
   ·rename_i x hx
    rw [rowOf_set hs hx]
    simp only [Option.map_eq_some_iff] at ha ⊢
    obtain ⟨l,hl,rfl⟩:=ha
    exact ⟨l,lists _ _ hl,rfl⟩
   ·cases ha
  |
   mr e o off len room =>
   simp only [view] at ha ⊢
   split at ha
   ·rename_i x hx
    rw [rowOf_set hs hx]
    simp only [Option.map_eq_some_iff] at ha ⊢
    obtain ⟨l,hl,rfl⟩:=ha
    exact ⟨l,lists _ _ hl,rfl⟩
   ·cases ha
  |
   fn f x y =>
   simp only [view] at ha ⊢
   split at ha
   ·rename_i x' y' ex ey
    rw [lists _ _ ex,lists _ _ ey]; exact ha
   ·cases ha
  | _ => simp only [view] at ha ⊢; exact ha
theorem views_set {h : List AO} {s : Nat} {X : AO} (hs : h[s]? = some .tomb) {st : Bool} {n : Nat} : ∀ (l l' : List AV),l.mapM (view st h n) = some l' → l.mapM (view st (h.set s X) n) = some l'
 | [],l',hl => by simpa using hl
 |
  x :: l,l',hl => by
  simp only [List.mapM_cons,Option.bind_eq_bind,Option.bind_eq_some_iff,Option.pure_def,Option.some.injEq] at hl ⊢
  obtain ⟨y,hy,r,hr,rfl⟩:=hl
  exact ⟨y,view_set hs _ _ _ hy,r,views_set hs l r hr,rfl⟩
theorem set_comm' {h : List AO} {s i : Nat} {X Y : AO} (h' : s ≠ i) : (h.set s X).set i Y = (h.set i Y).set s X:=(List.set_comm X Y h')
theorem newObj'_set {h : List AO} {s : Nat} {X a : AO} (pl : Option Nat) (hs : h[s]? = some .tomb) (hp : pl ≠ some s) : newObj' pl (h.set s X) a = (newObj' pl h a).set s X ∧ (newObj' pl h a)[s]? = some .tomb:=by
 have hl:=(List.getElem?_eq_some_iff.1 hs).1
 cases pl with
 |
  none =>
  simp only [newObj']
  rw [List.set_append_left _ _ hl,List.getElem?_append_left hl]
  exact ⟨rfl,hs⟩
 |
  some i =>
  have : s ≠ i:=by intro e; subst e; exact hp rfl
  simp only [newObj']
  exact ⟨set_comm' this,by rw [List.getElem?_set_ne (Ne.symm this)]; exact hs⟩
theorem newAt_set {h : List AO} {s : Nat} {X : AO} {c : List AV} (pl : Option Nat) (hs : h[s]? = some .tomb) (hp : pl ≠ some s) : newAt pl (h.set s X) c = (newAt pl h c).set s X ∧ (newAt pl h c)[s]? = some .tomb:=by
 have h1 : ∀ h,newAt pl h c = newObj' pl h (.cells c false):=fun h => by cases pl <;> rfl
 rw [h1,h1]; exact newObj'_set pl hs hp
theorem putR_set {lim : Nat} {h h' : List AO} {o off s : Nat} {xs : List AV} {X : AO} (hs : h[s]? = some .tomb) (hx : putR lim h o off xs = some h') : putR lim (h.set s X) o off xs = some (h'.set s X) ∧ h'[s]? = some .tomb:=by
 unfold putR at hx ⊢
 split at hx
 ·rename_i c hc
  rw [get_set hs hc (by simp)]
  simp only
  split at hx
  ·rename_i hif
   cases hx
   have : s ≠ o:=by intro e; subst e; rw [hs] at hc; cases hc
   rw [if_pos hif,set_comm' this]
   exact ⟨rfl,by rw [List.getElem?_set_ne (Ne.symm this)]; exact hs⟩
  ·cases hx
 ·cases hx
theorem wex_set {lim : Nat} {ρ : Opd → AV} {h : List AO} {o : WOp} {v : AV} {h' : List AO} {s : Nat} {X : AO} (hs : h[s]? = some .tomb) (hx : wex lim ρ h o = some (v,h')) : wex lim ρ (h.set s X) o = some (v,h'.set s X) ∧ h'[s]? = some .tomb:=by
 cases o with
 |
  app e d x r =>
  simp only [wex] at hx ⊢
  split at hx
  ·rename_i e2 o off len room n xs h1 h2 h3
   simp only [h1,h2,rowOf_set hs h3]
   split at hx
   ·rename_i hif
    rw [if_pos hif]
    split at hx
    ·rename_i hn
     cases hx
     rw [if_pos hn]; exact ⟨by simp [h1],hs⟩
    ·rename_i hn
     rw [if_neg hn]
     simp only [Option.map_eq_some_iff,Prod.mk.injEq] at hx
     obtain ⟨g,hg,rfl,rfl⟩:=hx
     obtain ⟨g1,g2⟩:=putR_set (X:=X) hs hg
     exact ⟨by simp [g1],g2⟩
   ·cases hx
  ·cases hx
 |
  cpy e d x =>
  simp only [wex] at hx ⊢
  split at hx
  ·rename_i k n xs h1 h2 h3
   simp only [h1,h2,rowOf_set hs h3]
   split at hx
   ·rename_i hif
    rw [if_pos hif]
    split at hx
    ·rename_i hn
     cases hx
     rw [if_pos hn]; exact ⟨rfl,hs⟩
    ·rename_i hn
     rw [if_neg hn]
     split at hx
     ·rename_i e2 o off l2 h4
      try simp only [h4]
      split at hx
      ·rename_i he
       rw [if_pos he]
       simp only [Option.map_eq_some_iff,Prod.mk.injEq] at hx
       obtain ⟨g,hg,rfl,rfl⟩:=hx
       obtain ⟨g1,g2⟩:=putR_set (X:=X) hs hg
       exact ⟨by simp [g1],g2⟩
      ·cases hx
     ·cases hx
   ·cases hx
  ·cases hx
 |
  mln x =>
  simp only [wex] at hx ⊢
  split at hx
  ·rename_i ks es hes
   cases hx
   have : getMap (h.set s X) (ρ x) = some (ks,es):=by
    unfold getMap at hes ⊢
    split at hes
    ·rename_i o eo
     split at hes
     ·rename_i ks' es' ho
      cases hes
      have hne : s ≠ o:=by intro e; subst e; rw [hs] at ho; cases ho
      simp only [List.getElem?_set_ne hne,ho]
     ·cases hes
    ·cases hes
   simp only [this]; exact ⟨trivial,hs⟩
  ·cases hx
 |
  clr e z x =>
  simp only [wex] at hx ⊢
  split at hx
  ·rename_i k h1
   try simp only [h1]
   split at hx
   ·rename_i hn
    cases hx
    rw [if_pos hn]; exact ⟨rfl,hs⟩
   ·rename_i hn
    rw [if_neg hn]
    split at hx
    ·rename_i e2 o off l2 h4
     try simp only [h4]
     split at hx
     ·rename_i he
      rw [if_pos he]
      simp only [Option.map_eq_some_iff,Prod.mk.injEq] at hx
      obtain ⟨g,hg,rfl,rfl⟩:=hx
      obtain ⟨g1,g2⟩:=putR_set (X:=X) hs hg
      exact ⟨by simp [g1],g2⟩
     ·cases hx
    ·cases hx
  ·cases hx
theorem exOp_frame {call : Callee} (hcall : FrameOk call) {lim : Nat} {pl : Option Nat} {ρ : Opd → AV} {h : List AO} {op : AOp} {v : AV} {h' : List AO} (hx : exOp call lim pl ρ h op = some (v,h')) {s : Nat} (X : AO) (hs : h[s]? = some .tomb) (hp : pl ≠ some s) :
  exOp call lim pl ρ (h.set s X) op = some (v,h'.set s X) ∧ h'[s]? = some .tomb:=by
 have hl:=(List.getElem?_eq_some_iff.1 hs).1
 have hlen : (h.set s X).length = h.length:=by simp
 cases op with
 | w o => exact wex_set hs hx
 |
  p o =>
  simp only [exOp,Option.map_eq_some_iff,Prod.mk.injEq] at hx ⊢
  obtain ⟨u,hu,rfl,rfl⟩:=hx
  exact ⟨⟨u,hu,rfl,rfl⟩,hs⟩
 |
  sliceA n e x hm =>
  simp only [exOp] at hx ⊢
  split at hx
  ·rename_i o off ho
   try simp only [ho]
   split at hx
   ·rename_i c hc
    rw [row_set hs hc]
    simp only
    split at hx
    ·rename_i hfit
     simp only [Option.map_eq_some_iff,Prod.mk.injEq] at hx
     obtain ⟨u,hu,rfl,rfl⟩:=hx
     rw [if_pos hfit]
     exact ⟨by simp [hu],hs⟩
    ·cases hx
   ·cases hx
  ·cases hx
 |
  makeMap ks =>
  simp only [exOp,Option.some.injEq,Prod.mk.injEq] at hx ⊢
  obtain ⟨rfl,rfl⟩:=hx
  obtain ⟨g1,g2⟩:=newObj'_set (X:=X) (a:=.mpo ks []) pl hs hp
  exact ⟨⟨by rw [hlen],g1⟩,g2⟩
 |
  mapGet kt z ok m k =>
  simp only [exOp] at hx ⊢
  split at hx
  ·rename_i ks es hes
   have : getMap (h.set s X) (ρ m) = some (ks,es):=by
    unfold getMap at hes ⊢
    split at hes
    ·rename_i o eo
     split at hes
     ·rename_i ks' es' ho
      simp only [Option.some.injEq,Prod.mk.injEq] at hes
      obtain ⟨rfl,rfl⟩:=hes
      rw [get_set hs ho (by simp)]
     ·cases hes
    ·cases hes
   rw [this]
   simp only [Option.map_eq_some_iff,Prod.mk.injEq] at hx ⊢
   obtain ⟨u,hu,rfl,rfl⟩:=hx
   exact ⟨⟨u,hu,rfl,rfl⟩,hs⟩
  ·cases hx
 |
  mapSet kt m k x rs =>
  simp only [exOp] at hx ⊢
  split at hx
  ·rename_i o ho
   try simp only [ho]
   split at hx
   ·rename_i ks es hc
    rw [get_set hs hc (by simp)]
    simp only
    split at hx
    ·rename_i n hn
     try simp only [hn]
     split at hx
     ·rename_i hcc
      cases hx
      rw [if_pos hcc]
      have : s ≠ o:=by intro e; subst e; rw [hs] at hc; cases hc
      rw [set_comm' this]
      exact ⟨rfl,by rw [List.getElem?_set_ne (Ne.symm this)]; exact hs⟩
     ·cases hx
    ·cases hx
   ·cases hx
  ·cases hx
 |
  load ag size a =>
  simp only [exOp] at hx ⊢
  split at hx
  ·rename_i o off ho
   try simp only [ho]
   split at hx
   ·rename_i c hc
    simp only [Option.map_eq_some_iff,Prod.mk.injEq] at hx
    obtain ⟨u,hu,rfl,rfl⟩:=hx
    rw [row_set hs hc]
    exact ⟨by simp [hu],hs⟩
   ·cases hx
  ·rename_i c ho
   try simp only [ho]
   simp only [Option.map_eq_some_iff,Prod.mk.injEq] at hx ⊢
   obtain ⟨u,hu,rfl,rfl⟩:=hx
   exact ⟨⟨u,hu,rfl,rfl⟩,hs⟩
  ·cases hx
 |
  store size a x =>
  simp only [exOp] at hx ⊢
  split at hx
  ·rename_i o off ho
   try simp only [ho]
   split at hx
   ·rename_i c hc
    rw [get_set hs hc (by simp)]
    simp only
    split at hx
    ·rename_i hcc
     cases hx
     rw [if_pos hcc]
     have : s ≠ o:=by intro e; subst e; rw [hs] at hc; cases hc
     rw [set_comm' this]
     exact ⟨rfl,by rw [List.getElem?_set_ne (Ne.symm this)]; exact hs⟩
    ·cases hx
   ·cases hx
  ·cases hx
 |
  loadN ag size a rs =>
  obtain ⟨hx1,e2⟩:=loadN_load hx
  suffices q : exOp call lim pl ρ (h.set s X) (.load ag size a) = some (v,h'.set s X) ∧ h'[s]? = some .tomb from ⟨loadN_of q.1 e2,q.2⟩
  simp only [exOp] at hx1 ⊢
  split at hx1
  ·rename_i o off e1
   try simp only [e1]
   split at hx1
   ·rename_i c hc
    simp only [Option.map_eq_some_iff,Prod.mk.injEq] at hx1
    obtain ⟨u,hu,rfl,rfl⟩:=hx1
    rw [row_set hs hc]
    exact ⟨by simp [hu],hs⟩
   ·cases hx1
  ·rename_i c e1
   try simp only [e1]
   simp only [Option.map_eq_some_iff,Prod.mk.injEq] at hx1
   obtain ⟨u,hu,rfl,rfl⟩:=hx1
   exact ⟨by simp [hu],hs⟩
  ·cases hx1
 |
  loadR ag size a r =>
  obtain ⟨hx1,o,off,e1,e2⟩:=loadR_load hx
  suffices q : exOp call lim pl ρ (h.set s X) (.load ag size a) = some (v,h'.set s X) ∧ h'[s]? = some .tomb from ⟨loadR_of q.1 e1 e2,q.2⟩
  simp only [exOp,e1] at hx1 ⊢
  split at hx1
  ·rename_i c hc
   simp only [Option.map_eq_some_iff,Prod.mk.injEq] at hx1
   obtain ⟨u,hu,rfl,rfl⟩:=hx1
   rw [row_set hs hc]
   exact ⟨by simp [hu],hs⟩
  ·cases hx1
 |
  storeR size a x rs =>
  obtain ⟨hx1,o,off,e1,e2⟩:=storeR_store hx
  suffices q : exOp call lim pl ρ (h.set s X) (.store size a x) = some (v,h'.set s X) ∧ h'[s]? = some .tomb from ⟨storeR_of q.1 e1 e2,q.2⟩
  simp only [exOp,e1] at hx1 ⊢
  split at hx1
  ·rename_i c hc
   rw [get_set hs hc (by simp)]
   simp only
   split at hx1
   ·rename_i hcc
    cases hx1
    rw [if_pos hcc]
    have : s ≠ o:=by intro e; subst e; rw [hs] at hc; cases hc
    rw [set_comm' this]
    exact ⟨rfl,by rw [List.getElem?_set_ne (Ne.symm this)]; exact hs⟩
   ·cases hx1
  ·cases hx1
 |
  alloc z =>
  simp only [exOp] at hx ⊢
  cases hx
  rw [hlen,(newAt_set (X:=X) pl hs hp).1]; exact ⟨rfl,(newAt_set (X:=X) pl hs hp).2⟩
 |
  box x =>
  simp only [exOp] at hx ⊢
  cases hx
  rw [hlen,(newAt_set (X:=X) pl hs hp).1]; exact ⟨rfl,(newAt_set (X:=X) pl hs hp).2⟩
 |
  buildSlice e n z ps =>
  simp only [exOp,Option.map_eq_some_iff,Prod.mk.injEq] at hx ⊢
  obtain ⟨c,hc,rfl,rfl⟩:=hx
  exact ⟨⟨c,hc,by rw [hlen],(newAt_set (X:=X) pl hs hp).1⟩,(newAt_set (X:=X) pl hs hp).2⟩
 |
  litS e n z ps =>
  simp only [exOp] at hx ⊢
  split at hx
  ·split at hx
   ·rename_i hq; cases hx; rw [if_pos hq]; exact ⟨rfl,hs⟩
   ·cases hx
  ·cases hx
 |
  makeSlice rm e eb z l c =>
  simp only [exOp] at hx ⊢
  split at hx
  ·rename_i k1 n1 k2 n2 h1 h2
   try simp only [h1,h2]
   split at hx
   ·rename_i hcc
    cases hx
    rw [if_pos hcc,hlen,(newAt_set (X:=X) pl hs hp).1]; exact ⟨rfl,(newAt_set (X:=X) pl hs hp).2⟩
   ·cases hx
  ·cases hx
 |
  append keep e eb a x =>
  simp only [exOp] at hx ⊢
  split at hx
  ·rename_i sl n xs h1 h2 h3
   simp only [h1,h2,rowOf_set hs h3]
   split at hx
   ·rename_i hxl
    rw [if_pos hxl]
    split at hx
    ·rename_i hn
     cases hx
     rw [if_pos hn]; exact ⟨rfl,hs⟩
    ·rename_i hn
     rw [if_neg hn]
     split at hx
     ·rename_i hcc
      rw [if_pos hcc]
      split at hx
      ·rename_i h4
       try simp only [h4]
       cases hx
       rw [hlen,(newAt_set (X:=X) pl hs hp).1]; exact ⟨rfl,(newAt_set (X:=X) pl hs hp).2⟩
      ·rename_i e' o off len h4
       try simp only [h4]
       split at hx
       ·rename_i c sh hc
        rw [get_set hs hc (by simp)]
        simp only
        split at hx
        ·rename_i hc2
         cases hx
         rw [if_pos hc2,hlen]
         have : s ≠ o:=by intro e; subst e; rw [hs] at hc; cases hc
         rw [set_comm' this]
         have hs2 : (h.set o (if keep then AO.ro c else .tomb))[s]? = some .tomb:=by rw [List.getElem?_set_ne (Ne.symm this)]; exact hs
         have:=newObj'_set (X:=X) (a:=AO.cells (c.take (len * e) ++ xs) ((keep && len != 0) || sh)) pl hs2 hp
         rw [this.1]; exact ⟨rfl,this.2⟩
        ·cases hx
       ·cases hx
      ·rename_i e' o off len h4
       try simp only [h4]
       split at hx
       ·rename_i c hc
        rw [row_set hs hc]
        simp only
        split at hx
        ·rename_i hc2
         cases hx
         rw [if_pos hc2,hlen]
         have:=newObj'_set (X:=X) (a:=AO.cells (c.take (len * e) ++ xs) false) pl hs hp
         rw [this.1]; exact ⟨rfl,this.2⟩
        ·cases hx
       ·cases hx
      ·cases hx
     ·cases hx
   ·cases hx
  ·cases hx
 |
  appendZ e eb z a x =>
  simp only [exOp] at hx ⊢
  split at hx
  ·rename_i n h1 h2
   try simp only [h1,h2]
   split at hx
   ·rename_i hcc
    cases hx
    rw [if_pos hcc,hlen,(newAt_set (X:=X) pl hs hp).1]; exact ⟨rfl,(newAt_set (X:=X) pl hs hp).2⟩
   ·cases hx
  ·cases hx
 |
  call mode f as =>
  simp only [exOp] at hx ⊢
  split at hx
  ·obtain ⟨g1,g2⟩:=hcall _ _ _ _ _ _ hx s X hs
   exact ⟨g1,g2⟩
  ·split at hx
   ·rename_i vs hvs
    have hvs':=views_set (X:=X) hs _ _ hvs
    rw [hvs']
    simp only
    split at hx
    ·rename_i r0 h0 hc0
     simp only [Option.map_eq_some_iff,Prod.mk.injEq] at hx
     obtain ⟨r1,hr1,rfl,rfl⟩:=hx
     exact ⟨by simp [hr1],hs⟩
    ·cases hx
   ·cases hx
  ·split at hx
   ·rename_i hp1
    rw [if_pos hp1]
    split at hx
    ·rename_i r0 h0 hc0
     cases hx
     rw [hlen]
     exact ⟨by rw [List.set_append_left _ _ hl],by rw [List.getElem?_append_left hl]; exact hs⟩
    ·cases hx
   ·rename_i hp1
    rw [if_neg hp1]
    split at hx
    ·rename_i vs hvs
     have hvs':=views_set (X:=X) hs _ _ hvs
     rw [hvs']
     simp only
     split at hx
     ·rename_i r0 h0 hc0
      simp only [Option.map_eq_some_iff,Prod.mk.injEq] at hx
      obtain ⟨r1,hr1,rfl,rfl⟩:=hx
      exact ⟨by simp [hr1],hs⟩
     ·cases hx
    ·cases hx
  ·split at hx
   ·rename_i r0 h0 hc0
    split at hx
    ·rename_i hu
     cases hx
     obtain ⟨g1,g2⟩:=hcall _ _ _ _ _ _ hc0 s X hs
     rw [hlen,g1]
     exact ⟨by simp [hu],hs⟩
    ·cases hx
   ·cases hx
 |
  callv q f as =>
  simp only [exOp] at hx ⊢
  split at hx
  ·rename_i g a b h1
   try simp only [h1]
   cases q
   ·exact hcall _ _ _ _ _ _ hx s X hs
   ·simp only [if_true] at hx ⊢
    split at hx
    ·rename_i r0 h0 hc0
     split at hx
     ·rename_i hu
      cases hx
      obtain ⟨g1,g2⟩:=hcall _ _ _ _ _ _ hc0 s X hs
      rw [hlen,g1]
      exact ⟨by simp [hu],hs⟩
     ·cases hx
    ·cases hx
  ·rename_i o h1
   try simp only [h1]
   cases q
   ·exact hcall _ _ _ _ _ _ hx s X hs
   ·simp at hx
  ·cases hx
theorem hide_len (base : Nat) : ∀ (m : List Nat) (h : List AO),(hide base m h).length = h.length
 | [],h => rfl
 | s :: r,h => by simp [hide,hide_len base r h]
theorem hide_get (base : Nat) : ∀ (m : List Nat) (h : List AO) (q : Nat),(hide base m h)[q]? = if q < h.length ∧ (∃ s ∈ m,base + s = q) then some .tomb else h[q]?
 | [],h,q => by simp [hide]
 |
  s :: r,h,q => by
  simp only [hide,List.getElem?_set,hide_len,hide_get base r h q]
  by_cases e : base + s = q
  ·subst e
   by_cases hq : base + s < h.length
   ·simp [hq]
   ·simp [hq]
  ·simp [e]
theorem unhide_len (base : Nat) (h : List AO) : ∀ (m : List Nat) (g : List AO),(unhide base h m g).length = g.length
 | [],g => rfl
 | s :: r,g => by simp [unhide,unhide_len base h r g]
theorem unhide_get (base : Nat) (h : List AO) : ∀ (m : List Nat) (g : List AO) (q : Nat),(unhide base h m g)[q]? = if q < g.length ∧ (∃ s ∈ m,base + s = q) then some (h.getD q .tomb) else g[q]?
 | [],g,q => by simp [unhide]
 |
  s :: r,g,q => by
  simp only [unhide,List.getElem?_set,unhide_len,unhide_get base h r g q]
  by_cases e : base + s = q
  ·subst e
   by_cases hq : base + s < g.length
   ·simp [hq]
   ·simp [hq]
  ·simp [e]
theorem exMask_open {call : Callee} (hcall : FrameOk call) {lim base : Nat} {pl : Option Nat} {ρ : Opd → AV} {h : List AO} {op : AOp} : ∀ (m : List Nat) {v : AV} {h' : List AO},(∀ s ∈ m,base + s < h.length ∧ pl ≠ some (base + s)) →
  exOp call lim pl ρ (hide base m h) op = some (v,h') → exOp call lim pl ρ h op = some (v,unhide base h m h') ∧ ∀ s ∈ m,base + s < h'.length
 | [],v,h',_,hx => ⟨hx,fun s hs => by cases hs⟩
 |
  s :: r,v,h',hm,hx => by
  have hp:=hm s (by simp)
  have htomb : (hide base (s :: r) h)[base + s]? = some .tomb:=by rw [hide_get,if_pos ⟨hp.1,s,by simp,rfl⟩]
  obtain ⟨X,hX⟩ : ∃ X,(hide base r h)[base + s]? = some X:=⟨_,List.getElem?_eq_getElem (by rw [hide_len]; exact hp.1)⟩
  obtain ⟨g1,g2⟩:=exOp_frame hcall hx X htomb hp.2
  have hl' : base + s < h'.length:=(List.getElem?_eq_some_iff.1 g2).1
  have e1 : (hide base (s :: r) h).set (base + s) X = hide base r h:=by
   apply List.ext_getElem?
   intro q
   simp only [hide,List.set_set]
   by_cases e : base + s = q
   ·subst e; rw [List.getElem?_set_self (by rw [hide_len]; exact hp.1),hX]
   ·rw [List.getElem?_set_ne e]
  rw [e1] at g1
  obtain ⟨k1,k2⟩:=exMask_open hcall r (fun t ht => hm t (by simp [ht])) g1
  refine ⟨?_,fun t ht => ?_⟩
  ·rw [k1]
   congr 2
   apply List.ext_getElem?
   intro q
   rw [unhide_get,unhide_get]
   simp only [List.length_set,List.mem_cons,exists_eq_or_imp]
   by_cases e : base + s = q
   ·subst e
    simp only [hl',true_or,and_self,if_true]
    by_cases hr : ∃ t ∈ r,base + t = base + s
    ·obtain ⟨t,ht,e⟩:=hr
     have : t = s:=by omega
     subst this; simp [ht]
    ·simp only [hr,if_false]
     rw [List.getElem?_set_self hl']
     rw [hide_get] at hX
     rw [if_neg (by intro hh; exact hr hh.2)] at hX
     simp [hX]
   ·simp only [e,false_or]
    rw [List.getElem?_set_ne e]
  ·rcases List.mem_cons.1 ht with rfl | ht
   ·exact hl'
   ·have:=k2 t ht; simpa using this
end Go.Am
/-
The same of code and of calls.
-/
namespace Go.Am
open Go
set_option linter.unusedVariables false
set_option linter.unusedSimpArgs false
theorem exOper_frame {call : Callee} (hcall : FrameOk call) {lim base : Nat} {ts : List AV} {h : List AO} {o : AOper} {v : AV} {h' : List AO} (hx : exOper call lim base ts h o = some (v,h')) {s : Nat} (X : AO) (hs : h[s]? = some .tomb) (hb : s < base) :
  exOper call lim base ts (h.set s X) o = some (v,h'.set s X) ∧ h'[s]? = some .tomb:=by
 have masks : ∀ (pl : Option Nat) (op : AOp) (m : List Nat) (v : AV) (h' : List AO),pl ≠ some s → exMask call lim base pl (Opd.ev ts) h op m = some (v,h') →
   exMask call lim base pl (Opd.ev ts) (h.set s X) op m = some (v,h'.set s X) ∧ h'[s]? = some .tomb:=by
  intro pl op m v h' hp hm
  cases m with
  | nil => simp only [exMask] at hm ⊢; exact exOp_frame hcall hm X hs hp
  |
   cons t r =>
   simp only [exMask] at hm ⊢
   split at hm
   ·rename_i v0 h0 h1
    cases hm
    have e1 : hide base (t :: r) (h.set s X) = (hide base (t :: r) h).set s X:=by
     apply List.ext_getElem?
     intro q
     rw [hide_get,List.getElem?_set,List.getElem?_set,hide_get,hide_len]
     by_cases e : s = q
     ·subst e
      have : ¬ ∃ x ∈ t :: r,base + x = s:=by rintro ⟨x,_,hx⟩; omega
      simp only [List.length_set,this,and_false,if_false]
     ·simp only [e,if_false,List.length_set]
    have htomb : (hide base (t :: r) h)[s]? = some .tomb:=by
     rw [hide_get]; split
     ·rfl
     ·exact hs
    obtain ⟨g1,g2⟩:=exOp_frame hcall h1 X htomb hp
    rw [e1,g1]
    simp only [Option.some.injEq,Prod.mk.injEq,true_and]
    refine ⟨?_,?_⟩
    ·apply List.ext_getElem?
     intro q
     rw [unhide_get,List.getElem?_set,List.getElem?_set,unhide_get,unhide_len]
     by_cases e : s = q
     ·subst e
      have : ¬ ∃ x ∈ t :: r,base + x = s:=by rintro ⟨x,_,hx⟩; omega
      simp only [List.length_set,this,and_false,if_false]
     ·simp only [e,if_false,List.length_set,List.getD_eq_getElem?_getD,List.getElem?_set_ne e]
    ·rw [unhide_get,if_neg]
     ·exact g2
     ·rintro ⟨_,x,_,hx⟩; omega
   ·cases hm
 unfold exOper at hx ⊢
 split at hx
 ·rename_i t size a x ho hop
  try simp only [ho,hop]
  split at hx
  ·rename_i p off hp
   try simp only [hp]
   split at hx
   ·rename_i hpe
    rw [if_pos hpe]
    exact exOp_frame hcall hx X hs (by simp)
   ·cases hx
  ·cases hx
 ·rename_i t m k x rs ho hop
  try simp only [ho,hop]
  split at hx
  ·rename_i p hp
   try simp only [hp]
   split at hx
   ·rename_i hpe
    rw [if_pos hpe]
    exact exOp_frame hcall hx X hs (by simp)
   ·cases hx
  ·cases hx
 ·rename_i sl op hn
  have key:=masks (o.slot.map (base + ·)) o.op o.mask v h' (by
   cases e : o.slot with
   | none => simp
   | some t => simp; omega) (by exact hx)
  exact key
theorem stepOp_frame {call : Callee} (hcall : FrameOk call) {lim base : Nat} {ts : List AV} {h : List AO} {o : AOper} {ts' : List AV} {h' : List AO} (hx : stepOp call lim base o ts h = some (ts',h')) {s : Nat} (X : AO) (hs : h[s]? = some .tomb) (hb : s < base) :
  stepOp call lim base o ts (h.set s X) = some (ts',h'.set s X) ∧ h'[s]? = some .tomb:=by
 unfold stepOp at hx ⊢
 split at hx
 ·rename_i hw
  rw [if_pos hw]
  split at hx
  ·rename_i v h1 he
   cases hx
   obtain ⟨g1,g2⟩:=exOper_frame hcall he X hs hb
   rw [g1]; exact ⟨rfl,g2⟩
  ·cases hx
 ·rename_i hw
  rw [if_neg hw]
  cases hx
  exact ⟨rfl,hs⟩
theorem evOps_frame {call : Callee} (hcall : FrameOk call) {lim base : Nat} {s : Nat} (X : AO) (hb : s < base) : ∀ (os : List AOper) (ts : List AV) (h : List AO) (ts' : List AV) (h' : List AO),evOps call lim base os ts h = some (ts',h') → h[s]? = some .tomb →
  evOps call lim base os ts (h.set s X) = some (ts',h'.set s X) ∧ h'[s]? = some .tomb
 | [],ts,h,ts',h',hx,hs => by simp only [evOps] at hx ⊢; cases hx; exact ⟨rfl,hs⟩
 |
  o :: r,ts,h,ts',h',hx,hs => by
  simp only [evOps] at hx ⊢
  split at hx
  ·rename_i t1 h1 he
   obtain ⟨g1,g2⟩:=stepOp_frame hcall he X hs hb
   rw [g1]
   exact evOps_frame hcall X hb r t1 h1 ts' h' hx g2
  ·cases hx
def St.setH (st : St) (s : Nat) (X : AO) : St:={ st with heap:=st.heap.set s X }
theorem iter_frame {s : Nat} {X : AO} {f : St → Option (Ex × St)} (hf : ∀ st ex st',f st = some (ex,st') → st.heap[s]? = some .tomb → f (st.setH s X) = some (ex,st'.setH s X) ∧ st'.heap[s]? = some .tomb) :
  ∀ (n : Nat) (st : St) (ex : Ex) (st' : St),iter f n st = some (ex,st') → st.heap[s]? = some .tomb → iter f n (st.setH s X) = some (ex,st'.setH s X) ∧ st'.heap[s]? = some .tomb
 | 0,st,ex,st',hx,_ => by simp [iter] at hx
 |
  n + 1,st,ex,st',hx,hs => by
  simp only [iter] at hx ⊢
  cases hfs : f st with
  | none => rw [hfs] at hx; cases hx
  |
   some y =>
   obtain ⟨e1,s1⟩:=y
   obtain ⟨g1,g2⟩:=hf st e1 s1 hfs hs
   rw [hfs] at hx; rw [g1]
   cases e1 with
   | nrm => exact iter_frame hf n s1 ex st' hx g2
   | exit id => cases hx; exact ⟨rfl,g2⟩
   | ret => cases hx; exact ⟨rfl,g2⟩
theorem evCode_frame {call : Callee} (hcall : FrameOk call) {lim n : Nat} {rnd : Option Nat} {fid : Nat} {s : Nat} (X : AO) : ∀ (c : ACode) (st : St) (ex : Ex) (st' : St),evCode call lim n rnd fid c st = some (ex,st') → st.heap[s]? = some .tomb →
  evCode call lim n rnd fid c (st.setH s X) = some (ex,st'.setH s X) ∧ st'.heap[s]? = some .tomb
 | .skip,st,ex,st',hx,hs => by simp only [evCode] at hx ⊢; cases hx; exact ⟨rfl,hs⟩
 | .exit id,st,ex,st',hx,hs => by simp only [evCode] at hx ⊢; cases hx; exact ⟨rfl,hs⟩
 | .ret,st,ex,st',hx,hs => by simp only [evCode] at hx ⊢; cases hx; exact ⟨rfl,hs⟩
 | .scope c,st,ex,st',hx,hs => by simp only [evCode] at hx ⊢; exact evCode_frame hcall X c st ex st' hx hs
 |
  .loop c,st,ex,st',hx,hs => by
  simp only [evCode] at hx ⊢
  exact iter_frame (fun st ex st' h1 h2 => evCode_frame hcall X c st ex st' h1 h2) n st ex st' hx hs
 |
  .region k os,st,ex,st',hx,hs => by
  simp only [evCode] at hx ⊢
  have hl:=(List.getElem?_eq_some_iff.1 hs).1
  split at hx
  ·rename_i ts h1 he
   cases hx
   obtain ⟨g1,g2⟩:=evOps_frame hcall X hl os st.tmps _ ts h1 he (by rw [List.getElem?_append_left hl]; exact hs)
   rw [List.set_append_left _ _ hl] at g1
   simp only [St.setH,List.length_set,g1]
   exact ⟨by first | rfl | trivial,g2⟩
  ·cases hx
 |
  .seq a b,st,ex,st',hx,hs => by
  simp only [evCode] at hx ⊢
  cases hfs : evCode call lim n rnd fid a st with
  | none => rw [hfs] at hx; cases hx
  |
   some y =>
   obtain ⟨e1,s1⟩:=y
   obtain ⟨g1,g2⟩:=evCode_frame hcall X a st e1 s1 hfs hs
   rw [hfs] at hx; rw [g1]
   cases e1 with
   | nrm => exact evCode_frame hcall X b s1 ex st' hx g2
   | exit id => cases hx; exact ⟨rfl,g2⟩
   | ret => cases hx; exact ⟨rfl,g2⟩
 |
  .cond c a b,st,ex,st',hx,hs => by
  simp only [evCode] at hx ⊢
  have e0 : (st.setH s X).tmps = st.tmps:=rfl
  rw [e0]
  split at hx
  ·exact evCode_frame hcall X a st ex st' hx hs
  ·exact evCode_frame hcall X b st ex st' hx hs
  ·cases hx
 |
  .block id c,st,ex,st',hx,hs => by
  simp only [evCode] at hx ⊢
  cases hfs : evCode call lim n rnd fid c st with
  | none => rw [hfs] at hx; cases hx
  |
   some y =>
   obtain ⟨e1,s1⟩:=y
   obtain ⟨g1,g2⟩:=evCode_frame hcall X c st e1 s1 hfs hs
   rw [hfs] at hx; rw [g1]
   cases e1 with
   | nrm => cases hx; exact ⟨rfl,g2⟩
   |
    exit id' =>
    simp only at hx ⊢
    split at hx
    ·rename_i e; rw [if_pos e]; cases hx; exact ⟨rfl,g2⟩
    ·rename_i e; rw [if_neg e]; cases hx; exact ⟨rfl,g2⟩
   | ret => cases hx; exact ⟨rfl,g2⟩
 |
  .rangeFunc f ps as bd,st,ex,st',hx,hs => by
  have hl:=(List.getElem?_eq_some_iff.1 hs).1
  simp only [evCode] at hx ⊢
  cases rnd with
  | some _ => cases hx
  |
   none =>
   simp only at hx ⊢
   have e0 : (st.setH s X).tmps = st.tmps:=rfl
   have e1 : (st.setH s X).heap.length = st.heap.length:=by simp [St.setH]
   rw [e0,e1]
   split at hx
   ·rename_i g first captured hf
    split at hx
    ·rename_i r0 h3 hc
     obtain ⟨g1,g2⟩:=hcall _ _ _ _ _ _ hc s X (by rw [List.getElem?_append_left hl]; exact hs)
     rw [List.set_append_left _ _ hl] at g1
     have e2 : (st.setH s X).heap = st.heap.set s X:=rfl
     rw [e2,g1]
     simp only
     split at hx
     ·rename_i pend fid' ts' ps' as' bd' d' hl3
      have hne : s ≠ st.heap.length + 1:=by omega
      rw [List.getElem?_set_ne hne,hl3]
      cases hx
      refine ⟨?_,by simp only; rw [List.getElem?_set_ne (Ne.symm hne)]; exact g2⟩
      simp only [St.setH]
      rw [set_comm' hne]
     ·rename_i pend fid' ts' ps' as' bd' d' hl3
      have hne : s ≠ st.heap.length + 1:=by omega
      rw [List.getElem?_set_ne hne,hl3]
      cases hx
      refine ⟨?_,by simp only; rw [List.getElem?_set_ne (Ne.symm hne)]; exact g2⟩
      simp only [St.setH]
      rw [set_comm' hne]
     ·cases hx
    ·cases hx
   ·cases hx
theorem takeMarks_frame {s : Nat} {X : AO} : ∀ (ms : List Nat) (h h' : List AO),takeMarks ms h = some h' → h[s]? = some .tomb → takeMarks ms (h.set s X) = some (h'.set s X) ∧ h'[s]? = some .tomb
 | [],h,h',hx,hs => by simp only [takeMarks] at hx ⊢; cases hx; exact ⟨rfl,hs⟩
 |
  m :: r,h,h',hx,hs => by
  simp only [takeMarks] at hx ⊢
  split at hx
  ·rename_i hd
   have hne : s ≠ m:=by intro e; subst e; rw [hs] at hd; cases hd
   rw [List.getElem?_set_ne hne,hd]
   simp only
   rw [set_comm' hne]
   exact takeMarks_frame r _ h' hx (by rw [List.getElem?_set_ne (Ne.symm hne)]; exact hs)
  ·cases hx
theorem getRes_frame {s : Nat} {X : AO} {ts : List AV} {h : List AO} {r : ARes} {v : AV} (hs : h[s]? = some .tomb) (hx : getRes ts h r = some v) : getRes ts (h.set s X) r = some v:=by
 cases r with
 | tmp t => simpa [getRes] using hx
 |
  cell ag size t =>
  simp only [getRes] at hx ⊢
  split at hx
  ·rename_i o off ho
   try simp only [ho]
   split at hx
   ·rename_i c hc
    rw [row_set hs hc]; exact hx
   ·cases hx
  ·cases hx
theorem finish_frame {s lim : Nat} {X : AO} {rs : List ARes} {st : St} {r : AV} {h' : List AO} (hx : finish lim rs st = some (r,h')) (hs : st.heap[s]? = some .tomb) : finish lim rs (st.setH s X) = some (r,h'.set s X) ∧ h'[s]? = some .tomb:=by
 unfold finish at hx ⊢
 split at hx
 ·cases hx
 ·rename_i h1 he
  split at he
  case isFalse => cases he
  rename_i hall
  obtain ⟨g1,g2⟩:=takeMarks_frame (X:=X) _ _ _ he hs
  have e0 : (st.setH s X).marks = st.marks:=rfl
  have e1 : (st.setH s X).heap = st.heap.set s X:=rfl
  have e2 : (st.setH s X).tmps = st.tmps:=rfl
  rw [e0,e1,e2,if_pos hall,g1]
  simp only
  have hm : ∀ (l : List ARes) (vs : List AV),l.mapM (getRes st.tmps h1) = some vs → l.mapM (getRes st.tmps (h1.set s X)) = some vs:=by
   intro l
   induction l with
   | nil => intro vs hl; simpa using hl
   |
    cons x l ih =>
    intro vs hl
    simp only [List.mapM_cons,Option.bind_eq_bind,Option.bind_eq_some_iff,Option.pure_def,Option.some.injEq] at hl ⊢
    obtain ⟨y,hy,r,hr,rfl⟩:=hl
    exact ⟨y,getRes_frame g2 hy,r,ih _ hr,rfl⟩
  split at hx
  ·rename_i v hv
   rw [hm _ _ hv]; cases hx; exact ⟨rfl,g2⟩
  ·rename_i vs hn hv
   rw [hm _ _ hv]
   cases hx
   refine ⟨?_,g2⟩
   split
   ·rename_i v hv2
    simp only [Option.some.injEq] at hv2
    exact absurd hv2 (hn v)
   ·rename_i vs' hn' hv2
    simp only [Option.some.injEq] at hv2; subst hv2; rfl
   ·rename_i hv2; cases hv2
  ·cases hx
def SpecFrame (spec : Nat → List AV → List AO → Nat → Option (AV × List AO)) : Prop :=
 ∀ f args h lim r h',spec f args h lim = some (r,h') → ∀ (s : Nat) X,h[s]? = some .tomb → spec f args (h.set s X) lim = some (r,h'.set s X) ∧ h'[s]? = some .tomb
def SpecNone (E : Env) : Prop:=∀ f fn,E.fn f = some fn → ∀ args h lim,E.spec f args h lim = none
theorem callN_frame {E : Env} (hE : SpecFrame E.spec) (hN : SpecNone E) : ∀ n,FrameOk (callN E n)
 | 0 => fun t args h lim r h' hx => by simp [callN] at hx
 |
  n + 1 => by
  intro t args h lim r h' hx s X hs
  have ih:=callN_frame hE hN n
  cases t with
  |
   fn f =>
   simp only [callN] at hx ⊢
   cases hsp : E.spec f args h lim with
   |
    some y =>
    rw [hsp] at hx
    cases hx
    obtain ⟨g1,g2⟩:=hE _ _ _ _ _ _ hsp s X hs
    rw [g1]; exact ⟨rfl,g2⟩
   |
    none =>
    rw [hsp] at hx
    simp only at hx
    cases hfn : E.fn f with
    | none => rw [hfn] at hx; cases hx
    |
     some fn =>
     rw [hN f fn hfn]
     rw [hfn] at hx
     simp only at hx ⊢
     cases hev : evCode (callN E n) lim n none f fn.body ⟨args ++ List.replicate (fn.ntmps - args.length) .undef,h,[]⟩ with
     | none => rw [hev] at hx; cases hx
     |
      some y =>
      obtain ⟨e1,s1⟩:=y
      obtain ⟨g1,g2⟩:=evCode_frame ih X _ _ _ _ hev hs
      have e2 : (St.mk (args ++ List.replicate (fn.ntmps - args.length) .undef) h []).setH s X = ⟨args ++ List.replicate (fn.ntmps - args.length) .undef,h.set s X,[]⟩:=rfl
      rw [e2] at g1
      rw [hev] at hx; rw [g1]
      cases e1 with
      | nrm => exact finish_frame hx g2
      | exit id => cases hx
      | ret => exact finish_frame hx g2
  |
   rnd o =>
   simp only [callN] at hx ⊢
   split at hx
   ·rename_i pend fid ts ps as bd d ho
    have hne : s ≠ o:=by intro e; subst e; rw [hs] at ho; cases ho
    rw [List.getElem?_set_ne hne,ho]
    simp only
    split at hx
    ·rename_i hcc
     rw [if_pos hcc]
     cases hev : evCode (callN E n) lim n (some o) fid as ⟨setAll ts ps args,h,[]⟩ with
     | none => rw [hev] at hx; cases hx
     |
      some y =>
      obtain ⟨e1,s1⟩:=y
      obtain ⟨g1,g2⟩:=evCode_frame ih X _ _ _ _ hev hs
      have e2 : (St.mk (setAll ts ps args) h []).setH s X = ⟨setAll ts ps args,h.set s X,[]⟩:=rfl
      rw [e2] at g1
      rw [hev] at hx; rw [g1]
      cases e1 with
      | exit id => cases hx
      | ret => cases hx
      |
       nrm =>
       simp only at hx ⊢
       have e3 : (s1.setH s X).heap = s1.heap.set s X:=rfl
       have e4 : (s1.setH s X).tmps = s1.tmps:=rfl
       have e7 : (s1.setH s X).marks = s1.marks:=rfl
       rw [e3,e4,e7,List.getElem?_set_ne hne]
       split at hx
       ·rename_i pend1 fid1 ts1 ps1 as1 bd1 d1 ho1
        try simp only [ho1]
        rw [set_comm' hne]
        cases hev2 : evCode (callN E n) lim n (some o) fid bd ⟨s1.tmps,s1.heap.set o (.loop .busy pend1 fid1 ts1 ps1 as1 bd1 d1),s1.marks⟩ with
        | none => rw [hev2] at hx; cases hx
        |
         some y2 =>
         obtain ⟨ex,s2⟩:=y2
         obtain ⟨k1,k2⟩:=evCode_frame ih X _ _ _ _ hev2 (by simp only; rw [List.getElem?_set_ne (Ne.symm hne)]; exact g2)
         have e5 : (St.mk s1.tmps (s1.heap.set o (.loop .busy pend1 fid1 ts1 ps1 as1 bd1 d1)) s1.marks).setH s X = ⟨s1.tmps,(s1.heap.set o (.loop .busy pend1 fid1 ts1 ps1 as1 bd1 d1)).set s X,s1.marks⟩:=rfl
         rw [e5] at k1
         rw [hev2] at hx; rw [k1]
         simp only at hx ⊢
         have e6 : (s2.setH s X).heap = s2.heap.set s X:=rfl
         rw [e6,List.getElem?_set_ne hne]
         split at hx
         ·rename_i st2 pend2 fid2 ts2 ps2 as2 bd2 d2 ho2
          try simp only [ho2]
          cases hx
          refine ⟨?_,by rw [List.getElem?_set_ne (Ne.symm hne)]; exact k2⟩
          rw [set_comm' hne]
         ·cases hx
       ·cases hx
    ·cases hx
   ·cases hx
end Go.Am
/-
Operations in a region,step by step.
-/
namespace Go.Am
open Go
set_option linter.unusedVariables false
set_option linter.unusedSimpArgs false
variable {P : Program} {mode : Nat → Nat → Nat} {S : Fz} {φ : Mp} {B : Nat} {h : List AO} {w : World} {m : Nat → Nat}
theorem opd_act {ts : List AV} {a : Act} (h : RelL S φ ts a.tmps.toList) {x : Operand} {y : Opd} (hc : cOpd x = some y) : Rel S φ (y.ev ts) (a.eval x):=by
 cases x with
 |
  tmp t =>
  simp only [cOpd,Option.some.injEq] at hc
  subst hc
  have:=h.getD t
  simp only [Opd.ev,Act.eval]
  simpa [Array.getD_eq_getD_getElem?,List.getD_eq_getElem?_getD] using this
 |
  const v =>
  simp only [cOpd,Option.map_eq_some_iff] at hc
  obtain ⟨a',ha,rfl⟩:=hc
  exact toAV_rel 2 v a' ha
 |
  func f =>
  simp only [cOpd,Option.some.injEq] at hc
  subst hc
  exact .fn _ _ _ _ _ _ rfl rfl (fun j x v h => by simp at h) (fun j x v h => by simp at h)
 | global g => simp [cOpd] at hc
theorem put_rel {ts : List AV} {a : Act} (h : RelL S φ ts a.tmps.toList) {v : AV} {u : Value} (hv : Rel S φ v u) (dst : Option Nat) : RelL S φ (putT ts dst v) (a.put dst u).tmps.toList:=by
 cases dst with
 | none => simpa [putT,Act.put] using h
 | some d => simpa [putT,Act.put] using h.set d hv
theorem step_start {b : Frame} {a : Act} {k : List Item} {cs : List Frame} {ops : Array Oper} {i : Nat} {rest : List Nat} {o : Oper} {nx : Next} (ho : ops[i]? = some o) (hw : Region.wanted o (yielded ops a.tmps) = true)
  (hd : ∀ c,o.op ≠ .defer c) (hrun : (execOp a.eval o).run P w = .ok nx w) (hs : isStart nx = true) :
  step P (lone (b.atR a (.inRegion ops (i :: rest) :: k)) cs w) = .next (lone (startFr P nx) (b.atR a (.inRegion ops (i :: rest) :: k) :: cs) w):=by
 apply step_lone_go
 rw [stepGR_op ho hw,Oper.semAt_eq _ _ _ hd]
 cases nx <;> simp [isStart] at hs
 ·simp [stepG.apply,Sem.runT_eq,hrun,GStep.bare_after,startFr,Frame.atR,Result.andThen]
 ·simp [stepG.apply,Sem.runT_eq,hrun,GStep.bare_after,startFr,Frame.atR,Result.andThen]
theorem step_value {b : Frame} {a : Act} {k : List Item} {cs : List Frame} {ops : Array Oper} {i : Nat} {rest : List Nat} {o : Oper} {v : Value} {w' : World} (ho : ops[i]? = some o) (hw : Region.wanted o (yielded ops a.tmps) = true)
  (hd : ∀ c,o.op ≠ .defer c) (hrun : (execOp a.eval o).run P w = .ok (.value v) w' ∨ ((execOp a.eval o).run P w = .ok .skip w' ∧ v = undef)) :
  step P (lone (b.atR a (.inRegion ops (i :: rest) :: k)) cs w) = .next (lone (b.atR (a.put o.dst v) (.inRegion ops rest :: k)) cs w'):=by
 have hf:=Frame.finish_atR b a ops i rest k v
 have e1 : (ops[i]?).bind (·.dst) = o.dst:=by rw [ho]; rfl
 rw [e1] at hf
 rw [← hf]
 apply step_lone_go
 rw [stepGR_op ho hw,Oper.semAt_eq _ _ _ hd]
 rcases hrun with hrun | ⟨hrun,rfl⟩
 ·simp [stepG.apply,Sem.runT_eq,hrun,GStep.bare_after,Result.andThen,Frame.atR]
 ·simp [stepG.apply,Sem.runT_eq,hrun,GStep.bare_after,Result.andThen,Frame.atR]
theorem op_steps {b : Frame} {a : Act} {k : List Item} {cs : List Frame} {ops : Array Oper} {i : Nat} {rest : List Nat} {o : Oper} {Q : Value → World → Prop} (ho : ops[i]? = some o) (hw : Region.wanted o (yielded ops a.tmps) = true)
  (hd : ∀ c,o.op ≠ .defer c) (h : OpRun P (execOp a.eval o) w Q) :
  ∃ v w',Q v w' ∧ Steps P (lone (b.atR a (.inRegion ops (i :: rest) :: k)) cs w) (lone (b.atR (a.put o.dst v) (.inRegion ops rest :: k)) cs w'):=by
 rcases h with ⟨v,w',h1,h2⟩ | ⟨w',h1,h2⟩ | ⟨nx,h1,h2,h3⟩
 ·exact ⟨v,w',h2,.one (step_value ho hw hd (.inl h1))⟩
 ·exact ⟨undef,w',h2,.one (step_value ho hw hd (.inr ⟨h1,rfl⟩))⟩
 ·obtain ⟨v,w',hq,hs⟩:=h3 (b.atR a (.inRegion ops (i :: rest) :: k)) cs
  have hf:=Frame.finish_atR b a ops i rest k v
  have e1 : (ops[i]?).bind (·.dst) = o.dst:=by rw [ho]; rfl
  rw [e1] at hf
  rw [hf] at hs
  exact ⟨v,w',hq,.head (step_start ho hw hd h1 h2) hs⟩
structure COp (P : Program) (m : Nat → Nat) (ops : Array Oper) (o : Oper) (ao : AOper) : Prop where
 dst : ao.dst = o.dst
 guard : cGuard ops o.guard = some ao.guard
 op : ((cOp P m o.op).getD (.p .bad)).kept = ao.op.kept
theorem wanted_eq {ops : Array Oper} {o : Oper} {ao : AOper} (hc : COp P m ops o ao) {ts : List AV} {a : Act} (hr : RelL S φ ts a.tmps.toList) : Region.wanted o (yielded ops a.tmps) = wanted ts ao.guard:=by
 have hg:=hc.guard
 unfold Region.wanted
 cases h1 : o.guard with
 | none => rw [h1] at hg; simp only [cGuard,Option.some.injEq] at hg; rw [← hg]; rfl
 |
  some jw =>
  obtain ⟨j,want⟩:=jw
  rw [h1] at hg
  simp only [cGuard] at hg
  split at hg
  ·rename_i d hd
   simp only [Option.some.injEq] at hg
   rw [← hg]
   simp only [wanted,yielded,hd,Option.bind_some]
   by_cases hdl : d < ts.length
   ·obtain ⟨u,hu,hru⟩:=hr.get (List.getElem?_eq_getElem hdl)
    have hu' : a.tmps[d]? = some u:=by simpa using hu
    rw [hu',List.getElem?_eq_getElem hdl]
    generalize ts[d] = x at hru
    cases hru <;> first | rfl | (rename_i q; cases q <;> cases want <;> rfl) | simp
   ·have h1 : ts.length ≤ d:=Nat.le_of_not_lt hdl
    have h3 : ts.length = a.tmps.size:=by simpa using hr.1
    have h2 : a.tmps.size ≤ d:=Nat.le_trans (Nat.le_of_eq h3.symm) h1
    rw [List.getElem?_eq_none h1,Array.getElem?_eq_none h2]
    rfl
  ·cases hg
def AOper.makes (o : AOper) (base : Nat) : Option Nat:=o.made.map (base + ·)
theorem exOper_open {call : Callee} (hcall : FrameOk call) {lim base : Nat} {ts : List AV} {h : List AO} {o : AOper} {v : AV} {h' : List AO} (hm : ∀ s ∈ o.mask,base + s < h.length ∧ o.makes base ≠ some (base + s))
  (hx : exOper call lim base ts h o = some (v,h')) : exOp call lim (o.makes base) (Opd.ev ts) h o.op = some (v,h'):=by
 unfold exOper at hx
 unfold AOper.makes at hm ⊢
 split at hx
 ·rename_i s size x y ho hop
  have e0 : o.made = none:=by unfold AOper.made; rw [ho,hop]
  rw [e0,hop]
  split at hx
  ·split at hx
   ·exact hx
   ·cases hx
  ·cases hx
 ·rename_i s m k x rs ho hop
  have e0 : o.made = none:=by unfold AOper.made; rw [ho,hop]
  rw [e0,hop]
  split at hx
  ·split at hx
   ·exact hx
   ·cases hx
  ·cases hx
 ·rename_i sl op hn hn2
  have e1 : o.made = o.slot:=by
   unfold AOper.made
   split
   ·rename_i s x y z h1 h2; exact absurd h2 (hn s x y z h1)
   ·rename_i s q x y z rs h1 h2; exact absurd h2 (hn2 s q x y z rs h1)
   ·rfl
  rw [e1] at hm ⊢
  cases hmask : o.mask with
  | nil => rw [hmask] at hx; simpa only [exMask] using hx
  |
   cons s r =>
   rw [hmask] at hx hm
   simp only [exMask] at hx
   split at hx
   ·rename_i v0 h0 h1
    cases hx
    exact (exMask_open hcall (s :: r) hm h1).1
   ·cases hx
end Go.Am
/-
A region,in whatever order.
-/
namespace Go.Am
open Go
set_option linter.unusedVariables false
set_option linter.unusedSimpArgs false
variable {P : Program} {mode : Nat → Nat → Nat} {S : Fz} {φ : Mp} {B : Nat} {h : List AO} {w : World} {m : Nat → Nat}
def evIx (call : Callee) (lim base : Nat) (as : List AOper) : List Nat → List AV → List AO → Option (List AV × List AO)
 | [],ts,h => some (ts,h)
 |
  i :: r,ts,h => match as[i]? with
  |
   some o => match stepOp call lim base o ts h with
   | some (ts',h') => evIx call lim base as r ts' h'
   | none => none
  | none => evIx call lim base as r ts h
structure SlotsFit (k base : Nat) (as : List AOper) : Prop where
 mask : ∀ (i : Nat) o,as[i]? = some o → ∀ s ∈ o.mask,s < k ∧ o.makes base ≠ some (base + s)
 lt : ∀ (i : Nat) o p,as[i]? = some o → o.makes base = some p → base ≤ p ∧ p < base + k
 apart : ∀ (i j : Nat) o x p,as[i]? = some o → as[j]? = some x → o.makes base = some p → x.makes base = some p → i = j
theorem Post.then {S1 S2 : Fz} {φ1 φ2 : Mp} {h1 h2 : List AO} {w1 w2 : World} {lim : Nat} {pl : Option Nat} (q : Post P mode S φ B lim h w Option.none S1 φ1 h1 w1) (q' : Post P mode S1 φ1 B lim h1 w1 pl S2 φ2 h2 w2) (hp : ∀ i,pl = some i → h.length ≤ i) :
  Post P mode S φ B lim h w Option.none S2 φ2 h2 w2:=by
 have ne : ∀ o,o < h.length → some o ≠ pl:=fun o ho e => by have:=hp o e.symm; omega
 exact ⟨q'.hr,Mp.le_trans q.le q'.le,fun b hb => (q'.sle b (Nat.lt_of_lt_of_le hb q.fx.size)).trans (q.sle b hb),q.fx.trans q'.fx,Nat.le_trans q.len q'.len,
  fun o ho hl _ => (q'.keep o ho (Nat.lt_of_lt_of_le hl q.len) (ne o hl)).trans (q.keep o ho hl (by simp)),fun o hl _ hn => q'.none o (Nat.lt_of_lt_of_le hl q.len) (ne o hl) (q.none o hl (by simp) hn)⟩
theorem stepOp_snd {call : Callee} (hcall : CallSnd P mode call) (hfr : FrameOk call) {ops : Array Oper} {lim base k : Nat} {o : Oper} {ao : AOper} (hc : COp P m ops o ao) {i : Nat} (ho : ops[i]? = some o)
  (H : HR P mode S φ B h w) (hlim : lim ≤ h.length) {ts : List AV} {a : Act} (hr : RelL S φ ts a.tmps.toList) (hmask : ∀ s ∈ ao.mask,base + s < h.length ∧ ao.makes base ≠ some (base + s)) (hpl : PlOk φ h (ao.makes base))
  {ts' : List AV} {h' : List AO} (hx : stepOp call lim base ao ts h = some (ts',h')) {b : Frame} {kk : List Item} {cs : List Frame} {rest : List Nat} :
  ∃ S' φ' w' a',Steps P (lone (b.atR a (.inRegion ops (i :: rest) :: kk)) cs w) (lone (b.atR a' (.inRegion ops rest :: kk)) cs w') ∧ Post P mode S φ B lim h w (ao.makes base) S' φ' h' w' ∧ RelL S' φ' ts' a'.tmps.toList ∧ a'.defers = a.defers:=by
 unfold stepOp at hx
 have hw:=wanted_eq (P:=P) hc hr
 split at hx
 ·rename_i hwt
  split at hx
  ·rename_i v h1 he
   cases hx
   have hop:=exOper_open hfr hmask he
   cases hcop : cOp P m o.op with
   |
    none =>
    exfalso
    have:=hc.op
    rw [hcop] at this
    simp only [Option.getD_none] at this
    have hb:=kept_p this.symm
    rw [hb] at hop
    simp [exOp,pex] at hop
   |
    some a0 =>
    have hk : a0.kept = ao.op.kept:=by have:=hc.op; rw [hcop] at this; exact this
    have hd : ∀ c,o.op ≠ .defer c:=by intro c e; rw [e] at hcop; simp [cOp] at hcop
    have hrun:=exOp_snd hcall H (fun x y hxy => opd_act hr hxy) (fun f => rfl) hlim (ao.makes base) hpl hcop hk hop
    obtain ⟨u,w',⟨S',φ',hru,hpost⟩,hst⟩:=op_steps (P:=P) (b:=b) (k:=kk) (cs:=cs) (rest:=rest) ho (by rw [hw]; exact hwt) hd hrun
    refine ⟨S',φ',w',a.put o.dst u,hst,hpost,?_,?_⟩
    ·rw [hc.dst]; exact put_rel (hpost.relL H hr) hru o.dst
    ·cases o.dst <;> rfl
  ·cases hx
 ·rename_i hwt
  cases hx
  have hwf : Region.wanted o (yielded ops a.tmps) = false:=by rw [hw]; simpa using hwt
  refine ⟨S,φ,w,a.put o.dst undef,?_,Post.refl H lim _,?_,?_⟩
  ·have:=stepR_op_skip (P:=P) (b:=b) (a:=a) (k:=kk) (cs:=cs) (w:=w) (ops:=ops) (i:=i) (rest:=rest) (by rw [ho]; simpa using hwf)
   rw [ho] at this
   exact .one this
  ·rw [hc.dst]; exact put_rel hr Rel.undef o.dst
  ·cases o.dst <;> rfl
theorem evIx_snd {call : Callee} (hcall : CallSnd P mode call) (hfr : FrameOk call) {ops : Array Oper} {as : List AOper} {lim k : Nat} (hlen : as.length = ops.size) (hops : ∀ (i : Nat) o ao,ops[i]? = some o → as[i]? = some ao → COp P m ops o ao)
  {S0 : Fz} {φ0 : Mp} {h0 : List AO} {w0 : World} (hlim : lim ≤ h0.length) (hsl : SlotsFit k h0.length as) {b : Frame} {kk : List Item} {cs : List Frame} :
  ∀
   (L : List Nat) (S : Fz) (φ : Mp) (h : List AO) (w : World) (ts : List AV) (a : Act) (ts' : List AV) (h' : List AO),L.Nodup → Post P mode S0 φ0 B lim h0 w0 none S φ h w → h0.length + k ≤ h.length →
   (∀ i ∈ L,∀ o p,as[i]? = some o → o.makes h0.length = some p → φ p = none) → RelL S φ ts a.tmps.toList → evIx call lim h0.length as L ts h = some (ts',h') →
   ∃ S' φ' w' a',Steps P (lone (b.atR a (.inRegion ops L :: kk)) cs w) (lone (b.atR a' kk) cs w') ∧ Post P mode S0 φ0 B lim h0 w0 none S' φ' h' w' ∧ RelL S' φ' ts' a'.tmps.toList ∧ a'.defers = a.defers
 |
  [],S,φ,h,w,ts,a,ts',h',_,hp,_,_,hr,hx => by
  simp only [evIx] at hx
  cases hx
  exact ⟨S,φ,w,a,.one stepR_region_end,hp,hr,rfl⟩
 |
  i :: L,S,φ,h,w,ts,a,ts',h',hnd,hp,hkl,hnone,hr,hx => by
  simp only [evIx] at hx
  have hnd':=List.nodup_cons.1 hnd
  cases hi : as[i]? with
  |
   none =>
   rw [hi] at hx
   have hio : ops[i]? = none:=by
    rw [List.getElem?_eq_none_iff] at hi
    rw [Array.getElem?_eq_none_iff]; omega
   obtain ⟨S',φ',w',a',h1,h2,h3,h4⟩:=evIx_snd hcall hfr hlen hops hlim hsl L S φ h w ts a ts' h' hnd'.2 hp hkl (fun j hj => hnone j (by simp [hj])) hr hx
   refine ⟨S',φ',w',a',.head ?_ h1,h2,h3,h4⟩
   have:=stepR_op_skip (P:=P) (b:=b) (a:=a) (k:=kk) (cs:=cs) (w:=w) (ops:=ops) (i:=i) (rest:=L) (by rw [hio]; rfl)
   rw [hio] at this
   exact this
  |
   some ao =>
   rw [hi] at hx
   simp only at hx
   have hil:=(List.getElem?_eq_some_iff.1 hi).1
   obtain ⟨o,ho⟩ : ∃ o,ops[i]? = some o:=⟨_,Array.getElem?_eq_getElem (by omega)⟩
   split at hx
   ·rename_i t1 h1 he
    have hpl : PlOk φ h (ao.makes h0.length):=⟨fun p hpe => ⟨by have:=hsl.lt i ao p hi hpe; omega,hnone i (by simp) ao p hi hpe⟩⟩
    obtain ⟨S1,φ1,w1,a1,g1,g2,g3,g4⟩:=stepOp_snd hcall hfr (k:=k) (hops i o ao ho hi) ho hp.hr (Nat.le_trans hlim hp.len) hr (fun s hs => ⟨by have:=(hsl.mask i ao hi s hs).1; omega,(hsl.mask i ao hi s hs).2⟩) hpl he (b:=b) (kk:=kk) (cs:=cs) (rest:=L)
    have hp2:=hp.then g2 (fun p hpe => (hsl.lt i ao p hi hpe).1)
    obtain ⟨S',φ',w',a',k1,k2,k3,k4⟩:=evIx_snd hcall hfr hlen hops hlim hsl L S1 φ1 h1 w1 t1 a1 ts' h' hnd'.2 hp2 (Nat.le_trans hkl g2.len) (fun j hj x p hx hpe => by
     have hn:=hnone j (by simp [hj]) x p hx hpe
     refine g2.none p (by have:=hsl.lt j x p hx hpe; omega) ?_ hn
     intro e
     have:=hsl.apart i j ao x p hi hx e.symm hpe
     subst this; exact hnd'.1 hj) g3 hx
    exact ⟨S',φ',w',a',Steps.trans g1 k1,k2,k3,k4.trans g4⟩
   ·cases hx
theorem tombs_post (H : HR P mode S φ B h w) (k lim : Nat) : Post P mode S φ B lim h w none S φ (h ++ List.replicate k .tomb) w:=by
 have key : ∀ (o : Nat) a,(h ++ List.replicate k AO.tomb)[o]? = some a → h[o]? = some a ∨ a = .tomb:=by
  intro o a ha
  by_cases ho : o < h.length
  ·rw [List.getElem?_append_left ho] at ha; exact .inl ha
  ·rw [List.getElem?_append_right (by omega),List.getElem?_replicate] at ha
   split at ha
   ·cases ha; exact .inr rfl
   ·cases ha
 refine ⟨⟨H.bs,fun o x hx => by have:=H.dom o x hx; simp; omega,H.lt,H.fro,?_,?_⟩,Mp.le_refl _,fun _ _ => rfl,Fx.refl _ _,by simp,fun o _ ho _ => List.getElem?_append_left ho,fun _ _ _ hn => hn⟩
 ·intro o a ha
  rcases key o a ha with h1 | rfl
  ·exact H.obj o a h1
  ·exact .inl rfl
 ·intro o o' a a' b z z' ha ha' hb hb' hne
  rcases key o a ha with h1 | rfl
  ·rcases key o' a' ha' with h2 | rfl
   ·exact H.inj o o' a a' b z z' h1 h2 hb hb' hne
   ·cases a <;> trivial
  ·trivial
theorem evIx_range {call : Callee} {lim base : Nat} (as : List AOper) : ∀ (pre rest : List AOper) (ts : List AV) (h : List AO),as = pre ++ rest → evIx call lim base as ((List.range rest.length).map (pre.length + ·)) ts h = evOps call lim base rest ts h
 | pre,[],ts,h,_ => rfl
 |
  pre,o :: rest,ts,h,e => by
  have e1 : (List.range (o :: rest).length).map (pre.length + ·) = pre.length :: (List.range rest.length).map ((pre ++ [o]).length + ·):=by
   rw [List.length_cons,List.range_succ_eq_map,List.map_cons,List.map_map]
   simp only [Nat.add_zero,List.cons.injEq,true_and]
   apply List.map_congr_left
   intro x _
   simp; omega
  have e2 : as[pre.length]? = some o:=by rw [e,List.getElem?_append_right (Nat.le_refl _)]; simp
  rw [e1]
  simp only [evIx,evOps,e2]
  cases stepOp call lim base o ts h with
  | none => rfl
  |
   some y =>
   obtain ⟨t1,h1⟩:=y
   exact evIx_range as (pre ++ [o]) rest t1 h1 (by rw [e]; simp)
end Go.Am
/-
Code.
-/
namespace Go.Am
open Go
set_option linter.unusedVariables false
set_option linter.unusedSimpArgs false
variable {P : Program} {mode : Nat → Nat → Nat} {S : Fz} {φ : Mp} {B : Nat} {h : List AO} {w : World}
def MarksRel (φ : Mp) : List Nat → List Deferred → Prop
 | [],[] => True
 | m :: ms,d :: ds => (∃ b z,φ m = some (b,z) ∧ d = { target:=.collected b,args:=#[] }) ∧ MarksRel φ ms ds
 | _,_ => False
theorem MarksRel.mono {φ φ' : Mp} (hp : Mp.le φ φ') : ∀ {ms : List Nat} {ds : List Deferred},MarksRel φ ms ds → MarksRel φ' ms ds
 | [],[],_ => trivial
 | m :: ms,d :: ds,⟨⟨b,z,h1,h2⟩,h3⟩ => ⟨⟨b,z,hp _ _ h1,h2⟩,h3.mono hp⟩
 | [],_ :: _,h => h.elim
 | _ :: _,[],h => h.elim
def Lands (P : Program) (m : Machine) (b : Frame) (k : List Item) (cs : List Frame) : Ex → Act → World → Prop
 | .nrm,a,w => Steps P m (lone (b.atR a k) cs w)
 | .exit id,a,w => ∃ k',exitTo id k' = exitTo id k ∧ Steps P m (lone (b.atR a (.code (.exit id) :: k')) cs w)
 | .ret,a,w => ∃ k',Steps P m (lone (b.atR a (.code .ret :: k')) cs w)
theorem Lands.of {m m' : Machine} {b : Frame} {k : List Item} {cs : List Frame} {ex : Ex} {a : Act} {w : World} (h : Steps P m m') (h' : Lands P m' b k cs ex a w) : Lands P m b k cs ex a w:=by
 cases ex with
 | nrm => exact Steps.trans h h'
 | exit id => obtain ⟨k',h1,h2⟩:=h'; exact ⟨k',h1,Steps.trans h h2⟩
 | ret => obtain ⟨k',h1⟩:=h'; exact ⟨k',Steps.trans h h1⟩
theorem Lands.pass {m : Machine} {b : Frame} {x : Item} {k : List Item} {cs : List Frame} {ex : Ex} {a : Act} {w : World} (hx : x.plain = true ∨ (∃ c,x = .inScope c)) (hn : ex ≠ .nrm) (h : Lands P m b (x :: k) cs ex a w) : Lands P m b k cs ex a w:=by
 cases ex with
 | nrm => exact absurd rfl hn
 |
  exit id =>
  obtain ⟨k',h1,h2⟩:=h
  refine ⟨k',h1.trans ?_,h2⟩
  rcases hx with hx | ⟨c,rfl⟩
  ·cases x <;> simp_all [exitTo,Item.plain]
  ·rfl
 | ret => exact h
structure StRel (P : Program) (mode : Nat → Nat → Nat) (S : Fz) (φ : Mp) (B : Nat) (st : St) (a : Act) (w : World) : Prop where
 hr : HR P mode S φ B st.heap w
 ts : RelL S φ st.tmps a.tmps.toList
 mks : MarksRel φ st.marks a.defers
def CodeOk (P : Program) (mode : Nat → Nat → Nat) (S : Fz) (φ : Mp) (B lim : Nat) (st : St) (a : Act) (w : World) (m : Machine) (b : Frame) (k : List Item) (cs : List Frame) (ex : Ex) (st' : St) : Prop :=
 ∃ S' φ' w' a',StRel P mode S' φ' B st' a' w' ∧ Post P mode S φ B lim st.heap w none S' φ' st'.heap w' ∧ Lands P m b k cs ex a' w'
theorem CodeOk.of {lim : Nat} {st : St} {a : Act} {m m' : Machine} {b : Frame} {k : List Item} {cs : List Frame} {ex : Ex} {st' : St} (hs : Steps P m m') (h : CodeOk P mode S φ B lim st a w m' b k cs ex st') : CodeOk P mode S φ B lim st a w m b k cs ex st':=by
 obtain ⟨S',φ',w',a',h1,h2,h3⟩:=h
 exact ⟨S',φ',w',a',h1,h2,h3.of hs⟩
theorem stepR_scope {b : Frame} {a : Act} {k : List Item} {cs : List Frame} {w : World} {c : Code} : step P (lone (b.atR a (.code (.scope c) :: k)) cs w) = .next (lone (b.atR a (.code c :: .inScope c :: k)) cs w) :=
 step_lone_go (by simp [stepG,stepG.exec,Frame.atR])
theorem stepR_inScope {b : Frame} {a : Act} {k : List Item} {cs : List Frame} {w : World} {c : Code} : step P (lone (b.atR a (.inScope c :: k)) cs w) = .next (lone (b.atR a k) cs w) :=
 step_lone_go (by simp [stepG,stepG.exec,Frame.atR])
theorem cOpers_spec {m : Nat → Nat} {ops : Array Oper} : ∀ (l : List Oper) (r : List AOper),cOpers P m ops l = some r → r.length = l.length ∧ ∀ (i : Nat) o ao,l[i]? = some o → r[i]? = some ao → COp P m ops o ao ∧ ao.slot = none ∧ ao.mask = []
 | [],r,h => by simp [cOpers] at h; subst h; exact ⟨rfl,fun i o ao h => by simp at h⟩
 |
  o :: l,r,h => by
  simp only [cOpers,Option.bind_eq_bind,Option.bind_eq_some_iff,Option.some.injEq] at h
  obtain ⟨g,hg,r',hr',rfl⟩:=h
  obtain ⟨h1,h2⟩:=cOpers_spec l r' hr'
  refine ⟨by simp [h1],fun i x ao hx hao => ?_⟩
  cases i with
  | zero => simp at hx hao; subst hx; subst hao; exact ⟨⟨rfl,hg,rfl⟩,rfl,rfl⟩
  | succ i => exact h2 i x ao (by simpa using hx) (by simpa using hao)
def DrawOk (P : Program) (m : Nat → Nat) (call : Callee) : Prop :=
 ∀
  (ops : Array Oper) (l : List AOper) (p : Nat → Bool),cOpers P m ops ops.toList = some l → okDraw ops.toList (drawn ops.toList l) p = true → slotsOk (slotCount l) (drawn ops.toList l) = true →
  (drawn ops.toList l).length = ops.size ∧ (∀ (i : Nat) o ao,ops[i]? = some o → (drawn ops.toList l)[i]? = some ao → COp P m ops o ao) ∧
  ∀
   (lim base : Nat) (ts : List AV) (h : List AO) (ts' : List AV) (h' : List AO),base + slotCount l = h.length → (∀ s,s < slotCount l → h[base + s]? = some .tomb) → evOps call lim base (permA (drawn ops.toList l) p) ts h = some (ts',h') →
   ∀ t,(Region.linearise .any ops t).Nodup ∧ evIx call lim base (drawn ops.toList l) (Region.linearise .any ops t) ts h = some (ts',h')
theorem slotsFit_of {k base : Nat} {as : List AOper} (h : slotsOk k as = true) : SlotsFit k base as:=by
 unfold slotsOk at h
 rw [List.all_eq_true] at h
 have hm : ∀ (i : Nat) o,as[i]? = some o → (o,i) ∈ as.zipIdx:=fun i o hi => by rw [List.mem_zipIdx_iff_getElem?]; exact hi
 have key:=fun (i : Nat) o (hi : as[i]? = some o) => h (o,i) (hm i o hi)
 simp only [Bool.and_eq_true,List.all_eq_true,decide_eq_true_eq,bne_iff_ne,ne_eq,Bool.or_eq_true,beq_iff_eq,Option.isNone_iff_eq_none] at key
 refine ⟨fun i o hi s hs => ?_,fun i o p hi hp => ?_,fun i j o x p hi hj hp hx => ?_⟩
 ·obtain ⟨⟨k1,_⟩,_⟩:=key i o hi
  obtain ⟨k2,k3⟩:=k1 s hs
  refine ⟨k2,fun e => k3 ?_⟩
  simp only [AOper.makes,Option.map_eq_some_iff] at e
  obtain ⟨q,hq,e⟩:=e
  have : q = s:=by omega
  rw [hq,this]
 ·obtain ⟨⟨_,k2⟩,_⟩:=key i o hi
  simp only [AOper.makes,Option.map_eq_some_iff] at hp
  obtain ⟨q,hq,rfl⟩:=hp
  rw [hq] at k2
  simp at k2
  omega
 ·obtain ⟨_,k3⟩:=key i o hi
  simp only [AOper.makes,Option.map_eq_some_iff] at hp hx
  obtain ⟨q,hq,rfl⟩:=hp
  obtain ⟨q',hq',e⟩:=hx
  have : q' = q:=by omega
  subst this
  rcases k3 (x,j) (hm j x hj) with (h1 | h1) | h1
  ·exact h1
  ·rw [hq] at h1; cases h1
  ·exact absurd (hq.trans hq'.symm) h1
theorem permA_true (as : List AOper) : permA as (fun _ => true) = as:=by
 have h : ∀ (pre rest : List AOper),as = pre ++ rest → ((List.range rest.length).map (pre.length + ·)).filterMap (as[·]?) = rest:=by
  intro pre rest
  induction rest generalizing pre with
  | nil => intro _; rfl
  |
   cons o rest ih =>
   intro e
   have h1:=ih (pre ++ [o]) (by rw [e]; simp)
   have h2 : as[pre.length]? = some o:=by rw [e]; simp
   rw [List.length_cons,List.range_succ_eq_map,List.map_cons,List.filterMap_cons,Nat.add_zero,h2]
   simp only [List.map_map]
   rw [List.length_append,List.length_singleton] at h1
   have h3 : (fun x => pre.length + x) ∘ Nat.succ = (pre.length + 1 + ·):=by funext x; simp only [Function.comp]; omega
   rw [h3,h1]
 have:=h [] as rfl
 simp only [List.length_nil,Nat.zero_add,List.map_id'] at this
 have e1 : (List.range as.length).filter (fun _ => true) = List.range as.length:=List.filter_eq_self.2 fun _ _ => rfl
 have e2 : (List.range as.length).filter (fun _ => false) = []:=List.filter_eq_nil_iff.2 fun _ _ => by simp
 simp only [permA,permIx,Bool.not_true,e1,e2,List.append_nil]
 exact this
theorem region_snd {call : Callee} (hcall : CallSnd P mode call) (hfr : FrameOk call) {m : Nat → Nat} (hdraw : ∀ m,DrawOk P m call) {id : Nat} {ops : Array Oper} {draw : Bool} {k : Nat} {as : List AOper} (hc : cCode P m (.region id ops draw) = some (.region k as))
  {lim : Nat} {st : St} {a : Act} (R : StRel P mode S φ B st a w) (hlim : lim ≤ st.heap.length) {ts' : List AV} {h' : List AO} (hx : evOps call lim st.heap.length as st.tmps (st.heap ++ List.replicate k .tomb) = some (ts',h')) {b : Frame} {kk : List Item} {cs : List Frame} :
  CodeOk P mode S φ B lim st a w (lone (b.atR a (.code (.region id ops draw) :: kk)) cs w) b kk cs .nrm { st with tmps:=ts',heap:=h' }:=by
 simp only [cCode,Option.bind_eq_bind,Option.bind_eq_some_iff] at hc
 obtain ⟨l,hl,hc⟩:=hc
 generalize drawM m draw = m' at hl
 have fin : ∀ (as : List AOper) (w1 : World) (L : List Nat),w1.heap = w.heap → w1.tape = w.tape → w1.os = w.os → w1.output = w.output → L.Nodup → as.length = ops.size → (∀ (i : Nat) o ao,ops[i]? = some o → as[i]? = some ao → COp P m' ops o ao) → SlotsFit k st.heap.length as →
   evIx call lim st.heap.length as L st.tmps (st.heap ++ List.replicate k .tomb) = some (ts',h') →
   ∃ S' φ' w' a',StRel P mode S' φ' B { st with tmps:=ts',heap:=h' } a' w' ∧ Post P mode S φ B lim st.heap w none S' φ' h' w' ∧ Steps P (lone (b.atR a (.inRegion ops L :: kk)) cs w1) (lone (b.atR a' kk) cs w'):=by
  intro as w1 L e1 e2 e3 e4 hnd hlen hops hsl hev
  have H1 : HR P mode S φ B st.heap w1:=R.hr.heap e1
  have p1:=tombs_post H1 k lim
  obtain ⟨S',φ',w',a',g1,g2,g3,g4⟩:=evIx_snd hcall hfr hlen hops (h0:=st.heap) (w0:=w1) hlim hsl (b:=b) (kk:=kk) (cs:=cs) L S φ _ w1 st.tmps a ts' h' hnd p1 (by simp) (by
   intro i _ o p hi hp
   cases e : φ p with
   | none => rfl
   | some x => have:=R.hr.dom p x e; have:=hsl.lt i o p hi hp; omega) R.ts hev
  refine ⟨S',φ',w',a',⟨g2.hr,g3,by rw [g4]; exact R.mks.mono g2.le⟩,⟨g2.hr,g2.le,fun q hq => g2.sle q (by rw [e1]; exact hq),⟨g2.fx.tape.trans e2,g2.fx.os.trans e3,g2.fx.out.trans e4,by have:=g2.fx.size; rw [e1] at this; exact this,fun q hq => by rw [g2.fx.old q hq,e1]⟩,g2.len,g2.keep,g2.none⟩,g1⟩
 split at hc
 ·rename_i hd
  simp only [Option.some.injEq,ACode.region.injEq] at hc
  obtain ⟨rfl,rfl⟩:=hc
  obtain ⟨hlen,hops⟩:=cOpers_spec _ _ hl
  have hlen' : l.length = ops.size:=by simpa using hlen
  have hsl : SlotsFit 0 st.heap.length l:=by
   have hs : ∀ (i : Nat) ao,l[i]? = some ao → ao.slot = none ∧ ao.mask = []:=fun i ao hi => by
    have hil:=(List.getElem?_eq_some_iff.1 hi).1
    exact (hops i ops.toList[i] ao (List.getElem?_eq_getElem (by omega)) hi).2
   have hmk : ∀ (i : Nat) ao,l[i]? = some ao → ao.makes st.heap.length = none:=fun i ao hi => by
    unfold AOper.makes AOper.made; rw [(hs i ao hi).1]; cases ao.op <;> rfl
   exact ⟨fun i o hi s hs' => (by rw [(hs i o hi).2] at hs'; cases hs'),fun i o p hi hp => (by rw [hmk i o hi] at hp; cases hp),fun i j o x p hi hj hp _ => (by rw [hmk i o hi] at hp; cases hp)⟩
  have hdf : draw = false:=by simpa using hd
  subst hdf
  have hev : evIx call lim st.heap.length l (List.range ops.size) st.tmps (st.heap ++ List.replicate 0 .tomb) = some (ts',h'):=by
   have:=evIx_range (call:=call) (lim:=lim) (base:=st.heap.length) l [] l st.tmps (st.heap ++ List.replicate 0 .tomb) rfl
   simp only [List.length_nil,Nat.zero_add,List.map_id'] at this
   rw [← hlen',this]; exact hx
  obtain ⟨S',φ',w',a',g1,g2,g3⟩:=fin l w (List.range ops.size) rfl rfl rfl rfl List.nodup_range hlen' (fun i o ao ho hao => (hops i o ao (by simpa using ho) hao).1) hsl hev
  exact ⟨S',φ',w',a',g1,g2,Steps.head stepR_region g3⟩
 ·rename_i hd
  have main : ∀ q : Nat → Bool,P.follows .mixedOrders = true → slotsOk (slotCount l) (drawn ops.toList l) = true → okDraw ops.toList (drawn ops.toList l) q = true → k = slotCount l → as = permA (drawn ops.toList l) q → CodeOk P mode S φ B lim st a w (lone (b.atR a (.code (.region id ops draw) :: kk)) cs w) b kk cs .nrm { st with tmps:=ts',heap:=h' }:=by
   intro q hmix hso hok ek ea
   subst ek ea
   obtain ⟨hlen,hops,hany⟩:=hdraw m' ops l q hl hok hso
   have hdt : draw = true:=by simpa using hd
   subst hdt
   obtain ⟨hnd,hev⟩:=hany lim st.heap.length st.tmps _ ts' h' (by simp) (fun s hs => by
    rw [List.getElem?_append_right (by omega),show st.heap.length + s - st.heap.length = s by omega,List.getElem?_replicate,if_pos hs]) hx (w.tape w.drawn (.order b.fn id))
   obtain ⟨S',φ',w',a',g1,g2,g3⟩:=fin _ { w with drawn:=w.drawn + 1 } (Region.linearise .any ops (w.tape w.drawn (.order b.fn id))) rfl rfl rfl rfl hnd hlen hops (slotsFit_of hso) hev
   refine ⟨S',φ',w',a',g1,g2,Steps.head ?_ g3⟩
   have:=stepR_region_draw (P:=P) (b:=b) (a:=a) (k:=kk) (cs:=cs) (w:=w) (ops:=ops) (id:=id)
   simp only [Region.schedule,hmix,Bool.true_or,if_true] at this
   exact this
  split at hc
  ·rename_i hcc
   simp only [Bool.and_eq_true] at hcc
   obtain ⟨hmix,hso⟩:=hcc
   split at hc
   ·rename_i hok
    simp only [Option.some.injEq,ACode.region.injEq] at hc
    exact main _ hmix hso hok hc.1.symm (by rw [permA_true]; exact hc.2.symm)
   ·split at hc
    ·rename_i hok
     simp only [Option.some.injEq,ACode.region.injEq] at hc
     exact main _ hmix hso hok hc.1.symm hc.2.symm
    ·cases hc
  ·cases hc
end Go.Am
/-
Code: all of it.
-/
namespace Go.Am
open Go
set_option linter.unusedVariables false
set_option linter.unusedSimpArgs false
variable {P : Program} {mode : Nat → Nat → Nat} {S : Fz} {φ : Mp} {B : Nat} {h : List AO} {w : World}
theorem loop_of (H : HR P mode S φ B h w) {o : Nat} {st : LoopState} {pend : Option Ex} {fid : Nat} {ts : List AV} {ps : List Nat} {as bd : ACode} {d : Nat} (ho : h[o]? = some (.loop st pend fid ts ps as bd d)) :
  ∃
   l z lp,φ o = some (l,z) ∧ w.heap[l]? = some (.loop lp) ∧ lp.state = st ∧ lp.pending = pend.bind exCode ∧ lp.fn = fid ∧ RelL S φ ts lp.tmps.toList ∧ lp.params.toList = ps ∧
   cCode P (mode fid) lp.assign = some as ∧ cCode P (mode fid) lp.body = some bd ∧ ∃ z,φ d = some (lp.defers,z):=by
 rcases H.obj o _ ho with hh | ⟨b,z,h1,h2,lp,h3⟩
 ·cases hh
 ·exact ⟨b,z,lp,h1,h3⟩
theorem setLoop (H : HR P mode S φ B h w) {o l z : Nat} {st st' : LoopState} {pend pend' : Option Ex} {fid : Nat} {ts : List AV} {ps : List Nat} {as bd : ACode} {d : Nat} (ho : h[o]? = some (.loop st pend fid ts ps as bd d)) (hl : φ o = some (l,z))
  {lp : Loop} (hlp : w.heap[l]? = some (.loop lp)) (lim : Nat) (hlim : lim ≤ o) :
  Post P mode S φ B lim h w none S φ (h.set o (.loop st' pend' fid ts ps as bd d)) (World.put w l (.loop { lp with state:=st',pending:=pend'.bind exCode })):=by
 obtain ⟨l',z',lp',h1,h2,h3,h4,h5,h6,h7,h8,h9,h10⟩:=loop_of H ho
 rw [hl] at h1; cases h1
 rw [hlp] at h2; cases h2
 have hlt:=(Array.getElem?_eq_some_iff.1 hlp).1
 refine H.replace ho hl (fun x hx => by cases x <;> simp_all [mayShare]) (by simp) ?_ (by trivial) lim hlim
 exact ⟨{ lp with state:=st',pending:=pend'.bind exCode },by simp [World.put,hlt],rfl,rfl,h5,h6,h7,h8,h9,h10⟩
theorem evCode_snd {call : Callee} (hcall : CallSnd P mode call) (hfr : FrameOk call) {fid : Nat} (hdraw : ∀ m,DrawOk P m call) {lim n : Nat} {rnd : Option Nat} {b : Frame} (hb : b.fn = fid) (hro : rnd = none → b.roundOf = none) :
  ∀
   (c : Code) (ac : ACode),cCode P (mode fid) c = some ac → ∀ (S : Fz) (φ : Mp) (st : St) (a : Act) (w : World) (ex : Ex) (st' : St),StRel P mode S φ B st a w → lim ≤ st.heap.length → evCode call lim n rnd fid ac st = some (ex,st') → ∀ (k : List Item) (cs : List Frame),
   CodeOk P mode S φ B lim st a w (lone (b.atR a (.code c :: k)) cs w) b k cs ex st':=by
 intro c
 induction c with
 |
  skip =>
  intro ac hc S φ st a w ex st' R hl hx k cs
  simp only [cCode,Option.some.injEq] at hc; subst hc
  simp only [evCode] at hx; cases hx
  exact ⟨S,φ,w,a,R,Post.refl R.hr _ _,.one stepR_skip⟩
 |
  label l =>
  intro ac hc S φ st a w ex st' R hl hx k cs
  simp only [cCode,Option.some.injEq] at hc; subst hc
  simp only [evCode] at hx; cases hx
  exact ⟨S,φ,w,a,R,Post.refl R.hr _ _,.one stepR_label⟩
 |
  exit id =>
  intro ac hc S φ st a w ex st' R hl hx k cs
  simp only [cCode,Option.some.injEq] at hc; subst hc
  simp only [evCode] at hx; cases hx
  exact ⟨S,φ,w,a,R,Post.refl R.hr _ _,k,rfl,Steps.refl P _⟩
 |
  ret =>
  intro ac hc S φ st a w ex st' R hl hx k cs
  simp only [cCode,Option.some.injEq] at hc; subst hc
  simp only [evCode] at hx; cases hx
  exact ⟨S,φ,w,a,R,Post.refl R.hr _ _,k,Steps.refl P _⟩
 | goto l => intro ac hc; simp [cCode] at hc
 | refuse s => intro ac hc; simp [cCode] at hc
 |
  region id ops draw =>
  intro ac hc S φ st a w ex st' R hl hx k cs
  obtain ⟨kk,as,rfl⟩ : ∃ kk as,ac = .region kk as:=by
   simp only [cCode,Option.bind_eq_bind,Option.bind_eq_some_iff] at hc
   obtain ⟨l,_,hc⟩:=hc
   split at hc
   ·simp only [Option.some.injEq] at hc; exact ⟨_,_,hc.symm⟩
   ·split at hc
    ·split at hc
     ·simp only [Option.some.injEq] at hc; exact ⟨_,_,hc.symm⟩
     ·split at hc
      ·simp only [Option.some.injEq] at hc; exact ⟨_,_,hc.symm⟩
      ·cases hc
    ·cases hc
  simp only [evCode] at hx
  split at hx
  ·rename_i ts' h' he
   cases hx
   exact region_snd hcall hfr hdraw hc R hl he
  ·cases hx
 |
  seq x y ihx ihy =>
  intro ac hc S φ st a w ex st' R hl hx k cs
  simp only [cCode,Option.bind_eq_bind,Option.bind_eq_some_iff,Option.some.injEq] at hc
  obtain ⟨ax,hax,ay,hay,rfl⟩:=hc
  simp only [evCode] at hx
  cases he : evCode call lim n rnd fid ax st with
  | none => rw [he] at hx; cases hx
  |
   some q =>
   obtain ⟨e1,s1⟩:=q
   rw [he] at hx
   obtain ⟨S1,φ1,w1,a1,R1,p1,l1⟩:=ihx ax hax S φ st a w e1 s1 R hl he (.code y :: k) cs
   cases e1 with
   |
    nrm =>
    obtain ⟨S2,φ2,w2,a2,R2,p2,l2⟩:=ihy ay hay S1 φ1 s1 a1 w1 ex st' R1 (Nat.le_trans hl p1.len) hx k cs
    exact ⟨S2,φ2,w2,a2,R2,p1.trans p2,(l2.of l1).of (.one stepR_seq)⟩
   | exit id => cases hx; exact ⟨S1,φ1,w1,a1,R1,p1,(l1.pass (.inl rfl) (by simp)).of (.one stepR_seq)⟩
   | ret => cases hx; exact ⟨S1,φ1,w1,a1,R1,p1,(l1.pass (.inl rfl) (by simp)).of (.one stepR_seq)⟩
 |
  cond o x y ihx ihy =>
  intro ac hc S φ st a w ex st' R hl hx k cs
  simp only [cCode,Option.bind_eq_bind,Option.bind_eq_some_iff,Option.some.injEq] at hc
  obtain ⟨ao,hao,ax,hax,ay,hay,rfl⟩:=hc
  have ro:=opd_act R.ts hao
  simp only [evCode] at hx
  split at hx
  ·rename_i ht
   rw [ht] at ro
   have hv : a.eval o = .bool true:=by cases hv : a.eval o <;> rw [hv] at ro <;> cases ro; rfl
   exact CodeOk.of (.one (by have:=stepR_cond (P:=P) (b:=b) (k:=k) (cs:=cs) (w:=w) (x:=x) (y:=y) hv; simpa using this)) (ihx ax hax S φ st a w ex st' R hl hx k cs)
  ·rename_i ht
   rw [ht] at ro
   have hv : a.eval o = .bool false:=by cases hv : a.eval o <;> rw [hv] at ro <;> cases ro; rfl
   exact CodeOk.of (.one (by have:=stepR_cond (P:=P) (b:=b) (k:=k) (cs:=cs) (w:=w) (x:=x) (y:=y) hv; simpa using this)) (ihy ay hay S φ st a w ex st' R hl hx k cs)
  ·cases hx
 |
  block id c ih =>
  intro ac hc S φ st a w ex st' R hl hx k cs
  simp only [cCode,Option.bind_eq_bind,Option.bind_eq_some_iff,Option.some.injEq] at hc
  obtain ⟨ax,hax,rfl⟩:=hc
  simp only [evCode] at hx
  cases he : evCode call lim n rnd fid ax st with
  | none => rw [he] at hx; cases hx
  |
   some q =>
   obtain ⟨e1,s1⟩:=q
   rw [he] at hx
   obtain ⟨S1,φ1,w1,a1,R1,p1,l1⟩:=ih ax hax S φ st a w e1 s1 R hl he (.inBlock id :: k) cs
   have l2:=l1.of (.one (stepR_block (P:=P) (b:=b) (a:=a) (k:=k) (cs:=cs) (w:=w) (id:=id) (c:=c)))
   cases e1 with
   | nrm => cases hx; exact ⟨S1,φ1,w1,a1,R1,p1,Steps.trans l2 (.one stepR_inBlock)⟩
   |
    exit id' =>
    simp only at hx
    obtain ⟨k',hk,hs⟩:=l2
    split at hx
    ·rename_i e; subst e; cases hx
     refine ⟨S1,φ1,w1,a1,R1,p1,Steps.trans hs (.one (stepR_exit ?_))⟩
     rw [hk]; simp [exitTo]
    ·rename_i e; cases hx
     refine ⟨S1,φ1,w1,a1,R1,p1,k',hk.trans ?_,hs⟩
     have : (id == id') = false:=by simp; exact fun h => e h.symm
     simp [exitTo,this]
   | ret => cases hx; exact ⟨S1,φ1,w1,a1,R1,p1,l2⟩
 |
  scope c ih =>
  intro ac hc S φ st a w ex st' R hl hx k cs
  simp only [cCode,Option.bind_eq_bind,Option.bind_eq_some_iff,Option.some.injEq] at hc
  obtain ⟨ax,hax,rfl⟩:=hc
  simp only [evCode] at hx
  obtain ⟨S1,φ1,w1,a1,R1,p1,l1⟩:=ih ax hax S φ st a w ex st' R hl hx (.inScope c :: k) cs
  have l2:=l1.of (.one (stepR_scope (P:=P) (b:=b) (a:=a) (k:=k) (cs:=cs) (w:=w) (c:=c)))
  cases ex with
  | nrm => exact ⟨S1,φ1,w1,a1,R1,p1,Steps.trans l2 (.one stepR_inScope)⟩
  | exit id => exact ⟨S1,φ1,w1,a1,R1,p1,l2.pass (.inr ⟨c,rfl⟩) (by simp)⟩
  | ret => exact ⟨S1,φ1,w1,a1,R1,p1,l2.pass (.inr ⟨c,rfl⟩) (by simp)⟩
 |
  loop c ih =>
  intro ac hc S φ st a w ex st' R hl hx k cs
  simp only [cCode,Option.bind_eq_bind,Option.bind_eq_some_iff,Option.some.injEq] at hc
  obtain ⟨ax,hax,rfl⟩:=hc
  simp only [evCode] at hx
  have key : ∀ (j : Nat) (S : Fz) (φ : Mp) (st : St) (a : Act) (w : World),StRel P mode S φ B st a w → lim ≤ st.heap.length → iter (evCode call lim n rnd fid ax) j st = some (ex,st') →
    CodeOk P mode S φ B lim st a w (lone (b.atR a (.code c :: .inLoop c :: k)) cs w) b k cs ex st':=by
   intro j
   induction j with
   | zero => intro S φ st a w R hl hx; simp [iter] at hx
   |
    succ j ihj =>
    intro S φ st a w R hl hx
    simp only [iter] at hx
    cases he : evCode call lim n rnd fid ax st with
    | none => rw [he] at hx; cases hx
    |
     some q =>
     obtain ⟨e1,s1⟩:=q
     rw [he] at hx
     obtain ⟨S1,φ1,w1,a1,R1,p1,l1⟩:=ih ax hax S φ st a w e1 s1 R hl he (.inLoop c :: k) cs
     cases e1 with
     |
      nrm =>
      obtain ⟨S2,φ2,w2,a2,R2,p2,l2⟩:=ihj S1 φ1 s1 a1 w1 R1 (Nat.le_trans hl p1.len) hx
      exact ⟨S2,φ2,w2,a2,R2,p1.trans p2,l2.of (Steps.trans l1 (.one stepR_inLoop))⟩
     | exit id => cases hx; exact ⟨S1,φ1,w1,a1,R1,p1,l1.pass (.inl rfl) (by simp)⟩
     | ret => cases hx; exact ⟨S1,φ1,w1,a1,R1,p1,l1.pass (.inl rfl) (by simp)⟩
  exact CodeOk.of (.one stepR_loop) (key n S φ st a w R hl hx)
 |
  rangeFunc f ps as bd iha ihb =>
  intro ac hc S φ st a w ex st' R hl hx k cs
  simp only [cCode,Option.bind_eq_bind,Option.bind_eq_some_iff,Option.some.injEq] at hc
  obtain ⟨af,haf,aas,haas,abd,habd,rfl⟩:=hc
  simp only [evCode] at hx
  cases rnd with
  | some _ => cases hx
  |
   none =>
   simp only at hx
   split at hx
   ·rename_i g first captured hfv
    split at hx
    ·rename_i r0 h3 hcl
     have ro:=opd_act R.ts haf
     rw [hfv] at ro
     have hno : ∀ (φ : Mp) (h : List AO),PlOk φ h none:=fun φ h => ⟨fun i hi => by cases hi⟩
     have q1:=R.hr.newObj (a:=.dfr) none (hno _ _) (.deferred (some [])) 0 lim (heap_new w _)
     simp only [Option.getD_none,newObj'] at q1
     obtain ⟨φ1,hφ1⟩ : ∃ φ1,φ1 = φ.set st.heap.length (w.heap.size,0):=⟨_,rfl⟩
     rw [← hφ1] at q1
     obtain ⟨w1,hw1⟩ : ∃ w1,w1 = w.alloc (.deferred (some [])):=⟨_,rfl⟩
     rw [← hw1] at q1
     have hsz1 : w1.heap.size = w.heap.size + 1:=by rw [hw1]; simp
     obtain ⟨lp,hlp⟩ : ∃ lp : Loop,lp = { state:=.ready,pending:=none,fn:=b.fn,tmps:=a.tmps,params:=ps,assign:=as,body:=bd,defers:=w.heap.size }:=⟨_,rfl⟩
     have hdl : φ1 st.heap.length = some (w.heap.size,0):=by rw [hφ1]; exact Mp.set_same _ _ _
     have q2:=q1.hr.newObj (a:=.loop .ready none fid st.tmps ps.toList aas abd st.heap.length) none (hno _ _) (.loop lp) 0 lim (by
      have hle:=Mp.le_set (φ:=φ1) (o:=(st.heap ++ [AO.dfr]).length) (w1.heap.size,0) (pl_none (pl:=none) q1.hr.dom (hno _ _))
      refine ⟨lp,heap_new w1 _,by rw [hlp],by rw [hlp]; rfl,by rw [hlp]; exact hb,?_,by rw [hlp],by rw [hlp]; exact haas,by rw [hlp]; exact habd,0,?_⟩
      ·rw [hlp]
       exact (q1.relL R.hr R.ts).mono (fun _ _ h => h) hle
      ·rw [hlp]; exact hle _ _ hdl)
     simp only [Option.getD_none,newObj',List.append_assoc,List.cons_append,List.nil_append,List.length_append,List.length_cons,List.length_nil,Nat.zero_add] at q2
     obtain ⟨φ2,hφ2⟩ : ∃ φ2,φ2 = φ1.set (st.heap.length + 1) (w1.heap.size,0):=⟨_,rfl⟩
     rw [← hφ2] at q2
     obtain ⟨w2,hw2⟩ : ∃ w2,w2 = w1.alloc (.loop lp):=⟨_,rfl⟩
     rw [← hw2] at q2
     have p12 : Post P mode S φ B lim st.heap w none S φ2 (st.heap ++ [.dfr,.loop .ready none fid st.tmps ps.toList aas abd st.heap.length]) w2 :=
      q1.then q2 (fun i hi => by cases hi)
     have hll : φ2 (st.heap.length + 1) = some (w1.heap.size,0):=by rw [hφ2]; exact Mp.set_same _ _ _
     have hdl2 : φ2 st.heap.length = some (w.heap.size,0):=by rw [hφ2,Mp.set_other _ _ (by omega)]; exact hdl
     have rf:=p12.rel R.hr ro
     cases hv : a.eval f <;> rw [hv] at rf <;> first | (cases rf; done) | skip
     rename_i fn va vb
     cases rf with
     |
      fn _ _ _ _ _ _ hla hlb hra hrb =>
      have r1 : RelL S φ2 first va.toList:=⟨by simpa using hla,fun j x u h1 h2 => hra j x u h1 (by simpa using h2)⟩
      have r2 : RelL S φ2 captured vb.toList:=⟨by simpa using hlb,fun j x u h1 h2 => hrb j x u h1 (by simpa using h2)⟩
      have r3 : RelL S φ2 [.yld (st.heap.length + 1)] [.func (.yield w1.heap.size) #[] #[]]:=.cons (.yld _ _ _ _ hll) .nil
      obtain ⟨g1,g2⟩:=hcall _ _ _ _ _ _ hcl (by simp; omega) S φ2 B w2 _ q2.hr ((r1.append r3).append r2)
      have e1 : (va.toList ++ [Value.func (.yield w1.heap.size) #[] #[]] ++ vb.toList).toArray = va ++ #[.func (.yield w1.heap.size) #[] #[]] ++ vb:=by apply Array.ext'; simp
      rw [e1] at g1 g2
      obtain ⟨mark,hmark⟩ : ∃ mark : List Deferred,mark = [{ target:=.collected w.heap.size,args:=#[] }]:=⟨_,rfl⟩
      obtain ⟨v,w3,⟨S3,φ3,hrv,p3⟩,hst⟩:=g2 (b.atR { a with defers:=mark ++ a.defers } (.inRangeFunc w1.heap.size :: k)) cs
      rw [finish_atR_inRangeFunc] at hst
      have he : (Instr.enterLoop b.fn a.tmps ps as bd b.roundOf).run P w = .ok (w1.heap.size,mark) w2:=by
       rw [hro rfl]
       simp only [Instr.enterLoop,Sem.run_bind,run_newObj,Result.andThen_ok,Sem.run_pure,World.alloc_eq]
       rw [hw2,hw1,hlp,hmark]
      have hres : (resolve a.eval (rangeCall f w1.heap.size) 0).run P w2 = .ok { target:=.fn (.func g) vb,args:=va ++ #[.func (.yield w1.heap.size) #[] #[]] } w2:=by
       have hcv : a.eval (.const (.func (.yield w1.heap.size) #[] #[])) = .func (.yield w1.heap.size) #[] #[]:=rfl
       simp [resolve,rangeCall,hv,hcv,Deferred.ofValue]
      have hinv : (invoke (.fn (.func g) vb) (va ++ #[.func (.yield w1.heap.size) #[] #[]])).run P w2 = .ok (.enter g (va ++ #[.func (.yield w1.heap.size) #[] #[]] ++ vb)) w2:=by
       simp only [invoke]; exact g1 w2
      have hent:=stepR_rangeFunc (P:=P) (b:=b) (a:=a) (k:=k) (cs:=cs) (w:=w) he hres hinv
      have fin : ∀ (ls : LoopState) (pend : Option Ex) (fid' : Nat) (ts' : List AV) (ps' : List Nat) (as' bd' : ACode) (d' : Nat),ls ≠ .busy → h3[st.heap.length + 1]? = some (.loop ls pend fid' ts' ps' as' bd' d') →
        CodeOk P mode S φ B lim st a w (lone (b.atR a (.code (.rangeFunc f ps as bd) :: k)) cs w) b k cs (pend.getD .nrm) { st with heap:=h3.set (st.heap.length + 1) (.loop .exhausted pend fid' ts' ps' as' bd' d'),marks:=st.heap.length :: st.marks }:=by
       intro ls pend fid' ts' ps' as' bd' d' hls hl3
       obtain ⟨l4,z4,lp4,j1,j2,j3,j4,j5,j6,j7,j8,j9,j10⟩:=loop_of p3.hr hl3
       have : φ3 (st.heap.length + 1) = some (w1.heap.size,0):=p3.le _ _ hll
       rw [this] at j1; cases j1
       have hlim : lim ≤ st.heap.length + 1:=by omega
       have p4:=setLoop (st':=.exhausted) (pend':=pend) p3.hr hl3 this j2 lim hlim
       have e4 : { lp4 with state:=LoopState.exhausted,pending:=pend.bind exCode } = { lp4 with state:=.exhausted }:=by rw [← j4]
       rw [e4] at p4
       have hend : (Instr.endLoop w1.heap.size).run P w3 = .ok (pend.bind exCode) (World.put w3 w1.heap.size (.loop { lp4 with state:=.exhausted })):=by
        simp [Instr.endLoop,Instr.getLoop,getObj,setObj,Sem.run,j2,j4,World.put]
        intro h0; rw [j3] at h0; exact absurd h0 hls
       have hst2:=stepR_endRangeFunc (P:=P) (b:=b) (a:={ a with defers:=mark ++ a.defers }) (k:=k) (cs:=cs) hend
       have steps : Steps P (lone (b.atR a (.code (.rangeFunc f ps as bd) :: k)) cs w) (lone (b.atR { a with defers:=mark ++ a.defers } (((pend.bind exCode).map Item.code).toList ++ k)) cs (World.put w3 w1.heap.size (.loop { lp4 with state:=.exhausted }))) :=
        Steps.head hent (Steps.trans hst (.one hst2))
       have pAll : Post P mode S φ B lim st.heap w none S3 φ3 _ _:=(p12.then p3 (fun i hi => by cases hi)).then p4 (fun i hi => by cases hi)
       refine ⟨S3,φ3,_,{ a with defers:=mark ++ a.defers },⟨p4.hr,?_,?_⟩,pAll,?_⟩
       ·exact pAll.relL R.hr R.ts
       ·rw [hmark]
        exact ⟨⟨w.heap.size,0,p3.le _ _ hdl2,rfl⟩,R.mks.mono pAll.le⟩
       ·cases pend with
        | none => exact steps
        |
         some e =>
         cases e with
         | nrm => exact steps
         | exit id => exact ⟨k,rfl,steps⟩
         | ret => exact ⟨k,steps⟩
      split at hx
      ·rename_i pend fid' ts' ps' as' bd' d' hl3
       cases hx
       exact fin _ _ _ _ _ _ _ _ (by simp) hl3
      ·rename_i pend fid' ts' ps' as' bd' d' hl3
       cases hx
       exact fin _ _ _ _ _ _ _ _ (by simp) hl3
      ·cases hx
    ·cases hx
   ·cases hx
end Go.Am
