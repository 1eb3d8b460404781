/-
An abstract machine for the Go code of the model, proved sound, and rules to run code in it (AmZ).
-/
import Derived.Test.YtfknojncfbahpaaGreatAmY
import Derived.WalkKit
import Derived.ProofKit
import Derived.OpenShut
import Derived.Carry
import Derived.ChangeBears
/-
From what is read before a call to the abstract machine's values,and from its answer to the call's contract.
-/
namespace Go.Am
open Go
set_option linter.unusedVariables false
set_option linter.unusedSimpArgs false
def WfC (P : Program) : Nat → TypeId → List AV → Prop
 | 0,_,_ => False
 |
  d + 1,t,cs => match P.underlying t with
  | some .bool => ∃ b,cs = [.bool b]
  | some (.int k) => ∃ i,cs = [.int k i] ∧ (Lit.int k i).wf = true
  | some .string => ∃ s,cs = [.str s] ∧ s.size ≤ maxLen
  | some (.slice e) => cs = [.nils] ∨ ∃ len row,cs = [.cs (P.cellsOf e) len row] ∧ row.length = len * P.cellsOf e ∧ (len ≤ maxLen ∧ len * P.bytesOf e ≤ reachBytes) ∧ ∀ i,i < len → WfC P d e ((row.drop (i * P.cellsOf e)).take (P.cellsOf e))
  | some (.struct fs) => cs.length = P.cellsOf t ∧ ∀ f ∈ fs.toList,WfC P d f.type ((cs.drop f.offset).take (P.cellsOf f.type))
  | some (.array m e) => cs.length = P.cellsOf t ∧ ∀ i,i < m → WfC P d e ((cs.drop (i * P.cellsOf e)).take (P.cellsOf e))
  | _ => False
def plainT (P : Program) : Nat → TypeId → Bool
 | 0,_ => false
 |
  d + 1,t => match P.underlying t with
  | some .bool | some (.int _) | some .string => true
  | some (.slice e) => decide (0 < P.cellsOf e) && plainT P d e
  | some (.struct fs) => fs.toList.all fun f => plainT P d f.type
  | _ => false
theorem pieces {S : Fz} {vs : List Value} {Q : Nat → List AV → Prop} {k off : Nat → Nat} (h0 : off 0 = 0) (hs : ∀ j,off (j + 1) = off j + k j) : ∀ n,off n ≤ vs.length →
  (∀ j,j < n → ∃ cs,RelL S Mp.no cs ((vs.drop (off j)).take (k j)) ∧ Q j cs) → ∃ cs,RelL S Mp.no cs (vs.take (off n)) ∧ ∀ j,j < n → Q j ((cs.drop (off j)).take (k j)):=by
 have mono : ∀ n m,n ≤ m → off n ≤ off m:=by
  intro n m hnm
  induction hnm with
  | refl => exact Nat.le_refl _
  | step _ ih => exact Nat.le_trans ih (by rw [hs]; omega)
 intro n
 induction n with
 | zero => intro _ _; exact ⟨[],by rw [h0,List.take_zero]; exact RelL.nil,fun j hj => by omega⟩
 |
  succ n ih =>
  intro hl hp
  have hle:=mono n (n + 1) (by omega)
  obtain ⟨cs,h1,h2⟩:=ih (by omega) fun j hj => hp j (by omega)
  obtain ⟨pc,h3,h4⟩:=hp n (by omega)
  have l1 : cs.length = off n:=by rw [h1.1,List.length_take]; omega
  have hk:=hs n
  have l2 : pc.length = k n:=by rw [h3.1,List.length_take,List.length_drop]; omega
  refine ⟨cs ++ pc,?_,fun j hj => ?_⟩
  ·have : vs.take (off (n + 1)) = vs.take (off n) ++ (vs.drop (off n)).take (k n):=by rw [hk,List.take_add]
   rw [this]
   exact h1.append h3
  ·by_cases e : j = n
   ·subst e
    rw [List.drop_append,List.drop_eq_nil_of_le (by omega),List.nil_append,show off j - cs.length = 0 by omega,List.drop_zero,List.take_of_length_le (by omega)]
    exact h4
   ·have hj' : j < n:=by omega
    have:=mono (j + 1) n (by omega)
    have hkj:=hs j
    rw [List.drop_append_of_le_length (by omega),List.take_append_of_le_length (by rw [List.length_drop]; omega)]
    exact h2 j hj'
section
variable {H : Type} {enc : TypeId × Value → H} {P : Program} {w : World} {held : Bool} {sp : Nat → Bool}
theorem cell_at {a : Addr} {v : Value} (h : w.cell? a = some v) : ∃ c e fr,w.heap[a.block]? = some (.cells c e fr) ∧ a.spot = none ∧ c[a.off]? = some v:=by
 unfold World.cell? at h
 split at h
 ·rename_i c e fr hb
  split at h
  ·cases h
  ·rename_i hs
   refine ⟨c,e,fr,hb,?_,h⟩
   cases hsp : a.spot with
   | none => rfl
   | some x => simp [hsp] at hs
 ·cases h
theorem cells_at {a : Addr} {n : Nat} {cs : List Value} (h : w.cells? 0 a n = some cs) : cs.length = n ∧ ∀ j,j < n → w.cell? (a.add j) = cs[j]?:=by
 simp only [World.cells?,Nat.zero_le,if_true] at h
 obtain ⟨h1,h2⟩:=mapM_some h
 refine ⟨by simpa using h1,fun j hj => ?_⟩
 obtain ⟨y,hy,hf⟩:=h2 j j (List.getElem?_range hj)
 rw [hf,hy]
theorem add_block (a : Addr) (n : Nat) : (a.add n).block = a.block:=by unfold Addr.add; split <;> rfl
theorem add_off (a : Addr) (n : Nat) : (a.add n).off = a.off + n:=by unfold Addr.add; split <;> simp_all
theorem wAll_at {H : Type} {P : Program} {e : TypeId} : ∀ {l : List (DataW H)} {i : Nat} {d : DataW H},(DataW.weightsAll P e l).all (· ≤ reachBytes) = true → l[i]? = some d → (d.weights P e).all (· ≤ reachBytes) = true
 | [],_,_,_,h => by simp at h
 |
  x :: r,0,d,ha,h => by
  simp only [List.getElem?_cons_zero,Option.some.injEq] at h
  subst h
  rw [DataW.weightsAll,List.all_append,Bool.and_eq_true] at ha
  exact ha.1
 |
  x :: r,i + 1,d,ha,h => by
  rw [DataW.weightsAll,List.all_append,Bool.and_eq_true] at ha
  exact wAll_at ha.2 (by simpa using h)
theorem wEach_at {H : Type} {P : Program} : ∀ {ts : List TypeId} {l : List (DataW H)} {i : Nat} {t : TypeId} {d : DataW H},(DataW.weightsEach P ts l).all (· ≤ reachBytes) = true → ts[i]? = some t → l[i]? = some d → (d.weights P t).all (· ≤ reachBytes) = true
 | [],_,_,_,_,_,h,_ => by simp at h
 | _ :: _,[],_,_,_,_,_,h => by simp at h
 |
  t :: ts,x :: r,0,_,_,ha,h,h' => by
  simp only [List.getElem?_cons_zero,Option.some.injEq] at h h'
  subst h; subst h'
  rw [DataW.weightsEach,List.all_append,Bool.and_eq_true] at ha
  exact ha.1
 |
  t :: ts,x :: r,i + 1,_,_,ha,h,h' => by
  rw [DataW.weightsEach,List.all_append,Bool.and_eq_true] at ha
  exact wEach_at ha.2 (by simpa using h) (by simpa using h')
theorem wEach_app {H : Type} {P : Program} : ∀ {ts us : List TypeId} {l : List (DataW H)},l.length ≤ ts.length → DataW.weightsEach P (ts ++ us) l = DataW.weightsEach P ts l
 | [],us,[],_ => by cases us <;> rfl
 | [],us,_ :: _,h => by simp at h
 | t :: ts,us,[],_ => rfl
 |
  t :: ts,us,x :: r,h => by
  show DataW.weightsEach P (t :: (ts ++ us)) (x :: r) = _
  rw [DataW.weightsEach,DataW.weightsEach,wEach_app (by simpa using h)]
theorem read_rel (hl : laidOutB P = true) : ∀ (d : Nat) (t : TypeId) (fuel : Nat) (vs : List Value) (x : DataW H × List MemPlace),t < P.types.size → plainT P d t = true →
  DataW.trod enc P w 0 sp held fuel t vs = some x → (x.1.weights P t).all (· ≤ reachBytes) = true → ∃ cs,RelL (frozenAll w) Mp.no cs vs ∧ WfC P d t cs:=by
 intro d
 induction d with
 | zero => intro t fuel vs x ht hp; cases hp
 |
  succ d ih =>
  intro t fuel vs x ht hp hx hwt
  simp only [plainT] at hp
  split at hp
  ·rename_i hu
   obtain ⟨b,rfl,_⟩:=DataW.trod_bool hu hx
   exact ⟨[.bool b],.cons (.bool _ b) .nil,by simp only [WfC,hu]; exact ⟨b,rfl⟩⟩
  ·rename_i k hu
   obtain ⟨n,rfl,_,hw⟩:=DataW.trod_int hu hx
   exact ⟨[.int k n],.cons (.int _ k n) .nil,by simp only [WfC,hu]; exact ⟨n,rfl,hw⟩⟩
  ·rename_i hu
   obtain ⟨s,rfl,_,hs⟩:=DataW.trod_string hu hx
   exact ⟨[.str s],.cons (.str _ s) .nil,by simp only [WfC,hu]; exact ⟨s,rfl,hs⟩⟩
  ·rename_i e hu
   simp only [Bool.and_eq_true,decide_eq_true_eq] at hp
   obtain ⟨he0,hpe⟩:=hp
   have hte:=kid_slice hl ht hu
   rcases DataW.trod_slice hu hx with ⟨rfl,_⟩ | ⟨a,len,cap,elems,rest,n,_,rfl,hxe,hb,hlc,hcm,hel,helm,_,_⟩
   ·exact ⟨[.nils],.cons (.nils _) .nil,by simp only [WfC,hu]; exact .inl trivial⟩
   ·have hlm0 : len ≤ maxLen:=Nat.le_trans hlc hcm
    rw [hxe] at hwt
    simp only [DataW.weights,hu,List.all_cons,List.all_append,Bool.and_eq_true,decide_eq_true_eq,List.length_map] at hwt
    obtain ⟨hw1,hw2,_⟩:=hwt
    have hlm : len ≤ maxLen ∧ len * P.bytesOf e ≤ reachBytes:=⟨hlm0,Nat.le_trans (Nat.mul_le_mul_right _ (by omega)) hw1⟩
    obtain ⟨z,hz⟩ : ∃ z,z = P.cellsOf e:=⟨_,rfl⟩
    rw [← hz] at he0 helm
    have each : ∀ i,i < len → ∃ cs' y,w.cells? 0 (a.add (i * z)) z = some cs' ∧ DataW.trod enc P w 0 sp held n e cs' = some y ∧ (y.1.weights P e).all (· ≤ reachBytes) = true:=by
     intro i hi
     have:=helm i hi
     rw [List.getElem?_eq_getElem (by omega)] at this
     simp only [Option.bind_eq_some_iff] at this
     obtain ⟨cs',h1,h2⟩:=this
     exact ⟨cs',_,h1,h2,wAll_at (i:=i) hw2 (by rw [List.getElem?_map,List.getElem?_eq_getElem (by omega)]; rfl)⟩
    by_cases h0 : len = 0
    ·subst h0
     exact ⟨[.cs z 0 []],.cons (.cs0 _ _ _ _) .nil,by simp only [WfC,hu,← hz]; exact .inr ⟨0,[],rfl,by simp,hlm,fun i hi => by omega⟩⟩
    ·-- the block that holds it
     obtain ⟨c,ety,fr,hblk,hsp,hall⟩ : ∃ c ety fr,w.heap[a.block]? = some (.cells c ety fr) ∧ a.spot = none ∧ ∀ i,i < len → ∀ j,j < z → ∀ cs',w.cells? 0 (a.add (i * z)) z = some cs' → c[a.off + (i * z + j)]? = cs'[j]?:=by
      obtain ⟨cs0,y0,k1,k2,_⟩:=each 0 (by omega)
      obtain ⟨k3,k4⟩:=cells_at k1
      have k5:=k4 0 he0
      rw [List.getElem?_eq_getElem (by omega)] at k5
      obtain ⟨c,ety,fr,q1,q2,q3⟩:=cell_at k5
      have ha0 : (a.add (0 * z)).add 0 = a:=by simp [Addr.add]
      rw [ha0] at q1 q2 q3
      refine ⟨c,ety,fr,q1,q2,fun i hi j hj cs' hcs => ?_⟩
      obtain ⟨k6,k7⟩:=cells_at hcs
      have k8:=k7 j hj
      rw [List.getElem?_eq_getElem (by omega)] at k8
      obtain ⟨c',ety',fr',p1,p2,p3⟩:=cell_at k8
      rw [add_block,add_block,q1] at p1
      cases p1
      rw [add_off,add_off,Nat.add_assoc] at p3
      rw [p3,List.getElem?_eq_getElem (by omega)]
     obtain ⟨vs,hvs⟩ : ∃ vs,vs = (c.toList.drop a.off).take (len * z):=⟨_,rfl⟩
     have hvat : ∀ m,m < len * z → vs[m]? = c[a.off + m]?:=by
      intro m hm
      rw [hvs,List.getElem?_take,if_pos hm,List.getElem?_drop,Array.getElem?_toList]
     have hsome : ∀ m,m < len * z → ∃ v,c[a.off + m]? = some v:=by
      intro m hm
      have hi : m / z < len:=(Nat.div_lt_iff_lt_mul he0).2 hm
      have hj : m % z < z:=Nat.mod_lt _ he0
      obtain ⟨cs',y',k1,_⟩:=each (m / z) hi
      have:=hall (m / z) hi (m % z) hj cs' k1
      rw [Nat.mul_comm,Nat.div_add_mod] at this
      obtain ⟨k3,_⟩:=cells_at k1
      exact ⟨_,by rw [this,List.getElem?_eq_getElem (by omega)]⟩
     have hvl : vs.length = len * z:=by
      apply Nat.le_antisymm
      ·rw [hvs,List.length_take]; omega
      ·apply Classical.byContradiction
       intro hh
       have hm : vs.length < len * z:=by omega
       have q:=hvat vs.length hm
       obtain ⟨v,hv⟩:=hsome vs.length hm
       rw [hv,List.getElem?_eq_none (Nat.le_refl _)] at q
       cases q
     obtain ⟨row,hr1,hr2⟩:=pieces (S:=frozenAll w) (vs:=vs) (Q:=fun _ cs => WfC P d e cs) (k:=fun _ => z) (off:=fun i => i * z) (by simp) (fun j => by rw [Nat.succ_mul]) len (by omega) (by
      intro i hi
      obtain ⟨cs',y',k1,k2,k9⟩:=each i hi
      obtain ⟨k3,_⟩:=cells_at k1
      have : (vs.drop (i * z)).take z = cs':=by
       apply List.ext_getElem?
       intro j
       by_cases hj : j < z
       ·have hm : i * z + j < len * z:=by
         have : (i + 1) * z ≤ len * z:=Nat.mul_le_mul_right z (by omega)
         rw [Nat.succ_mul] at this; omega
        rw [List.getElem?_take,if_pos hj,List.getElem?_drop,hvat _ hm,hall i hi j hj cs' k1]
       ·rw [List.getElem?_eq_none (by rw [List.length_take]; omega),List.getElem?_eq_none (by omega)]
      simp only [this]
      exact ih e n cs' y' hte hpe k2 k9)
     rw [List.take_of_length_le (by omega)] at hr1
     refine ⟨[.cs z len row],.cons ?_ .nil,by simp only [WfC,hu,← hz]; exact .inr ⟨len,row,rfl,by rw [hr1.1,hvl],hlm,hr2⟩⟩
     obtain ⟨b,off,spot⟩:=a
     simp only at hsp; subst hsp
     refine .cs _ z len row b off cap c (fun j => c.getD (off + j) undef) (frozenAll_of hblk) (by rw [hr1.1,hvl]) hlc (fun j av hj => ?_) (fun j av hj => ?_)
     ·have hj':=(List.getElem?_eq_some_iff.1 hj).1
      obtain ⟨v,hv⟩:=hsome j (by rw [← hvl,← hr1.1]; exact hj')
      rw [hv,Array.getD_eq_getD_getElem?,hv]; rfl
     ·have hj':=(List.getElem?_eq_some_iff.1 hj).1
      have hm : j < len * z:=by rw [← hvl,← hr1.1]; exact hj'
      obtain ⟨v,hv⟩:=hsome j hm
      refine hr1.2 j av _ hj ?_
      rw [hvat j hm,Array.getD_eq_getD_getElem?,hv]; rfl
  ·rename_i fs hu
   rw [List.all_eq_true] at hp
   obtain ⟨k1,k2,k3⟩:=kid_struct hl ht hu
   obtain ⟨xs,n,_,hxe,hcl,hxl,hf⟩:=DataW.trod_struct hu hx
   rw [hxe] at hwt
   simp only [DataW.weights,hu] at hwt
   obtain ⟨off,hoff⟩ : ∃ off : Nat → Nat,off = fun j => ((fs.toList.take j).map fun f => P.cellsOf f.type).sum:=⟨_,rfl⟩
   obtain ⟨k,hk⟩ : ∃ k : Nat → Nat,k = fun j => ((fs.toList[j]?).map fun f => P.cellsOf f.type).getD 0:=⟨_,rfl⟩
   have hstep : ∀ j,off (j + 1) = off j + k j:=by
    intro j
    rw [hoff,hk]
    simp only
    by_cases hj : j < fs.toList.length
    ·rw [List.take_succ_eq_append_getElem hj,List.map_append,List.sum_append,List.getElem?_eq_getElem hj]; simp
    ·rw [List.take_of_length_le (by omega),List.take_of_length_le (by omega),List.getElem?_eq_none (by omega)]; simp
   have hend : off fs.toList.length = vs.length:=by rw [hoff,hcl,k2]; simp only [List.take_length]
   obtain ⟨cs,h1,h2⟩:=pieces (S:=frozenAll w) (vs:=vs) (Q:=fun j cs => ∀ f,fs.toList[j]? = some f → WfC P d f.type cs) (k:=k) (off:=off) (by rw [hoff]; simp) hstep fs.toList.length (by omega) (by
    intro j hj
    have hjf:=List.getElem?_eq_getElem hj
    obtain ⟨f,hfe⟩ : ∃ f,f = fs.toList[j]:=⟨_,rfl⟩
    rw [← hfe] at hjf
    have hmem : f ∈ fs.toList:=by rw [hfe]; exact List.getElem_mem hj
    have ho : off j = f.offset:=by rw [hoff]; exact (k3 j f hjf).symm
    have hkj : k j = P.cellsOf f.type:=by rw [hk]; simp only [hjf,Option.map_some,Option.getD_some]
    have q:=hf j f (by rw [← Array.getElem?_toList]; exact hjf)
    have hxj : j < xs.length:=by rw [hxl]; simpa using hj
    rw [List.getElem?_eq_getElem hxj] at q
    obtain ⟨cs,p1,p2⟩:=ih f.type n _ _ (k1 f hmem) (hp f hmem) q (wEach_at (i:=j) hwt (by rw [List.getElem?_map,hjf]; rfl) (by rw [List.getElem?_map,List.getElem?_eq_getElem hxj]; rfl))
    refine ⟨cs,by rw [ho,hkj]; exact p1,fun f' hf' => ?_⟩
    rw [hjf] at hf'; cases hf'; exact p2)
   rw [hend,List.take_length] at h1
   refine ⟨cs,h1,?_⟩
   simp only [WfC,hu]
   refine ⟨by rw [h1.1,hcl],fun f hf' => ?_⟩
   obtain ⟨j,hj,hje⟩:=List.getElem_of_mem hf'
   have hjf : fs.toList[j]? = some f:=by rw [List.getElem?_eq_getElem hj,hje]
   have:=h2 j hj f hjf
   have ho : off j = f.offset:=by rw [hoff]; exact (k3 j f hjf).symm
   have hkj : k j = P.cellsOf f.type:=by rw [hk]; simp only [hjf,Option.map_some,Option.getD_some]
   rw [ho,hkj] at this
   exact this
  ·cases hp
end
section
variable {P : Program} {d : Nat} {t e : TypeId} {cs : List AV}
theorem wf_int {k : IntKind} (hu : P.underlying t = some (.int k)) (h : WfC P (d + 1) t cs) : ∃ i,cs = [.int k i] ∧ (Lit.int k i).wf = true:=by
 simp only [WfC,hu] at h; exact h
theorem wf_struct {fs : Array Field} (hu : P.underlying t = some (.struct fs)) (h : WfC P (d + 1) t cs) :
  cs.length = P.cellsOf t ∧ ∀ (j : Nat) f,fs[j]? = some f → WfC P d f.type ((cs.drop f.offset).take (P.cellsOf f.type)):=by
 simp only [WfC,hu] at h
 refine ⟨h.1,fun j f hf => h.2 f ?_⟩
 rw [← Array.getElem?_toList] at hf
 exact List.mem_of_getElem? hf
theorem wf_slice (hu : P.underlying t = some (.slice e)) (h : WfC P (d + 1) t cs) :
  cs = [.nils] ∨ ∃ len row,cs = [.cs (P.cellsOf e) len row] ∧ row.length = len * P.cellsOf e ∧ (len ≤ maxLen ∧ len * P.bytesOf e ≤ reachBytes) ∧ ∀ i,i < len → WfC P d e ((row.drop (i * P.cellsOf e)).take (P.cellsOf e)):=by
 simp only [WfC,hu] at h; exact h
end
theorem row_list {α : Type} {k : Nat} {enc : α → List AV} {p : α → Prop} : ∀ (len : Nat) (row : List AV),row.length = len * k → (∀ i,i < len → ∃ s,(row.drop (i * k)).take k = enc s ∧ p s) → ∃ l : List α,l.length = len ∧ row = l.flatMap enc ∧ ∀ s ∈ l,p s
 | 0,row,h,_ => ⟨[],rfl,by simpa using h,by simp⟩
 |
  n + 1,row,h,hx => by
  obtain ⟨s,h1,h2⟩:=hx 0 (by omega)
  rw [Nat.zero_mul,List.drop_zero] at h1
  rw [Nat.succ_mul] at h
  obtain ⟨l,k1,k2,k3⟩:=row_list (k:=k) (enc:=enc) (p:=p) n (row.drop k) (by rw [List.length_drop]; omega) fun i hi => by
   obtain ⟨s,q1,q2⟩:=hx (i + 1) (by omega)
   exact ⟨s,by rw [List.drop_drop,← q1,Nat.succ_mul,Nat.add_comm],q2⟩
  refine ⟨s :: l,by simp [k1],?_,by simpa using ⟨h2,k3⟩⟩
  rw [List.flatMap_cons,← h1,← k2,List.take_append_drop]
theorem wf_sl {α : Type} {P : Program} {d : Nat} {t e : TypeId} {cs : List AV} {k : Nat} {enc : α → List AV} {p : α → Prop} (hu : P.underlying t = some (.slice e)) (hk : P.cellsOf e = k)
  (he : ∀ c,WfC P d e c → ∃ s,c = enc s ∧ p s) (h : WfC P (d + 1) t cs) : ∃ (l : List α) (v : AV),cs = [v] ∧ IsSl k enc l v ∧ (l.length ≤ maxLen ∧ l.length * P.bytesOf e ≤ reachBytes) ∧ ∀ s ∈ l,p s:=by
 rcases wf_slice hu h with rfl | ⟨len,row,rfl,h1,h2,h3⟩
 ·exact ⟨[],.nils,rfl,.inr ⟨rfl,rfl⟩,⟨Nat.zero_le _,by simp⟩,by simp⟩
 ·rw [hk] at h1 h3 ⊢
  obtain ⟨l,k1,k2,k3⟩:=row_list (p:=p) len row h1 fun i hi => he _ (h3 i hi)
  subst k1; subst k2
  exact ⟨l,_,rfl,.inl rfl,h2,k3⟩
theorem view_boolR {st : Bool} {h : List AO} {n : Nat} {r : AV} {b : Bool} (hv : view st h n r = some (.bool b)) : r = .bool b:=by
 cases n <;> cases r <;> simp [view] at hv <;> first | (subst hv; rfl) | skip
 all_goals (split at hv <;> simp at hv)
theorem calls_of {P : Program} {mode : Nat → Nat → Nat} {E : Env} (hE : EnvOk P mode E) {f : Nat} {args : List AV} {vals : Array Value} {w : World} {st : Bool} (hi : Iso E f args st = some (.bool true))
  (ra : RelL (frozenAll w) Mp.no args vals.toList) : Calls P f vals w fun e w' => e = .returned (.bool true) ∧ Go.RowKit.Below w.heap.size w w':=by
 simp only [Iso] at hi
 split at hi
 ·rename_i r h' hr
  obtain rfl:=view_boolR hi
  obtain ⟨N,hN⟩:=R_some.1 hr
  obtain ⟨_,hl⟩:=callN_leaves hE N (callN_snd hE N) (hN (N + 1) (by omega)) (Nat.zero_le _) (HR.empty (frozenAll w) w (frozenAll_fro w)) ra
  intro cs
  obtain ⟨v,w',fr,⟨S',φ',hrel,hpost⟩,hs,h1,h2⟩:=hl cs
  have hv : v = .bool true:=by cases hrel; rfl
  subst hv
  have e : vals.toList.toArray = vals:=by simp
  rw [e] at hs
  exact ⟨.returned (.bool true),w',fr,⟨rfl,⟨hpost.fx.os,hpost.fx.tape,hpost.fx.out,hpost.fx.size,hpost.fx.old⟩⟩,hs,h1,h2⟩
 ·cases hi
def topV (P : Program) (t : TypeId) (cs : List AV) : AV:=match P.underlying t with
 | some (.struct _) | some (.array _ _) => .agg cs
 | _ => cs.headD .undef
theorem arg_rel {H : Type} {enc : TypeId × Value → H} {P : Program} {w : World} (hl : laidOutB P = true) {d : Nat} {t : TypeId} (ht : t < P.types.size) (hp : plainT P d t = true) {r : Reach} {b : Nat} {v : Value} (hv : Value.okWide P w r b t v) {sp : Nat → Bool} {held : Bool}
  {x : DataW H} {ps : List MemPlace} (hd : DataW.Trod enc P w 0 sp held t v x ps) (hwt : (x.weights P t).all (· ≤ reachBytes) = true) : ∃ cs,WfC P d t cs ∧ Rel (frozenAll w) Mp.no (topV P t cs) v:=by
 obtain ⟨fuel,hf⟩:=hd
 obtain ⟨cs,h1,h2⟩:=read_rel hl d t fuel _ _ ht hp hf hwt
 refine ⟨cs,h2,?_⟩
 unfold topV
 cases d with
 | zero => cases hp
 |
  succ d =>
  simp only [plainT] at hp
  have single : ∀ v0 a,v.cells.toList = [v0] → cs = [a] → (∀ c,v ≠ .agg c) → Rel (frozenAll w) Mp.no (cs.headD .undef) v:=by
   intro v0 a hvc hca hna
   subst hca
   have hv0 : v0 = v:=by
    cases v <;> simp [Value.cells] at hvc <;> first | exact hvc.symm | skip
    rename_i c; exact absurd rfl (hna c)
   subst hv0
   rw [hvc] at h1
   exact h1.2 0 a v0 rfl rfl
  split
  ·rename_i fs hu
   simp only [Value.okWide,hu] at hv
   obtain ⟨c,rfl,_,_⟩:=hv
   exact Rel.agg_iff.2 h1
  ·rename_i n e hu
   simp [hu] at hp
  ·rename_i hn1 hn2
   split at hp
   ·rename_i hu
    obtain ⟨b,hb,_⟩:=DataW.trod_bool hu hf
    obtain ⟨c,rfl⟩ : ∃ c,cs = [c]:=by
     have:=h1.1; rw [hb] at this
     match cs,this with
     | [c],_ => exact ⟨c,rfl⟩
    refine single _ _ hb rfl fun c hc => ?_
    subst hc; simp only [Value.okWide,hu,Cell.okWide,Cell.ok] at hv
   ·rename_i k hu
    obtain ⟨n,hb,_⟩:=DataW.trod_int hu hf
    obtain ⟨c,rfl⟩ : ∃ c,cs = [c]:=by
     have:=h1.1; rw [hb] at this
     match cs,this with
     | [c],_ => exact ⟨c,rfl⟩
    refine single _ _ hb rfl fun c hc => ?_
    subst hc; simp only [Value.okWide,hu,Cell.okWide,Cell.ok] at hv
   ·rename_i hu
    obtain ⟨s,hb,_⟩:=DataW.trod_string hu hf
    obtain ⟨c,rfl⟩ : ∃ c,cs = [c]:=by
     have:=h1.1; rw [hb] at this
     match cs,this with
     | [c],_ => exact ⟨c,rfl⟩
    refine single _ _ hb rfl fun c hc => ?_
    subst hc; simp only [Value.okWide,hu,Cell.okWide,Cell.ok] at hv
   ·rename_i e hu
    have hb : ∃ v0,v.cells.toList = [v0]:=by
     rcases DataW.trod_slice hu hf with ⟨hb,_⟩ | ⟨_,_,_,_,_,_,_,hb,_⟩ <;> exact ⟨_,hb⟩
    obtain ⟨v0,hb⟩:=hb
    obtain ⟨c,rfl⟩ : ∃ c,cs = [c]:=by
     have:=h1.1; rw [hb] at this
     match cs,this with
     | [c],_ => exact ⟨c,rfl⟩
    refine single _ _ hb rfl fun c hc => ?_
    subst hc; simp only [Value.okWide,hu,Cell.okWide,Cell.ok] at hv
   ·rename_i fs hu; exact absurd hu (hn1 fs)
   ·cases hp
section
open Go.ChangeShapes Go.WideShapes Go.RowKit
variable {H : Type} {enc : TypeId × Value → H} {P : Program} {W W' : World}
theorem args_same (hl : laidOutB P = true) {sp : Nat → Bool} (hb : Below W.heap.size W W') : ∀ {ts : List TypeId} {vs : List Value} {ds : List (DataW H)} {ps : List MemPlace},DataW.TrodAll enc P W 0 (fun _ => true) true ts vs ds ps →
  (∀ t ∈ ts,P.readableRec t = true ∧ t < P.types.size) → (∀ x ∈ ps,x.block < W.heap.size) → (∀ x ∈ ps,sp x.block = true) → DataW.TrodAll enc P W' 0 sp true ts vs ds ps
 | [],[],[],_,h,_,_,_ => h
 |
  t :: ts,v :: vs,d :: ds,_,⟨p,q,h1,h2,e⟩,ht,hlt,hs => by
  subst e
  exact ⟨p,q,WideElems.Trod_stays hl (ht t (by simp)).1 (ht t (by simp)).2 h1 (fun x hx => hb.same (hlt x (by simp [hx]))) (fun x hx => hs x (by simp [hx])),
   args_same hl hb h2 (fun u hu => ht u (by simp [hu])) (fun x hx => hlt x (by simp [hx])) (fun x hx => hs x (by simp [hx])),rfl⟩
theorem args_rel (hl : laidOutB P = true) {d base : Nat} {r : Reach} : ∀ {ts : List TypeId} {vs : List Value} {ds : List (DataW H)} {ps : List MemPlace},DataW.TrodAll enc P W 0 (fun _ => true) true ts vs ds ps →
  (∀ t ∈ ts,plainT P d t = true ∧ t < P.types.size) → (∀ (j : Nat) t v,ts[j]? = some t → vs[j]? = some v → Value.okWide P W r base t v) → (DataW.weightsEach P ts ds).all (· ≤ reachBytes) = true →
  ∃ cs : List (List AV),cs.length = ts.length ∧ RelL (frozenAll W) Mp.no (List.zipWith (topV P) ts cs) vs ∧ ∀ (j : Nat) t c,ts[j]? = some t → cs[j]? = some c → WfC P d t c
 | [],[],[],_,h,_,_,_ => ⟨[],rfl,.nil,by simp⟩
 |
  t :: ts,v :: vs,x :: ds,_,⟨p,q,h1,h2,e⟩,ht,hv,hz => by
  rw [DataW.weightsEach,List.all_append,Bool.and_eq_true] at hz
  obtain ⟨c,k1,k2⟩:=arg_rel hl (ht t (by simp)).2 (ht t (by simp)).1 (hv 0 t v rfl rfl) h1 hz.1
  obtain ⟨cs,q1,q2,q3⟩:=args_rel hl h2 (fun u hu => ht u (by simp [hu])) (fun j t v a b => hv (j + 1) t v (by simpa using a) (by simpa using b)) hz.2
  refine ⟨c :: cs,by simp [q1],.cons k2 q2,fun j t' c' a b => ?_⟩
  cases j with
  | zero => simp at a b; subst a; subst b; exact k1
  | succ j => exact q3 j t' c' (by simpa using a) (by simpa using b)
theorem trodAll_len {base : Nat} {sp : Nat → Bool} {hd : Bool} : ∀ {ts : List TypeId} {vs : List Value} {ds : List (DataW H)} {ps : List MemPlace},DataW.TrodAll enc P W base sp hd ts vs ds ps → ds.length = ts.length
 | [],[],[],_,_ => rfl
 | t :: ts,v :: vs,d :: ds,_,⟨p,q,h1,h2,e⟩ => by simp [trodAll_len h2]
theorem contract_of (hl : laidOutB P = true) {mode : Nat → Nat → Nat} {E : Env} (hE : EnvOk P mode E) {K : Nat} {F : Func} {s : ChangeSpec} {d : Nat} {tb : TypeId} (hvars : s.vars = [])
  (hspec : ∀ ds : List (DataW H),ds.length = F.params.size → s.fn H ds = { results:=[.lit (.bool true)],args:=ds })
  (hres : F.resultTypes = #[tb]) (htb : P.underlying tb = some .bool)
  (hplain : F.params.toList.all (fun t => plainT P d t && P.readableRec t && decide (t < P.types.size)) = true)
  (hlaw : ∀ cs : List (List AV),cs.length = F.params.size → (∀ (j : Nat) t c,F.params.toList[j]? = some t → cs[j]? = some c → WfC P d t c) → ∃ st,Iso E K (List.zipWith (topV P) F.params.toList cs) st = some (.bool true))
  (base : Nat) (args : Array Value) (ds gs : List (DataW H)) (before : List MemPlace)
  (hval : ∀ (j : Nat) t v,F.params[j]? = some t → args[j]? = some v → Value.okWide P W .any base t v)
  (hW : DataW.Whole enc P F.params.toList s.vars false W args.toList ds gs before) (hz : (DataW.weightsEach P (F.params.toList ++ s.plain.varTypes P) (ds ++ gs)).all (· ≤ reachBytes) = true) :
  Calls P K args W fun e W' => ∃ v,e = .returned v ∧ s.post enc P F false true false false W args v W':=by
 have hW0:=hW
 have hlt : ∀ p ∈ before,p.block < W.heap.size:=fun p hp => hW.lt p hp
 obtain ⟨p,q,hA,hV,rfl,hfz,hnd⟩:=hW
 have hts : ∀ t ∈ F.params.toList,plainT P d t = true ∧ P.readableRec t = true ∧ t < P.types.size:=fun t ht => by
  have:=List.all_eq_true.1 hplain t ht
  simp only [Bool.and_eq_true,decide_eq_true_eq] at this
  exact ⟨this.1.1,this.1.2,this.2⟩
 rw [hvars] at hV
 obtain ⟨rfl,rfl⟩:=trodVars_none hV
 have hlen : ds.length = F.params.size:=by rw [trodAll_len hA]; simp
 rw [List.append_nil,wEach_app (by rw [hlen]; simp)] at hz
 obtain ⟨cs,k1,k2,k3⟩:=args_rel hl hA (fun t ht => ⟨(hts t ht).1,(hts t ht).2.2⟩) (fun j t v a b => hval j t v (by simpa using a) (by simpa using b)) hz
 obtain ⟨st,hi⟩:=hlaw cs (by simpa using k1) k3
 simp only [List.append_nil] at hlt
 refine (calls_of hE hi k2).mono fun e W' ⟨he,hb⟩ => ?_
 subst he
 have hsp : s.fn H (ds ++ []) = { results:=[.lit (.bool true)],args:=ds }:=by rw [List.append_nil]; exact hspec ds hlen
 refine ⟨_,rfl,ds,[],p ++ [],[],p,[],hW0,?_,?_,?_,?_,fun h => by cases h⟩
 ·rw [hsp,hres]
  exact trodAll_cons_mk (shut_bool htb _) trodAll_mk0
 ·rw [hsp]
  exact args_same hl hb hA (fun t ht => (hts t ht).2) hlt (fun x hx => by simpa using hlt x hx)
 ·rw [hsp,hvars]; rfl
 ·refine ⟨hb.os,hb.output,fun i hi => ?_⟩
  rw [hb.block i hi]
  cases W.heap[i]? with
  | none => rfl
  | some o => cases o <;> first | exact ⟨rfl,rfl,rfl,fun _ _ => rfl⟩ | exact .inr ⟨rfl,rfl⟩ | rfl
end
end Go.Am
