/-
Functions of both sides of stage 1, one after another (A1).
-/
import Derived.Test.YtfknojncfbahpaaGreatTab
/-
Numbers whose differences are bounded: what bounds say of all of them,one bound more,and that each bound is reached.
-/
namespace Go.Proofs.YtfknojncfbahpaaGreat.S
open Go Go.Am
set_option linter.unusedSimpArgs false
set_option linter.unusedVariables false
abbrev Bd:=Nat → Nat → Int
structure Cld (N : Nat) (b : Bd) : Prop where
 z : ∀ k,k < N → b k k = 0
 t : ∀ k l m,k < N → l < N → m < N → b k l ≤ b k m + b m l
def Sat (N : Nat) (b : Bd) (x : Nat → Int) : Prop:=∀ k l,k < N → l < N → x k - x l ≤ b k l
def mn (x y : Int) : Int:=if y < x then y else x
def upd (b : Bd) (i j : Nat) (m : Int) : Bd:=fun k l => mn (b k l) (b k i + m + b j l)
theorem mn_le1 {x y : Int} : mn x y ≤ x:=by unfold mn; split <;> omega
theorem mn_le2 {x y : Int} : mn x y ≤ y:=by unfold mn; split <;> omega
theorem mn_or {x y : Int} : mn x y = x ∨ mn x y = y:=by unfold mn; split <;> simp
theorem le_mn {x y z : Int} (h1 : z ≤ x) (h2 : z ≤ y) : z ≤ mn x y:=by unfold mn; split <;> omega
section
variable {N : Nat} {b : Bd} {i j : Nat} {m : Int}
theorem upd_none (hi : i < N) (hj : j < N) (h : b j i + m < 0) {x : Nat → Int} (hx : Sat N b x) : ¬ x i - x j ≤ m:=by
 have:=hx j i hj hi
 omega
theorem upd_sat (C : Cld N b) (hi : i < N) (hj : j < N) {x : Nat → Int} : Sat N (upd b i j m) x ↔ Sat N b x ∧ x i - x j ≤ m:=by
 constructor
 ·intro h
  refine ⟨fun k l hk hl => Int.le_trans (h k l hk hl) mn_le1,?_⟩
  have h1:=h i j hi hj
  have h2 : upd b i j m i j ≤ b i i + m + b j j:=mn_le2
  have e1:=C.z i hi
  have e2:=C.z j hj
  omega
 ·rintro ⟨h,h1⟩ k l hk hl
  have h2:=h k i hk hi
  have h3:=h j l hj hl
  exact le_mn (h k l hk hl) (by omega)
theorem upd_cld (C : Cld N b) (hi : i < N) (hj : j < N) (h : 0 ≤ b j i + m) : Cld N (upd b i j m):=by
 refine ⟨fun k hk => ?_,fun k l n hk hl hn => ?_⟩
 ·have e1:=C.z k hk
  have h1:=C.t j i k hj hi hk
  have : upd b i j m k k = b k k:=by
   unfold upd mn; rw [if_neg (by omega)]
  rw [this,e1]
 ·have t1:=C.t k l n hk hl hn
  have t2:=C.t k i n hk hi hn
  have t3:=C.t j l n hj hl hn
  have t4:=C.t j i n hj hi hn
  have u1 : upd b i j m k l ≤ b k l:=mn_le1
  have u2 : upd b i j m k l ≤ b k i + m + b j l:=mn_le2
  have o1 : upd b i j m k n = b k n ∨ upd b i j m k n = b k i + m + b j n:=mn_or
  have o2 : upd b i j m n l = b n l ∨ upd b i j m n l = b n i + m + b j l:=mn_or
  omega
theorem upd_row (C : Cld N b) (hi : i < N) (hj : j < N) (h : 0 ≤ b j i + m) {k : Nat} (hk : k < N) : upd b i j m k i = b k i:=by
 unfold upd mn; rw [if_neg (by omega)]
theorem upd_col (C : Cld N b) (hi : i < N) (hj : j < N) (h : 0 ≤ b j i + m) {l : Nat} (hl : l < N) : upd b i j m j l = b j l:=by
 unfold upd mn; rw [if_neg (by omega)]
theorem reach (C : Cld N b) {l : Nat} (hl : l < N) : Sat N b (fun k => b k l):=fun k n hk hn => by
 have:=C.t k l n hk hl hn
 show b k l - b n l ≤ _
 omega
theorem sat_shift {x : Nat → Int} (c : Int) (h : Sat N b x) : Sat N b (fun k => x k + c):=fun k l hk hl => by
 have:=h k l hk hl
 show x k + c - (x l + c) ≤ _
 omega
theorem reach0 (C : Cld N b) {k l : Nat} (hk : k < N) (hl : l < N) : ∃ x : Nat → Int,Sat N b x ∧ x 0 = 0 ∧ x k - x l = b k l:=by
 refine ⟨fun q => b q l + - b 0 l,sat_shift (- b 0 l) (reach C hl),?_,?_⟩
 ·show b 0 l + - b 0 l = 0; omega
 ·have:=C.z l hl
  show b k l + - b 0 l - (b l l + - b 0 l) = _; omega
theorem leastSat (C : Cld N b) (h0 : 0 < N) : Sat N b (fun k => - b 0 k):=fun k l hk hl => by
 have:=C.t 0 l k h0 hl hk
 show - b 0 k - - b 0 l ≤ _
 omega
end
end Go.Proofs.YtfknojncfbahpaaGreat.S
/-
Spans that are cut by what their numbers differ by,until nothing changes: it ends,and what is left says just what can be.
-/
namespace Go.Proofs.YtfknojncfbahpaaGreat.S
open Go Go.Am
set_option linter.unusedSimpArgs false
set_option linter.unusedVariables false
structure Spn where
 lo : Int
 hi : Int
 deriving Inhabited,DecidableEq
def mx (x y : Int) : Int:=if y > x then y else x
theorem le_mx1 {x y : Int} : x ≤ mx x y:=by unfold mx; split <;> omega
theorem le_mx2 {x y : Int} : y ≤ mx x y:=by unfold mx; split <;> omega
theorem mx_or {x y : Int} : mx x y = x ∨ mx x y = y:=by unfold mx; split <;> simp
theorem mx_le {x y z : Int} (h1 : x ≤ z) (h2 : y ≤ z) : mx x y ≤ z:=by unfold mx; split <;> omega
def cut (a b : Spn) : Spn:=⟨mx a.lo b.lo,mn a.hi b.hi⟩
structure Con where
 a : Nat
 b : Nat
 lo : Int
 hi : Int
abbrev Sps:=Nat → Spn
def dif (S : Sps) (c : Con) : Sps:=fun p => if p = c.a then cut (S c.a) ⟨(S c.b).lo + c.lo,(S c.b).hi + c.hi⟩ else if p = c.b then cut (S c.b) ⟨(S c.a).lo - c.hi,(S c.a).hi - c.lo⟩ else S p
def chg (S : Sps) (c : Con) : Bool:=decide (dif S c c.a ≠ S c.a) || decide (dif S c c.b ≠ S c.b)
inductive Stp where
 | chk (p : Nat)
 | dif (c : Con)
def pass : List Stp → Sps → Bool → Option (Sps × Bool)
 | [],S,ch => some (S,ch)
 | .chk p :: r,S,ch => if (S p).lo > (S p).hi then none else pass r S ch
 | .dif c :: r,S,ch => pass r (dif S c) (chg S c || ch)
def Nar (S S' : Sps) : Prop:=∀ p,(S p).lo ≤ (S' p).lo ∧ (S' p).hi ≤ (S p).hi
theorem Nar.refl (S : Sps) : Nar S S:=fun p => ⟨Int.le_refl _,Int.le_refl _⟩
theorem Nar.trans {A B C : Sps} (h : Nar A B) (h' : Nar B C) : Nar A C:=fun p => ⟨Int.le_trans (h p).1 (h' p).1,Int.le_trans (h' p).2 (h p).2⟩
theorem dif_nar (S : Sps) (c : Con) : Nar S (dif S c):=fun p => by
 unfold dif
 split
 ·rename_i e; subst e; exact ⟨le_mx1,mn_le1⟩
 ·split
  ·rename_i e; subst e; exact ⟨le_mx1,mn_le1⟩
  ·exact ⟨Int.le_refl _,Int.le_refl _⟩
def InS (N : Nat) (S : Sps) (x : Nat → Int) : Prop:=∀ p,p < N → (S p).lo ≤ x p ∧ x p ≤ (S p).hi
def Keeps (cs : List Con) (x : Nat → Int) : Prop:=∀ c ∈ cs,c.lo ≤ x c.a - x c.b ∧ x c.a - x c.b ≤ c.hi
theorem dif_in {N : Nat} {S : Sps} {c : Con} {x : Nat → Int} (ha : c.a < N) (hb : c.b < N) (h : InS N S x) (k : c.lo ≤ x c.a - x c.b ∧ x c.a - x c.b ≤ c.hi) : InS N (dif S c) x:=fun p hp => by
 have h1:=h c.a ha
 have h2:=h c.b hb
 unfold dif
 split
 ·rename_i e; subst e; exact ⟨mx_le h1.1 (by show (S c.b).lo + c.lo ≤ _; omega),le_mn h1.2 (by show _ ≤ (S c.b).hi + c.hi; omega)⟩
 ·split
  ·rename_i e; subst e; exact ⟨mx_le h2.1 (by show (S c.a).lo - c.hi ≤ _; omega),le_mn h2.2 (by show _ ≤ (S c.a).hi - c.lo; omega)⟩
  ·exact h p hp
theorem dif_still {S : Sps} {c : Con} (hab : c.a ≠ c.b) (h : chg S c = false) : (∀ p,dif S c p = S p) ∧ (c.lo ≤ (S c.a).lo - (S c.b).lo ∧ (S c.a).lo - (S c.b).lo ≤ c.hi) ∧ (c.lo ≤ (S c.a).hi - (S c.b).hi ∧ (S c.a).hi - (S c.b).hi ≤ c.hi):=by
 simp only [chg,Bool.or_eq_false_iff,decide_eq_false_iff_not,ne_eq,Classical.not_not] at h
 obtain ⟨h1,h2⟩:=h
 have e1 : dif S c c.a = cut (S c.a) ⟨(S c.b).lo + c.lo,(S c.b).hi + c.hi⟩:=by unfold dif; rw [if_pos rfl]
 have e2 : dif S c c.b = cut (S c.b) ⟨(S c.a).lo - c.hi,(S c.a).hi - c.lo⟩:=by unfold dif; rw [if_neg (fun e => hab e.symm),if_pos rfl]
 refine ⟨fun p => ?_,?_⟩
 ·by_cases ea : p = c.a
  ·subst ea; exact h1
  ·by_cases eb : p = c.b
   ·subst eb; exact h2
   ·unfold dif; rw [if_neg ea,if_neg eb]
 rw [h1] at e1
 rw [h2] at e2
 have a1 : (S c.b).lo + c.lo ≤ (cut (S c.a) ⟨(S c.b).lo + c.lo,(S c.b).hi + c.hi⟩).lo:=le_mx2
 have a2 : (cut (S c.a) ⟨(S c.b).lo + c.lo,(S c.b).hi + c.hi⟩).hi ≤ (S c.b).hi + c.hi:=mn_le2
 have b1 : (S c.a).lo - c.hi ≤ (cut (S c.b) ⟨(S c.a).lo - c.hi,(S c.a).hi - c.lo⟩).lo:=le_mx2
 have b2 : (cut (S c.b) ⟨(S c.a).lo - c.hi,(S c.a).hi - c.lo⟩).hi ≤ (S c.a).hi - c.lo:=mn_le2
 rw [← e1] at a1 a2
 rw [← e2] at b1 b2
 omega
def difs : List Stp → List Con
 | [] => []
 | .chk _ :: r => difs r
 | .dif c :: r => c :: difs r
theorem mem_difs {c : Con} : ∀ {l : List Stp},c ∈ difs l ↔ Stp.dif c ∈ l
 | [] => by simp [difs]
 | .chk p :: r => by simp [difs,mem_difs (l:=r)]
 | .dif d :: r => by simp [difs,mem_difs (l:=r)]
theorem pass_nar : ∀ {l : List Stp} {S : Sps} {ch : Bool} {S' : Sps} {ch' : Bool},pass l S ch = some (S',ch') → Nar S S'
 | [],S,ch,S',ch',h => by cases h; exact Nar.refl S
 |
  .chk p :: r,S,ch,S',ch',h => by
  rw [pass] at h
  split at h
  ·cases h
  ·exact pass_nar h
 |
  .dif c :: r,S,ch,S',ch',h => by
  rw [pass] at h
  exact (dif_nar S c).trans (pass_nar h)
theorem pass_in {N : Nat} {x : Nat → Int} : ∀ {l : List Stp} {S : Sps} {ch : Bool},(∀ c ∈ difs l,c.a < N ∧ c.b < N) → (∀ p,Stp.chk p ∈ l → p < N) → Keeps (difs l) x → InS N S x → ∃ S' ch',pass l S ch = some (S',ch') ∧ InS N S' x
 | [],S,ch,_,_,_,h => ⟨S,ch,rfl,h⟩
 |
  .chk p :: r,S,ch,hc,hp,hk,h => by
  have hpn:=hp p (by simp)
  have h1:=h p hpn
  rw [pass,if_neg (by omega)]
  exact pass_in (l:=r) hc (fun q hq => hp q (by simp [hq])) hk h
 |
  .dif c :: r,S,ch,hc,hp,hk,h => by
  rw [pass]
  have hcn:=hc c (by simp [difs])
  exact pass_in (l:=r) (fun d hd => hc d (by simp [difs,hd])) (fun q hq => hp q (by simp [hq])) (fun d hd => hk d (by simp [difs,hd])) (dif_in hcn.1 hcn.2 h (hk c (by simp [difs])))
theorem pass_still : ∀ {l : List Stp} {S : Sps} {ch : Bool} {S' : Sps},(∀ c ∈ difs l,c.a ≠ c.b) → pass l S ch = some (S',false) → ch = false ∧ (∀ p,S' p = S p) ∧ Keeps (difs l) (fun p => (S p).lo) ∧ Keeps (difs l) (fun p => (S p).hi)
 |
  [],S,ch,S',_,h => by
  cases h
  exact ⟨rfl,fun _ => rfl,fun c hc => by simp [difs] at hc,fun c hc => by simp [difs] at hc⟩
 |
  .chk p :: r,S,ch,S',hn,h => by
  rw [pass] at h
  split at h
  ·cases h
  ·exact pass_still (l:=r) hn h
 |
  .dif c :: r,S,ch,S',hn,h => by
  rw [pass] at h
  obtain ⟨h1,h2,h3,h4⟩:=pass_still (l:=r) (fun d hd => hn d (by simp [difs,hd])) h
  simp only [Bool.or_eq_false_iff] at h1
  obtain ⟨k1,k2,k3⟩:=dif_still (hn c (by simp [difs])) h1.1
  have e : dif S c = S:=funext k1
  rw [e] at h2 h3 h4
  refine ⟨h1.2,h2,fun d hd => ?_,fun d hd => ?_⟩
  ·rcases List.mem_cons.1 hd with rfl | hd
   ·exact k2
   ·exact h3 d hd
  ·rcases List.mem_cons.1 hd with rfl | hd
   ·exact k3
   ·exact h4 d hd
theorem pass_bad {p : Nat} : ∀ {l : List Stp} {S : Sps} {ch : Bool},Stp.chk p ∈ l → (S p).lo > (S p).hi → pass l S ch = none
 | [],S,ch,h,_ => by simp at h
 |
  .chk q :: r,S,ch,h,hb => by
  rw [pass]
  split
  ·rfl
  ·rename_i hq
   rcases List.mem_cons.1 h with e | h
   ·cases e; exact absurd hb hq
   ·exact pass_bad h hb
 |
  .dif c :: r,S,ch,h,hb => by
  rw [pass]
  rcases List.mem_cons.1 h with e | h
  ·cases e
  ·have:=dif_nar S c p
   exact pass_bad h (by omega)
theorem pass_dif {c : Con} (hab : c.a ≠ c.b) : ∀ {l : List Stp} {S : Sps} {ch : Bool} {S' : Sps} {ch' : Bool},Stp.dif c ∈ l → pass l S ch = some (S',ch') → (S c.b).lo + c.lo ≤ (S' c.a).lo ∧ (S' c.a).hi ≤ (S c.b).hi + c.hi
 | [],S,ch,S',ch',h,_ => by simp at h
 |
  .chk q :: r,S,ch,S',ch',h,hp => by
  rw [pass] at hp
  split at hp
  ·cases hp
  ·rcases List.mem_cons.1 h with e | h
   ·cases e
   ·exact pass_dif hab h hp
 |
  .dif d :: r,S,ch,S',ch',h,hp => by
  rw [pass] at hp
  rcases List.mem_cons.1 h with e | h
  ·cases e
   have n:=pass_nar hp c.a
   have e1 : dif S c c.a = cut (S c.a) ⟨(S c.b).lo + c.lo,(S c.b).hi + c.hi⟩:=by unfold dif; rw [if_pos rfl]
   have a1 : (S c.b).lo + c.lo ≤ (cut (S c.a) ⟨(S c.b).lo + c.lo,(S c.b).hi + c.hi⟩).lo:=le_mx2
   have a2 : (cut (S c.a) ⟨(S c.b).lo + c.lo,(S c.b).hi + c.hi⟩).hi ≤ (S c.b).hi + c.hi:=mn_le2
   rw [← e1] at a1 a2
   omega
  ·have n:=dif_nar S d c.b
   have:=pass_dif hab h hp
   omega
def Bdd (N : Nat) (B : Int) (S : Sps) : Prop:=∀ p,p < N → -B ≤ (S p).lo ∧ (S p).lo ≤ B ∧ -B ≤ (S p).hi ∧ (S p).hi ≤ B
theorem dif_bdd {N : Nat} {B : Int} {S : Sps} {c : Con} (ha : c.a < N) (hb : c.b < N) (h1 : 0 ≤ c.lo) (h2 : c.lo ≤ c.hi) (h3 : c.hi ≤ 40) (h : Bdd N B S) : Bdd N (B + 40) (dif S c):=fun p hp => by
 have a:=h c.a ha
 have b:=h c.b hb
 unfold dif cut
 split
 ·have o1 : mx (S c.a).lo ((S c.b).lo + c.lo) = (S c.a).lo ∨ mx (S c.a).lo ((S c.b).lo + c.lo) = (S c.b).lo + c.lo:=mx_or
  have o2 : mn (S c.a).hi ((S c.b).hi + c.hi) = (S c.a).hi ∨ mn (S c.a).hi ((S c.b).hi + c.hi) = (S c.b).hi + c.hi:=mn_or
  show -(B + 40) ≤ mx (S c.a).lo ((S c.b).lo + c.lo) ∧ mx (S c.a).lo ((S c.b).lo + c.lo) ≤ B + 40 ∧ -(B + 40) ≤ mn (S c.a).hi ((S c.b).hi + c.hi) ∧ mn (S c.a).hi ((S c.b).hi + c.hi) ≤ B + 40
  omega
 ·split
  ·have o1 : mx (S c.b).lo ((S c.a).lo - c.hi) = (S c.b).lo ∨ mx (S c.b).lo ((S c.a).lo - c.hi) = (S c.a).lo - c.hi:=mx_or
   have o2 : mn (S c.b).hi ((S c.a).hi - c.lo) = (S c.b).hi ∨ mn (S c.b).hi ((S c.a).hi - c.lo) = (S c.a).hi - c.lo:=mn_or
   show -(B + 40) ≤ mx (S c.b).lo ((S c.a).lo - c.hi) ∧ mx (S c.b).lo ((S c.a).lo - c.hi) ≤ B + 40 ∧ -(B + 40) ≤ mn (S c.b).hi ((S c.a).hi - c.lo) ∧ mn (S c.b).hi ((S c.a).hi - c.lo) ≤ B + 40
   omega
  ·have:=h p hp; omega
theorem pass_bdd {N : Nat} : ∀ {l : List Stp} {B : Int} {S : Sps} {ch : Bool} {S' : Sps} {ch' : Bool},(∀ c ∈ difs l,c.a < N ∧ c.b < N ∧ 0 ≤ c.lo ∧ c.lo ≤ c.hi ∧ c.hi ≤ 40) → Bdd N B S → pass l S ch = some (S',ch') → Bdd N (B + 40 * (difs l).length) S'
 | [],B,S,ch,S',ch',_,h,hp => by cases hp; simpa [difs] using h
 |
  .chk q :: r,B,S,ch,S',ch',hc,h,hp => by
  rw [pass] at hp
  split at hp
  ·cases hp
  ·exact pass_bdd (l:=r) hc h hp
 |
  .dif d :: r,B,S,ch,S',ch',hc,h,hp => by
  rw [pass] at hp
  have hd:=hc d (by simp [difs])
  have:=pass_bdd (l:=r) (fun c hc' => hc c (by simp [difs,hc'])) (dif_bdd hd.1 hd.2.1 hd.2.2.1 hd.2.2.2.1 hd.2.2.2.2 h) hp
  intro p hp'
  have:=this p hp'
  simp only [difs,List.length_cons]
  omega
def wid (S : Sps) : Nat → Int
 | 0 => 0
 | n + 1 => wid S n + ((S n).hi - (S n).lo)
theorem wid_nar {S S' : Sps} (h : Nar S S') : ∀ n,wid S' n ≤ wid S n
 | 0 => Int.le_refl _
 |
  n + 1 => by
  have:=wid_nar h n
  have:=h n
  rw [wid,wid]; omega
theorem wid_lt {S S' : Sps} (h : Nar S S') {p : Nat} (hne : S' p ≠ S p) : ∀ n,p < n → wid S' n < wid S n
 | 0,hp => by omega
 |
  n + 1,hp => by
  have hw:=wid_nar h n
  have hn:=h n
  rw [wid,wid]
  by_cases e : p = n
  ·subst e
   have : ¬ ((S p).lo = (S' p).lo ∧ (S' p).hi = (S p).hi):=fun ⟨h1,h2⟩ => hne (by
    cases hS : S p; cases hS' : S' p
    rw [hS,hS'] at h1 h2
    simp only at h1 h2
    subst h1; subst h2; rfl)
   omega
  ·have:=wid_lt h hne n (by omega)
   omega
theorem pass_chg {N : Nat} : ∀ {l : List Stp} {S : Sps} {ch : Bool} {S' : Sps},(∀ c ∈ difs l,c.a < N ∧ c.b < N) → pass l S ch = some (S',true) → ch = true ∨ wid S' N < wid S N
 | [],S,ch,S',_,h => by cases h; exact .inl rfl
 |
  .chk p :: r,S,ch,S',hc,h => by
  rw [pass] at h
  split at h
  ·cases h
  ·exact pass_chg (l:=r) hc h
 |
  .dif c :: r,S,ch,S',hc,h => by
  rw [pass] at h
  have hcn:=hc c (by simp [difs])
  have n:=dif_nar S c
  rcases pass_chg (l:=r) (fun d hd => hc d (by simp [difs,hd])) h with h1 | h1
  ·simp only [Bool.or_eq_true] at h1
   rcases h1 with h1 | h1
   ·right
    have m:=wid_nar (pass_nar h) N
    simp only [chg,Bool.or_eq_true,decide_eq_true_eq] at h1
    rcases h1 with h1 | h1
    ·have:=wid_lt n h1 N hcn.1; omega
    ·have:=wid_lt n h1 N hcn.2; omega
   ·exact .inl h1
  ·right
   have:=wid_nar n N
   omega
theorem wid_bdd {N : Nat} {B : Int} {S : Sps} (h : Bdd N B S) : ∀ n,n ≤ N → -(2 * B * n) ≤ wid S n ∧ wid S n ≤ 2 * B * n
 | 0,_ => by simp [wid]
 |
  n + 1,hn => by
  have h1:=wid_bdd h n (by omega)
  have h2:=h n (by omega)
  have e : 2 * B * ((n + 1 : Nat) : Int) = 2 * B * (n : Int) + 2 * B:=by rw [Int.natCast_add,Int.mul_add]; simp
  rw [wid,e]; omega
end Go.Proofs.YtfknojncfbahpaaGreat.S
/-
Passes until nothing changes: that it ends,and what it says.
-/
namespace Go.Proofs.YtfknojncfbahpaaGreat.S
open Go Go.Am
set_option linter.unusedSimpArgs false
set_option linter.unusedVariables false
structure Sys (N : Nat) (l : List Stp) (z : Nat → Bool) : Prop where
 c : ∀ c ∈ difs l,c.a < N ∧ c.b < N ∧ 0 ≤ c.lo ∧ c.lo ≤ c.hi ∧ c.hi ≤ 40
 n : ∀ c ∈ difs l,c.a ≠ c.b
 k : ∀ p,Stp.chk p ∈ l → p < N
 all : ∀ p,p < N → z p = false → Stp.chk p ∈ l
 zer : ∀ p,p < N → z p = true → ∃ c,Stp.dif c ∈ l ∧ c.b = p ∧ c.lo = 0 ∧ c.hi = 40 ∧ z c.a = false
def Beg (N : Nat) (S : Sps) : Prop:=∀ p,p < N → 0 ≤ (S p).lo ∧ (S p).hi ≤ 40
def Empt (N : Nat) (z : Nat → Bool) (S : Sps) : Prop:=∃ p,p < N ∧ z p = false ∧ (S p).lo > (S p).hi
def Far0 (N : Nat) (z : Nat → Bool) (S : Sps) : Prop:=∃ p,p < N ∧ z p = true ∧ ((S p).lo > 40 ∨ (S p).hi < -40)
open Classical in
noncomputable def rank (N : Nat) (z : Nat → Bool) (S : Sps) : Nat:=if Empt N z S then 0 else if Far0 N z S then 1 else 2 + (wid S N + 80 * N).toNat
structure StI (N : Nat) (l : List Stp) (z : Nat → Bool) (S0 S : Sps) : Prop where
 n : Nar S0 S
 b : Bdd N (40 + 80 * (difs l).length) S
 f : ¬ Empt N z S → Bdd N (40 + 40 * (difs l).length) S
section
variable {N : Nat} {l : List Stp} {z : Nat → Bool} {S0 S : Sps}
theorem ok_bdd (h0 : Beg N S0) (hn : Nar S0 S) (h1 : ¬ Empt N z S) (h2 : ¬ Far0 N z S) : Bdd N 40 S:=fun p hp => by
 have a:=h0 p hp
 have b:=hn p
 cases hz : z p with
 |
  false =>
  have : ¬ (S p).lo > (S p).hi:=fun h => h1 ⟨p,hp,hz,h⟩
  omega
 |
  true =>
  have c1 : ¬ (S p).lo > 40:=fun h => h2 ⟨p,hp,hz,.inl h⟩
  have c2 : ¬ (S p).hi < -40:=fun h => h2 ⟨p,hp,hz,.inr h⟩
  omega
theorem sti_beg (h0 : Beg N S0) (hb : Bdd N 40 S0) : StI N l z S0 S0:=⟨Nar.refl _,fun p hp => by have:=hb p hp; omega,fun _ p hp => by have:=hb p hp; omega⟩
theorem sti_pass (Y : Sys N l z) (h0 : Beg N S0) (h : StI N l z S0 S) {S' : Sps} (hp : pass l S false = some (S',true)) : StI N l z S0 S' ∧ rank N z S' < rank N z S:=by
 have nar:=pass_nar hp
 have n':=h.n.trans nar
 have he : ¬ Empt N z S:=fun ⟨p,hpN,hz,hbad⟩ => by
  rw [pass_bad (Y.all p hpN hz) hbad] at hp; cases hp
 by_cases hf : Far0 N z S
 ·-- a zero is far: now a chamber is empty
  have b':=pass_bdd Y.c (h.f he) hp
  have hbad : Empt N z S':=by
   obtain ⟨p,hpN,hz,hfar⟩:=hf
   obtain ⟨c,hc,rfl,hlo,hhi,hza⟩:=Y.zer p hpN hz
   have hcl:=mem_difs.2 hc
   have d:=pass_dif (Y.n c hcl) hc hp
   have ha:=(Y.c c hcl).1
   refine ⟨c.a,ha,hza,?_⟩
   have a:=h0 c.a ha
   have b:=n' c.a
   rcases hfar with h1 | h1 <;> omega
  refine ⟨⟨n',fun p hp => by have:=b' p hp; omega,fun hne => absurd hbad hne⟩,?_⟩
  unfold rank
  rw [if_pos hbad,if_neg he,if_pos hf]
  omega
 ·have b0:=ok_bdd h0 h.n he hf
  have b':=pass_bdd Y.c b0 hp
  refine ⟨⟨n',fun p hp => by have:=b' p hp; omega,fun _ => b'⟩,?_⟩
  have w0:=wid_bdd b0 N (Nat.le_refl _)
  rcases pass_chg (fun c hc => ⟨(Y.c c hc).1,(Y.c c hc).2.1⟩) hp with h1 | h1
  ·cases h1
  ·unfold rank
   rw [if_neg he,if_neg hf]
   split
   ·omega
   ·split
    ·omega
    ·rename_i he' hf'
     have w1:=wid_bdd (ok_bdd h0 n' he' hf') N (Nat.le_refl _)
     omega
def Tru0 (N : Nat) (l : List Stp) (S0 : Sps) (x : Nat → Int) : Prop:=InS N S0 x ∧ Keeps (difs l) x
structure Left (N : Nat) (l : List Stp) (S0 S : Sps) : Prop where
 e : ∀ p,p < N → (S p).lo ≤ (S p).hi
 n : Nar S0 S
 i : ∀ x,Tru0 N l S0 x → InS N S x
 lo : Tru0 N l S0 fun p => (S p).lo
 hi : Tru0 N l S0 fun p => (S p).hi
theorem pass_tru (Y : Sys N l z) (hi : ∀ x,Tru0 N l S0 x → InS N S x) {S' : Sps} {ch : Bool} (hp : pass l S false = some (S',ch)) : ∀ x,Tru0 N l S0 x → InS N S' x:=fun x hx => by
 obtain ⟨S2,ch2,h1,h2⟩:=pass_in (fun c hc => ⟨(Y.c c hc).1,(Y.c c hc).2.1⟩) Y.k hx.2 (hi x hx) (ch:=false)
 rw [hp] at h1; cases h1; exact h2
theorem pass_no (Y : Sys N l z) (hi : ∀ x,Tru0 N l S0 x → InS N S x) (hp : pass l S false = none) : ¬ ∃ x,Tru0 N l S0 x:=fun ⟨x,hx⟩ => by
 obtain ⟨S2,ch2,h1,h2⟩:=pass_in (fun c hc => ⟨(Y.c c hc).1,(Y.c c hc).2.1⟩) Y.k hx.2 (hi x hx) (ch:=false)
 rw [hp] at h1; cases h1
theorem pass_left (Y : Sys N l z) (hn : Nar S0 S) (hi : ∀ x,Tru0 N l S0 x → InS N S x) {S' : Sps} (hp : pass l S false = some (S',false)) (he : ∀ p,p < N → (S' p).lo ≤ (S' p).hi) : Left N l S0 S':=by
 obtain ⟨_,h2,h3,h4⟩:=pass_still Y.n hp
 have e : S' = S:=funext h2
 subst e
 refine ⟨he,hn,hi,⟨fun p hp => ?_,h3⟩,⟨fun p hp => ?_,h4⟩⟩
 ·have:=hn p; have:=he p hp
  exact ⟨(hn p).1,by show (S' p).lo ≤ _; omega⟩
 ·have:=hn p; have:=he p hp
  exact ⟨by show _ ≤ (S' p).hi; omega,(hn p).2⟩
theorem pass_empty (hi : ∀ x,Tru0 N l S0 x → InS N S x) (he : ¬ ∀ p,p < N → (S p).lo ≤ (S p).hi) : ¬ ∃ x,Tru0 N l S0 x:=fun ⟨x,hx⟩ => he fun p hp => by
 have:=hi x hx p hp; omega
end
end Go.Proofs.YtfknojncfbahpaaGreat.S
/-
The bounds of a trap at work,as they lie in one object: one bound more.
-/
namespace Go.Proofs.YtfknojncfbahpaaGreat.S
open Go Go.Am Go.Proofs.YtfknojncfbahpaaGreat.T
set_option maxRecDepth 100000
set_option linter.unusedSimpArgs false
set_option linter.unusedVariables false
def nilC : AV → Option AV
 | .ptr o off => some (.ptr o off)
 | .cptr c => some (.cptr c)
 | .fn f a b => some (.fn f a b)
 | .yld o => some (.yld o)
 | _ => none
theorem pex_nilC {ρ : Opd → AV} {x : Opd} : pex ρ (.nilCheck x) = nilC (ρ x):=by simp only [pex,nilC]; cases ρ x <;> rfl
theorem nilC_ptr {o f : Nat} : nilC (.ptr o f) = some (.ptr o f):=id rfl
def wc (ch tm : Int) (ov wv : AV) (B : List Int) : List AV:=I ch :: I tm :: ov :: wv :: B.map fun x => I x
section
variable {ch tm : Int} {ov wv : AV} {B : List Int}
theorem wc_0 : (wc ch tm ov wv B).head? = some (I ch):=id rfl
theorem wc_1 : ((wc ch tm ov wv B).drop 1).head? = some (I tm):=id rfl
theorem wc_2 : ((wc ch tm ov wv B).drop 2).head? = some ov:=id rfl
theorem wc_3 : ((wc ch tm ov wv B).drop 3).head? = some wv:=id rfl
theorem wc_len : (wc ch tm ov wv B).length = B.length + 4:=by simp [wc]
def bat (B : List Int) (k l : Nat) : Int:=B.getD (k * 21 + l) 0
theorem wc_at {k l : Nat} (hB : B.length = 441) (hk : k < 21) (hl : l < 21) : ((wc ch tm ov wv B).drop (4 + k * 21 + l)).head? = some (I (bat B k l)):=by
 have hp : k * 21 + l < B.length:=by omega
 have e : 4 + k * 21 + l = (k * 21 + l) + 4:=by omega
 rw [e]
 show ((B.map fun x => I x).drop (k * 21 + l)).head? = _
 rw [List.head?_drop]
 simp [bat,List.getD_eq_getElem?_getD,hp]
theorem wc_put {p : Nat} (hp : p < B.length) (x : Int) : (wc ch tm ov wv B).take (4 + p) ++ [I x] ++ (wc ch tm ov wv B).drop (4 + p + 1) = wc ch tm ov wv (B.set p x):=by
 have e1 : 4 + p = p + 4:=by omega
 have e2 : p + 4 + 1 = (p + 1) + 4:=by omega
 rw [e1,e2]
 show (I ch :: I tm :: ov :: wv :: ((B.map fun x => I x).take p)) ++ [I x] ++ ((B.map fun x => I x).drop (p + 1)) = _
 simp only [wc,List.cons_append,List.map_set]
 congr 4
 rw [List.set_eq_take_append_cons_drop,if_pos (by simpa using hp)]
 simp
end
def updP (B : List Int) (i j : Nat) (m : Int) (p : Nat) : Int:=upd (bat B) i j m (p / 21) (p % 21)
def mixL (B : List Int) (i j : Nat) (m : Int) (q : Nat) : List Int:=(List.range 441).map fun p => if p < q then updP B i j m p else B.getD p 0
def updL (B : List Int) (i j : Nat) (m : Int) : List Int:=mixL B i j m 441
section
variable {B : List Int} {i j : Nat} {m : Int} {q : Nat}
theorem mixL_len : (mixL B i j m q).length = 441:=by simp [mixL]
theorem mixL_at {p : Nat} (hp : p < 441) : (mixL B i j m q).getD p 0 = if p < q then updP B i j m p else B.getD p 0:=by
 simp only [mixL,List.getD_eq_getElem?_getD,List.getElem?_map,List.getElem?_range hp,Option.map_some,Option.getD_some]
theorem mixL_zero (hB : B.length = 441) : mixL B i j m 0 = B:=by
 apply List.ext_getElem
 ·rw [mixL_len,hB]
 ·intro p h1 h2
  rw [mixL_len] at h1
  have:=mixL_at (B:=B) (i:=i) (j:=j) (m:=m) (q:=0) h1
  rw [if_neg (by omega),List.getD_eq_getElem?_getD,List.getD_eq_getElem?_getD,List.getElem?_eq_getElem (by rw [mixL_len]; exact h1),List.getElem?_eq_getElem h2] at this
  simpa using this
theorem mixL_succ (hq : q < 441) : (mixL B i j m q).set q (updP B i j m q) = mixL B i j m (q + 1):=by
 apply List.ext_getElem
 ·simp [mixL]
 ·intro p h1 h2
  rw [mixL_len] at h2
  simp only [mixL,List.getElem_set,List.getElem_map,List.getElem_range]
  by_cases e : q = p
  ·subst e; rw [if_pos rfl,if_pos (by omega)]
  ·rw [if_neg e]
   by_cases h : p < q
   ·rw [if_pos h,if_pos (by omega)]
   ·rw [if_neg h,if_neg (by omega)]
theorem div21 {k l : Nat} (hl : l < 21) : (k * 21 + l) / 21 = k ∧ (k * 21 + l) % 21 = l:=by omega
theorem updP_at {k l : Nat} (hl : l < 21) : updP B i j m (k * 21 + l) = upd (bat B) i j m k l:=by
 unfold updP; rw [(div21 hl).1,(div21 hl).2]
theorem bat_mix {k l : Nat} (hk : k < 21) (hl : l < 21) : bat (mixL B i j m q) k l = if k * 21 + l < q then upd (bat B) i j m k l else bat B k l:=by
 unfold bat
 rw [mixL_at (by omega),updP_at hl]; rfl
theorem bat_upd {k l : Nat} (hk : k < 21) (hl : l < 21) : bat (updL B i j m) k l = upd (bat B) i j m k l:=by
 unfold updL; rw [bat_mix hk hl,if_pos (by omega)]
end
theorem set_self {h : List AO} {w : Nat} {x : AO} (hw : h[w]? = some x) : h.set w x = h:=by
 obtain ⟨hl,rfl⟩:=List.getElem?_eq_some_iff.1 hw
 simp
def Sm (B : List Int) : Prop:=∀ k l,k < 21 → l < 21 → -1000 ≤ bat B k l ∧ bat B k l ≤ 1000
set_option maxHeartbeats 2000000 in
theorem r116 {ch tm : Int} {ov wv : AV} {B : List Int} {h : List AO} {w lim : Nat} {i j : Nat} {m : Int} (hw : h[w]? = some (.cells (wc ch tm ov wv B) false)) (hB : B.length = 441) (C : Cld 21 (bat B)) (hs : Sm B) (hi : i < 21) (hj : j < 21) (hm : -1000 ≤ m ∧ m ≤ 1000) (hlim : lim ≤ w) :
  ∃ h',R E (.fn 177) [.ptr w 4,I i,I j,I m] h lim = some (Bo (decide (0 ≤ bat B j i + m)),h') ∧ h' = if bat B j i + m < 0 then h else if bat B i j ≤ m then h else h.set w (.cells (wc ch tm ov wv (updL B i j m)) false):=by
 have hi0 : (0 : Int) ≤ i:=by omega
 have hj0 : (0 : Int) ≤ j:=by omega
 have hi1 : (i : Int) < 21:=by omega
 have hj1 : (j : Int) < 21:=by omega
 have wl:=(List.getElem?_eq_some_iff.1 hw).1
 suffices hh : ∃ r h',R E (.fn 177) [.ptr w 4,I i,I j,I m] h lim = some (r,h') ∧ (r = Bo (decide (0 ≤ bat B j i + m)) ∧ h' = if bat B j i + m < 0 then h else if bat B i j ≤ m then h else h.set w (.cells (wc ch tm ov wv (updL B i j m)) false)) by
  obtain ⟨r,h',h1,rfl,h2⟩:=hh
  exact ⟨h',h1,h2⟩
 refine R_of _ (es _ _ _ _) e177 ?_
 simp only [f177]
 have s1:=hs j i hj hi
 have s2:=hs i j hi hj
 have a1:=wc_at (ch:=ch) (tm:=tm) (ov:=ov) (wv:=wv) hB hj hi
 have a2:=wc_at (ch:=ch) (tm:=tm) (ov:=ov) (wv:=wv) hB hi hj
 by_cases c1 : bat B j i + m < 0
 ·have d1 : ¬ 0 ≤ bat B j i + m:=by omega
  simp (disch:=first|assumption|omega|(simp only[az];done)) only [ru,eq_self,if_true,if_false,binI,AO.row?,loadV,Am.rowAt,Am.part,addOff,Nat.reduceAdd,Nat.reduceSub,pex_nilC,nilC_ptr,Nat.mul_one,hi0,hj0,hi1,hj1,Int.toNat_natCast,hw,a1,c1,d1]
 have d1 : 0 ≤ bat B j i + m:=by omega
 by_cases c2 : bat B i j ≤ m
 ·simp (disch:=first|assumption|omega|(simp only[az];done)) only [ru,eq_self,if_true,if_false,binI,AO.row?,loadV,Am.rowAt,Am.part,addOff,Nat.reduceAdd,Nat.reduceSub,pex_nilC,nilC_ptr,Nat.mul_one,hi0,hj0,hi1,hj1,Int.toNat_natCast,hw,a1,a2,c1,d1,c2]
 simp (disch:=first|assumption|omega|(simp only[az];done)) only [ru,eq_self,if_true,if_false,binI,AO.row?,loadV,Am.rowAt,Am.part,addOff,Nat.reduceAdd,Nat.reduceSub,pex_nilC,nilC_ptr,Nat.mul_one,hi0,hj0,hi1,hj1,Int.toNat_natCast,hw,a1,a2,c1,d1,c2]
 have h00 : h = h.set w (.cells (wc ch tm ov wv (mixL B i j m 0)) false):=by
  rw [mixL_zero hB,set_self hw]
 clear a1 a2
 refine G_loop_ind (fun n ts hk mk => ∃ (k : Nat),k ≤ 21 ∧ n = 21 - k ∧ ts.length = 69 ∧ ts.getD 0 .undef = .ptr w 4 ∧ ts.getD 1 .undef = I i ∧ ts.getD 2 .undef = I j ∧ ts.getD 3 .undef = I m ∧ ts.getD 30 .undef = I k ∧ hk = h.set w (.cells (wc ch tm ov wv (mixL B i j m (k * 21))) false) ∧ mk = []) ?_ _ _ _ _
  ⟨0,Nat.zero_le _,rfl,rfl,rfl,rfl,rfl,rfl,rfl,h00,rfl⟩
 rintro n ts hk mk ihK ⟨k,hk',rfl,hl,q0,q1,q2,q3,q30,rfl,rfl⟩
 rw [lit_all hl]
 simp only [lit0,litS,Nat.reduceAdd,q0,q1,q2,q3,q30]
 simp (disch:=first|assumption|omega|(simp only[az];done)) only [ru,eq_self,if_true,binI]
 by_cases ltK : (k : Int) < 21
 case neg =>
  obtain rfl : k = 21:=by omega
  simp (disch:=first|assumption|omega|(simp only[az];done)) only [ru,eq_self,Nat.reduceMul,Int.reduceLT]
  rfl
 have kk : k < 21:=by omega
 have kk0 : (0 : Int) ≤ k:=by omega
 simp (disch:=first|assumption|omega|(simp only[az];done)) only [ru,ltK]
 clear hl q0 q1 q2 q3 q30
 refine G_loop_ind (fun n ts hk mk => ∃ (l : Nat),l ≤ 21 ∧ n = 21 - l ∧ ts.length = 69 ∧ ts.getD 0 .undef = .ptr w 4 ∧ ts.getD 1 .undef = I i ∧ ts.getD 2 .undef = I j ∧ ts.getD 3 .undef = I m ∧ ts.getD 9 .undef = I k ∧ ts.getD 30 .undef = I k ∧ ts.getD 33 .undef = I l ∧ hk = h.set w (.cells (wc ch tm ov wv (mixL B i j m (k * 21 + l))) false) ∧ mk = []) ?_ _ _ _ _
  ⟨0,Nat.zero_le _,rfl,rfl,rfl,rfl,rfl,rfl,rfl,rfl,rfl,rfl,rfl⟩
 rintro n ts hk mk ihL ⟨l,hl',rfl,hl,q0,q1,q2,q3,q9,q30,q33,rfl,rfl⟩
 rw [lit_all hl]
 simp only [lit0,litS,Nat.reduceAdd,q0,q1,q2,q3,q9,q30,q33]
 simp (disch:=first|assumption|omega|(simp only[az];done)) only [ru,eq_self,if_true,binI]
 by_cases ltL : (l : Int) < 21
 case neg =>
  obtain rfl : l = 21:=by omega
  simp (disch:=first|assumption|omega|(simp only[az];done)) only [ru,eq_self,if_true,binI,Int.reduceLT]
  refine ihK (21 - (k + 1)) _ _ _ (by omega) ⟨k + 1,by omega,rfl,rfl,rfl,rfl,rfl,rfl,by show I _ = I _; congr 1,?_,rfl⟩
  rw [show (k + 1) * 21 = k * 21 + 21 by omega]
 have ll : l < 21:=by omega
 have ll0 : (0 : Int) ≤ l:=by omega
 have hq : k * 21 + l < 441:=by omega
 obtain ⟨M,hM⟩ : ∃ M,M = mixL B i j m (k * 21 + l):=⟨_,rfl⟩
 have hML : M.length = 441:=by rw [hM]; exact mixL_len
 have hw' : (h.set w (.cells (wc ch tm ov wv M) false))[w]? = some (.cells (wc ch tm ov wv M) false):=by simp [wl]
 have b1:=wc_at (ch:=ch) (tm:=tm) (ov:=ov) (wv:=wv) hML kk ll
 have b2:=wc_at (ch:=ch) (tm:=tm) (ov:=ov) (wv:=wv) hML kk hi
 have b3:=wc_at (ch:=ch) (tm:=tm) (ov:=ov) (wv:=wv) hML hj ll
 have g1 : bat M k l = bat B k l:=by rw [hM,bat_mix kk ll,if_neg (by omega)]
 have g2 : bat M k i = bat B k i:=by
  rw [hM,bat_mix kk hi]; split
  ·exact upd_row C hi hj d1 kk
  ·rfl
 have g3 : bat M j l = bat B j l:=by
  rw [hM,bat_mix hj ll]; split
  ·exact upd_col C hi hj d1 ll
  ·rfl
 rw [g1] at b1
 rw [g2] at b2
 rw [g3] at b3
 have t1:=hs k l kk ll
 have t2:=hs k i kk hi
 have t3:=hs j l hj ll
 have put:=wc_put (ch:=ch) (tm:=tm) (ov:=ov) (wv:=wv) (B:=M) (p:=k * 21 + l) (by omega) (updP B i j m (k * 21 + l))
 rw [← Nat.add_assoc] at put
 have eu : updP B i j m (k * 21 + l) = mn (bat B k l) (bat B k i + m + bat B j l):=by rw [updP_at ll]; rfl
 have es : M.set (k * 21 + l) (updP B i j m (k * 21 + l)) = mixL B i j m (k * 21 + l + 1):=by rw [hM]; exact mixL_succ hq
 rw [es,eu] at put
 simp only [mn,List.append_assoc,List.singleton_append] at put
 have fit : 4 + k * 21 + l + 1 ≤ (wc ch tm ov wv M).length:=by rw [wc_len]; omega
 rw [← hM]
 simp (disch:=first|assumption|omega|(simp only[az];done)) only [ru,eq_self,if_true,if_false,binI,AO.row?,splice,mmAll,loadV,storeV,Am.rowAt,Am.part,addOff,pex_nilC,nilC_ptr,Nat.mul_one,hi0,hj0,hi1,hj1,kk0,ll0,ltK,ltL,Int.toNat_natCast,hw',b1,b2,b3,mmx,fit,hlim,List.append_assoc,put,List.set_set]
 refine ihL (21 - (l + 1)) _ _ _ (by omega) ⟨l + 1,by omega,rfl,rfl,rfl,rfl,rfl,rfl,rfl,rfl,by show I _ = I _; congr 1,?_,rfl⟩
 rfl
end Go.Proofs.YtfknojncfbahpaaGreat.S
/-
Traps as values,and the small functions of both sides.
-/
namespace Go.Proofs.YtfknojncfbahpaaGreat.S
open Go Go.Am Go.Proofs.YtfknojncfbahpaaGreat.T
set_option maxRecDepth 100000
set_option linter.unusedSimpArgs false
set_option linter.unusedVariables false
def inR (n lo hi : Int) : Bool:=decide (lo ≤ n) && decide (n ≤ hi)
theorem inR_iff {n lo hi : Int} : inR n lo hi = true ↔ lo ≤ n ∧ n ≤ hi:=by simp [inR]
theorem intE (n : Int) : [I n].length = 1:=rfl
def slV {α : Type} (esz : Nat) (enc : α → List AV) (l : List α) : AV:=.cs esz l.length (l.flatMap enc)
theorem slV_is {α : Type} {esz : Nat} {enc : α → List AV} {l : List α} : IsSl esz enc l (slV esz enc l):=.inl rfl
abbrev intL (n : Int) : List AV:=[I n]
theorem all_upto_succ {α : Type} [Inhabited α] {l : List α} {p : α → Bool} {i : Nat} (hi : i < l.length) {x : α} (hx : l.getD i default = x) (h : (l.take i).all p = true) (hp : p x = true) : (l.take (i + 1)).all p = true:=by
 subst hx
 rw [List.take_succ_eq_append_getElem hi,List.all_append,h]
 simpa [List.getD_eq_getElem?_getD,hi] using hp
theorem all_not {α : Type} [Inhabited α] {l : List α} {p : α → Bool} {i : Nat} (hi : i < l.length) {x : α} (hx : l.getD i default = x) (hp : p x = false) : l.all p = false:=by
 subst hx
 rw [List.all_eq_false]
 exact ⟨l[i],List.getElem_mem hi,by simpa [List.getD_eq_getElem?_getD,hi] using hp⟩
theorem range_all_succ {p : Nat → Bool} {i : Nat} (h : (List.range i).all p = true) (hp : p i = true) : (List.range (i + 1)).all p = true:=by
 rw [List.range_succ,List.all_append,h]; simpa using hp
theorem range_not {p : Nat → Bool} {i N : Nat} (hi : i < N) (hp : p i = false) : (List.range N).all p = false:=by
 rw [List.all_eq_false]; exact ⟨i,List.mem_range.2 hi,by simp [hp]⟩
theorem gUn {X : Cx} {base : Nat} {k : List KF} {ts : List AV} {h : List AO} {mk : List Nat} {r : List AOper} {d : Option Nat} {w : Bool} {op : AOp} {sl : Option Nat} {m : List Nat} {x : Option (Nat × Bool)} : GG X base .undef w ⟨d,op,x,sl,m⟩ r k ts h mk = GO X base r k (putT ts d .undef) h mk:=id rfl
structure Wd where
 time : Int
 ch : Int
 lo : Int
 hi : Int
 deriving Inhabited
def Wd.e (w : Wd) : List AV:=[I w.time,I w.ch,I w.lo,I w.hi]
theorem Wd.el (w : Wd) : w.e.length = 4:=rfl
theorem Wd.sc (w : Wd) : w.e.all AV.scalar = true:=rfl
structure Ls where
 l : List Int
 b : Bool
 deriving Inhabited
def Ls.list (x : Ls) : List Int:=if x.b then [] else x.l
def Ls.v (x : Ls) : AV:=if x.b then .nils else slV 1 intL x.l
theorem Ls.is (x : Ls) : IsSl 1 intL x.list x.v:=by
 unfold Ls.list Ls.v; split
 ·exact .inr ⟨rfl,rfl⟩
 ·exact slV_is
def Ls.e (x : Ls) : List AV:=[x.v]
theorem Ls.el (x : Ls) : x.e.length = 1:=rfl
structure Trap where
 ch : Int
 tm : Int
 op : List Ls
 ws : List Wd
abbrev trV (t : Trap) (o w : AV) : AV:=.agg [I t.ch,I t.tm,o,w]
structure TrOk (t : Trap) (o w : AV) : Prop where
 o : IsSl 1 Ls.e t.op o
 w : IsSl 4 Wd.e t.ws w
 so : t.op.length ≤ 40
 sw : t.ws.length ≤ 40
 sl : ∀ x ∈ t.op,x.list.length ≤ 40
theorem s30 (n lo hi : Int) (st : Bool) : Iso E 23 [I n,I lo,I hi] st = some (Bo (inR n lo hi)):=by
 refine Iso_of (es _ _ _ _) e23 ?_
 simp only [f23,inR]
 simp (disch:=first|assumption|omega|(simp only[az];done)) only [ru,eq_self,if_true,binI,Nat.reduceAdd,Nat.reduceSub]
 by_cases h1 : lo ≤ n
 ·simp (disch:=first|assumption|omega|(simp only[az];done)) only [ru,eq_self,if_true,binI,h1]
 ·simp (disch:=first|assumption|omega|(simp only[az];done)) only [ru,eq_self,if_false,h1]
section
variable {t : Trap} {o w : AV}
theorem s45 (H : TrOk t o w) (n : Int) (st : Bool) : Iso E 85 [trV t o w,I n] st = some (Bo (inR n 0 (wr .i64 (t.tm - 1)))):=by
 refine Iso_of (es _ _ _ _) e85 ?_
 simp only [f85,trV]
 obtain ⟨x,hx⟩ : ∃ x,x = wr .i64 (t.tm - 1):=⟨_,rfl⟩
 rw [← hx]
 simp (disch:=first|assumption|omega|(simp only[az];done)) only [ru,eq_self,if_true,if_false,binI,AO.row?,loadV,Am.rowAt,Am.part,addOff,Nat.reduceAdd,Nat.reduceSub,← hx,s30]
theorem s39 (H : TrOk t o w) (n : Int) (st : Bool) : Iso E 100 [trV t o w,I n] st = some (Bo (inR n 0 (wr .i64 (t.ch - 1)))):=by
 refine Iso_of (es _ _ _ _) e100 ?_
 simp only [f100,trV]
 obtain ⟨x,hx⟩ : ∃ x,x = wr .i64 (t.ch - 1):=⟨_,rfl⟩
 rw [← hx]
 simp (disch:=first|assumption|omega|(simp only[az];done)) only [ru,eq_self,if_true,if_false,binI,AO.row?,loadV,Am.rowAt,Am.part,addOff,Nat.reduceAdd,Nat.reduceSub,← hx,s30]
def isW (t : Trap) (x : Wd) : Bool:=inR x.time 0 (wr .i64 (t.tm - 1)) && inR x.ch 0 (wr .i64 (t.ch - 1)) && inR x.hi 0 40 && inR x.lo 0 x.hi
theorem s28 (H : TrOk t o w) (x : Wd) (st : Bool) : Iso E 129 [trV t o w,.agg x.e] st = some (Bo (isW t x)):=by
 refine Iso_of (es _ _ _ _) e129 ?_
 simp only [f129,trV,isW,Wd.e]
 obtain ⟨a,ha⟩ : ∃ a,a = inR x.time 0 (wr .i64 (t.tm - 1)):=⟨_,rfl⟩
 obtain ⟨b,hb⟩ : ∃ b,b = inR x.ch 0 (wr .i64 (t.ch - 1)):=⟨_,rfl⟩
 have c1:=fun st => s45 H x.time st
 have c2:=fun st => s39 H x.ch st
 simp only [trV,← ha,← hb] at c1 c2 ⊢
 simp (disch:=first|assumption|omega|(simp only[az];done)) only [ru,eq_self,if_true,if_false,AO.row?,loadV,Am.rowAt,Am.part,addOff,Nat.reduceAdd,Nat.reduceSub,view_sl H.o,view_sl H.w,pure_sl H.o,pure_sl H.w,c1]
 cases a
 ·simp (disch:=first|assumption|omega|(simp only[az];done)) only [ru,eq_self,if_false]
 simp (disch:=first|assumption|omega|(simp only[az];done)) only [ru,eq_self,if_true,if_false,AO.row?,loadV,Am.rowAt,Am.part,addOff,Nat.reduceAdd,c2,view_sl H.o,view_sl H.w,pure_sl H.o,pure_sl H.w]
 cases b
 ·simp (disch:=first|assumption|omega|(simp only[az];done)) only [ru,eq_self,if_false]
 simp (disch:=first|assumption|omega|(simp only[az];done)) only [ru,eq_self,if_true,if_false,AO.row?,loadV,Am.rowAt,Am.part,addOff,s30]
 cases h3 : inR x.hi 0 40
 ·simp (disch:=first|assumption|omega|(simp only[az];done)) only [ru,eq_self,if_false]
 simp (disch:=first|assumption|omega|(simp only[az];done)) only [ru,eq_self,if_true,if_false,AO.row?,loadV,Am.rowAt,Am.part,addOff,s30]
theorem s74 (H : TrOk t o w) (n : Int) (st : Bool) : Iso E 134 [trV t o w,I n] st = some (Bo (decide (0 ≤ n) && decide (n < t.tm))):=by
 refine Iso_of (es _ _ _ _) e134 ?_
 simp only [f134,trV]
 simp (disch:=first|assumption|omega|(simp only[az];done)) only [ru,eq_self,if_true,binI,Nat.reduceAdd,Nat.reduceSub]
 by_cases h1 : 0 ≤ n
 ·simp (disch:=first|assumption|omega|(simp only[az];done)) only [ru,eq_self,if_true,if_false,binI,AO.row?,loadV,Am.rowAt,Am.part,addOff,h1]
 ·simp (disch:=first|assumption|omega|(simp only[az];done)) only [ru,eq_self,if_false,h1]
def placeB (t : Trap) (time ch : Int) : Bool:=decide (0 ≤ time) && decide (time < t.tm) && decide (0 ≤ ch) && decide (ch < t.ch)
theorem s81 (H : TrOk t o w) (time ch : Int) (st : Bool) : Iso E 118 [trV t o w,I time,I ch] st = some (Bo (placeB t time ch)):=by
 refine Iso_of (es _ _ _ _) e118 ?_
 have c1:=fun st => s74 H time st
 simp only [f118,trV,placeB] at c1 ⊢
 simp (disch:=first|assumption|omega|(simp only[az];done)) only [ru,eq_self,if_true,AO.row?,loadV,Am.rowAt,Am.part,Nat.reduceAdd,Nat.reduceSub,view_sl H.o,view_sl H.w,pure_sl H.o,pure_sl H.w,c1]
 by_cases h1 : 0 ≤ time <;> by_cases h2 : time < t.tm <;> by_cases h3 : 0 ≤ ch <;> simp (disch:=first|assumption|omega|(simp only[az];done)) only [ru,eq_self,if_true,if_false,binI,AO.row?,loadV,Am.rowAt,Am.part,addOff,h1,h2,h3]
def fitB (t : Trap) (x : Wd) : Bool:=placeB t x.time x.ch && decide (0 ≤ x.lo) && decide (x.lo ≤ x.hi) && decide (x.hi ≤ 40)
theorem s79 (H : TrOk t o w) (x : Wd) (st : Bool) : Iso E 141 [trV t o w,.agg x.e] st = some (Bo (fitB t x)):=by
 refine Iso_of (es _ _ _ _) e141 ?_
 have c1:=fun st => s81 H x.time x.ch st
 simp only [f141,trV,fitB,Wd.e] at c1 ⊢
 obtain ⟨a,ha⟩ : ∃ a,a = placeB t x.time x.ch:=⟨_,rfl⟩
 simp only [← ha] at c1 ⊢
 simp (disch:=first|assumption|omega|(simp only[az];done)) only [ru,eq_self,if_true,if_false,AO.row?,loadV,Am.rowAt,Am.part,addOff,Nat.reduceAdd,Nat.reduceSub,view_sl H.o,view_sl H.w,pure_sl H.o,pure_sl H.w,c1]
 cases a
 ·simp (disch:=first|assumption|omega|(simp only[az];done)) only [ru,eq_self,if_false]
 by_cases h1 : 0 ≤ x.lo <;> by_cases h2 : x.lo ≤ x.hi <;> simp (disch:=first|assumption|omega|(simp only[az];done)) only [ru,eq_self,if_true,if_false,binI,AO.row?,loadV,Am.rowAt,Am.part,addOff,h1,h2]
end
def risR (l : List Int) (lo hi : Int) (i : Nat) : Bool:=inR (l.getD i 0) lo hi && !(decide (0 < i) && decide (l.getD i 0 ≤ l.getD (i - 1) 0))
def befA (l : List Int) (i : Nat) : Int:=if i = 0 then -1 else l.getD (i - 1) 0
def ascR (l : List Int) (e : Int) (i : Nat) : Bool:=!(decide (l.getD i 0 ≤ befA l i) || decide (l.getD i 0 ≥ e))
theorem asc_iff {l : List Int} {e : Int} {i : Nat} : ascR l e i = true ↔ befA l i < l.getD i 0 ∧ l.getD i 0 < e:=by
 simp only [ascR,Bool.not_eq_true',Bool.or_eq_false_iff,decide_eq_false_iff_not]; omega
theorem ris_iff {l : List Int} {lo hi : Int} {i : Nat} : risR l lo hi i = true ↔ (lo ≤ l.getD i 0 ∧ l.getD i 0 ≤ hi) ∧ (0 < i → l.getD (i - 1) 0 < l.getD i 0):=by
 simp only [risR,Bool.and_eq_true,inR_iff,Bool.not_eq_true',Bool.and_eq_false_iff,decide_eq_false_iff_not]
 constructor
 ·rintro ⟨h1,h2⟩; exact ⟨h1,fun h => by omega⟩
 ·rintro ⟨h1,h2⟩; refine ⟨h1,?_⟩
  by_cases h : 0 < i
  ·right; have:=h2 h; omega
  ·left; exact h
theorem asc_ris {l : List Int} {e : Int} : ((List.range l.length).all fun i => ascR l e i) = ((List.range l.length).all fun i => risR l 0 (e - 1) i):=by
 rw [Bool.eq_iff_iff]
 simp only [List.all_eq_true,List.mem_range,asc_iff,ris_iff]
 constructor
 ·intro h
  have pos : ∀ i,i < l.length → 0 ≤ l.getD i 0:=by
   intro i
   induction i with
   | zero => intro hi; have:=(h 0 hi).1; simp only [befA,if_true] at this; omega
   |
    succ i ih =>
    intro hi
    have a:=(h (i + 1) hi).1
    have b:=ih (by omega)
    simp only [befA,Nat.succ_ne_zero,if_false,Nat.add_sub_cancel] at a
    omega
  intro i hi
  have a:=h i hi
  have b:=pos i hi
  refine ⟨by omega,fun h0 => ?_⟩
  have a1:=a.1
  simp only [befA] at a1; rw [if_neg (by omega)] at a1; exact a1
 ·intro h i hi
  have a:=h i hi
  refine ⟨?_,by omega⟩
  simp only [befA]
  by_cases h0 : i = 0
  ·rw [if_pos h0]; omega
  ·rw [if_neg h0]; exact a.2 (by omega)
theorem s52 {l : List Int} {v : AV} (hv : IsSl 1 intL l v) (hl : l.length ≤ 1000000) (lo hi : Int) (st : Bool) : Iso E 42 [v,I lo,I hi] st = some (Bo ((List.range l.length).all fun i => risR l lo hi i)):=by
 obtain ⟨A,hA⟩ : ∃ A,A = (List.range l.length).all fun i => risR l lo hi i:=⟨_,rfl⟩
 rw [← hA]
 refine Iso_of (es _ _ _ _) e42 ?_
 simp only [f42]
 simp (disch:=first|assumption|omega|(simp only[az];done)) only [ru,Nat.reduceAdd,Nat.reduceSub]
 refine G_loop_ind (fun m ts h mk => ∃ (i : Nat),i ≤ l.length ∧ m = l.length - i ∧ ((List.range i).all fun i => risR l lo hi i) = true ∧ ts.length = 38 ∧ ts.getD 0 .undef = v ∧ ts.getD 1 .undef = I lo ∧ ts.getD 2 .undef = I hi ∧ ts.getD 7 .undef = I i ∧ h = [] ∧ mk = []) ?_ _ _ _ _
  ⟨0,Nat.zero_le _,rfl,rfl,rfl,rfl,rfl,rfl,rfl,rfl,rfl⟩
 rintro m ts h mk ih ⟨i,hi',rfl,hall,hl',q0,q1,q2,q7,rfl,rfl⟩
 rw [lit_all hl']
 simp only [lit0,litS,Nat.reduceAdd,q0,q1,q2,q7]
 simp (disch:=first|assumption|omega|(simp only[az];done)) only [ru,eq_self,if_true,binI,lenV_sl hv]
 by_cases hlt : (i : Int) < l.length
 case neg =>
  obtain rfl : i = l.length:=by omega
  have A1 : A = true:=hA.trans hall
  simp (disch:=first|assumption|omega|(simp only[az];done)) only [ru,eq_self,hlt,A1]
 have hi2 : i < l.length:=by omega
 obtain ⟨x,hx⟩ : ∃ x,x = l.getD i default:=⟨_,rfl⟩
 have fin : risR l lo hi i = (inR x lo hi && !(decide (0 < i) && decide (x ≤ l.getD (i - 1) 0))):=by rw [hx]; rfl
 cases h1 : inR x lo hi
 ·have A0 : A = false:=by rw [hA]; exact range_not hi2 (by rw [fin,h1]; rfl)
  simp (disch:=first|assumption|omega|(simp only[az];done)) only [ru,eq_self,if_true,if_false,loadV,Am.part,elem_sl intE hv,hlt,s30,Int.toNat_natCast,← hx,h1,A0,gUn]
 by_cases h0 : 0 < i
 ·have h0' : (i : Int) > 0:=by omega
  have p1 : (0 : Int) ≤ (i : Int) - 1:=by omega
  have p2 : (i : Int) - 1 < l.length:=by omega
  have p3 : ((i : Int) - 1).toNat = i - 1:=by omega
  obtain ⟨y,hy⟩ : ∃ y,y = l.getD (i - 1) default:=⟨_,rfl⟩
  have hy' : l.getD (i - 1) 0 = y:=hy.symm
  by_cases h2 : x ≤ y
  ·have A0 : A = false:=by rw [hA]; exact range_not hi2 (by rw [fin,h1,hy']; simp [h0,h2])
   simp (disch:=first|assumption|omega|(simp only[az];done)) only [ru,eq_self,if_true,if_false,binI,loadV,Am.part,elem_sl intE hv,hlt,s30,Int.toNat_natCast,← hx,h1,h0',p3,← hy,h2,A0]
  ·simp (disch:=first|assumption|omega|(simp only[az];done)) only [ru,eq_self,if_true,if_false,binI,loadV,Am.part,elem_sl intE hv,hlt,s30,Int.toNat_natCast,← hx,h1,h0',p3,← hy,h2]
   exact ih (l.length - (i + 1)) _ _ _ (by omega) ⟨i + 1,by omega,rfl,range_all_succ hall (by rw [fin,h1,hy']; simp [h2]),rfl,rfl,rfl,rfl,rfl,rfl,rfl⟩
 ·have h0' : ¬ (i : Int) > 0:=by omega
  simp (disch:=first|assumption|omega|(simp only[az];done)) only [ru,eq_self,if_true,if_false,binI,loadV,Am.part,elem_sl intE hv,hlt,s30,Int.toNat_natCast,← hx,h1,h0']
  exact ih (l.length - (i + 1)) _ _ _ (by omega) ⟨i + 1,by omega,rfl,range_all_succ hall (by rw [fin,h1]; simp [h0]),rfl,rfl,rfl,rfl,rfl,rfl,rfl⟩
theorem s110 {l : List Int} {v : AV} (hv : IsSl 1 intL l v) (hl : l.length ≤ 1000000) (e : Int) (st : Bool) : Iso E 161 [v,I e] st = some (Bo ((List.range l.length).all fun i => ascR l e i)):=by
 obtain ⟨A,hA⟩ : ∃ A,A = (List.range l.length).all fun i => ascR l e i:=⟨_,rfl⟩
 rw [← hA]
 refine Iso_of (es _ _ _ _) e161 ?_
 simp only [f161]
 simp (disch:=first|assumption|omega|(simp only[az];done)) only [ru,Nat.reduceAdd,Nat.reduceSub,Int.reduceNeg,lenV_sl hv]
 refine G_loop_ind (fun m ts h mk => ∃ (i : Nat),i ≤ l.length ∧ m = l.length - i ∧ ((List.range i).all fun i => ascR l e i) = true ∧ ts.length = 24 ∧ ts.getD 1 .undef = I e ∧ ts.getD 5 .undef = I (befA l i) ∧ ts.getD 8 .undef = v ∧ ts.getD 9 .undef = I l.length ∧ ts.getD 10 .undef = I i ∧ h = [] ∧ mk = []) ?_ _ _ _ _
  ⟨0,Nat.zero_le _,rfl,rfl,rfl,rfl,rfl,rfl,rfl,rfl,rfl,rfl⟩
 rintro m ts h mk ih ⟨i,hi',rfl,hall,hl',q1,q5,q8,q9,q10,rfl,rfl⟩
 rw [lit_all hl']
 simp only [lit0,litS,Nat.reduceAdd,q1,q5,q8,q9,q10]
 simp (disch:=first|assumption|omega|(simp only[az];done)) only [ru,eq_self,if_true,binI]
 by_cases hlt : (i : Int) < l.length
 case neg =>
  obtain rfl : i = l.length:=by omega
  have A1 : A = true:=hA.trans hall
  simp (disch:=first|assumption|omega|(simp only[az];done)) only [ru,eq_self,hlt,A1]
 have hi2 : i < l.length:=by omega
 obtain ⟨x,hx⟩ : ∃ x,x = l.getD i default:=⟨_,rfl⟩
 have fin : ascR l e i = !(decide (x ≤ befA l i) || decide (x ≥ e)):=by rw [hx]; rfl
 have nx : befA l (i + 1) = x:=by simp only [befA,Nat.succ_ne_zero,if_false,Nat.add_sub_cancel]; rw [hx]; rfl
 by_cases h1 : x ≤ befA l i
 ·have A0 : A = false:=by rw [hA]; exact range_not hi2 (by rw [fin]; simp [h1])
  simp (disch:=first|assumption|omega|(simp only[az];done)) only [ru,eq_self,if_true,if_false,binI,loadV,Am.part,elem_sl intE hv,hlt,Int.toNat_natCast,← hx,h1,A0]
 by_cases h2 : x ≥ e
 ·have A0 : A = false:=by rw [hA]; exact range_not hi2 (by rw [fin]; simp [h2])
  simp (disch:=first|assumption|omega|(simp only[az];done)) only [ru,eq_self,if_true,if_false,binI,loadV,Am.part,elem_sl intE hv,hlt,Int.toNat_natCast,← hx,h1,h2,A0]
 simp (disch:=first|assumption|omega|(simp only[az];done)) only [ru,eq_self,if_true,if_false,binI,loadV,Am.part,elem_sl intE hv,hlt,Int.toNat_natCast,← hx,h1,h2]
 exact ih (l.length - (i + 1)) _ _ _ (by omega) ⟨i + 1,by omega,rfl,range_all_succ hall (by rw [fin]; simp [h1,h2]),rfl,rfl,by show I _ = I _; rw [nx],rfl,rfl,rfl,rfl,rfl⟩
end Go.Proofs.YtfknojncfbahpaaGreat.S
/-
Check on both sides.
-/
namespace Go.Proofs.YtfknojncfbahpaaGreat.S
open Go Go.Am Go.Proofs.YtfknojncfbahpaaGreat.T
set_option maxRecDepth 100000
set_option linter.unusedSimpArgs false
set_option linter.unusedVariables false
def risL (l : List Int) (hi : Int) : Bool:=(List.range l.length).all fun i => risR l 0 hi i
def Trap.valid (t : Trap) : Bool:=inR t.ch 1 4 && inR t.tm 1 5 && decide ((t.op.length : Int) = t.tm - 1) && decide (t.ws.length ≤ 8) && t.op.all (fun x => risL x.list (t.ch - 1)) && t.ws.all (fitB t)
structure TrB (t : Trap) : Prop where
 c0 : 1 ≤ t.ch
 c1 : t.ch ≤ 4
 t0 : 1 ≤ t.tm
 t1 : t.tm ≤ 5
 o : (t.op.length : Int) = t.tm - 1
 w : t.ws.length ≤ 9
 ro : ∀ x ∈ t.op,risL x.list (t.ch - 1) = true
 fw : ∀ x ∈ t.ws,fitB t x = true
theorem valid_trb {t : Trap} (h : t.valid = true) : TrB t:=by
 simp only [Trap.valid,Bool.and_eq_true,inR_iff,decide_eq_true_eq,List.all_eq_true] at h
 obtain ⟨⟨⟨⟨⟨⟨a,b⟩,c,d⟩,e⟩,f⟩,g⟩,h⟩:=h
 exact ⟨a,b,c,d,e,by omega,g,h⟩
theorem valid_w8 {t : Trap} (h : t.valid = true) : t.ws.length ≤ 8:=by
 simp only [Trap.valid,Bool.and_eq_true,inR_iff,decide_eq_true_eq,List.all_eq_true] at h
 exact h.1.1.2
theorem trb_valid {t : Trap} (h : TrB t) (h8 : t.ws.length ≤ 8) : t.valid = true:=by
 simp only [Trap.valid,Bool.and_eq_true,inR_iff,decide_eq_true_eq,List.all_eq_true]
 obtain ⟨a,b,c,d,e,f,g,h⟩:=h
 exact ⟨⟨⟨⟨⟨⟨a,b⟩,c,d⟩,e⟩,h8⟩,g⟩,h⟩
theorem isW_fit {t : Trap} {x : Wd} (h1 : inR t.ch 1 4 = true) (h2 : inR t.tm 1 5 = true) : isW t x = fitB t x:=by
 rw [inR_iff] at h1 h2
 have e1 : wr .i64 (t.tm - 1) = t.tm - 1:=wr64 (by omega) (by omega)
 have e2 : wr .i64 (t.ch - 1) = t.ch - 1:=wr64 (by omega) (by omega)
 rw [Bool.eq_iff_iff]
 simp only [isW,fitB,placeB,e1,e2,Bool.and_eq_true,inR_iff,decide_eq_true_eq]
 omega
section
variable {t : Trap} {o w : AV}
theorem Ls.under {l : List Ls} {i : Nat} (h : ∀ x ∈ l,x.list.length ≤ 40) (hi : i < l.length) : (l.getD i default).list.length ≤ 40:=by
 apply h
 rw [List.getD_eq_getElem?_getD,List.getElem?_eq_getElem hi]
 exact List.getElem_mem hi
set_option maxHeartbeats 2000000 in
theorem s91 (H : TrOk t o w) (st : Bool) : Iso E 150 [trV t o w] st = some (Bo t.valid):=by
 have so:=H.so; have sw:=H.sw
 obtain ⟨A,hA⟩ : ∃ A,A = t.valid:=⟨_,rfl⟩
 rw [← hA]
 simp only [Trap.valid,inR] at hA
 refine Iso_of (es _ _ _ _) e150 ?_
 have c79:=fun x st => s79 H x st
 simp only [f150,trV,Wd.e] at c79 ⊢
 by_cases h1 : 1 ≤ t.ch
 case neg =>
  have h1' : t.ch < 1:=by omega
  have A0 : A = false:=by rw [hA]; simp [h1]
  simp (disch:=first|assumption|omega|(simp only[az];done)) only [ru,eq_self,if_true,if_false,binI,AO.row?,loadV,Am.rowAt,Am.part,addOff,Nat.reduceSub,h1',A0]
 have h1' : ¬ t.ch < 1:=by omega
 by_cases h2 : t.ch ≤ 4
 case neg =>
  have h2' : t.ch > 4:=by omega
  have A0 : A = false:=by rw [hA]; simp [h2]
  simp (disch:=first|assumption|omega|(simp only[az];done)) only [ru,eq_self,if_true,if_false,binI,AO.row?,loadV,Am.rowAt,Am.part,addOff,Nat.reduceSub,h1',h2',A0]
 have h2' : ¬ t.ch > 4:=by omega
 by_cases h3 : 1 ≤ t.tm
 case neg =>
  have h3' : t.tm < 1:=by omega
  have A0 : A = false:=by rw [hA]; simp [h3]
  simp (disch:=first|assumption|omega|(simp only[az];done)) only [ru,eq_self,if_true,if_false,binI,AO.row?,loadV,Am.rowAt,Am.part,addOff,Nat.reduceSub,h1',h2',h3',A0]
 have h3' : ¬ t.tm < 1:=by omega
 by_cases h4 : t.tm ≤ 5
 case neg =>
  have h4' : t.tm > 5:=by omega
  have A0 : A = false:=by rw [hA]; simp [h4]
  simp (disch:=first|assumption|omega|(simp only[az];done)) only [ru,eq_self,if_true,if_false,binI,AO.row?,loadV,Am.rowAt,Am.part,addOff,Nat.reduceSub,h1',h2',h3',h4',A0]
 have h4' : ¬ t.tm > 5:=by omega
 by_cases h5 : (t.op.length : Int) = t.tm - 1
 case neg =>
  have A0 : A = false:=by rw [hA]; simp [h5]
  simp (disch:=first|assumption|omega|(simp only[az];done)) only [ru,eq_self,if_true,if_false,binI,AO.row?,loadV,Am.rowAt,Am.part,addOff,Nat.reduceSub,lenV_sl H.o,h1',h2',h3',h4',h5,A0]
 by_cases h6 : t.ws.length ≤ 8
 case neg =>
  have h6' : (t.ws.length : Int) > 8:=by omega
  have A0 : A = false:=by rw [hA]; simp [h6]
  simp (disch:=first|assumption|omega|(simp only[az];done)) only [ru,eq_self,if_true,if_false,binI,AO.row?,loadV,Am.rowAt,Am.part,addOff,Nat.reduceSub,lenV_sl H.o,lenV_sl H.w,h1',h2',h3',h4',h5,h6',A0]
 have h6' : ¬ (t.ws.length : Int) > 8:=by omega
 have d1 : inR t.ch 1 4 = true:=by rw [inR_iff]; omega
 have d2 : inR t.tm 1 5 = true:=by rw [inR_iff]; omega
 simp only [h1,h2,h3,h4,h5,h6,decide_true,Bool.true_and] at hA
 simp (disch:=first|assumption|omega|(simp only[az];done)) only [ru,eq_self,if_true,if_false,binI,AO.row?,loadV,Am.rowAt,Am.part,addOff,Nat.reduceSub,lenV_sl H.o,lenV_sl H.w,h1',h2',h3',h4',h5,h6']
 refine G_loop_ind (fun m ts h mk => ∃ i : Nat,i ≤ t.op.length ∧ m = t.op.length - i ∧ (t.op.take i).all (fun x => risL x.list (t.ch - 1)) = true ∧ ts.length = 63 ∧
  ts.getD 1 .undef = .ptr 0 0 ∧ ts.getD 39 .undef = o ∧ ts.getD 40 .undef = I t.op.length ∧ ts.getD 41 .undef = I i ∧ h = [.cells [I t.ch,I t.tm,o,w] false] ∧ mk = []) ?_ _ _ _ _ ⟨0,Nat.zero_le _,rfl,rfl,rfl,rfl,rfl,by show I _ = I _; congr 1; omega,rfl,rfl,rfl⟩
 rintro m ts h mk ih ⟨i,hi,rfl,hall,hl,q1,q39,q40,q41,rfl,rfl⟩
 rw [lit_all hl]
 simp only [lit0,litS,Nat.reduceAdd,q1,q39,q40,q41]
 simp (disch:=first|assumption|omega|(simp only[az];done)) only [ru,eq_self,if_true,binI]
 by_cases hlt : (i : Int) < t.op.length
 case pos =>
  have hlt' : i < t.op.length:=by omega
  have un:=Ls.under H.sl hlt'
  obtain ⟨x,hx⟩ : ∃ x,x = t.op.getD i default:=⟨_,rfl⟩
  rw [← hx] at un
  have c:=fun st => s110 x.is (by omega) t.ch st
  rw [asc_ris] at c
  cases hs : risL x.list (t.ch - 1)
  ·have A0 : A = false:=by rw [hA,all_not (p:=fun x => risL x.list (t.ch - 1)) hlt' hx.symm hs]; rfl
   unfold risL at hs
   simp only [hs] at c
   simp (disch:=first|assumption|omega|(simp only[az];done)) only [ru,eq_self,if_true,if_false,AO.row?,loadV,Am.rowAt,Am.part,addOff,elem_sl Ls.el H.o,Int.toNat_natCast,hlt,← hx,Ls.e,view_sl x.is,pure_sl x.is,c,A0]
  ·have hs':=hs
   unfold risL at hs
   simp only [hs] at c
   simp (disch:=first|assumption|omega|(simp only[az];done)) only [ru,eq_self,if_true,if_false,binI,AO.row?,loadV,Am.rowAt,Am.part,addOff,elem_sl Ls.el H.o,Int.toNat_natCast,hlt,← hx,Ls.e,view_sl x.is,pure_sl x.is,c]
   exact ih (t.op.length - (i + 1)) _ _ _ (by omega) ⟨i + 1,by omega,rfl,all_upto_succ (p:=fun x => risL x.list (t.ch - 1)) hlt' hx.symm hall hs',rfl,rfl,rfl,rfl,rfl,rfl,rfl⟩
 have hg : t.op.all (fun x => risL x.list (t.ch - 1)) = true:=by rw [List.take_of_length_le (by omega)] at hall; exact hall
 simp only [hg,Bool.true_and] at hA
 simp (disch:=first|assumption|omega|(simp only[az];done)) only [ru,eq_self,if_true,if_false,AO.row?,loadV,Am.rowAt,Am.part,addOff,lenV_sl H.w,hlt]
 refine G_loop_ind (fun m ts h mk => ∃ (i : Nat) (J : List AO),i ≤ t.ws.length ∧ m = t.ws.length - i ∧ (t.ws.take i).all (fitB t) = true ∧ ts.length = 63 ∧
  ts.getD 1 .undef = .ptr 0 0 ∧ ts.getD 52 .undef = w ∧ ts.getD 53 .undef = I t.ws.length ∧ ts.getD 54 .undef = I i ∧ h = .cells [I t.ch,I t.tm,o,w] false :: J ∧ mk = []) ?_ _ _ _ _ ⟨0,[],Nat.zero_le _,rfl,rfl,rfl,rfl,rfl,rfl,rfl,rfl,rfl⟩
 clear ih q1 q39 q40 q41 hl hall hlt hi
 rintro m ts h mk ih ⟨i,J,hi,rfl,hall,hl,q1,q52,q53,q54,rfl,rfl⟩
 rw [lit_all hl]
 simp only [lit0,litS,Nat.reduceAdd,q1,q52,q53,q54]
 simp (disch:=first|assumption|omega|(simp only[az];done)) only [ru,eq_self,if_true,binI]
 by_cases hlt : (i : Int) < t.ws.length
 case neg =>
  have hw : t.ws.all (fitB t) = true:=by rw [List.take_of_length_le (by omega)] at hall; exact hall
  have A1 : A = true:=by rw [hA,hw]
  simp (disch:=first|assumption|omega|(simp only[az];done)) only [ru,eq_self,hlt,A1]
 have hlt' : i < t.ws.length:=by omega
 obtain ⟨x,hx⟩ : ∃ x,x = t.ws.getD i default:=⟨_,rfl⟩
 have c:=fun st => c79 x st
 cases hs : fitB t x
 ·have A0 : A = false:=by rw [hA,all_not hlt' hx.symm hs]
  simp only [hs] at c
  simp (disch:=first|assumption|omega|(simp only[az];done)) only [ru,eq_self,if_true,AO.row?,splice,loadV,storeV,Am.rowAt,Am.part,Nat.reduceAdd,Nat.reduceLeDiff,elem_sl Wd.el H.w,view_sl H.o,view_sl H.w,pure_sl H.o,pure_sl H.w,Int.toNat_natCast,hlt,← hx,Wd.e,c,A0]
 ·simp only [hs] at c
  simp (disch:=first|assumption|omega|(simp only[az];done)) only [ru,eq_self,if_true,binI,AO.row?,splice,loadV,storeV,Am.rowAt,Am.part,Nat.reduceAdd,Nat.reduceLeDiff,elem_sl Wd.el H.w,view_sl H.o,view_sl H.w,pure_sl H.o,pure_sl H.w,Int.toNat_natCast,hlt,← hx,Wd.e,c]
  exact ih (t.ws.length - (i + 1)) _ _ _ (by omega) ⟨i + 1,_,by omega,rfl,all_upto_succ hlt' hx.symm hall hs,rfl,rfl,rfl,rfl,rfl,rfl,rfl⟩
def chkE (t : Trap) : Int:=if t.valid then 0 else 10
theorem s54 (H : TrOk t o w) (st : Bool) : Iso E 128 [trV t o w] st = some (I (chkE t)):=by
 refine Iso_of (es _ _ _ _) e128 ?_
 have c:=fun st => s91 H st
 simp only [f128,trV,chkE] at c ⊢
 cases hv : t.valid
 ·rw [hv] at c
  simp (disch:=first|assumption|omega|(simp only[az];done)) only [ru,eq_self,if_true,if_false,AO.row?,loadV,Am.rowAt,Am.part,Nat.reduceAdd,Nat.reduceSub,view_sl H.o,view_sl H.w,pure_sl H.o,pure_sl H.w,c]
 ·rw [hv] at c
  simp (disch:=first|assumption|omega|(simp only[az];done)) only [ru,eq_self,if_true,AO.row?,loadV,Am.rowAt,Am.part,Nat.reduceAdd,Nat.reduceSub,view_sl H.o,view_sl H.w,pure_sl H.o,pure_sl H.w,c]
end
end Go.Proofs.YtfknojncfbahpaaGreat.S
/-
The reference's Check,and lists on both sides.
-/
namespace Go.Proofs.YtfknojncfbahpaaGreat.S
open Go Go.Am Go.Proofs.YtfknojncfbahpaaGreat.T
set_option maxRecDepth 100000
set_option linter.unusedSimpArgs false
set_option linter.unusedVariables false
section
variable {t : Trap} {o w : AV}
set_option maxHeartbeats 2000000 in
theorem s55 (H : TrOk t o w) (st : Bool) : Iso E 92 [trV t o w] st = some (I (chkE t)):=by
 have so:=H.so; have sw:=H.sw
 obtain ⟨A,hA⟩ : ∃ A,A = t.valid:=⟨_,rfl⟩
 unfold chkE
 rw [← hA]
 simp only [Trap.valid] at hA
 refine Iso_of (es _ _ _ _) e92 ?_
 have c28:=fun x st => s28 H x st
 simp only [f92,trV,Wd.e] at c28 ⊢
 cases h1 : inR t.ch 1 4
 ·have A0 : A = false:=by rw [hA,h1]; rfl
  simp (disch:=first|assumption|omega|(simp only[az];done)) only [ru,eq_self,if_true,if_false,AO.row?,loadV,Am.rowAt,Am.part,addOff,Nat.reduceSub,s30,h1,A0]
 cases h2 : inR t.tm 1 5
 ·have A0 : A = false:=by rw [hA,h2]; simp
  simp (disch:=first|assumption|omega|(simp only[az];done)) only [ru,eq_self,if_true,if_false,AO.row?,loadV,Am.rowAt,Am.part,addOff,Nat.reduceSub,s30,h1,h2,A0]
 have b1:=inR_iff.1 h1
 have b2:=inR_iff.1 h2
 by_cases h5 : (t.op.length : Int) = t.tm - 1
 case neg =>
  have A0 : A = false:=by rw [hA]; simp [h5]
  simp (disch:=first|assumption|omega|(simp only[az];done)) only [ru,eq_self,if_true,if_false,binI,AO.row?,loadV,Am.rowAt,Am.part,addOff,Nat.reduceSub,lenV_sl H.o,s30,h1,h2,h5,A0]
 by_cases h6 : t.ws.length ≤ 8
 case neg =>
  have h6' : (t.ws.length : Int) > 8:=by omega
  have A0 : A = false:=by rw [hA]; simp [h6]
  simp (disch:=first|assumption|omega|(simp only[az];done)) only [ru,eq_self,if_true,if_false,binI,AO.row?,loadV,Am.rowAt,Am.part,addOff,Nat.reduceSub,lenV_sl H.o,lenV_sl H.w,s30,h1,h2,h5,h6',A0]
 have h6' : ¬ (t.ws.length : Int) > 8:=by omega
 simp only [h1,h2,h5,h6,decide_true,Bool.true_and] at hA
 simp (disch:=first|assumption|omega|(simp only[az];done)) only [ru,eq_self,if_true,if_false,binI,AO.row?,loadV,Am.rowAt,Am.part,addOff,Nat.reduceSub,lenV_sl H.o,lenV_sl H.w,s30,h1,h2,h5,h6']
 refine G_loop_ind (fun m ts h mk => ∃ i : Nat,i ≤ t.op.length ∧ m = t.op.length - i ∧ (t.op.take i).all (fun x => risL x.list (t.ch - 1)) = true ∧ ts.length = 62 ∧
  ts.getD 1 .undef = .ptr 0 0 ∧ ts.getD 3 .undef = I i ∧ h = [.cells [I t.ch,I t.tm,o,w] false] ∧ mk = []) ?_ _ _ _ _ ⟨0,Nat.zero_le _,rfl,rfl,rfl,rfl,rfl,rfl,rfl⟩
 rintro m ts h mk ih ⟨i,hi,rfl,hall,hl,q1,q3,rfl,rfl⟩
 rw [lit_all hl]
 simp only [lit0,litS,Nat.reduceAdd,q1,q3]
 simp (disch:=first|assumption|omega|(simp only[az];done)) only [ru,eq_self,if_true,if_false,binI,AO.row?,loadV,Am.rowAt,Am.part,addOff,lenV_sl H.o]
 by_cases hlt : (i : Int) < t.op.length
 case pos =>
  have hlt' : i < t.op.length:=by omega
  have un:=Ls.under H.sl hlt'
  obtain ⟨x,hx⟩ : ∃ x,x = t.op.getD i default:=⟨_,rfl⟩
  rw [← hx] at un
  have c:=fun st => s52 x.is (by omega) 0 (t.ch - 1) st
  cases hs : risL x.list (t.ch - 1)
  ·have A0 : A = false:=by rw [hA,all_not (p:=fun x => risL x.list (t.ch - 1)) hlt' hx.symm hs]; rfl
   unfold risL at hs
   simp only [hs] at c
   simp (disch:=first|assumption|omega|(simp only[az];done)) only [ru,eq_self,if_true,if_false,binI,AO.row?,loadV,Am.rowAt,Am.part,addOff,elem_sl Ls.el H.o,Int.toNat_natCast,hlt,← hx,Ls.e,view_sl x.is,pure_sl x.is,c,A0]
  ·have hs':=hs
   unfold risL at hs
   simp only [hs] at c
   simp (disch:=first|assumption|omega|(simp only[az];done)) only [ru,eq_self,if_true,if_false,binI,AO.row?,loadV,Am.rowAt,Am.part,addOff,elem_sl Ls.el H.o,Int.toNat_natCast,hlt,← hx,Ls.e,view_sl x.is,pure_sl x.is,c]
   exact ih (t.op.length - (i + 1)) _ _ _ (by omega) ⟨i + 1,by omega,rfl,all_upto_succ (p:=fun x => risL x.list (t.ch - 1)) hlt' hx.symm hall hs',rfl,rfl,rfl,rfl,rfl⟩
 have hg : t.op.all (fun x => risL x.list (t.ch - 1)) = true:=by rw [List.take_of_length_le (by omega)] at hall; exact hall
 simp only [hg,Bool.true_and] at hA
 simp (disch:=first|assumption|omega|(simp only[az];done)) only [ru,hlt]
 refine G_loop_ind (fun m ts h mk => ∃ (i : Nat),i ≤ t.ws.length ∧ m = t.ws.length - i ∧ (t.ws.take i).all (fitB t) = true ∧ ts.length = 62 ∧
  ts.getD 1 .undef = .ptr 0 0 ∧ ts.getD 4 .undef = I i ∧ h = [.cells [I t.ch,I t.tm,o,w] false] ∧ mk = []) ?_ _ _ _ _ ⟨0,Nat.zero_le _,rfl,rfl,rfl,rfl,rfl,rfl,rfl⟩
 clear ih q1 q3 hl hall hlt hi
 rintro m ts h mk ih ⟨i,hi,rfl,hall,hl,q1,q4,rfl,rfl⟩
 rw [lit_all hl]
 simp only [lit0,litS,Nat.reduceAdd,q1,q4]
 simp (disch:=first|assumption|omega|(simp only[az];done)) only [ru,eq_self,if_true,if_false,binI,AO.row?,loadV,Am.rowAt,Am.part,addOff,lenV_sl H.w]
 by_cases hlt : (i : Int) < t.ws.length
 case neg =>
  have hw : t.ws.all (fitB t) = true:=by rw [List.take_of_length_le (by omega)] at hall; exact hall
  have A1 : A = true:=by rw [hA,hw]
  simp (disch:=first|assumption|omega|(simp only[az];done)) only [ru,eq_self,if_true,hlt,A1]
 have hlt' : i < t.ws.length:=by omega
 obtain ⟨x,hx⟩ : ∃ x,x = t.ws.getD i default:=⟨_,rfl⟩
 have c:=fun st => c28 x st
 have ef:=isW_fit (x:=x) h1 h2
 cases hs : fitB t x
 ·have A0 : A = false:=by rw [hA,all_not hlt' hx.symm hs]
  simp only [ef,hs] at c
  simp (disch:=first|assumption|omega|(simp only[az];done)) only [ru,eq_self,if_true,if_false,AO.row?,loadV,Am.rowAt,Am.part,addOff,Nat.reduceAdd,elem_sl Wd.el H.w,view_sl H.o,view_sl H.w,pure_sl H.o,pure_sl H.w,Int.toNat_natCast,hlt,← hx,Wd.e,c,A0]
 ·simp only [ef,hs] at c
  simp (disch:=first|assumption|omega|(simp only[az];done)) only [ru,eq_self,if_true,if_false,binI,AO.row?,loadV,Am.rowAt,Am.part,addOff,Nat.reduceAdd,elem_sl Wd.el H.w,view_sl H.o,view_sl H.w,pure_sl H.o,pure_sl H.w,Int.toNat_natCast,hlt,← hx,Wd.e,c]
  exact ih (t.ws.length - (i + 1)) _ _ _ (by omega) ⟨i + 1,by omega,rfl,all_upto_succ hlt' hx.symm hall hs,rfl,rfl,rfl,rfl,rfl⟩
end
def hasI (l : List Int) (n : Int) : Bool:=(List.range l.length).any fun i => l.getD i 0 == n
theorem any_not {p : Nat → Bool} {N : Nat} (h : (List.range N).all (fun i => !p i) = true) : (List.range N).any p = false:=by
 rw [List.any_eq_false]; intro i hi
 have:=List.all_eq_true.1 h i hi
 simpa using this
theorem any_yes {p : Nat → Bool} {i N : Nat} (hi : i < N) (hp : p i = true) : (List.range N).any p = true:=by
 rw [List.any_eq_true]; exact ⟨i,List.mem_range.2 hi,hp⟩
theorem s40 {l : List Int} {v : AV} (hv : IsSl 1 intL l v) (hl : l.length ≤ 1000000) (n : Int) (st : Bool) : Iso E 22 [v,I n] st = some (Bo (hasI l n)):=by
 obtain ⟨A,hA⟩ : ∃ A,A = hasI l n:=⟨_,rfl⟩
 rw [← hA]
 refine Iso_of (es _ _ _ _) e22 ?_
 simp only [f22]
 simp (disch:=first|assumption|omega|(simp only[az];done)) only [ru,Nat.reduceAdd,Nat.reduceSub]
 refine G_loop_ind (fun m ts h mk => ∃ (i : Nat),i ≤ l.length ∧ m = l.length - i ∧ ((List.range i).all fun i => !(l.getD i 0 == n)) = true ∧ ts.length = 18 ∧ ts.getD 0 .undef = v ∧ ts.getD 1 .undef = I n ∧ ts.getD 5 .undef = I i ∧ h = [] ∧ mk = []) ?_ _ _ _ _
  ⟨0,Nat.zero_le _,rfl,rfl,rfl,rfl,rfl,rfl,rfl,rfl⟩
 rintro m ts h mk ih ⟨i,hi',rfl,hall,hl',q0,q1,q5,rfl,rfl⟩
 rw [lit_all hl']
 simp only [lit0,litS,Nat.reduceAdd,q0,q1,q5]
 simp (disch:=first|assumption|omega|(simp only[az];done)) only [ru,eq_self,if_true,binI,lenV_sl hv]
 by_cases hlt : (i : Int) < l.length
 case neg =>
  obtain rfl : i = l.length:=by omega
  have A1 : A = false:=by rw [hA]; exact any_not hall
  simp (disch:=first|assumption|omega|(simp only[az];done)) only [ru,eq_self,hlt,A1]
 have hi2 : i < l.length:=by omega
 obtain ⟨x,hx⟩ : ∃ x,x = l.getD i default:=⟨_,rfl⟩
 have hx' : l.getD i 0 = x:=hx.symm
 by_cases h1 : x = n
 ·have A0 : A = true:=by rw [hA]; exact any_yes (p:=fun i => l.getD i 0 == n) hi2 (by simp only [hx',h1,BEq.rfl])
  simp (disch:=first|assumption|omega|(simp only[az];done)) only [ru,eq_self,if_true,if_false,BEq.rfl,binI,loadV,Am.part,elem_sl intE hv,hlt,Int.toNat_natCast,← hx,h1,A0]
 ·have h1' : (x == n) = false:=by simpa using h1
  simp (disch:=first|assumption|omega|(simp only[az];done)) only [ru,eq_self,if_true,if_false,binI,loadV,Am.part,elem_sl intE hv,hlt,Int.toNat_natCast,← hx,h1']
  exact ih (l.length - (i + 1)) _ _ _ (by omega) ⟨i + 1,by omega,rfl,range_all_succ hall (by simp only [hx',h1']; rfl),rfl,rfl,rfl,rfl,rfl,rfl⟩
end Go.Proofs.YtfknojncfbahpaaGreat.S
/-
Far too many,equal lists,equal traps.
-/
namespace Go.Proofs.YtfknojncfbahpaaGreat.S
open Go Go.Am Go.Proofs.YtfknojncfbahpaaGreat.T
set_option maxRecDepth 100000
set_option linter.unusedSimpArgs false
set_option linter.unusedVariables false
theorem s115 {l : List Int} {v : AV} (hv : IsSl 1 intL l v) (hl : l.length ≤ 1000000) (n : Int) (st : Bool) : ∃ x,Iso E 149 [v,I n] st = some (I x) ∧ hasI l n = decide (x ≥ 0):=by
 suffices hh : ∃ x,Iso E 149 [v,I n] st = some (I x) ∧ ((x = -1 ∧ hasI l n = false) ∨ (0 ≤ x ∧ hasI l n = true)) by
  obtain ⟨x,h1,h2⟩:=hh
  refine ⟨x,h1,?_⟩
  rcases h2 with ⟨rfl,h⟩ | ⟨h0,h⟩
  ·rw [h]; rfl
  ·rw [h]; simp [h0]
 by_cases hA : hasI l n = true
 ·have hex : ∃ i,i < l.length ∧ l.getD i 0 = n ∧ ∀ j,j < i → l.getD j 0 ≠ n:=by
   unfold hasI at hA
   rw [List.any_eq_true] at hA
   obtain ⟨i,hi,he⟩:=hA
   rw [List.mem_range] at hi
   induction i using Nat.strongRecOn with
   |
    ind i ih =>
    by_cases hj : ∃ j,j < i ∧ l.getD j 0 = n
    ·obtain ⟨j,h1,h2⟩:=hj
     exact ih j h1 (by omega) (by rw [h2]; simp)
    ·exact ⟨i,hi,by simpa using he,fun j hj' e => hj ⟨j,hj',e⟩⟩
  obtain ⟨K,hK,hKn,hKf⟩:=hex
  refine ⟨K,?_,.inr ⟨by omega,hA⟩⟩
  refine Iso_of (es _ _ _ _) e149 ?_
  simp only [f149]
  simp (disch:=first|assumption|omega|(simp only[az];done)) only [ru,Nat.reduceAdd,Nat.reduceSub,Int.reduceNeg,lenV_sl hv]
  refine G_loop_ind (fun m ts h mk => ∃ (i : Nat),i ≤ K ∧ m = l.length - i ∧ ts.length = 19 ∧ ts.getD 0 .undef = v ∧ ts.getD 1 .undef = I n ∧ ts.getD 7 .undef = I l.length ∧ ts.getD 8 .undef = I i ∧ h = [] ∧ mk = []) ?_ _ _ _ _
   ⟨0,Nat.zero_le _,rfl,rfl,rfl,rfl,rfl,rfl,rfl,rfl⟩
  rintro m ts h mk ih ⟨i,hi',rfl,hl',q0,q1,q7,q8,rfl,rfl⟩
  rw [lit_all hl']
  simp only [lit0,litS,Nat.reduceAdd,q0,q1,q7,q8]
  have hlt : (i : Int) < l.length:=by omega
  obtain ⟨x,hx⟩ : ∃ x,x = l.getD i default:=⟨_,rfl⟩
  have hx' : l.getD i 0 = x:=hx.symm
  by_cases hi2 : i = K
  ·subst hi2
   have e : x = n:=by rw [← hx']; exact hKn
   simp (disch:=first|assumption|omega|(simp only[az];done)) only [ru,eq_self,if_true,if_false,BEq.rfl,binI,loadV,Am.part,Int.reduceNeg,elem_sl intE hv,hlt,Int.toNat_natCast,← hx,e]
  ·have e : ¬ x = n:=by rw [← hx']; exact hKf i (by omega)
   have e' : (n == x) = false:=by simpa using fun h => e h.symm
   simp (disch:=first|assumption|omega|(simp only[az];done)) only [ru,eq_self,if_true,if_false,binI,loadV,Am.part,Int.reduceNeg,elem_sl intE hv,hlt,Int.toNat_natCast,← hx,e']
   exact ih (l.length - (i + 1)) _ _ _ (by omega) ⟨i + 1,by omega,rfl,rfl,rfl,rfl,rfl,rfl,rfl,rfl⟩
 ·have hA0 : hasI l n = false:=by simpa using hA
  have hno : ∀ i,i < l.length → l.getD i 0 ≠ n:=by
   intro i hi e
   exact hA (any_yes (p:=fun i => l.getD i 0 == n) hi (by simp only [e,BEq.rfl]))
  refine ⟨-1,?_,.inl ⟨rfl,hA0⟩⟩
  refine Iso_of (es _ _ _ _) e149 ?_
  simp only [f149]
  simp (disch:=first|assumption|omega|(simp only[az];done)) only [ru,Nat.reduceAdd,Nat.reduceSub,Int.reduceNeg,lenV_sl hv]
  refine G_loop_ind (fun m ts h mk => ∃ (i : Nat),i ≤ l.length ∧ m = l.length - i ∧ ts.length = 19 ∧ ts.getD 0 .undef = v ∧ ts.getD 1 .undef = I n ∧ ts.getD 7 .undef = I l.length ∧ ts.getD 8 .undef = I i ∧ h = [] ∧ mk = []) ?_ _ _ _ _
   ⟨0,Nat.zero_le _,rfl,rfl,rfl,rfl,rfl,rfl,rfl,rfl⟩
  rintro m ts h mk ih ⟨i,hi',rfl,hl',q0,q1,q7,q8,rfl,rfl⟩
  rw [lit_all hl']
  simp only [lit0,litS,Nat.reduceAdd,q0,q1,q7,q8]
  simp (disch:=first|assumption|omega|(simp only[az];done)) only [ru,eq_self,if_true,binI,Int.reduceNeg]
  by_cases hlt : (i : Int) < l.length
  case neg =>
   simp (disch:=first|assumption|omega|(simp only[az];done)) only [ru,eq_self,Int.reduceNeg,hlt]
  obtain ⟨x,hx⟩ : ∃ x,x = l.getD i default:=⟨_,rfl⟩
  have hx' : l.getD i 0 = x:=hx.symm
  have e : ¬ x = n:=by rw [← hx']; exact hno i (by omega)
  have e' : (n == x) = false:=by simpa using fun h => e h.symm
  simp (disch:=first|assumption|omega|(simp only[az];done)) only [ru,eq_self,if_true,if_false,binI,loadV,Am.part,Int.reduceNeg,elem_sl intE hv,hlt,Int.toNat_natCast,← hx,e']
  exact ih (l.length - (i + 1)) _ _ _ (by omega) ⟨i + 1,by omega,rfl,rfl,rfl,rfl,rfl,rfl,rfl,rfl⟩
theorem s112 {l : List Int} {v : AV} (hv : IsSl 1 intL l v) (hl : l.length ≤ 1000000) (n : Int) (st : Bool) : Iso E 125 [v,I n] st = some (Bo (hasI l n)):=by
 obtain ⟨x,h1,h2⟩:=s115 hv hl n true
 obtain ⟨x',h1',h2'⟩:=s115 hv hl n false
 refine Iso_of (es _ _ _ _) e125 ?_
 simp only [f125]
 first
 | (rw [h2]; simp (disch:=first|assumption|omega|(simp only[az];done)) only [ru,Nat.reduceAdd,Nat.reduceSub,view_sl hv,pure_sl hv]; done)
 | (rw [h2']; simp (disch:=first|assumption|omega|(simp only[az];done)) only [ru,eq_self,if_true,binI,Nat.reduceAdd,Nat.reduceSub,view_sl hv,pure_sl hv,h1']; done)
def hugeL (l : List Ls) : Bool:=decide (l.length > 40) || (List.range l.length).any fun i => decide ((l.getD i default).list.length > 40)
theorem s17 {l : List Ls} {v : AV} (hv : IsSl 1 Ls.e l v) (st : Bool) : Iso E 127 [v] st = some (Bo (hugeL l)):=by
 obtain ⟨A,hA⟩ : ∃ A,A = hugeL l:=⟨_,rfl⟩
 rw [← hA]
 unfold hugeL at hA
 refine Iso_of (es _ _ _ _) e127 ?_
 simp only [f127]
 by_cases h1 : l.length > 40
 ·have h1' : (l.length : Int) > 40:=by omega
  have A1 : A = true:=by rw [hA]; simp [h1]
  simp (disch:=first|assumption|omega|(simp only[az];done)) only [ru,eq_self,if_true,binI,Nat.reduceSub,lenV_sl hv,h1',A1]
 have h1' : ¬ (l.length : Int) > 40:=by omega
 simp only [h1,decide_false,Bool.false_or] at hA
 simp (disch:=first|assumption|omega|(simp only[az];done)) only [ru,eq_self,if_true,binI,Nat.reduceSub,lenV_sl hv,h1']
 refine G_loop_ind (fun m ts h mk => ∃ (i : Nat),i ≤ l.length ∧ m = l.length - i ∧ ((List.range i).all fun i => !decide ((l.getD i default).list.length > 40)) = true ∧ ts.length = 19 ∧ ts.getD 0 .undef = v ∧ ts.getD 3 .undef = I i ∧ h = [] ∧ mk = []) ?_ _ _ _ _
  ⟨0,Nat.zero_le _,rfl,rfl,rfl,rfl,rfl,rfl,rfl⟩
 rintro m ts h mk ih ⟨i,hi',rfl,hall,hl',q0,q3,rfl,rfl⟩
 rw [lit_all hl']
 simp only [lit0,litS,Nat.reduceAdd,q0,q3]
 simp (disch:=first|assumption|omega|(simp only[az];done)) only [ru,eq_self,if_true,binI,lenV_sl hv]
 by_cases hlt : (i : Int) < l.length
 case neg =>
  obtain rfl : i = l.length:=by omega
  have A1 : A = false:=by rw [hA]; exact any_not hall
  simp (disch:=first|assumption|omega|(simp only[az];done)) only [ru,eq_self,hlt,A1]
 have hi2 : i < l.length:=by omega
 obtain ⟨x,hx⟩ : ∃ x,x = l.getD i default:=⟨_,rfl⟩
 by_cases h2 : x.list.length > 40
 ·have h2' : (x.list.length : Int) > 40:=by omega
  have A0 : A = true:=by rw [hA]; exact any_yes (p:=fun i => decide ((l.getD i default).list.length > 40)) hi2 (by simp only [← hx,h2]; rfl)
  simp (disch:=first|assumption|omega|(simp only[az];done)) only [ru,eq_self,if_true,if_false,binI,loadV,Am.part,elem_sl Ls.el hv,hlt,Int.toNat_natCast,← hx,Ls.e,lenV_sl x.is,h2',A0]
 ·have h2' : ¬ (x.list.length : Int) > 40:=by omega
  simp (disch:=first|assumption|omega|(simp only[az];done)) only [ru,eq_self,if_true,if_false,binI,loadV,Am.part,elem_sl Ls.el hv,hlt,Int.toNat_natCast,← hx,Ls.e,lenV_sl x.is,h2']
  exact ih (l.length - (i + 1)) _ _ _ (by omega) ⟨i + 1,by omega,rfl,range_all_succ hall (by simp only [← hx,h2]; rfl),rfl,rfl,rfl,rfl,rfl⟩
theorem hugeL_no {l : List Ls} (h : hugeL l = false) : l.length ≤ 40 ∧ ∀ x ∈ l,x.list.length ≤ 40:=by
 unfold hugeL at h
 simp only [Bool.or_eq_false_iff,decide_eq_false_iff_not,List.any_eq_false,List.mem_range,decide_eq_true_eq] at h
 refine ⟨by omega,fun x hx => ?_⟩
 obtain ⟨i,hi,rfl⟩:=List.mem_iff_getElem.1 hx
 have:=h.2 i hi
 rw [List.getD_eq_getElem?_getD,List.getElem?_eq_getElem hi] at this
 simpa using this
def Trap.huge (t : Trap) : Bool:=hugeL t.op || decide (t.ws.length > 40)
structure TrIn (t : Trap) (o w : AV) : Prop where
 o : IsSl 1 Ls.e t.op o
 w : IsSl 4 Wd.e t.ws w
theorem TrIn.ok {t : Trap} {o w : AV} (H : TrIn t o w) (h : t.huge = false) : TrOk t o w:=by
 unfold Trap.huge at h
 simp only [Bool.or_eq_false_iff,decide_eq_false_iff_not] at h
 have:=hugeL_no h.1
 exact ⟨H.o,H.w,this.1,by omega,this.2⟩
theorem s53 {t : Trap} {o w : AV} (H : TrIn t o w) (st : Bool) : Iso E 90 [trV t o w] st = some (Bo t.huge):=by
 refine Iso_of (es _ _ _ _) e90 ?_
 have c:=fun st => s17 H.o st
 simp only [f90,trV,Trap.huge]
 have e : decide (t.ws.length > 40) = decide ((t.ws.length : Int) > 40):=by
  by_cases h : t.ws.length > 40
  ·rw [decide_eq_true h,decide_eq_true (by omega)]
  ·rw [decide_eq_false h,decide_eq_false (by omega)]
 rw [e]
 cases hh : hugeL t.op
 ·simp only [hh] at c
  simp (disch:=first|assumption|omega|(simp only[az];done)) only [ru,eq_self,if_true,if_false,binI,AO.row?,loadV,Am.rowAt,Am.part,addOff,Nat.reduceSub,lenV_sl H.w,view_sl H.o,pure_sl H.o,c,Bool.false_or]
 ·simp only [hh] at c
  simp (disch:=first|assumption|omega|(simp only[az];done)) only [ru,eq_self,if_true,if_false,AO.row?,loadV,Am.rowAt,Am.part,addOff,Nat.reduceSub,view_sl H.o,pure_sl H.o,c,Bool.true_or]
theorem s69 {l : List Int} {v v' : AV} (hv : IsSl 1 intL l v) (hv' : IsSl 1 intL l v') (hl : l.length ≤ 1000000) (st : Bool) : Iso E 50 [v,v'] st = some (Bo true):=by
 refine Iso_of (es _ _ _ _) e50 ?_
 simp only [f50]
 simp (disch:=first|assumption|omega|(simp only[az];done)) only [ru,eq_self,if_true,binI,Nat.reduceAdd,Nat.reduceSub,lenV_sl hv,lenV_sl hv']
 refine G_loop_ind (fun m ts h mk => ∃ (i : Nat),i ≤ l.length ∧ m = l.length - i ∧ ts.length = 26 ∧ ts.getD 0 .undef = v ∧ ts.getD 1 .undef = v' ∧ ts.getD 5 .undef = I i ∧ h = [] ∧ mk = []) ?_ _ _ _ _
  ⟨0,Nat.zero_le _,rfl,rfl,rfl,rfl,rfl,rfl,rfl⟩
 rintro m ts h mk ih ⟨i,hi',rfl,hl',q0,q1,q5,rfl,rfl⟩
 rw [lit_all hl']
 simp only [lit0,litS,Nat.reduceAdd,q0,q1,q5]
 simp (disch:=first|assumption|omega|(simp only[az];done)) only [ru,eq_self,if_true,binI,lenV_sl hv]
 by_cases hlt : (i : Int) < l.length
 case neg =>
  simp (disch:=first|assumption|omega|(simp only[az];done)) only [ru,eq_self,hlt]
 obtain ⟨x,hx⟩ : ∃ x,x = l.getD i default:=⟨_,rfl⟩
 simp (disch:=first|assumption|omega|(simp only[az];done)) only [ru,eq_self,if_true,if_false,binI,loadV,Am.part,elem_sl intE hv,elem_sl intE hv',hlt,Int.toNat_natCast,← hx]
 exact ih (l.length - (i + 1)) _ _ _ (by omega) ⟨i + 1,by omega,rfl,rfl,rfl,rfl,rfl,rfl,rfl⟩
end Go.Proofs.YtfknojncfbahpaaGreat.S
/-
Equal slices of lists,equal traps; a trap in new memory.
-/
namespace Go.Proofs.YtfknojncfbahpaaGreat.S
open Go Go.Am Go.Proofs.YtfknojncfbahpaaGreat.T
set_option maxRecDepth 100000
set_option linter.unusedSimpArgs false
set_option linter.unusedVariables false
def cpL (l : List Ls) : List Ls:=l.map fun x => ⟨x.list,false⟩
theorem cpL_len {l : List Ls} : (cpL l).length = l.length:=by simp [cpL]
theorem cpL_at {l : List Ls} {i : Nat} (hi : i < l.length) : ((cpL l).getD i default) = ⟨(l.getD i default).list,false⟩:=by
 simp [cpL,List.getD_eq_getElem?_getD,hi]
theorem Ls.of_list {l : List Int} : (Ls.mk l false).list = l:=rfl
theorem cpL_list {l : List Ls} {i : Nat} (hi : i < l.length) : ((cpL l).getD i default).list = (l.getD i default).list:=by rw [cpL_at hi]; rfl
def Trap.cp (t : Trap) : Trap:=⟨t.ch,t.tm,cpL t.op,t.ws⟩
theorem cpL_under {l : List Ls} (h : ∀ x ∈ l,x.list.length ≤ 40) : ∀ x ∈ cpL l,x.list.length ≤ 40:=by
 intro x hx
 simp only [cpL,List.mem_map] at hx
 obtain ⟨y,hy,rfl⟩:=hx
 exact h y hy
theorem cp_valid {t : Trap} : t.cp.valid = t.valid:=by
 have e : fitB t.cp = fitB t:=rfl
 unfold Trap.valid
 rw [e]
 simp only [Trap.cp,cpL_len]
 congr 2
 simp [cpL,List.all_map,Function.comp_def,Ls.of_list]
end Go.Proofs.YtfknojncfbahpaaGreat.S
/-
A trap at work: what is said of two sums,and what is known of them.
-/
namespace Go.Proofs.YtfknojncfbahpaaGreat.S
open Go Go.Am Go.Proofs.YtfknojncfbahpaaGreat.T
set_option maxRecDepth 100000
set_option linter.unusedSimpArgs false
set_option linter.unusedVariables false
section
variable {α : Type} {l m : List α} {j : Nat} {x : α}
theorem setT : (l ++ m).set (l.length + j) x = l ++ m.set j x:=by rw [List.set_append_right _ _ (by omega),Nat.add_sub_cancel_left]
theorem setT0 : (l ++ m).set l.length x = l ++ m.set 0 x:=setT (j:=0)
theorem getT : (l ++ m).getD (l.length + j) x = m.getD j x:=by simp [List.getD_eq_getElem?_getD,List.getElem?_append_right]
theorem getT0 : (l ++ m).getD l.length x = m.getD 0 x:=getT (j:=0)
theorem atT : (l ++ m)[l.length + j]? = m[j]?:=by rw [List.getElem?_append_right (by omega),Nat.add_sub_cancel_left]
theorem atT0 : (l ++ m)[l.length]? = m[0]?:=atT (j:=0)
theorem at_ap {k : Nat} (h : k < l.length) : (l ++ m)[k]? = l[k]?:=List.getElem?_append_left h
end
structure Ok (B : List Int) : Prop where
 len : B.length = 441
 cld : Cld 21 (bat B)
 up : ∀ k l,k < 21 → l < 21 → bat B k l ≤ 40
theorem Ok.sm {B : List Int} (K : Ok B) : Sm B:=fun k l hk hl => by
 have a:=K.up k l hk hl
 have b:=K.up l k hl hk
 have c:=K.cld.t k k l hk hk hl
 have d:=K.cld.z k hk
 omega
structure Chg (ch tm : Int) (ov wv : AV) (w : Nat) (h : List AO) (B : List Int) (h' : List AO) : Prop where
 le : h.length ≤ h'.length
 fr : ∀ o,o < h.length → o ≠ w → h'[o]? = h[o]?
 at' : h'[w]? = some (.cells (wc ch tm ov wv B) false)
section
variable {ch tm : Int} {ov wv : AV} {B B' B'' : List Int} {w : Nat} {h h' h'' : List AO}
theorem Chg.refl (hw : h[w]? = some (.cells (wc ch tm ov wv B) false)) : Chg ch tm ov wv w h B h:=⟨Nat.le_refl _,fun _ _ _ => rfl,hw⟩
theorem Chg.trans (S : Chg ch tm ov wv w h B h') (S' : Chg ch tm ov wv w h' B' h'') : Chg ch tm ov wv w h B' h'' :=
 ⟨Nat.le_trans S.le S'.le,fun o ho hn => (S'.fr o (Nat.lt_of_lt_of_le ho S.le) hn).trans (S.fr o ho hn),S'.at'⟩
theorem Chg.app {J : List AO} (S : Chg ch tm ov wv w (h ++ J) B h') : Chg ch tm ov wv w h B h' :=
 ⟨by have:=S.le; rw [List.length_append] at this; omega,fun o ho hn => (S.fr o (by rw [List.length_append]; omega) hn).trans (List.getElem?_append_left ho),S.at'⟩
theorem updL_len {i j : Nat} {m : Int} : (updL B i j m).length = 441:=mixL_len
theorem Ok.upd (K : Ok B) {i j : Nat} {m : Int} (hi : i < 21) (hj : j < 21) (hm : 0 ≤ bat B j i + m) : Ok (updL B i j m):=by
 have C:=upd_cld K.cld hi hj hm
 have e : ∀ k l,k < 21 → l < 21 → bat (updL B i j m) k l = Go.Proofs.YtfknojncfbahpaaGreat.S.upd (bat B) i j m k l:=fun k l hk hl => bat_upd hk hl
 refine ⟨updL_len,⟨fun k hk => ?_,fun k l n hk hl hn => ?_⟩,fun k l hk hl => ?_⟩
 ·rw [e k k hk hk]; exact C.z k hk
 ·rw [e k l hk hl,e k n hk hn,e n l hn hl]; exact C.t k l n hk hl hn
 ·rw [e k l hk hl]; exact Int.le_trans mn_le1 (K.up k l hk hl)
theorem sat_updL {i j : Nat} {m : Int} (K : Ok B) (hi : i < 21) (hj : j < 21) {x : Nat → Int} : Sat 21 (bat (updL B i j m)) x ↔ Sat 21 (bat B) x ∧ x i - x j ≤ m:=by
 rw [← upd_sat K.cld hi hj]
 constructor
 ·intro s k l hk hl; rw [← bat_upd hk hl]; exact s k l hk hl
 ·intro s k l hk hl; rw [bat_upd hk hl]; exact s k l hk hl
theorem q116 (hw : h[w]? = some (.cells (wc ch tm ov wv B) false)) (K : Ok B) {lim i j : Nat} {m : Int} (hi : i < 21) (hj : j < 21) (hm : -1000 ≤ m ∧ m ≤ 1000) (hlim : lim ≤ w) :
  ∃
   b B' h',R E (.fn 177) [.ptr w 4,I i,I j,I m] h lim = some (Bo b,h') ∧ h'.length = h.length ∧ Chg ch tm ov wv w h B' h' ∧ Ok B' ∧
   (b = true → ∀ x,Sat 21 (bat B') x ↔ Sat 21 (bat B) x ∧ x i - x j ≤ m) ∧ (b = false → ∀ x,Sat 21 (bat B) x → ¬ x i - x j ≤ m):=by
 obtain ⟨h',hr,he⟩:=r116 hw K.len K.cld K.sm hi hj hm hlim
 have wl:=(List.getElem?_eq_some_iff.1 hw).1
 by_cases c1 : bat B j i + m < 0
 ·rw [if_pos c1] at he
  subst he
  refine ⟨_,B,_,hr,rfl,Chg.refl hw,K,fun hb => ?_,fun _ x hx => upd_none hi hj c1 hx⟩
  rw [decide_eq_true_eq] at hb; omega
 have d1 : 0 ≤ bat B j i + m:=by omega
 rw [if_neg c1] at he
 by_cases c2 : bat B i j ≤ m
 ·rw [if_pos c2] at he
  subst he
  refine ⟨_,B,_,hr,rfl,Chg.refl hw,K,fun _ x => ⟨fun hx => ⟨hx,Int.le_trans (hx i j hi hj) c2⟩,fun hx => hx.1⟩,fun hb => ?_⟩
  rw [decide_eq_false_iff_not] at hb; omega
 ·rw [if_neg c2] at he
  subst he
  refine ⟨_,updL B i j m,_,hr,by simp,⟨by simp,fun o ho hn => ?_,by simp [wl]⟩,K.upd hi hj d1,fun _ x => sat_updL K hi hj,fun hb => ?_⟩
  ·rw [List.getElem?_set_ne (fun e => hn e.symm)]
  ·rw [decide_eq_false_iff_not] at hb; omega
theorem r114 (hw : h[w]? = some (.cells (wc ch tm ov wv B) false)) (K : Ok B) {lim i j : Nat} {lo hi' : Int} (hi : i < 21) (hj : j < 21) (h0 : 0 ≤ lo ∧ lo ≤ 1000) (h1 : 0 ≤ hi' ∧ hi' ≤ 1000) (hlim : lim ≤ w) :
  ∃
   b B' h',R E (.fn 165) [.ptr w 4,I i,I j,.agg [I lo,I hi']] h lim = some (Bo b,h') ∧ Chg ch tm ov wv w h B' h' ∧ Ok B' ∧
   (b = true → ∀ x,Sat 21 (bat B') x ↔ Sat 21 (bat B) x ∧ lo ≤ x i - x j ∧ x i - x j ≤ hi') ∧ (b = false → ∀ x,Sat 21 (bat B) x → ¬ (lo ≤ x i - x j ∧ x i - x j ≤ hi')):=by
 have wl:=(List.getElem?_eq_some_iff.1 hw).1
 have hw' : (h ++ [.cells [I lo,I hi'] false])[w]? = some (.cells (wc ch tm ov wv B) false):=by rw [at_ap wl]; exact hw
 obtain ⟨b,B1,h1',hr,hl,S,K1,t1,f1⟩:=q116 hw' K (lim:=lim) hi hj (m:=hi') (by omega) hlim
 have hb1 : h1'[h.length]? = some (.cells [I lo,I hi'] false):=by rw [S.fr _ (by simp) (by omega),atT0]; rfl
 suffices hh : ∃ r h',R E (.fn 165) [.ptr w 4,I i,I j,.agg [I lo,I hi']] h lim = some (r,h') ∧ (∃ b B',r = Bo b ∧ Chg ch tm ov wv w h B' h' ∧ Ok B' ∧
   (b = true → ∀ x,Sat 21 (bat B') x ↔ Sat 21 (bat B) x ∧ lo ≤ x i - x j ∧ x i - x j ≤ hi') ∧ (b = false → ∀ x,Sat 21 (bat B) x → ¬ (lo ≤ x i - x j ∧ x i - x j ≤ hi'))) by
  obtain ⟨r,h',hr,b,B',rfl,hh⟩:=hh
  exact ⟨b,B',h',hr,hh⟩
 refine R_of _ (es _ _ _ _) e165 ?_
 simp only [f165]
 have ll : lim ≤ h.length:=by omega
 cases b
 ·simp (disch:=first|assumption|omega|(simp only[az];done)) only [ru,eq_self,if_true,if_false,AO.row?,loadV,Am.rowAt,Am.part,addOff,Nat.reduceAdd,Nat.reduceSub,hr,lenE]
  refine ⟨false,B1,rfl,S.app,K1,by simp,fun _ x hx hc => f1 rfl x hx hc.2⟩
 ·obtain ⟨b2,B2,h2,hr2,hl2,S2,K2,t2,f2⟩:=q116 S.at' K1 (lim:=lim) hj hi (m:=-lo) (by omega) hlim
  have T1:=t1 rfl
  simp (disch:=first|assumption|omega|(simp only[az];done)) only [ru,eq_self,if_true,if_false,AO.row?,loadV,Am.rowAt,Am.part,addOff,Nat.reduceAdd,Nat.reduceSub,hr,hb1,hr2,Int.zero_sub]
  refine ⟨b2,B2,rfl,(S.trans S2).app,K2,fun hb x => ?_,fun hb x hx hc => ?_⟩
  ·rw [t2 hb x,T1 x]
   constructor
   ·rintro ⟨⟨a,b⟩,c⟩; exact ⟨a,by omega,b⟩
   ·rintro ⟨a,b,c⟩; exact ⟨⟨a,c⟩,by omega⟩
  ·exact f2 hb x ((T1 x).2 ⟨hx,hc.2⟩) (by omega)
def sumN (ch : Int) (t c : Nat) : Nat:=if (c : Int) = ch then 0 else 1 + t * 4 + c
theorem s76 (hw : h[w]? = some (.cells (wc ch tm ov wv B) false)) {t c : Nat} (ht : t ≤ 1000) (hc : c ≤ 1000) : Ro E 145 [.ptr w 0,I t,I c] h = some (I (sumN ch t c)):=by
 have wl:=(List.getElem?_eq_some_iff.1 hw).1
 refine Ro_of (es _ _ _ _) e145 ?_
 simp only [f145,sumN]
 by_cases e : (c : Int) = ch
 ·have e' : ((c : Int) == ch) = true:=by simpa using e
  simp (disch:=first|assumption|omega|(simp only[az];done)) only [ru,eq_self,if_true,if_false,BEq.rfl,binI,AO.row?,loadV,Am.rowAt,Am.part,addOff,Nat.reduceAdd,Nat.reduceSub,pex_nilC,nilC_ptr,hw,wc_0,e]
  rfl
 ·have e' : ((c : Int) == ch) = false:=by simpa using e
  simp (disch:=first|assumption|omega|(simp only[az];done)) only [ru,eq_self,if_true,if_false,binI,AO.row?,loadV,Am.rowAt,Am.part,addOff,Nat.reduceAdd,Nat.reduceSub,pex_nilC,nilC_ptr,hw,wc_0,e,e']
  exact ⟨by show I _ = I _; congr 1,rfl⟩
theorem s75 (hw : h[w]? = some (.cells (wc ch tm ov wv B) false)) (K : Ok B) {i j : Nat} (hi : i < 21) (hj : j < 21) : Ro E 144 [.ptr w 4,I i,I j] h = some (.agg [I (- bat B j i),I (bat B i j)]):=by
 have wl:=(List.getElem?_eq_some_iff.1 hw).1
 have hwJ : ∀ J,(h ++ J)[w]? = some (.cells (wc ch tm ov wv B) false):=fun J => by rw [at_ap wl]; exact hw
 have a1:=wc_at (ch:=ch) (tm:=tm) (ov:=ov) (wv:=wv) K.len hj hi
 have a2:=wc_at (ch:=ch) (tm:=tm) (ov:=ov) (wv:=wv) K.len hi hj
 rw [Nat.add_assoc] at a1 a2
 have s1:=K.sm j i hj hi
 have hi0 : (0 : Int) ≤ i:=by omega
 have hj0 : (0 : Int) ≤ j:=by omega
 have hi1 : (i : Int) < 21:=by omega
 have hj1 : (j : Int) < 21:=by omega
 refine Ro_of (es _ _ _ _) e144 ?_
 simp only [f144]
 simp (disch:=first|assumption|omega|(simp only[az];done)) only [ru,eq_self,if_true,if_false,AO.row?,splice,fillL,loadV,storeV,Am.rowAt,Am.part,addOff,Nat.reduceAdd,Nat.reduceLeDiff,Nat.reduceSub,pex_nilC,nilC_ptr,Nat.mul_one,hi0,hj0,hi1,hj1,Int.toNat_natCast,hwJ,a1,a2,lenE,setT0,atT0,Nat.add_assoc,Nat.le_refl,Int.zero_sub,finC,getRes,Option.some.injEq,exists_eq_left']
 rfl
theorem sumN_lt {ch : Int} {t c : Nat} (ht : t < 5) (h4 : ch ≤ 4) (hc : (c : Int) ≤ ch) : sumN ch t c < 21:=by
 unfold sumN; split <;> omega
theorem r101 (hw : h[w]? = some (.cells (wc ch tm ov wv B) false)) (K : Ok B) {lim t c : Nat} {lo hi' : Int} (ht : t < 5) (h4 : ch ≤ 4) (hc : (c : Int) < ch) (h0 : 0 ≤ lo ∧ lo ≤ 1000) (h1 : 0 ≤ hi' ∧ hi' ≤ 1000) (hlim : lim ≤ w) :
  ∃
   b B' h',R E (.fn 164) [.ptr w 0,.agg [I t,I c],.agg [I lo,I hi']] h lim = some (Bo b,h') ∧ Chg ch tm ov wv w h B' h' ∧ Ok B' ∧
   (b = true → ∀ x,Sat 21 (bat B') x ↔ Sat 21 (bat B) x ∧ lo ≤ x (sumN ch t c) - x (sumN ch t (c + 1)) ∧ x (sumN ch t c) - x (sumN ch t (c + 1)) ≤ hi') ∧
   (b = false → ∀ x,Sat 21 (bat B) x → ¬ (lo ≤ x (sumN ch t c) - x (sumN ch t (c + 1)) ∧ x (sumN ch t c) - x (sumN ch t (c + 1)) ≤ hi')):=by
 have wl:=(List.getElem?_eq_some_iff.1 hw).1
 have hwJ : ∀ J,(h ++ J)[w]? = some (.cells (wc ch tm ov wv B) false):=fun J => by rw [at_ap wl]; exact hw
 have ia:=sumN_lt ht h4 (show (c : Int) ≤ ch by omega)
 have ib:=sumN_lt ht h4 (show ((c + 1 : Nat) : Int) ≤ ch by omega)
 have c1:=fun J => s76 (hwJ J) (t:=t) (c:=c) (by omega) (by omega)
 have c2:=fun J => s76 (hwJ J) (t:=t) (c:=c + 1) (by omega) (by omega)
 obtain ⟨i,hi⟩ : ∃ i,i = sumN ch t c:=⟨_,rfl⟩
 obtain ⟨j,hj⟩ : ∃ j,j = sumN ch t (c + 1):=⟨_,rfl⟩
 rw [← hi] at ia ⊢
 rw [← hj] at ib ⊢
 simp only [← hi,← hj,Int.natCast_add,Int.cast_ofNat_Int] at c1 c2
 obtain ⟨b,B',h',hr,S,K',tt,ff⟩:=r114 (hwJ [.cells [I t,I c] false,.cells [I lo,I hi'] false]) K (lim:=lim) ia ib h0 h1 hlim
 suffices hh : ∃ r h',R E (.fn 164) [.ptr w 0,.agg [I t,I c],.agg [I lo,I hi']] h lim = some (r,h') ∧ (∃ b B',r = Bo b ∧ Chg ch tm ov wv w h B' h' ∧ Ok B' ∧
   (b = true → ∀ x,Sat 21 (bat B') x ↔ Sat 21 (bat B) x ∧ lo ≤ x i - x j ∧ x i - x j ≤ hi') ∧ (b = false → ∀ x,Sat 21 (bat B) x → ¬ (lo ≤ x i - x j ∧ x i - x j ≤ hi'))) by
  obtain ⟨r,h',hr,b,B',rfl,hh⟩:=hh
  exact ⟨b,B',h',hr,hh⟩
 refine R_of _ (es _ _ _ _) e164 ?_
 simp only [f164]
 simp (disch:=first|assumption|omega|(simp only[az];done)) only [ru,eq_self,if_true,if_false,binI,AO.row?,loadV,Am.rowAt,Am.part,addOff,Nat.reduceAdd,Nat.reduceSub,pex_nilC,nilC_ptr,List.append_assoc,lenE,atT,atT0,c1,c2,hr]
 exact ⟨b,B',rfl,S.app,K',tt,ff⟩
theorem s82 (hw : h[w]? = some (.cells (wc ch tm ov wv B) false)) (K : Ok B) {t c : Nat} (ht : t < 5) (h4 : ch ≤ 4) (hc : (c : Int) < ch) :
  Ro E 119 [.ptr w 0,.agg [I t,I c]] h = some (.agg [I (- bat B (sumN ch t (c + 1)) (sumN ch t c)),I (bat B (sumN ch t c) (sumN ch t (c + 1)))]):=by
 have wl:=(List.getElem?_eq_some_iff.1 hw).1
 have hwJ : ∀ J,(h ++ J)[w]? = some (.cells (wc ch tm ov wv B) false):=fun J => by rw [at_ap wl]; exact hw
 have ia:=sumN_lt ht h4 (show (c : Int) ≤ ch by omega)
 have ib:=sumN_lt ht h4 (show ((c + 1 : Nat) : Int) ≤ ch by omega)
 have c1:=fun J => s76 (hwJ J) (t:=t) (c:=c) (by omega) (by omega)
 have c2:=fun J => s76 (hwJ J) (t:=t) (c:=c + 1) (by omega) (by omega)
 obtain ⟨i,hi⟩ : ∃ i,i = sumN ch t c:=⟨_,rfl⟩
 obtain ⟨j,hj⟩ : ∃ j,j = sumN ch t (c + 1):=⟨_,rfl⟩
 rw [← hi] at ia ⊢
 rw [← hj] at ib ⊢
 simp only [← hi,← hj,Int.natCast_add,Int.cast_ofNat_Int] at c1 c2
 have c3:=fun J => s75 (hwJ J) K ia ib
 refine Ro_of (es _ _ _ _) e119 ?_
 simp only [f119]
 simp (disch:=first|assumption|omega|(simp only[az];done)) only [ru,eq_self,if_true,if_false,binI,AO.row?,splice,loadV,storeV,Am.rowAt,Am.part,addOff,Nat.reduceAdd,Nat.reduceSub,pex_nilC,nilC_ptr,List.append_assoc,lenE,setT,atT,atT0,Nat.le_refl,Nat.le_add_right,c1,c2,c3,finC,getRes,Option.some.injEq,exists_eq_left']
 rfl
end
end Go.Proofs.YtfknojncfbahpaaGreat.S
/-
The widest bounds,and a trap at work as it is made: their code,with its long lists of zeros said shortly.
-/
namespace Go.Proofs.YtfknojncfbahpaaGreat.S
open Go Go.Am Go.Proofs.YtfknojncfbahpaaGreat.T
set_option maxRecDepth 100000
set_option linter.unusedSimpArgs false
set_option linter.unusedVariables false
def F106 : AFn:=⟨24,[.cell true 441 0],
 .seq (.region 0 [⟨(some 0),.alloc (List.replicate 441 (.int .i64 0)),none,none,[]⟩])
 (.seq (.region 0 [⟨(some 1),.alloc (List.replicate 441 (.int .i64 0)),none,none,[]⟩])
 (
 .seq (.seq (.region 0 [⟨(some 4),.p (.move (.c (.int .i64 0))),none,none,[]⟩])
 (.block 0 (.loop (.seq (.region 0 [⟨(some 5),.p (.bin .lss (.t 4) (.c (.int .i64 21))),none,none,[]⟩])
  (.seq (.cond (.t 5) (.skip)
   (.exit 0))
  (.seq (.block 1 (.seq (.region 0 [⟨(some 6),.p (.move (.t 4)),none,none,[]⟩,
     ⟨(some 2),.p (.move (.t 6)),none,none,[]⟩])
   (.seq (.region 0 [⟨(some 7),.p (.move (.c (.int .i64 0))),none,none,[]⟩])
   (.block 2 (.loop (.seq (.region 0 [⟨(some 8),.p (.bin .lss (.t 7) (.c (.int .i64 21))),none,none,[]⟩])
    (.seq (.cond (.t 8) (.skip)
     (.exit 2))
    (.seq (.block 3 (.seq (.region 0 [⟨(some 9),.p (.move (.t 7)),none,none,[]⟩,
       ⟨(some 3),.p (.move (.t 9)),none,none,[]⟩])
     (.seq (.region 0 [⟨(some 10),.p (.move (.t 2)),none,none,[]⟩,
       ⟨(some 11),.p (.move (.t 3)),none,none,[]⟩,
       ⟨(some 12),.p (.bin .neq (.t 10) (.t 11)),none,none,[]⟩,
       ⟨(some 13),.p (.move (.t 12)),none,none,[]⟩,
       ⟨(some 14),.p (.move (.t 2)),(some (13,true)),none,[]⟩,
       ⟨(some 15),.p (.bin .neq (.t 14) (.c (.int .i64 0))),(some (13,true)),none,[]⟩,
       ⟨(some 16),.p (.pick (.t 13) (.t 15) (.c (.bool false))),none,none,[]⟩])
     (
      .cond (.t 16) (.region 0 [⟨(some 17),.p (.move (.t 2)),none,none,[]⟩,
       ⟨(some 18),.p (.move (.t 3)),none,none,[]⟩,
       ⟨(some 19),.p (.idxArr 21 21 (.t 1) (.t 17)),none,none,[]⟩,
       ⟨(some 20),.p (.idxArr 21 1 (.t 19) (.t 18)),none,none,[]⟩,
       ⟨none,.store 1 (.t 20) (.c (.int .i64 40)),none,none,[]⟩])
      (.skip)))))
    (.region 0 [⟨(some 21),.p (.bin .add (.t 7) (.c (.int .i64 1))),none,none,[]⟩,
     ⟨(some 7),.p (.move (.t 21)),none,none,[]⟩])))))))))
  (.region 0 [⟨(some 22),.p (.bin .add (.t 4) (.c (.int .i64 1))),none,none,[]⟩,
   ⟨(some 4),.p (.move (.t 22)),none,none,[]⟩])))))))
 (.seq (.region 0 [⟨(some 23),.load true 441 (.t 1),none,none,[]⟩,
  ⟨none,.store 441 (.t 0) (.t 23),none,none,[]⟩])
 (.ret))))⟩
def F90 : AFn:=⟨20,[.tmp 2,.tmp 3],
 .seq (.region 0 [⟨(some 1),.box (.t 0),none,none,[]⟩,
  ⟨(some 2),.p (.move (.c (.nilp))),none,none,[]⟩,
  ⟨(some 3),.p (.move (.c (.bool false))),none,none,[]⟩])
 (.seq (.region 1 [⟨(some 5),.load true 4 (.t 1),none,none,[0]⟩,
  ⟨(some 6),.call 1 155 [],none,none,[0]⟩,
  ⟨(some 7),.p (.build ([.int .i64 0,.int .i64 0,.nils,.nils] ++ List.replicate 441 (.int .i64 0)) [(0,4,(.t 5)),(4,441,(.t 6))]),none,none,[]⟩,
  ⟨(some 8),.box (.t 7),none,(some 0),[]⟩,
  ⟨(some 4),.p (.move (.t 8)),none,none,[]⟩])
 (.seq (.region 0 [⟨(some 9),.p (.move (.t 4)),none,none,[]⟩,
  ⟨(some 10),.p (.move (.t 4)),none,none,[]⟩,
  ⟨(some 11),.call 0 156 [(.t 10)],none,none,[]⟩,
  ⟨(some 12),.p (.move (.t 11)),none,none,[]⟩,
  ⟨(some 13),.p (.move (.t 4)),(some (12,true)),none,[]⟩,
  ⟨(some 14),.call 0 157 [(.t 13)],(some (12,true)),none,[]⟩,
  ⟨(some 15),.p (.pick (.t 12) (.t 14) (.c (.bool false))),none,none,[]⟩,
  ⟨(some 16),.p (.move (.t 15)),none,none,[]⟩,
  ⟨(some 17),.p (.move (.t 4)),(some (16,true)),none,[]⟩,
  ⟨(some 18),.call 0 158 [(.t 17)],(some (16,true)),none,[]⟩,
  ⟨(some 19),.p (.pick (.t 16) (.t 18) (.c (.bool false))),none,none,[]⟩,
  ⟨(some 2),.p (.move (.t 9)),none,none,[]⟩,
  ⟨(some 3),.p (.move (.t 19)),none,none,[]⟩])
 (.ret)))⟩
theorem F106_eq : f155 = F106:=by kernel_rfl
theorem F90_eq : f143 = F90:=by kernel_rfl
end Go.Proofs.YtfknojncfbahpaaGreat.S
/-
The widest bounds.
-/
namespace Go.Proofs.YtfknojncfbahpaaGreat.S
open Go Go.Am Go.Proofs.YtfknojncfbahpaaGreat.T
set_option maxRecDepth 100000
set_option linter.unusedSimpArgs false
set_option linter.unusedVariables false
def widP (p : Nat) : Int:=if p / 21 = p % 21 then 0 else if p / 21 = 0 then 0 else 40
def widQ (q : Nat) : List Int:=(List.range 441).map fun p => if p < q then widP p else 0
def wide : List Int:=widQ 441
theorem widQ_len {q : Nat} : (widQ q).length = 441:=by simp [widQ]
theorem widQ_at {q p : Nat} (hp : p < 441) : (widQ q).getD p 0 = if p < q then widP p else 0:=by
 simp only [widQ,List.getD_eq_getElem?_getD,List.getElem?_map,List.getElem?_range hp,Option.map_some,Option.getD_some]
theorem widQ_zero : widQ 0 = List.replicate 441 0:=by
 apply List.ext_getElem
 ·rw [widQ_len,List.length_replicate]
 ·intro p h1 h2
  simp only [widQ,List.getElem_map,List.getElem_replicate,Nat.not_lt_zero,if_false]
theorem widQ_put {q : Nat} (hq : q < 441) : (widQ q).set q (widP q) = widQ (q + 1):=by
 apply List.ext_getElem
 ·simp [widQ]
 ·intro p h1 h2
  rw [widQ_len] at h2
  simp only [widQ,List.getElem_set,List.getElem_map,List.getElem_range]
  by_cases e : q = p
  ·subst e; rw [if_pos rfl,if_pos (by omega)]
  ·rw [if_neg e]
   by_cases h : p < q
   ·rw [if_pos h,if_pos (by omega)]
   ·rw [if_neg h,if_neg (by omega)]
theorem widQ_skip {q : Nat} (hq : q < 441) (h0 : widP q = 0) : widQ q = widQ (q + 1):=by
 rw [← widQ_put hq,h0]
 apply List.ext_getElem
 ·simp
 ·intro p h1 h2
  rw [widQ_len] at h1
  rw [List.getElem_set]
  split
  ·rename_i e; subst e; simp [widQ]
  ·rfl
theorem bat_wid {k l : Nat} (hk : k < 21) (hl : l < 21) : bat wide k l = if k = l then 0 else if k = 0 then 0 else 40:=by
 unfold bat wide
 rw [widQ_at (by omega),if_pos (by omega)]
 unfold widP
 rw [(div21 hl).1,(div21 hl).2]
theorem ok_wid : Ok wide:=by
 refine ⟨widQ_len,⟨fun k hk => ?_,fun k l m hk hl hm => ?_⟩,fun k l hk hl => ?_⟩
 ·rw [bat_wid hk hk,if_pos rfl]
 ·rw [bat_wid hk hl,bat_wid hk hm,bat_wid hm hl]
  repeat' split
  all_goals omega
 ·rw [bat_wid hk hl]
  repeat' split
  all_goals omega
theorem sat_wid {x : Nat → Int} : Sat 21 (bat wide) x ↔ (∀ k l,k < 21 → l < 21 → k ≠ 0 → x k - x l ≤ 40) ∧ (∀ l,l < 21 → x 0 ≤ x l):=by
 constructor
 ·intro s
  refine ⟨fun k l hk hl h0 => ?_,fun l hl => ?_⟩
  ·have:=s k l hk hl; rw [bat_wid hk hl,if_neg h0] at this; split at this <;> omega
  ·have:=s 0 l (by omega) hl; rw [bat_wid (by omega) hl,if_pos rfl] at this; split at this <;> omega
 ·rintro ⟨a,b⟩ k l hk hl
  rw [bat_wid hk hl]
  split
  ·rename_i e; subst e; omega
  ·split
   ·rename_i e; subst e; have:=b l hl; omega
   ·rename_i e; exact a k l hk hl e
abbrev nums (B : List Int) : List AV:=B.map fun x => I x
theorem nums_put {B : List Int} {p : Nat} (hp : p < B.length) (x : Int) : (nums B).take p ++ I x :: (nums B).drop (p + 1) = nums (B.set p x):=by
 simp only [nums,List.map_set]
 rw [List.set_eq_take_append_cons_drop,if_pos (by simpa using hp)]
theorem nums_zero {n : Nat} : nums (List.replicate n 0) = List.replicate n (I 0):=by simp [nums]
theorem nums_len {B : List Int} : (nums B).length = B.length:=by simp
theorem nums_sc {B : List Int} : (nums B).all AV.scalar = true:=by simp only [List.all_eq_true,List.mem_map]; rintro x ⟨i,_,rfl⟩; rfl
theorem nums_mapM {st : Bool} {h : List AO} {n : Nat} : ∀ B : List Int,(nums B).mapM (view st h n) = some (nums B)
 | [] => rfl
 |
  a :: B => by
  have e : view st h n (I a) = some (I a):=by cases n <;> rfl
  rw [nums,List.map_cons,List.mapM_cons,e]
  show (do let y ← (nums B).mapM (view st h n); pure (I a :: y)) = _
  rw [nums_mapM B]; rfl
theorem nums_vi {st : Bool} {h : List AO} {n : Nat} {B : List Int} : view st h (n + 1) (.agg (nums B)) = some (.agg (nums B)):=by
 show ((nums B).mapM (view st h n)).map AV.agg = _
 rw [nums_mapM]; rfl
set_option maxHeartbeats 2000000 in
theorem s106 (st : Bool) : Iso E 155 [] st = some (.agg (nums wide)):=by
 refine Iso_of (es _ _ _ _) e155 ?_
 rw [F106_eq]
 obtain ⟨Z,hZ⟩ : ∃ Z : List AV,Z = List.replicate 441 (I 0):=⟨_,rfl⟩
 have zn : Z = nums (widQ 0):=by rw [hZ,widQ_zero,nums_zero]
 simp only [F106,← hZ]
 simp (disch:=first|assumption|omega|(simp only[az];done)) only [ru,Nat.reduceAdd,Nat.reduceSub]
 rw [zn]
 refine G_loop_ind (fun n ts hk mk => ∃ (k : Nat),k ≤ 21 ∧ n = 21 - k ∧ ts.length = 24 ∧ ts.getD 0 .undef = .ptr 0 0 ∧ ts.getD 1 .undef = .ptr 1 0 ∧ ts.getD 4 .undef = I k ∧ hk = [.cells (nums (widQ 0)) false,.cells (nums (widQ (k * 21))) false] ∧ mk = []) ?_ _ _ _ _
  ⟨0,Nat.zero_le _,rfl,rfl,rfl,rfl,rfl,rfl,rfl⟩
 rintro n ts hk mk ihK ⟨k,hk',rfl,hl,q0,q1,q4,rfl,rfl⟩
 rw [lit_all hl]
 simp only [lit0,litS,Nat.reduceAdd,q0,q1,q4]
 simp (disch:=first|assumption|omega|(simp only[az];done)) only [ru,eq_self,if_true,binI,Nat.reduceAdd]
 by_cases ltK : (k : Int) < 21
 case neg =>
  obtain rfl : k = 21:=by omega
  have tk : List.take 441 (nums (widQ 441)) = nums (widQ 441):=List.take_of_length_le (by rw [nums_len,widQ_len]; omega)
  have dr : List.drop 441 (nums (widQ 0)) = []:=List.drop_eq_nil_of_le (by rw [nums_len,widQ_len]; omega)
  have l0 : (nums (widQ 0)).length = 441:=by rw [nums_len,widQ_len]
  have l1 : (nums (widQ 441)).length = 441:=by rw [nums_len,widQ_len]
  simp (disch:=first|assumption|omega|(simp only[az];done)) only [ru,eq_self,if_true,AO.row?,splice,loadV,storeV,Am.rowAt,Am.part,Nat.reduceAdd,Nat.reduceMul,Nat.reduceLeDiff,Int.reduceLT,dr,l0,finC,getRes,Option.some.injEq,exists_eq_left',nums_sc,l1,tk]
  first | done | exact nums_vi
 have kk : k < 21:=by omega
 have kk0 : (0 : Int) ≤ k:=by omega
 simp (disch:=first|assumption|omega|(simp only[az];done)) only [ru,Nat.reduceAdd,ltK]
 clear hl q0 q1 q4
 refine G_loop_ind (fun n ts hk mk => ∃ (l : Nat),l ≤ 21 ∧ n = 21 - l ∧ ts.length = 24 ∧ ts.getD 0 .undef = .ptr 0 0 ∧ ts.getD 1 .undef = .ptr 1 0 ∧ ts.getD 2 .undef = I k ∧ ts.getD 4 .undef = I k ∧ ts.getD 7 .undef = I l ∧ hk = [.cells (nums (widQ 0)) false,.cells (nums (widQ (k * 21 + l))) false] ∧ mk = []) ?_ _ _ _ _
  ⟨0,Nat.zero_le _,rfl,rfl,rfl,rfl,rfl,rfl,rfl,rfl,rfl⟩
 rintro n ts hk mk ihL ⟨l,hl',rfl,hl,q0,q1,q2,q4,q7,rfl,rfl⟩
 rw [lit_all hl]
 simp only [lit0,litS,Nat.reduceAdd,q0,q1,q2,q4,q7]
 simp (disch:=first|assumption|omega|(simp only[az];done)) only [ru,eq_self,if_true,binI,Nat.reduceAdd]
 by_cases ltL : (l : Int) < 21
 case neg =>
  obtain rfl : l = 21:=by omega
  simp (disch:=first|assumption|omega|(simp only[az];done)) only [ru,eq_self,if_true,binI,Nat.reduceAdd,Int.reduceLT]
  refine ihK (21 - (k + 1)) _ _ _ (by omega) ⟨k + 1,by omega,rfl,rfl,rfl,rfl,by show I _ = I _; congr 1,?_,rfl⟩
  rw [show (k + 1) * 21 = k * 21 + 21 by omega]
 have ll : l < 21:=by omega
 have ll0 : (0 : Int) ≤ l:=by omega
 have hq : k * 21 + l < 441:=by omega
 have ew : widP (k * 21 + l) = if k = l then 0 else if k = 0 then 0 else 40:=by unfold widP; rw [(div21 ll).1,(div21 ll).2]
 by_cases e1 : k = l
 ·have e1' : ((k : Int) != l) = false:=by simp [e1]
  rw [if_pos e1] at ew
  simp (disch:=first|assumption|omega|(simp only[az];done)) only [ru,eq_self,if_true,if_false,binI,Nat.reduceAdd,ltL,e1']
  refine ihL (21 - (l + 1)) _ _ _ (by omega) ⟨l + 1,by omega,rfl,rfl,rfl,rfl,rfl,rfl,by show I _ = I _; congr 1,?_,rfl⟩
  rw [widQ_skip hq ew]; rfl
 have e1' : ((k : Int) != l) = true:=by simp; omega
 rw [if_neg e1] at ew
 by_cases e2 : k = 0
 ·have e2' : ((k : Int) != 0) = false:=by simp [e2]
  rw [if_pos e2] at ew
  simp (disch:=first|assumption|omega|(simp only[az];done)) only [ru,eq_self,if_true,binI,Nat.reduceAdd,ltL,e1',e2']
  refine ihL (21 - (l + 1)) _ _ _ (by omega) ⟨l + 1,by omega,rfl,rfl,rfl,rfl,rfl,rfl,by show I _ = I _; congr 1,?_,rfl⟩
  rw [widQ_skip hq ew]; rfl
 have e2' : ((k : Int) != 0) = true:=by simp; omega
 rw [if_neg e2] at ew
 have put:=nums_put (B:=widQ (k * 21 + l)) (p:=k * 21 + l) (by rw [widQ_len]; exact hq) (widP (k * 21 + l))
 rw [widQ_put hq,ew] at put
 have fit : k * 21 + l + 1 ≤ (nums (widQ (k * 21 + l))).length:=by rw [nums_len,widQ_len]; omega
 simp (disch:=first|assumption|omega|(simp only[az];done)) only [ru,eq_self,if_true,binI,splice,storeV,addOff,Nat.reduceAdd,ltL,e1',e2',kk0,ll0,ltK,Int.toNat_natCast,Nat.mul_one,fit,List.append_assoc,put]
 refine ihL (21 - (l + 1)) _ _ _ (by omega) ⟨l + 1,by omega,rfl,rfl,rfl,rfl,rfl,rfl,by show I _ = I _; congr 1,?_,rfl⟩
 rfl
end Go.Proofs.YtfknojncfbahpaaGreat.S
/-
Ranging over all places.
-/
namespace Go.Proofs.YtfknojncfbahpaaGreat.S
open Go Go.Am Go.Proofs.YtfknojncfbahpaaGreat.T
set_option maxRecDepth 100000
set_option linter.unusedSimpArgs false
set_option linter.unusedVariables false
set_option maxHeartbeats 2000000 in
theorem r104 {T C w o lim : Nat} (hT : T ≤ 100) (hC : C ≤ 100) {P : Nat → Nat → List AO → Prop} {D : List AO → Prop}
  (hP : ∀ i j h,P i j h → ∃ c,h[w]? = some (.cells c false) ∧ c.head? = some (I C) ∧ (c.drop 1).head? = some (I T))
  (hstep : ∀ i j h,i < T → j < C → P i j h → ∃ b h',R E (.rnd o) [.agg [I i,I j]] h lim = some (Bo b,h') ∧ (if b then P i (j + 1) h' else D h'))
  (hrow : ∀ i h,i < T → P i C h → P (i + 1) 0 h) {h : List AO} (h0 : P 0 0 h) :
  ∃ r h',R E (.fn 163) [.ptr w 0,.yld o] h lim = some (r,h') ∧ (P T 0 h' ∨ D h'):=by
 refine R_of _ (es _ _ _ _) e163 ?_
 simp only [f163]
 obtain ⟨c,hw,c0,c1⟩:=hP _ _ _ h0
 simp (disch:=first|assumption|omega|(simp only[az];done)) only [ru,if_false,AO.row?,loadV,Am.rowAt,Am.part,addOff,Nat.reduceAdd,Nat.reduceSub,pex_nilC,nilC_ptr,hw,c1]
 refine G_loop_ind (fun n ts hk mk => ∃ (i : Nat),i ≤ T ∧ n = T - i ∧ ts.length = 30 ∧ ts.getD 0 .undef = .ptr w 0 ∧ ts.getD 1 .undef = .yld o ∧ ts.getD 10 .undef = I T ∧ ts.getD 11 .undef = I i ∧ P i 0 hk ∧ mk = []) ?_ _ _ _ _
  ⟨0,Nat.zero_le _,rfl,rfl,rfl,rfl,rfl,rfl,h0,rfl⟩
 clear h0 hw c0 c1 c h
 rintro n ts h mk ihT ⟨i,hi,rfl,hl,q0,q1,q10,q11,hp,rfl⟩
 rw [lit_all hl]
 simp only [lit0,litS,Nat.reduceAdd,q0,q1,q10,q11]
 simp (disch:=first|assumption|omega|(simp only[az];done)) only [ru,eq_self,if_true,binI]
 by_cases ltT : (i : Int) < T
 case neg =>
  obtain rfl : i = T:=by omega
  simp (disch:=first|assumption|omega|(simp only[az];done)) only [ru,ltT]
  exact .inl hp
 have lt : i < T:=by omega
 obtain ⟨c,hw,c0,c1⟩:=hP _ _ _ hp
 simp (disch:=first|assumption|omega|(simp only[az];done)) only [ru,if_false,AO.row?,loadV,Am.rowAt,Am.part,addOff,ltT,pex_nilC,nilC_ptr,hw,c0]
 clear hl q0 q1 q10 q11
 refine G_loop_ind (fun n ts hk mk => ∃ (j : Nat),j ≤ C ∧ n = C - j ∧ ts.length = 30 ∧ ts.getD 0 .undef = .ptr w 0 ∧ ts.getD 1 .undef = .yld o ∧ ts.getD 4 .undef = I i ∧ ts.getD 10 .undef = I T ∧ ts.getD 11 .undef = I i ∧ ts.getD 18 .undef = I C ∧ ts.getD 19 .undef = I j ∧ P i j hk ∧ mk = []) ?_ _ _ _ _
  ⟨0,Nat.zero_le _,rfl,rfl,rfl,rfl,rfl,rfl,rfl,rfl,rfl,hp,rfl⟩
 clear hp hw c0 c1 c h
 rintro n ts h mk ihC ⟨j,hj,rfl,hl,q0,q1,q4,q10,q11,q18,q19,hp,rfl⟩
 rw [lit_all hl]
 simp only [lit0,litS,Nat.reduceAdd,q0,q1,q4,q10,q11,q18,q19]
 simp (disch:=first|assumption|omega|(simp only[az];done)) only [ru,eq_self,if_true,binI]
 by_cases ltC : (j : Int) < C
 case neg =>
  obtain rfl : j = C:=by omega
  simp (disch:=first|assumption|omega|(simp only[az];done)) only [ru,eq_self,if_true,binI,ltC]
  exact ihT (T - (i + 1)) _ _ _ (by omega) ⟨i + 1,by omega,rfl,rfl,rfl,rfl,rfl,by show I _ = I _; congr 1,hrow _ _ lt hp,rfl⟩
 have lc : j < C:=by omega
 obtain ⟨b,h',hr,hb⟩:=hstep i j h lt lc hp
 cases b
 ·simp (disch:=first|assumption|omega|(simp only[az];done)) only [ru,eq_self,if_true,splice,fillL,Nat.reduceAdd,Nat.reduceLeDiff,ltC,hr]
  exact .inr hb
 ·simp (disch:=first|assumption|omega|(simp only[az];done)) only [ru,eq_self,if_true,binI,splice,fillL,Nat.reduceAdd,Nat.reduceLeDiff,ltC,hr]
  exact ihC (C - (j + 1)) _ _ _ (by omega) ⟨j + 1,by omega,rfl,rfl,rfl,rfl,rfl,rfl,rfl,rfl,by show I _ = I _; congr 1,hb,rfl⟩
end Go.Proofs.YtfknojncfbahpaaGreat.S
/-
At least no fish at each place.
-/
namespace Go.Proofs.YtfknojncfbahpaaGreat.S
open Go Go.Am Go.Proofs.YtfknojncfbahpaaGreat.T
set_option maxRecDepth 100000
set_option linter.unusedSimpArgs false
set_option linter.unusedVariables false
def gap (C : Nat) (x : Nat → Int) (i j : Nat) : Int:=x (sumN C i j) - x (sumN C i (j + 1))
def bef (C i j i' j' : Nat) : Prop:=j' < C ∧ (i' < i ∨ (i' = i ∧ j' < j))
def As107 : ACode:=.region 0 [⟨(some 3),.alloc [.int .i64 0,.int .i64 0],none,none,[]⟩,
 ⟨none,.store 2 (.t 3) (.t 6),none,none,[]⟩]
def Bd107 : ACode:=.block 1 (.seq (.region 0 [⟨(some 7),.load false 1 (.t 1),none,none,[]⟩,
 ⟨(some 8),.load true 2 (.t 3),none,none,[]⟩,
 ⟨(some 9),.p (.build [.int .i64 0,.int .i64 0] [(1,1,(.c (.int .i64 40)))]),none,none,[]⟩,
 ⟨(some 10),.call 0 164 [(.t 7),(.t 8),(.t 9)],none,none,[]⟩,
 ⟨(some 11),.p (.un .not (.t 10)),none,none,[]⟩])
 (.cond (.t 11) (.seq (.region 0 [⟨none,.store 1 (.t 2) (.c (.bool false)),none,none,[]⟩])
 (.ret))
 (.skip)))
set_option maxHeartbeats 4000000 in
theorem r107 {C T w lim : Nat} {ov wv : AV} {B : List Int} {h : List AO} (hw : h[w]? = some (.cells (wc C T ov wv B) false)) (K : Ok B) (hC0 : 1 ≤ C) (hC : C ≤ 4) (hT0 : 1 ≤ T) (hT : T ≤ 5) (hlim : lim ≤ w) :
  ∃
   b B' h',R E (.fn 156) [.ptr w 0] h lim = some (Bo b,h') ∧ Chg C T ov wv w h B' h' ∧ Ok B' ∧
   (b = true → ∀ x,Sat 21 (bat B') x ↔ Sat 21 (bat B) x ∧ ∀ i j,i < T → j < C → 0 ≤ gap C x i j ∧ gap C x i j ≤ 40) ∧
   (b = false → ∀ x,Sat 21 (bat B) x → ¬ ∀ i j,i < T → j < C → 0 ≤ gap C x i j ∧ gap C x i j ≤ 40):=by
 have wl:=(List.getElem?_eq_some_iff.1 hw).1
 suffices hh : ∃ r h',R E (.fn 156) [.ptr w 0] h lim = some (r,h') ∧ (∃ b B',r = Bo b ∧ Chg C T ov wv w h B' h' ∧ Ok B' ∧
   (b = true → ∀ x,Sat 21 (bat B') x ↔ Sat 21 (bat B) x ∧ ∀ i j,i < T → j < C → 0 ≤ gap C x i j ∧ gap C x i j ≤ 40) ∧
   (b = false → ∀ x,Sat 21 (bat B) x → ¬ ∀ i j,i < T → j < C → 0 ≤ gap C x i j ∧ gap C x i j ≤ 40)) by
  obtain ⟨r,h',hr,b,B',rfl,hh⟩:=hh
  exact ⟨b,B',h',hr,hh⟩
 refine R_of _ (es _ _ _ _) e156 ?_
 simp only [f156]
 simp (disch:=first|assumption|omega|(simp only[az];done)) only [ru,eq_self,if_true,if_false,AO.row?,loadV,Am.rowAt,Am.part,Nat.reduceAdd,Nat.reduceSub,List.append_assoc,lenE,atT0]
 obtain ⟨TS,hTS⟩ : ∃ TS : List AV,TS = [.ptr w 0,.ptr h.length 0,.ptr (h.length + 1) 0,.undef,.ptr w 0,.fn 163 [.ptr w 0] [],.undef,.undef,.undef,.undef,.undef,.undef]:=⟨_,rfl⟩
 obtain ⟨H0,hH0⟩ : ∃ H0 : List AO,H0 = h ++ [.cells [.ptr w 0] false,.cells [.bool false] false]:=⟨_,rfl⟩
 have lH0 : H0.length = h.length + 2:=by rw [hH0]; simp
 obtain ⟨H1,hH1⟩ : ∃ H1 : List AO,H1 = H0 ++ [.dfr,.loop .ready none 156 TS [6] As107 Bd107 (h.length + 2)]:=⟨_,rfl⟩
 have lH1 : H1.length = h.length + 4:=by rw [hH1]; simp [lH0]
 have f0 : H1[h.length]? = some (.cells [.ptr w 0] false):=by rw [hH1,at_ap (by omega),hH0,atT0]; rfl
 have f1 : H1[h.length + 1]? = some (.cells [.bool false] false):=by rw [hH1,at_ap (by omega),hH0,atT]; rfl
 have f2 : H1[h.length + 2]? = some .dfr:=by rw [hH1,← lH0,atT0]; rfl
 have f3 : H1[h.length + 3]? = some (.loop .ready none 156 TS [6] As107 Bd107 (h.length + 2)):=by rw [hH1,show h.length + 3 = H0.length + 1 by omega,atT]; rfl
 have fw : H1[w]? = some (.cells (wc C T ov wv B) false):=by rw [hH1,at_ap (by omega),hH0,at_ap wl]; exact hw
 have fo : ∀ o,o < h.length → H1[o]? = h[o]?:=fun o ho => by rw [hH1,at_ap (by omega),hH0,at_ap ho]
 have key:=r104 (T:=T) (C:=C) (w:=w) (o:=h.length + 3) (lim:=lim) (by omega) (by omega)
  (P:=fun i j hk => ∃ B',Ok B' ∧ Chg C T ov wv w H1 B' hk ∧ ∀ x,Sat 21 (bat B') x ↔ Sat 21 (bat B) x ∧ ∀ i' j',bef C i j i' j' → 0 ≤ gap C x i' j' ∧ gap C x i' j' ≤ 40)
  (D:=fun hk => ∃ B',Ok B' ∧ h.length + 4 ≤ hk.length ∧ (∀ o,o < h.length → o ≠ w → hk[o]? = h[o]?) ∧ hk[w]? = some (.cells (wc C T ov wv B') false) ∧
   hk[h.length + 1]? = some (.cells [.bool false] false) ∧ hk[h.length + 2]? = some .dfr ∧ hk[h.length + 3]? = some (.loop .done (some .ret) 156 TS [6] As107 Bd107 (h.length + 2)) ∧
   ∀ x,Sat 21 (bat B) x → ¬ ∀ i j,i < T → j < C → 0 ≤ gap C x i j ∧ gap C x i j ≤ 40)
  (h:=H1) ?_ ?_ ?_ ?_
 ·refine G_range_of rfl rfl ?_
  rw [← hTS]
  simp only [← hH0,lH0]
  obtain ⟨r,h3,hr,hpd⟩:=key
  rw [hH1] at hr
  rcases hpd with ⟨B',K',S,hs⟩ | ⟨B',K',hl,hfr,hw',g1,g2,g3,hno⟩
  ·have g1:=S.fr (h.length + 1) (by omega) (by omega)
   have g2:=S.fr (h.length + 2) (by omega) (by omega)
   have g3:=S.fr (h.length + 3) (by omega) (by omega)
   rw [f1] at g1
   rw [f2] at g2
   rw [f3] at g3
   refine ⟨r,h3,.ready,none,156,TS,[6],As107,Bd107,h.length + 2,hr,g3,.inl rfl,?_⟩
   simp only [Option.getD_none,GE_nrm]
   have l3:=S.le
   obtain ⟨h4,hh4⟩ : ∃ h4,h4 = h3.set (h.length + 2 + 1) (AO.loop .exhausted none 156 TS [6] As107 Bd107 (h.length + 2)):=⟨_,rfl⟩
   rw [← hh4]
   have l4 : h4.length = h3.length:=by rw [hh4]; simp
   have k1 : h4[h.length + 1]? = some (.cells [.bool false] false):=by rw [hh4,List.getElem?_set_ne (by omega)]; exact g1
   have ll : lim ≤ h.length + 1:=by omega
   rw [hTS]
   simp (disch:=first|assumption|omega|(simp only[az];done)) only [ru,eq_self,if_true,splice,storeV,Nat.reduceLeDiff,k1,ll]
   obtain ⟨h5,hh5⟩ : ∃ h5,h5 = h4.set (h.length + 1) (.cells [.bool true] false):=⟨_,rfl⟩
   rw [← hh5]
   have l5 : h5.length = h4.length:=by rw [hh5]; simp
   have k2 : h5[h.length + 2]? = some .dfr:=by rw [hh5,List.getElem?_set_ne (by omega),hh4,List.getElem?_set_ne (by omega)]; exact g2
   have k3 : (h5.set (h.length + 2) .tomb)[h.length + 1]? = some (.cells [.bool true] false):=by rw [List.getElem?_set_ne (by omega),hh5,List.getElem?_set_self (by omega)]
   refine finM (h':=h5.set (h.length + 2) .tomb) (vs:=[Bo true]) (.inr rfl) (by simp; omega) ?_ ?_ ?_
   ·simp only [takeMarks,k2]
   ·simp (disch:=first|assumption|omega|(simp only[az];done)) only [ru,eq_self,if_true,if_false,AO.row?,Am.rowAt,Am.part,getRes,k3]
   ·refine ⟨true,B',rfl,⟨by simp; omega,fun o ho hn => ?_,?_⟩,K',fun _ x => (hs x).trans ?_,fun e => Bool.noConfusion e⟩
    ·rw [List.getElem?_set_ne (by omega),hh5,List.getElem?_set_ne (by omega),hh4,List.getElem?_set_ne (by omega),S.fr o (by omega) hn,fo o ho]
    ·rw [List.getElem?_set_ne (by omega),hh5,List.getElem?_set_ne (by omega),hh4,List.getElem?_set_ne (by omega)]; exact S.at'
    ·refine and_congr_right fun _ => ⟨fun hb i j hi hj => hb i j ⟨hj,.inl hi⟩,fun ha i j hb => ha i j ?_ hb.1⟩
     unfold bef at hb; omega
  ·refine ⟨r,h3,.done,some .ret,156,TS,[6],As107,Bd107,h.length + 2,hr,g3,.inr rfl,?_⟩
   simp only [Option.getD_some,GE_ret]
   obtain ⟨h4,hh4⟩ : ∃ h4,h4 = h3.set (h.length + 2 + 1) (AO.loop .exhausted (some .ret) 156 TS [6] As107 Bd107 (h.length + 2)):=⟨_,rfl⟩
   rw [← hh4]
   have l4 : h4.length = h3.length:=by rw [hh4]; simp
   have k1 : h4[h.length + 1]? = some (.cells [.bool false] false):=by rw [hh4,List.getElem?_set_ne (by omega)]; exact g1
   have k2 : h4[h.length + 2]? = some .dfr:=by rw [hh4,List.getElem?_set_ne (by omega)]; exact g2
   have k3 : (h4.set (h.length + 2) .tomb)[h.length + 1]? = some (.cells [.bool false] false):=by rw [List.getElem?_set_ne (by omega)]; exact k1
   rw [hTS]
   simp (disch:=first|assumption|omega|(simp only[az];done)) only [ru]
   refine finM (h':=h4.set (h.length + 2) .tomb) (vs:=[Bo false]) (.inr rfl) (by simp; omega) ?_ ?_ ?_
   ·simp only [takeMarks,k2]
   ·simp (disch:=first|assumption|omega|(simp only[az];done)) only [ru,eq_self,if_true,if_false,AO.row?,Am.rowAt,Am.part,getRes,k3]
   ·refine ⟨false,B',rfl,⟨by simp; omega,fun o ho hn => ?_,?_⟩,K',fun e => Bool.noConfusion e,fun _ => hno⟩
    ·rw [List.getElem?_set_ne (by omega),hh4,List.getElem?_set_ne (by omega),hfr o ho hn]
    ·rw [List.getElem?_set_ne (by omega),hh4,List.getElem?_set_ne (by omega)]; exact hw'
 ·rintro i j hk ⟨B',K',S,hs⟩
  exact ⟨_,S.at',rfl,rfl⟩
 ·rintro i j hk hi hj ⟨B',K',S,hs⟩
  have g0:=S.fr (h.length) (by omega) (by omega)
  have g1:=S.fr (h.length + 1) (by omega) (by omega)
  have g2:=S.fr (h.length + 2) (by omega) (by omega)
  have g3:=S.fr (h.length + 3) (by omega) (by omega)
  rw [f0] at g0
  rw [f1] at g1
  rw [f2] at g2
  rw [f3] at g3
  have lk:=S.le
  have llk : lim ≤ hk.length:=by omega
  have:=R_rnd_of (E:=E) (lim:=lim) (args:=[.agg [I i,I j]]) (P:=fun r h' => ∃ b : Bool,r = Bo b ∧ (if b then (∃ B',Ok B' ∧ Chg C T ov wv w H1 B' h' ∧ ∀ x,Sat 21 (bat B') x ↔ Sat 21 (bat B) x ∧ ∀ i' j',bef C i (j + 1) i' j' → 0 ≤ gap C x i' j' ∧ gap C x i' j' ≤ 40) else
   (∃ B',Ok B' ∧ h.length + 4 ≤ h'.length ∧ (∀ o,o < h.length → o ≠ w → h'[o]? = h[o]?) ∧ h'[w]? = some (.cells (wc C T ov wv B') false) ∧
   h'[h.length + 1]? = some (.cells [.bool false] false) ∧ h'[h.length + 2]? = some .dfr ∧ h'[h.length + 3]? = some (.loop .done (some .ret) 156 TS [6] As107 Bd107 (h.length + 2)) ∧
   ∀ x,Sat 21 (bat B) x → ¬ ∀ i j,i < T → j < C → 0 ≤ gap C x i j ∧ gap C x i j ≤ 40))) g3 rfl (by omega) ?_
  ·obtain ⟨r,h',hr,b,rfl,hb⟩:=this
   exact ⟨b,h',hr,hb⟩
  rw [hTS]
  simp only [setAll,List.set_cons_succ,List.set_cons_zero]
  rw [← hTS]
  unfold As107
  simp (disch:=first|assumption|omega|(simp only[az];done)) only [ru,eq_self,if_true,splice,storeV,Nat.reduceAdd,Nat.reduceLeDiff,setT0,atT0,llk]
  refine ⟨none,156,TS,[6],As107,Bd107,h.length + 2,by rw [at_ap (by omega)]; exact g3,?_⟩
  obtain ⟨h6,hh6⟩ : ∃ h6,h6 = (hk ++ [AO.cells [I i,I j] false]).set (h.length + 3) (AO.loop .busy none 156 TS [6] As107 Bd107 (h.length + 2)):=⟨_,rfl⟩
  rw [← hh6]
  have l6 : h6.length = hk.length + 1:=by rw [hh6]; simp
  have n0 : h6[h.length]? = some (.cells [.ptr w 0] false):=by rw [hh6,List.getElem?_set_ne (by omega),at_ap (by omega)]; exact g0
  have n1 : h6[h.length + 1]? = some (.cells [.bool false] false):=by rw [hh6,List.getElem?_set_ne (by omega),at_ap (by omega)]; exact g1
  have n2 : h6[h.length + 2]? = some .dfr:=by rw [hh6,List.getElem?_set_ne (by omega),at_ap (by omega)]; exact g2
  have n3 : h6[h.length + 3]? = some (AO.loop .busy none 156 TS [6] As107 Bd107 (h.length + 2)):=by rw [hh6,List.getElem?_set_self (by simp; omega)]
  have n4 : h6[hk.length]? = some (.cells [I i,I j] false):=by rw [hh6,List.getElem?_set_ne (by omega),atT0]; rfl
  have nw : h6[w]? = some (.cells (wc C T ov wv B') false):=by rw [hh6,List.getElem?_set_ne (by omega),at_ap (by omega)]; exact S.at'
  have no : ∀ o,o < h.length → o ≠ w → h6[o]? = h[o]?:=fun o ho hn => by rw [hh6,List.getElem?_set_ne (by omega),at_ap (by omega),S.fr o (by omega) hn,fo o ho]
  obtain ⟨b,B2,h7,hr,S7,K2,tt,ff⟩:=r101 nw K' (lim:=lim) (t:=i) (c:=j) (lo:=0) (hi':=40) (by omega) (by omega) (by omega) (by omega) (by omega) hlim
  have m1:=S7.fr (h.length + 1) (by omega) (by omega)
  have m2:=S7.fr (h.length + 2) (by omega) (by omega)
  have m3:=S7.fr (h.length + 3) (by omega) (by omega)
  rw [n1] at m1
  rw [n2] at m2
  rw [n3] at m3
  have l7:=S7.le
  have gp : ∀ x,(0 ≤ x (sumN C i j) - x (sumN C i (j + 1)) ∧ x (sumN C i j) - x (sumN C i (j + 1)) ≤ 40) ↔ (0 ≤ gap C x i j ∧ gap C x i j ≤ 40):=fun x => Iff.rfl
  unfold Bd107
  cases b
  ·have ll : lim ≤ h.length + 1:=by omega
   simp (disch:=first|assumption|omega|(simp only[az];done)) only [ru,eq_self,if_true,if_false,AO.row?,splice,fillL,loadV,storeV,Am.rowAt,Am.part,Nat.reduceAdd,Nat.reduceLeDiff,n0,n4,hr,m1,ll]
   have er : (Ex.ret == Ex.nrm) = false:=rfl
   refine ⟨.busy,none,156,TS,[6],As107,Bd107,h.length + 2,by rw [List.getElem?_set_ne (by omega)]; exact m3,false,rfl,?_⟩
   simp only [er,Bool.false_eq_true,if_false]
   refine ⟨B2,K2,by simp only [List.length_set]; omega,fun o ho hn => ?_,?_,?_,?_,?_,fun x hx ha => ?_⟩
   ·rw [List.getElem?_set_ne (by omega),List.getElem?_set_ne (by omega),S7.fr o (by omega) hn,no o ho hn]
   ·rw [List.getElem?_set_ne (by omega),List.getElem?_set_ne (by omega)]; exact S7.at'
   ·rw [List.getElem?_set_ne (by omega),List.getElem?_set_self (by omega)]
   ·rw [List.getElem?_set_ne (by omega),List.getElem?_set_ne (by omega)]; exact m2
   ·rw [List.getElem?_set_self (by simp only [List.length_set]; omega)]; rfl
   ·exact ff rfl x ((hs x).2 ⟨hx,fun i' j' hb => ha i' j' (by unfold bef at hb; omega) hb.1⟩) (ha i j hi hj)
  ·simp (disch:=first|assumption|omega|(simp only[az];done)) only [ru,eq_self,if_true,if_false,BEq.rfl,AO.row?,splice,fillL,loadV,Am.rowAt,Am.part,Nat.reduceAdd,Nat.reduceLeDiff,n0,n4,hr]
   have er : (Ex.nrm == Ex.nrm) = true:=rfl
   refine ⟨.busy,none,156,TS,[6],As107,Bd107,h.length + 2,m3,true,rfl,?_⟩
   simp only [if_true]
   refine ⟨B2,K2,⟨by simp only [List.length_set]; omega,fun o ho hn => ?_,?_⟩,fun x => ?_⟩
   ·by_cases e3 : o = h.length + 3
    ·subst e3; rw [List.getElem?_set_self (by omega),f3]
    rw [List.getElem?_set_ne (by omega),S7.fr o (by omega) hn,hh6,List.getElem?_set_ne (by omega),at_ap (by omega),S.fr o ho hn]
   ·rw [List.getElem?_set_ne (by omega)]; exact S7.at'
   ·rw [tt rfl x,hs x]
    constructor
    ·rintro ⟨⟨a,b⟩,c⟩
     refine ⟨a,fun i' j' hb => ?_⟩
     by_cases e : i' = i ∧ j' = j
     ·obtain ⟨rfl,rfl⟩:=e; exact c
     ·exact b i' j' (by unfold bef at hb ⊢; omega)
    ·rintro ⟨a,b⟩
     exact ⟨⟨a,fun i' j' hb => b i' j' (by unfold bef at hb ⊢; omega)⟩,b i j (by unfold bef; omega)⟩
 ·rintro i hk hi ⟨B',K',S,hs⟩
  refine ⟨B',K',S,fun x => (hs x).trans ?_⟩
  refine and_congr_right fun _ => forall_congr' fun i' => forall_congr' fun j' => ?_
  have e : bef C i C i' j' ↔ bef C (i + 1) 0 i' j':=by unfold bef; omega
  rw [e]
 ·refine ⟨B,K,Chg.refl fw,fun x => ⟨fun hx => ⟨hx,fun i' j' hb => by unfold bef at hb; omega⟩,fun hx => hx.1⟩⟩
end Go.Proofs.YtfknojncfbahpaaGreat.S
/-
Fish have only gone on; all words.
-/
namespace Go.Proofs.YtfknojncfbahpaaGreat.S
open Go Go.Am Go.Proofs.YtfknojncfbahpaaGreat.T
set_option maxRecDepth 100000
set_option linter.unusedSimpArgs false
set_option linter.unusedVariables false
def flow (C : Nat) (x : Nat → Int) (i j : Nat) : Int:=x (sumN C (i + 1) j) - x (sumN C i j)
def mayP (op : List Ls) (i j : Nat) : Int:=if hasI (op.getD i default).list j then 40 else 0
theorem mayP_le {op : List Ls} {i j : Nat} : 0 ≤ mayP op i j ∧ mayP op i j ≤ 40:=by unfold mayP; split <;> omega
set_option maxHeartbeats 4000000 in
theorem r108 {C T w lim : Nat} {ov wv : AV} {B : List Int} {h : List AO} {op : List Ls} (ho : IsSl 1 Ls.e op ov) (hop : op.length + 1 = T) (hsl : ∀ x ∈ op,x.list.length ≤ 40)
  (hw : h[w]? = some (.cells (wc C T ov wv B) false)) (K : Ok B) (hC : C ≤ 4) (hT : T ≤ 5) (hlim : lim ≤ w) :
  ∃
   b B' h',R E (.fn 157) [.ptr w 0] h lim = some (Bo b,h') ∧ Chg C T ov wv w h B' h' ∧ Ok B' ∧
   (b = true → ∀ x,Sat 21 (bat B') x ↔ Sat 21 (bat B) x ∧ ∀ i j,i < op.length → j < C → 0 ≤ flow C x i j ∧ flow C x i j ≤ mayP op i j) ∧
   (b = false → ∀ x,Sat 21 (bat B) x → ¬ ∀ i j,i < op.length → j < C → 0 ≤ flow C x i j ∧ flow C x i j ≤ mayP op i j):=by
 have wl:=(List.getElem?_eq_some_iff.1 hw).1
 suffices hh : ∃ r h',R E (.fn 157) [.ptr w 0] h lim = some (r,h') ∧ (∃ b B',r = Bo b ∧ Chg C T ov wv w h B' h' ∧ Ok B' ∧
   (b = true → ∀ x,Sat 21 (bat B') x ↔ Sat 21 (bat B) x ∧ ∀ i j,i < op.length → j < C → 0 ≤ flow C x i j ∧ flow C x i j ≤ mayP op i j) ∧
   (b = false → ∀ x,Sat 21 (bat B) x → ¬ ∀ i j,i < op.length → j < C → 0 ≤ flow C x i j ∧ flow C x i j ≤ mayP op i j)) by
  obtain ⟨r,h',hr,b,B',rfl,hh⟩:=hh
  exact ⟨b,B',h',hr,hh⟩
 refine R_of _ (es _ _ _ _) e157 ?_
 simp only [f157]
 simp (disch:=first|assumption|omega|(simp only[az];done)) only [ru,if_false,AO.row?,loadV,Am.rowAt,Am.part,addOff,Nat.reduceSub,pex_nilC,nilC_ptr,hw,wc_2,lenV_sl ho]
 refine G_loop_ind (fun n ts hk mk => ∃ (i : Nat) (B' : List Int),i ≤ op.length ∧ n = op.length - i ∧ ts.length = 48 ∧ ts.getD 0 .undef = .ptr w 0 ∧ ts.getD 11 .undef = ov ∧ ts.getD 12 .undef = I op.length ∧ ts.getD 13 .undef = I i ∧
   Ok B' ∧ Chg C T ov wv w h B' hk ∧ (∀ x,Sat 21 (bat B') x ↔ Sat 21 (bat B) x ∧ ∀ i' j',bef C i 0 i' j' → 0 ≤ flow C x i' j' ∧ flow C x i' j' ≤ mayP op i' j') ∧ mk = []) ?_ _ _ _ _
  ⟨0,B,Nat.zero_le _,rfl,rfl,rfl,rfl,rfl,rfl,K,Chg.refl hw,fun x => ⟨fun hx => ⟨hx,fun i' j' hb => by unfold bef at hb; omega⟩,fun hx => hx.1⟩,rfl⟩
 rintro n ts hk mk ihT ⟨i,B1,hi,rfl,hl,q0,q11,q12,q13,K1,S1,hs,rfl⟩
 rw [lit_all hl]
 simp only [lit0,litS,Nat.reduceAdd,q0,q11,q12,q13]
 simp (disch:=first|assumption|omega|(simp only[az];done)) only [ru,eq_self,if_true,binI]
 by_cases ltT : (i : Int) < op.length
 case neg =>
  obtain rfl : i = op.length:=by omega
  simp (disch:=first|assumption|omega|(simp only[az];done)) only [ru,ltT]
  refine ⟨true,B1,rfl,S1,K1,fun _ x => (hs x).trans (and_congr_right fun _ => ⟨fun hb i j hi hj => hb i j ⟨hj,.inl hi⟩,fun ha i j hb => ha i j ?_ hb.1⟩),fun e => Bool.noConfusion e⟩
  unfold bef at hb; omega
 have lt : i < op.length:=by omega
 have un:=Ls.under hsl lt
 obtain ⟨y,hy⟩ : ∃ y,y = op.getD i default:=⟨_,rfl⟩
 rw [← hy] at un
 simp (disch:=first|assumption|omega|(simp only[az];done)) only [ru,eq_self,if_true,if_false,AO.row?,loadV,Am.rowAt,Am.part,addOff,ltT,pex_nilC,nilC_ptr,S1.at',wc_0,elem_sl Ls.el ho,Int.toNat_natCast,← hy,Ls.e]
 clear hl q0 q11 q12 q13
 refine G_loop_ind (fun n ts hk mk => ∃ (j : Nat) (B' : List Int),j ≤ C ∧ n = C - j ∧ ts.length = 48 ∧ ts.getD 0 .undef = .ptr w 0 ∧ ts.getD 3 .undef = I i ∧ ts.getD 4 .undef = y.v ∧ ts.getD 11 .undef = ov ∧ ts.getD 12 .undef = I op.length ∧ ts.getD 13 .undef = I i ∧ ts.getD 22 .undef = I C ∧ ts.getD 23 .undef = I j ∧
   Ok B' ∧ Chg C T ov wv w h B' hk ∧ (∀ x,Sat 21 (bat B') x ↔ Sat 21 (bat B) x ∧ ∀ i' j',bef C i j i' j' → 0 ≤ flow C x i' j' ∧ flow C x i' j' ≤ mayP op i' j') ∧ mk = []) ?_ _ _ _ _
  ⟨0,B1,Nat.zero_le _,rfl,rfl,rfl,rfl,rfl,rfl,rfl,rfl,rfl,rfl,K1,S1,hs,rfl⟩
 clear K1 S1 hs B1 hk
 rintro n ts hk mk ihC ⟨j,B1,hj,rfl,hl,q0,q3,q4,q11,q12,q13,q22,q23,K1,S1,hs,rfl⟩
 rw [lit_all hl]
 simp only [lit0,litS,Nat.reduceAdd,q0,q3,q4,q11,q12,q13,q22,q23]
 simp (disch:=first|assumption|omega|(simp only[az];done)) only [ru,eq_self,if_true,binI]
 by_cases ltC : (j : Int) < C
 case neg =>
  obtain rfl : j = C:=by omega
  simp (disch:=first|assumption|omega|(simp only[az];done)) only [ru,eq_self,if_true,binI,ltC]
  refine ihT (op.length - (i + 1)) _ _ _ (by omega) ⟨i + 1,B1,by omega,rfl,rfl,rfl,rfl,rfl,by show I _ = I _; congr 1,K1,S1,fun x => (hs x).trans ?_,rfl⟩
  refine and_congr_right fun _ => forall_congr' fun i' => forall_congr' fun j' => ?_
  have e : bef j i j i' j' ↔ bef j (i + 1) 0 i' j':=by unfold bef; omega
  rw [e]
 have lc : j < C:=by omega
 have lk:=S1.le
 have hwJ : ∀ J,(hk ++ J)[w]? = some (.cells (wc C T ov wv B1) false):=fun J => by rw [at_ap (by omega)]; exact S1.at'
 have c112:=fun st => s112 y.is (by omega) (j : Int) st
 obtain ⟨m,hm⟩ : ∃ m,m = mayP op i j:=⟨_,rfl⟩
 have mb : 0 ≤ m ∧ m ≤ 40:=by rw [hm]; exact mayP_le
 have ia:=sumN_lt (ch:=C) (t:=i + 1) (c:=j) (by omega) (by omega) (by omega)
 have ib:=sumN_lt (ch:=C) (t:=i) (c:=j) (by omega) (by omega) (by omega)
 have c1:=fun J => s76 (hwJ J) (t:=i + 1) (c:=j) (by omega) (by omega)
 have c2:=fun J => s76 (hwJ J) (t:=i) (c:=j) (by omega) (by omega)
 have fl : ∀ x,flow C x i j = x (sumN C (i + 1) j) - x (sumN C i j):=fun _ => rfl
 obtain ⟨a,ha⟩ : ∃ a,a = sumN C (i + 1) j:=⟨_,rfl⟩
 obtain ⟨b,hb⟩ : ∃ b,b = sumN C i j:=⟨_,rfl⟩
 simp only [← ha,← hb,Int.natCast_add,Int.cast_ofNat_Int] at c1 c2 fl ia ib
 obtain ⟨d,B2,h7,hr,S7,K2,tt,ff⟩:=r114 (hwJ [.cells [I 0,I m] false]) K1 (lim:=lim) (lo:=0) (hi':=m) ia ib (by omega) (by omega) hlim
 have llk : lim ≤ hk.length:=by omega
 have S8 : Chg C T ov wv w h B2 h7:=S1.trans S7.app
 have stepP : d = true → ∀ x,Sat 21 (bat B2) x ↔ Sat 21 (bat B) x ∧ ∀ i' j',bef C i (j + 1) i' j' → 0 ≤ flow C x i' j' ∧ flow C x i' j' ≤ mayP op i' j':=by
  intro hd x
  rw [tt hd x,hs x]
  constructor
  ·rintro ⟨⟨p,q⟩,r⟩
   refine ⟨p,fun i' j' hb' => ?_⟩
   by_cases e : i' = i ∧ j' = j
   ·obtain ⟨rfl,rfl⟩:=e; rw [fl,← hm]; exact r
   ·exact q i' j' (by unfold bef at hb' ⊢; omega)
  ·rintro ⟨p,q⟩
   refine ⟨⟨p,fun i' j' hb' => q i' j' (by unfold bef at hb' ⊢; omega)⟩,?_⟩
   have:=q i j (by unfold bef; omega)
   rw [fl,← hm] at this; exact this
 have stepN : d = false → ∀ x,Sat 21 (bat B) x → ¬ ∀ i j,i < op.length → j < C → 0 ≤ flow C x i j ∧ flow C x i j ≤ mayP op i j:=by
  intro hd x hx hall
  have:=hall i j lt lc
  rw [fl,← hm] at this
  exact ff hd x ((hs x).2 ⟨hx,fun i' j' hb' => hall i' j' (by unfold bef at hb'; omega) hb'.1⟩) this
 have fin : ∀ c : Bool,c = hasI y.list j → m = if c then 40 else 0:=by intro c hc; rw [hm,hc,hy]; rfl
 cases hc : hasI y.list (j : Int)
 ·have m0 : m = 0:=fin false hc.symm
  rw [m0] at hr
  simp only [hc] at c112
  cases d
  ·simp (disch:=first|assumption|omega|(simp only[az];done)) only [ru,eq_self,if_true,binI,AO.row?,splice,fillL,loadV,storeV,Am.rowAt,Am.part,addOff,Nat.reduceAdd,Nat.reduceLeDiff,ltC,pex_nilC,nilC_ptr,view_sl y.is,pure_sl y.is,lenE,setT0,atT0,llk,c112,c1,c2,hr]
   exact ⟨false,B2,rfl,S8,K2,fun e => Bool.noConfusion e,fun _ => stepN rfl⟩
  ·simp (disch:=first|assumption|omega|(simp only[az];done)) only [ru,eq_self,if_true,binI,AO.row?,splice,fillL,loadV,storeV,Am.rowAt,Am.part,addOff,Nat.reduceAdd,Nat.reduceLeDiff,ltC,pex_nilC,nilC_ptr,view_sl y.is,pure_sl y.is,lenE,setT0,atT0,llk,c112,c1,c2,hr]
   exact ihC (C - (j + 1)) _ _ _ (by omega) ⟨j + 1,B2,by omega,rfl,rfl,rfl,rfl,rfl,rfl,rfl,rfl,rfl,by show I _ = I _; congr 1,K2,S8,stepP rfl,rfl⟩
 ·have m0 : m = 40:=fin true hc.symm
  rw [m0] at hr
  simp only [hc] at c112
  cases d
  ·simp (disch:=first|assumption|omega|(simp only[az];done)) only [ru,eq_self,if_true,binI,AO.row?,splice,fillL,loadV,storeV,Am.rowAt,Am.part,addOff,Nat.reduceAdd,Nat.reduceLeDiff,ltC,pex_nilC,nilC_ptr,view_sl y.is,pure_sl y.is,lenE,setT0,atT0,llk,c112,c1,c2,hr]
   exact ⟨false,B2,rfl,S8,K2,fun e => Bool.noConfusion e,fun _ => stepN rfl⟩
  ·simp (disch:=first|assumption|omega|(simp only[az];done)) only [ru,eq_self,if_true,binI,AO.row?,splice,fillL,loadV,storeV,Am.rowAt,Am.part,addOff,Nat.reduceAdd,Nat.reduceLeDiff,ltC,pex_nilC,nilC_ptr,view_sl y.is,pure_sl y.is,lenE,setT0,atT0,llk,c112,c1,c2,hr]
   exact ihC (C - (j + 1)) _ _ _ (by omega) ⟨j + 1,B2,by omega,rfl,rfl,rfl,rfl,rfl,rfl,rfl,rfl,rfl,by show I _ = I _; congr 1,K2,S8,stepP rfl,rfl⟩
end Go.Proofs.YtfknojncfbahpaaGreat.S
/-
All words.
-/
namespace Go.Proofs.YtfknojncfbahpaaGreat.S
open Go Go.Am Go.Proofs.YtfknojncfbahpaaGreat.T
set_option maxRecDepth 100000
set_option linter.unusedSimpArgs false
set_option linter.unusedVariables false
def saysW (C : Nat) (x : Nat → Int) (y : Wd) : Prop:=y.lo ≤ gap C x y.time.toNat y.ch.toNat ∧ gap C x y.time.toNat y.ch.toNat ≤ y.hi
theorem mem_getD {α : Type} [Inhabited α] {l : List α} {i : Nat} (hi : i < l.length) : l.getD i default ∈ l:=by
 rw [List.getD_eq_getElem?_getD,List.getElem?_eq_getElem hi]; exact List.getElem_mem hi
set_option maxHeartbeats 4000000 in
theorem r109 {C T w lim : Nat} {ov wv : AV} {B : List Int} {h : List AO} {ws : List Wd} (ho : IsSl 4 Wd.e ws wv) (hlen : ws.length ≤ 40) (hf : ∀ y ∈ ws,0 ≤ y.time ∧ y.time < T ∧ 0 ≤ y.ch ∧ y.ch < C ∧ 0 ≤ y.lo ∧ y.lo ≤ y.hi ∧ y.hi ≤ 40)
  (hw : h[w]? = some (.cells (wc C T ov wv B) false)) (K : Ok B) (hC : C ≤ 4) (hT : T ≤ 5) (hlim : lim ≤ w) :
  ∃
   b B' h',R E (.fn 158) [.ptr w 0] h lim = some (Bo b,h') ∧ Chg C T ov wv w h B' h' ∧ Ok B' ∧
   (b = true → ∀ x,Sat 21 (bat B') x ↔ Sat 21 (bat B) x ∧ ∀ k,k < ws.length → saysW C x (ws.getD k default)) ∧
   (b = false → ∀ x,Sat 21 (bat B) x → ¬ ∀ k,k < ws.length → saysW C x (ws.getD k default)):=by
 have wl:=(List.getElem?_eq_some_iff.1 hw).1
 suffices hh : ∃ r h',R E (.fn 158) [.ptr w 0] h lim = some (r,h') ∧ (∃ b B',r = Bo b ∧ Chg C T ov wv w h B' h' ∧ Ok B' ∧
   (b = true → ∀ x,Sat 21 (bat B') x ↔ Sat 21 (bat B) x ∧ ∀ k,k < ws.length → saysW C x (ws.getD k default)) ∧
   (b = false → ∀ x,Sat 21 (bat B) x → ¬ ∀ k,k < ws.length → saysW C x (ws.getD k default))) by
  obtain ⟨r,h',hr,b,B',rfl,hh⟩:=hh
  exact ⟨b,B',h',hr,hh⟩
 refine R_of _ (es _ _ _ _) e158 ?_
 simp only [f158]
 simp (disch:=first|assumption|omega|(simp only[az];done)) only [ru,if_false,AO.row?,loadV,Am.rowAt,Am.part,addOff,Nat.reduceSub,pex_nilC,nilC_ptr,hw,wc_3,lenV_sl ho]
 refine G_loop_ind (fun n ts hk mk => ∃ (i : Nat) (B' : List Int),i ≤ ws.length ∧ n = ws.length - i ∧ ts.length = 31 ∧ ts.getD 0 .undef = .ptr w 0 ∧ ts.getD 10 .undef = wv ∧ ts.getD 11 .undef = I ws.length ∧ ts.getD 12 .undef = I i ∧
   Ok B' ∧ Chg C T ov wv w h B' hk ∧ (∀ x,Sat 21 (bat B') x ↔ Sat 21 (bat B) x ∧ ∀ k,k < i → saysW C x (ws.getD k default)) ∧ mk = []) ?_ _ _ _ _
  ⟨0,B,Nat.zero_le _,rfl,rfl,rfl,rfl,rfl,rfl,K,Chg.refl hw,fun x => ⟨fun hx => ⟨hx,fun k hk => absurd hk (Nat.not_lt_zero _)⟩,fun hx => hx.1⟩,rfl⟩
 rintro n ts hk mk ih ⟨i,B1,hi,rfl,hl,q0,q10,q11,q12,K1,S1,hs,rfl⟩
 rw [lit_all hl]
 simp only [lit0,litS,Nat.reduceAdd,q0,q10,q11,q12]
 simp (disch:=first|assumption|omega|(simp only[az];done)) only [ru,eq_self,if_true,binI]
 by_cases lt : (i : Int) < ws.length
 case neg =>
  obtain rfl : i = ws.length:=by omega
  simp (disch:=first|assumption|omega|(simp only[az];done)) only [ru,lt]
  exact ⟨true,B1,rfl,S1,K1,fun _ => hs,fun e => Bool.noConfusion e⟩
 have lt' : i < ws.length:=by omega
 obtain ⟨f1,f2,f3,f4,f5,f6,f7⟩:=hf _ (mem_getD lt')
 obtain ⟨y,hy⟩ : ∃ y,y = ws.getD i default:=⟨_,rfl⟩
 rw [← hy] at f1 f2 f3 f4 f5 f6 f7
 have lk:=S1.le
 obtain ⟨ti,hti⟩ : ∃ ti : Nat,y.time = ti:=⟨y.time.toNat,by omega⟩
 obtain ⟨ci,hci⟩ : ∃ ci : Nat,y.ch = ci:=⟨y.ch.toNat,by omega⟩
 have sw : ∀ x,saysW C x y ↔ (y.lo ≤ x (sumN C ti ci) - x (sumN C ti (ci + 1)) ∧ x (sumN C ti ci) - x (sumN C ti (ci + 1)) ≤ y.hi):=by
  intro x; unfold saysW gap; rw [hti,hci]; rfl
 have hwJ : ∀ J,(hk ++ J)[w]? = some (.cells (wc C T ov wv B1) false):=fun J => by rw [at_ap (by omega)]; exact S1.at'
 obtain ⟨d,B2,h7,hr,S7,K2,tt,ff⟩:=r101 (hwJ [.cells [I y.time,I y.ch,I y.lo,I y.hi] false,.cells [I y.time,I y.ch] false]) K1 (lim:=lim) (t:=ti) (c:=ci) (lo:=y.lo) (hi':=y.hi) (by omega) (by omega) (by omega) (by omega) (by omega) hlim
 rw [← hti,← hci] at hr
 have llk : lim ≤ hk.length:=by omega
 have llk1 : lim ≤ hk.length + 1:=by omega
 have S8 : Chg C T ov wv w h B2 h7:=S1.trans S7.app
 cases d
 ·simp (disch:=first|assumption|omega|(simp only[az];done)) only [ru,eq_self,if_true,if_false,AO.row?,splice,fillL,loadV,storeV,Am.rowAt,Am.part,addOff,Nat.reduceAdd,Nat.reduceLeDiff,lt,elem_sl Wd.el ho,Int.toNat_natCast,← hy,Wd.e,List.append_assoc,lenE,setT,setT0,atT,atT0,llk,llk1,hr]
  refine ⟨false,B2,rfl,S8,K2,fun e => Bool.noConfusion e,fun _ x hx hall => ?_⟩
  have:=hall i lt'
  rw [← hy,sw] at this
  exact ff rfl x ((hs x).2 ⟨hx,fun k hk => hall k (by omega)⟩) this
 ·simp (disch:=first|assumption|omega|(simp only[az];done)) only [ru,eq_self,if_true,if_false,binI,AO.row?,splice,fillL,loadV,storeV,Am.rowAt,Am.part,addOff,Nat.reduceAdd,Nat.reduceLeDiff,lt,elem_sl Wd.el ho,Int.toNat_natCast,← hy,Wd.e,List.append_assoc,lenE,setT,setT0,atT,atT0,llk,llk1,hr]
  refine ih (ws.length - (i + 1)) _ _ _ (by omega) ⟨i + 1,B2,by omega,rfl,rfl,rfl,rfl,rfl,by show I _ = I _; congr 1,K2,S8,fun x => ?_,rfl⟩
  rw [tt rfl x,hs x]
  constructor
  ·rintro ⟨⟨p,q⟩,r⟩
   refine ⟨p,fun k hk => ?_⟩
   by_cases e : k = i
   ·subst e; rw [← hy,sw]; exact r
   ·exact q k (by omega)
  ·rintro ⟨p,q⟩
   refine ⟨⟨p,fun k hk => q k (by omega)⟩,?_⟩
   have:=q i (by omega)
   rw [← hy,sw] at this; exact this
end Go.Proofs.YtfknojncfbahpaaGreat.S
/-
A trap at work,as it is built.
-/
namespace Go.Proofs.YtfknojncfbahpaaGreat.S
open Go Go.Am Go.Proofs.YtfknojncfbahpaaGreat.T
set_option maxRecDepth 100000
set_option linter.unusedSimpArgs false
set_option linter.unusedVariables false
structure AllS (C T : Nat) (t : Trap) (x : Nat → Int) : Prop where
 f : ∀ i j,i < T → j < C → 0 ≤ gap C x i j ∧ gap C x i j ≤ 40
 m : ∀ i j,i < t.op.length → j < C → 0 ≤ flow C x i j ∧ flow C x i j ≤ mayP t.op i j
 w : ∀ k,k < t.ws.length → saysW C x (t.ws.getD k default)
set_option maxHeartbeats 4000000 in
theorem r90 {t : Trap} {o w : AV} {C T : Nat} (H : TrOk t o w) (V : TrB t) (hC : t.ch = C) (hT : t.tm = T) :
  ∃
   b B K,R E (.fn 143) [trV t o w] [] 0 = some (.tup [.ptr 1 0,Bo b],K) ∧ K[1]? = some (.cells (wc C T o w B) false) ∧ Ok B ∧
   (b = true → ∀ x,Sat 21 (bat B) x ↔ Sat 21 (bat wide) x ∧ AllS C T t x) ∧ (b = false → ∀ x,Sat 21 (bat wide) x → ¬ AllS C T t x):=by
 suffices hh : ∃ r K,R E (.fn 143) [trV t o w] [] 0 = some (r,K) ∧ (∃ b B,r = .tup [.ptr 1 0,Bo b] ∧ K[1]? = some (.cells (wc C T o w B) false) ∧ Ok B ∧
   (b = true → ∀ x,Sat 21 (bat B) x ↔ Sat 21 (bat wide) x ∧ AllS C T t x) ∧ (b = false → ∀ x,Sat 21 (bat wide) x → ¬ AllS C T t x)) by
  obtain ⟨r,K,hr,b,B,rfl,hh⟩:=hh
  exact ⟨b,B,K,hr,hh⟩
 have v1:=V.c0; have v2:=V.c1; have v3:=V.t0; have v4:=V.t1; have v5:=V.o; have v6:=V.w
 refine R_of _ (es _ _ _ _) e143 ?_
 rw [F90_eq]
 obtain ⟨Z,hZ⟩ : ∃ Z : List AV,Z = List.replicate 441 (I 0):=⟨_,rfl⟩
 have lZ : Z.length = 441:=by rw [hZ,List.length_replicate]
 have lW : (nums wide).length = 441:=by rw [nums_len]; exact widQ_len
 simp only [F90,← hZ,trV]
 have dr : List.drop (4 + 441) (I t.ch :: I t.tm :: o :: w :: Z) = []:=List.drop_eq_nil_of_le (by simp only [List.length_cons]; omega)
 have lZ' : 441 ≤ Z.length:=by omega
 obtain ⟨H1,hH1⟩ : ∃ H1 : List AO,H1 = [.cells [I t.ch,I t.tm,o,w] false,.cells (I t.ch :: I t.tm :: o :: w :: nums wide) false]:=⟨_,rfl⟩
 have e1 : H1[1]? = some (.cells (wc C T o w wide) false):=by rw [hH1,hC,hT]; rfl
 obtain ⟨b1,B1,h1,hr1,S1,K1,t1,f1⟩:=r107 e1 ok_wid (lim:=0) (by omega) (by omega) (by omega) (by omega) (Nat.zero_le _)
 obtain ⟨b2,B2,h2,hr2,S2,K2,t2,f2⟩:=r108 H.o (by omega) H.sl S1.at' K1 (lim:=0) (by omega) (by omega) (Nat.zero_le _)
 have hf : ∀ y ∈ t.ws,0 ≤ y.time ∧ y.time < T ∧ 0 ≤ y.ch ∧ y.ch < C ∧ 0 ≤ y.lo ∧ y.lo ≤ y.hi ∧ y.hi ≤ 40:=by
  intro y hy
  have:=V.fw y hy
  simp only [fitB,placeB,Bool.and_eq_true,decide_eq_true_eq] at this
  omega
 obtain ⟨b3,B3,h3,hr3,S3,K3,t3,f3⟩:=r109 H.w H.sw hf S2.at' K2 (lim:=0) (by omega) (by omega) (Nat.zero_le _)
 simp (disch:=first|assumption|omega|(simp only[az];done)) only [ru,eq_self,if_true,AO.row?,splice,fillL,loadV,Am.rowAt,Am.part,Nat.reduceAdd,Nat.reduceLeDiff,Nat.reduceSub,s106,lW,lZ',dr]
 rw [← hH1]
 cases b1
 ·simp (disch:=first|assumption|omega|(simp only[az];done)) only [ru,if_false,hr1]
  exact ⟨false,B1,rfl,S1.at',K1,fun e => Bool.noConfusion e,fun _ x hx ha => f1 rfl x hx ha.f⟩
 cases b2
 ·simp (disch:=first|assumption|omega|(simp only[az];done)) only [ru,eq_self,if_true,if_false,hr1,hr2]
  exact ⟨false,B2,rfl,S2.at',K2,fun e => Bool.noConfusion e,fun _ x hx ha => f2 rfl x ((t1 rfl x).2 ⟨hx,ha.f⟩) ha.m⟩
 simp (disch:=first|assumption|omega|(simp only[az];done)) only [ru,eq_self,if_true,hr1,hr2,hr3]
 cases b3
 ·exact ⟨false,B3,rfl,S3.at',K3,fun e => Bool.noConfusion e,fun _ x hx ha => f3 rfl x ((t2 rfl x).2 ⟨(t1 rfl x).2 ⟨hx,ha.f⟩,ha.m⟩) ha.w⟩
 ·refine ⟨true,B3,rfl,S3.at',K3,fun _ x => ?_,fun e => Bool.noConfusion e⟩
  rw [t3 rfl x,t2 rfl x,t1 rfl x]
  exact ⟨fun ⟨⟨⟨a,b⟩,c⟩,d⟩ => ⟨a,⟨b,c,d⟩⟩,fun ⟨a,k⟩ => ⟨⟨⟨a,k.f⟩,k.m⟩,k.w⟩⟩
end Go.Proofs.YtfknojncfbahpaaGreat.S
/-
A trap at work for one who asks: or the first of the errors.
-/
namespace Go.Proofs.YtfknojncfbahpaaGreat.S
open Go Go.Am Go.Proofs.YtfknojncfbahpaaGreat.T
set_option maxRecDepth 100000
set_option linter.unusedSimpArgs false
set_option linter.unusedVariables false
theorem shift_sl {α : Type} {esz : Nat} {enc : α → List AV} {l : List α} {v : AV} (h : IsSl esz enc l v) (k : Nat) : v.shift k = v:=by
 rcases h with rfl | ⟨rfl,_⟩ <;> rfl
theorem wc_shift {ch tm : Int} {o w : AV} {B : List Int} {k : Nat} (ho : o.shift k = o) (hw : w.shift k = w) : (wc ch tm o w B).map (AV.shift k) = wc ch tm o w B:=by
 unfold wc
 simp only [List.map_cons,ho,hw,List.map_map]
 rfl
theorem at_shift {K h : List AO} {i : Nat} {ch tm : Int} {o w : AV} {B : List Int} (hk : K[i]? = some (.cells (wc ch tm o w B) false)) (ho : ∀ k,o.shift k = o) (hw : ∀ k,w.shift k = w) :
  (h ++ K.map (AO.shift h.length))[i + h.length]? = some (.cells (wc ch tm o w B) false):=by
 rw [List.getElem?_append_right (by omega),show i + h.length - h.length = i by omega,List.getElem?_map,hk]
 simp only [Option.map_some,AO.shift,wc_shift (ho _) (hw _)]
def Solv (C T : Nat) (t : Trap) : Prop:=∃ x,Sat 21 (bat wide) x ∧ AllS C T t x
def Says (C T : Nat) (t : Trap) (B : List Int) : Prop:=∀ x,Sat 21 (bat B) x ↔ Sat 21 (bat wide) x ∧ AllS C T t x
theorem Says.solv {C T : Nat} {t : Trap} {B : List Int} (K : Ok B) (s : Says C T t B) : Solv C T t :=
 ⟨_,(s _).1 (leastSat K.cld (by omega))⟩
section
variable {t : Trap} {o w : AV} {C T : Nat}
theorem pureT (H : TrOk t o w) : AV.pureV.go [trV t o w] = true:=by
 simp [AV.pureV.go,AV.pureV,pure_sl H.o,pure_sl H.w]
theorem pureTb (H : TrOk t o w) (b : Bool) : AV.pureV.go [trV t o w,Bo b] = true:=by
 simp [AV.pureV.go,AV.pureV,pure_sl H.o,pure_sl H.w]
theorem call90 (H : TrOk t o w) (V : TrB t) (hC : t.ch = C) (hT : t.tm = T) (h : List AO) :
  ∃
   b B K,(∀ {lim : Nat} {ρ : Opd → AV} {x : Opd},ρ x = trV t o w → exOp (R E) lim none ρ h (.call 2 143 [x]) = some (.tup [.ptr (1 + h.length) 0,Bo b],h ++ K)) ∧
   (h ++ K)[1 + h.length]? = some (.cells (wc C T o w B) false) ∧ Ok B ∧ (b = true → Says C T t B) ∧ (b = false → ¬ Solv C T t):=by
 obtain ⟨b,B,K,hr,hk,KB,y,n⟩:=r90 H V hC hT
 refine ⟨b,B,K.map (AO.shift h.length),?_,at_shift hk (shift_sl H.o) (shift_sl H.w),KB,y,fun hb ⟨x,h1,h2⟩ => n hb x h1 h2⟩
 intro lim ρ x hx
 simp only [exOp,List.map_cons,List.map_nil,hx,pureT H,if_true,hr]
 rfl
inductive StR (t : Trap) (C T : Nat) (o w : AV) (fit : Bool) (K : List AO) (k : Nat) : AV → Int → Prop
 | bad (h : t.valid = false) : StR t C T o w fit K k .nilp 10
 | arg (h : t.valid = true) (hf : fit = false) : StR t C T o w fit K k .nilp 1
 | none (h : t.valid = true) (hf : fit = true) (hn : ¬ Solv C T t) : StR t C T o w fit K k .nilp 3
 | ok {B : List Int} (h : t.valid = true) (hf : fit = true) (hk : K[k]? = some (.cells (wc C T o w B) false)) (hB : Ok B) (hs : Says C T t B) : StR t C T o w fit K k (.ptr k 0) 0
theorem r73 (H : TrOk t o w) (hC : t.valid = true → t.ch = C) (hT : t.valid = true → t.tm = T) (fit : Bool) :
  ∃ p e K,R E (.fn 117) [trV t o w,Bo fit] [] 0 = some (.tup [p,I e],K) ∧ StR t C T o w fit K 2 p e:=by
 suffices hh : ∃ r K,R E (.fn 117) [trV t o w,Bo fit] [] 0 = some (r,K) ∧ (∃ p e,r = .tup [p,I e] ∧ StR t C T o w fit K 2 p e) by
  obtain ⟨r,K,hr,p,e,rfl,hh⟩:=hh
  exact ⟨p,e,K,hr,hh⟩
 refine R_of _ (es _ _ _ _) e117 ?_
 have c:=fun st => s54 H st
 simp only [f117,trV,chkE] at c ⊢
 cases hv : t.valid
 ·simp only [hv,Bool.false_eq_true,if_false] at c
  simp (disch:=first|assumption|omega|(simp only[az];done)) only [ru,eq_self,if_true,binI,AO.row?,loadV,Am.rowAt,Am.part,Nat.reduceAdd,Nat.reduceSub,Int.reduceEq,view_sl H.o,view_sl H.w,pure_sl H.o,pure_sl H.w,c]
  exact ⟨_,_,rfl,.bad hv⟩
 simp only [hv,if_true] at c
 cases fit
 ·simp (disch:=first|assumption|omega|(simp only[az];done)) only [ru,eq_self,if_true,binI,AO.row?,loadV,Am.rowAt,Am.part,Nat.reduceAdd,Nat.reduceSub,view_sl H.o,view_sl H.w,pure_sl H.o,pure_sl H.w,c]
  exact ⟨_,_,rfl,.arg hv rfl⟩
 have V:=valid_trb hv
 obtain ⟨b,B,K,q,hk,KB,y,n⟩:=call90 H V (hC hv) (hT hv) [.cells [I t.ch,I t.tm,o,w] false]
 simp only [trV] at q
 simp (disch:=first|assumption|omega|(simp only[az];done)) only [ru,eq_self,if_true,binI,AO.row?,loadV,Am.rowAt,Am.part,Nat.reduceAdd,Nat.reduceSub,view_sl H.o,view_sl H.w,pure_sl H.o,pure_sl H.w,c]
 cases b
 ·rw [q rfl]
  simp (disch:=first|assumption|omega|(simp only[az];done)) only [ru,Nat.reduceAdd]
  exact ⟨_,_,rfl,.none hv rfl (n rfl)⟩
 ·rw [q rfl]
  simp (disch:=first|assumption|omega|(simp only[az];done)) only [ru,Nat.reduceAdd]
  exact ⟨_,_,rfl,.ok hv rfl hk KB (y rfl)⟩
end
end Go.Proofs.YtfknojncfbahpaaGreat.S
