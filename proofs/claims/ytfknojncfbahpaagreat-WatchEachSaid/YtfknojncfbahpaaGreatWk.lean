/-
The specification: Drunk, Must, Ask.
-/
import Derived.Test.YtfknojncfbahpaaGreatS1
namespace Go.Proofs.YtfknojncfbahpaaGreat.S
open Go Go.Am Go.Proofs.YtfknojncfbahpaaGreat.T
set_option maxRecDepth 100000
set_option linter.unusedSimpArgs false
set_option linter.unusedVariables false
def knV (so al : Int) : Int:=if so = 0 then 2 else if so = al then 1 else 3
theorem cnt_zero {L : List (List Int)} {t : Int} : cntN L t = 0 ↔ ∀ g ∈ L,hasI g t = false:=by
 unfold cntN
 rw [List.length_eq_zero_iff,List.filter_eq_nil_iff]
 constructor
 ·intro h g hg; have:=h g hg; simpa using this
 ·intro h g hg; rw [h g hg]; simp
theorem cnt_all {L : List (List Int)} {t : Int} : cntN L t = L.length ↔ ∀ g ∈ L,hasI g t = true:=by
 unfold cntN
 exact List.length_filter_eq_length_iff
theorem agr_cnt {L : List (List Int)} (hne : L ≠ []) (t : Int) : agr (inG t) L = knV (cntN L t) L.length:=by
 obtain ⟨g,M,rfl⟩ : ∃ g M,L = g :: M:=by
  cases L with
  | nil => exact absurd rfl hne
  | cons g M => exact ⟨g,M,rfl⟩
 have le:=@cntN_le (g :: M) t
 have z:=@cnt_zero (g :: M) t
 have a:=@cnt_all (g :: M) t
 have pos : 0 < (g :: M).length:=by simp
 have k0 : cntN (g :: M) t = 0 → knV (cntN (g :: M) t) ((g :: M).length : Nat) = 2:=fun h => by unfold knV; rw [if_pos (by omega)]
 have k1 : cntN (g :: M) t ≠ 0 → cntN (g :: M) t = (g :: M).length → knV (cntN (g :: M) t) ((g :: M).length : Nat) = 1:=fun h h' => by unfold knV; rw [if_neg (by omega),if_pos (by omega)]
 have k2 : cntN (g :: M) t ≠ 0 → cntN (g :: M) t ≠ (g :: M).length → knV (cntN (g :: M) t) ((g :: M).length : Nat) = 3:=fun h h' => by unfold knV; rw [if_neg (by omega),if_neg (by omega)]
 have i1 : ∀ x,hasI x t = true → inG t x = 1:=fun x h => by unfold inG; rw [if_pos h]
 have i0 : ∀ x,hasI x t = false → inG t x = 2:=fun x h => by unfold inG; rw [h]; rfl
 simp only [agr]
 by_cases h0 : cntN (g :: M) t = 0
 ·rw [k0 h0]
  have h:=z.1 h0
  have hall : M.all (fun x => decide (inG t x = inG t g)) = true:=by
   rw [List.all_eq_true]; intro x hx
   rw [i0 x (h x (List.mem_cons_of_mem _ hx)),i0 g (h g (by simp))]; rfl
  rw [if_pos hall,i0 g (h g (by simp))]
 ·by_cases h1 : cntN (g :: M) t = (g :: M).length
  ·rw [k1 h0 h1]
   have h:=a.1 h1
   have hall : M.all (fun x => decide (inG t x = inG t g)) = true:=by
    rw [List.all_eq_true]; intro x hx
    rw [i1 x (h x (List.mem_cons_of_mem _ hx)),i1 g (h g (by simp))]; rfl
   rw [if_pos hall,i1 g (h g (by simp))]
  ·rw [k2 h0 h1]
   rw [if_neg]
   intro e
   rw [List.all_eq_true] at e
   cases hg : hasI g t
   ·apply h0
    rw [z]; intro x hx
    rcases List.mem_cons.1 hx with rfl | hx
    ·exact hg
    ·have:=of_decide_eq_true (e x hx)
     rw [i0 g hg] at this
     cases hx2 : hasI x t
     ·rfl
     ·rw [i1 x hx2] at this; cases this
   ·apply h1
    rw [a]; intro x hx
    rcases List.mem_cons.1 hx with rfl | hx
    ·exact hg
    ·have:=of_decide_eq_true (e x hx)
     rw [i1 g hg] at this
     cases hx2 : hasI x t
     ·rw [i0 x hx2] at this; cases this
     ·rfl
section
variable {b : Bk} {o w s : AV}
end
end Go.Proofs.YtfknojncfbahpaaGreat.S
