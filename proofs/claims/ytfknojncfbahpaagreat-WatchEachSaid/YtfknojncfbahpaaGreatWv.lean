/-
The specification: times of words, traps without words, Blame, False.
-/
import Derived.Test.YtfknojncfbahpaaGreatWk
import Derived.Test.YtfknojncfbahpaaGreatS2
namespace Go.Proofs.YtfknojncfbahpaaGreat.S
open Go Go.Am Go.Proofs.YtfknojncfbahpaaGreat.T
set_option maxRecDepth 100000
set_option linter.unusedSimpArgs false
set_option linter.unusedVariables false
section
variable {b : Bk} {o w s : AV}
theorem fal_ex (hv : b.valid = true) (hs : b.sts ≠ []) : ∃ W,ris b.t.ws.length W ∧ b.fal W = true:=by
 obtain ⟨g,hg⟩ : ∃ g,g ∈ b.sts:=by
  cases h : b.sts with
  | nil => exact absurd h hs
  | cons g _ => exact ⟨g,by simp⟩
 obtain ⟨hr,hc,x,hx⟩:=mem_sts.1 hg
 have V:=valid_trb (bk_t hv)
 obtain ⟨T1,T2,T3⟩:=tm5 (bk_t hv)
 obtain ⟨W,hW⟩ : ∃ W : List Int,W = ((List.range b.t.ws.length).filter fun i => qG b.t g i).map fun (i : Nat) => (i : Int):=⟨_,rfl⟩
 have mW : ∀ x : Int,x ∈ W ↔ ∃ i : Nat,i < b.t.ws.length ∧ qG b.t g i = true ∧ (i : Int) = x:=fun x => by
  rw [hW]; simp only [List.mem_map,List.mem_filter,List.mem_range,and_assoc]
 have rW : ris b.t.ws.length W:=by
  refine ⟨fun x hx => ?_,?_⟩
  ·obtain ⟨i,h1,_,rfl⟩:=(mW x).1 hx; omega
  ·rw [hW,List.pairwise_map]
   exact ((List.pairwise_lt_range (n:=b.t.ws.length)).filter _).imp fun h => by omega
 have qe : ∀ i,i < b.t.ws.length → qL W i = qG b.t g i:=fun i hi => by
  rw [Bool.eq_iff_iff]
  unfold qL
  rw [hasI_iff,mW]
  exact ⟨fun ⟨j,_,h2,h3⟩ => by
                  obtain rfl : j = i:=by omega
                  exact h2,fun h => ⟨i,hi,h,rfl⟩⟩
 have ke : b.t.kp (qL W) = b.t.kp (qG b.t g):=by
  unfold Trap.kp; rw [kpL_congr qe]
 refine ⟨W,rW,?_⟩
 unfold Bk.fal
 rw [Bool.and_eq_true,ke,solB_iff]
 refine ⟨can_sub (by omega) hr (tims_ris V) (fun y hy => ?_) hc,x,hx⟩
 obtain ⟨n,hn,rfl⟩:=(mem_tims V rW).1 hy
 obtain ⟨i,hi,hq,rfl⟩:=(mW n).1 hn
 unfold qG at hq
 rw [Int.toNat_natCast]
 exact hasI_iff.1 hq
end
end Go.Proofs.YtfknojncfbahpaaGreat.S
