/-
The law of the answer.
-/
import Derived.Test.YtfknojncfbahpaaGreatWy
namespace Go.Proofs.YtfknojncfbahpaaGreat.S
open Go Go.Am Go.Proofs.YtfknojncfbahpaaGreat.T
set_option maxRecDepth 100000
set_option linter.unusedSimpArgs false
set_option linter.unusedVariables false
section
variable {b : Bk} {o w s : AV}
def Bk.soA (b : Bk) (t : Int) (n : Nat) : List Int:=((List.range n).filter fun (i : Nat) => decide ((i : Int) = t) || hasI b.so i).map fun (i : Nat) => (i : Int)
theorem mem_soA {t : Int} {n : Nat} {x : Int} : x ∈ b.soA t n ↔ (0 ≤ x ∧ x < n) ∧ (x = t ∨ x ∈ b.so):=by
 simp only [Bk.soA,List.mem_map,List.mem_filter,List.mem_range,Bool.or_eq_true,decide_eq_true_eq,hasI_iff]
 constructor
 ·rintro ⟨i,⟨h1,h2⟩,rfl⟩; exact ⟨by omega,h2⟩
 ·rintro ⟨h1,h2⟩
  have e : ((x.toNat : Nat) : Int) = x:=Int.toNat_of_nonneg h1.1
  exact ⟨x.toNat,⟨by omega,by rw [e]; exact h2⟩,e⟩
theorem soA_len {t : Int} {n : Nat} : (b.soA t n).length ≤ n:=by
 have:=List.length_filter_le (fun (i : Nat) => decide ((i : Int) = t) || hasI b.so i) (List.range n)
 simpa [Bk.soA] using this
theorem soA_yes {t : Int} {n : Nat} (h : (decide ((n : Int) = t) || hasI b.so n) = true) : b.soA t (n + 1) = b.soA t n ++ [(n : Int)]:=by
 simp [Bk.soA,List.range_succ,h]
theorem soA_no {t : Int} {n : Nat} (h : (decide ((n : Int) = t) || hasI b.so n) = false) : b.soA t (n + 1) = b.soA t n:=by
 simp [Bk.soA,List.range_succ,h]
end
end Go.Proofs.YtfknojncfbahpaaGreat.S
