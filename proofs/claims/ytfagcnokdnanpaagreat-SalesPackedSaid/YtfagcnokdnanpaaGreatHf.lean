/-
The program's packings: numbers, their digits, those that are packings.
-/
import Derived.Test.YtfagcnokdnanpaaGreatHe
import Derived.Test.YtfagcnokdnanpaaGreatHd
namespace Go.Proofs.YtfagcnokdnanpaaGreat.S
open Go Go.Am Go.Proofs.YtfagcnokdnanpaaGreat.T
set_option maxRecDepth 100000
set_option linter.unusedSimpArgs false
set_option linter.unusedVariables false
theorem dgL_len {N B m : Nat} : (dgL N B m).length = m := by simp [dgL]
theorem dgL_cons {b k n d : Nat} (hb : b < n) (hk : k < n ^ d) : dgL (b * n ^ d + k) n (d + 1) = (b : Int) :: dgL k n d := by
  unfold dgL
  rw [List.range_succ_eq_map, List.map_cons, List.map_map]
  have hp : 0 < n ^ d := by omega
  congr 1
  · unfold dgt
    rw [show d + 1 - 1 - 0 = d by omega, Nat.mul_comm, Nat.mul_add_div hp, Nat.div_eq_of_lt hk, Nat.add_zero, Nat.mod_eq_of_lt hb]
  · refine List.map_congr_left fun i hi => ?_
    rw [List.mem_range] at hi
    simp only [Function.comp, dgt]
    rw [show d + 1 - 1 - i.succ = d - 1 - i by omega]
    have e : n ^ d = n ^ (d - 1 - i) * (n * n ^ i) := by
      rw [← Nat.pow_succ', ← Nat.pow_add]; congr 1; omega
    have hq : 0 < n ^ (d - 1 - i) := Nat.pos_of_ne_zero fun h => by have := (Nat.pow_eq_zero.1 h).1; omega
    rw [e, ← Nat.mul_assoc, Nat.mul_comm b, Nat.mul_assoc, Nat.mul_add_div hq, show b * (n * n ^ i) = n * (b * n ^ i) by rw [← Nat.mul_assoc, ← Nat.mul_assoc, Nat.mul_comm b n], Nat.mul_add_mod]
theorem pkL_dg {ok : List Int → Bool} {n : Nat} : ∀ {d : Nat} {F : List Int}, pkL ok n d F = ((List.range (n ^ d)).map fun k => F ++ dgL k n d).filter ok
  | 0, F => by
    simp only [pkL, Nat.pow_zero]
    have : (List.range 1).map (fun k => F ++ dgL k n 0) = [F] := by simp [dgL, List.range_succ]
    rw [this]
    cases h : ok F <;> simp [h]
  | d + 1, F => by
    simp only [pkL]
    have e1 : ∀ m : Nat, m ≤ n → (List.range m).flatMap (fun (b : Nat) => pkL ok n d (F ++ [(b : Int)])) = ((List.range (m * n ^ d)).map fun k => F ++ dgL k n (d + 1)).filter ok := by
      intro m
      induction m with
      | zero => intro _; simp
      | succ m ih =>
        intro hm
        rw [List.range_succ, List.flatMap_append, ih (by omega), Nat.succ_mul, List.range_add, List.map_append, List.filter_append, List.map_map]
        congr 1
        simp only [List.flatMap_cons, List.flatMap_nil, List.append_nil]
        rw [pkL_dg]
        congr 1
        refine List.map_congr_left fun k hk => ?_
        rw [List.mem_range] at hk
        simp only [Function.comp]
        rw [dgL_cons (by omega) hk, List.append_assoc]; rfl
    rw [e1 n (Nat.le_refl _), Nat.pow_succ, Nat.mul_comm]
def pkN (f : Fs) (j : Nat) : List (List Int) := ((List.range j).map fun k => dgL k f.h.bs.length f.h.ps.length).filter f.h.isP
theorem pkN_succ {f : Fs} {j : Nat} : pkN f (j + 1) = pkN f j ++ (if f.h.isP (dgL j f.h.bs.length f.h.ps.length) then [dgL j f.h.bs.length f.h.ps.length] else []) := by
  unfold pkN
  rw [List.range_succ, List.map_append, List.filter_append]
  congr 1
  simp only [List.map_cons, List.map_nil]
  cases h : f.h.isP (dgL j f.h.bs.length f.h.ps.length) <;> simp [h]
theorem pkN_all {f : Fs} : pkN f (f.h.bs.length ^ f.h.ps.length) = f.pks := by
  unfold Fs.pks
  rw [pkL_dg]; rfl
section
variable {f : Fs} {k p b pv bv : AV} {w : Nat → AV}
set_option maxHeartbeats 4000000 in
theorem t110 (H : FsOk f k p b pv bv w) (G : FG f) {r : Int → Bool} {mo o lim : Nat} (hlim : lim ≤ o) {P : List (List Int) → List AO → Prop}
    (hP : ∀ D g g', P D g → Lo o g g' → P D g')
    (hstep : ∀ D F g, o + 1 < g.length → P D g → F ∈ f.pks → ∃ g', R E (.rnd o) [slV 1 intL F] g lim = some (Bo true, g') ∧ P (D ++ [F]) g' ∧ Fk (o + 1) g g')
    {g : List AO} (ho : o < g.length) (h0 : P [] g) : ∃ u g', R E (.fn 110) [wkV f k p b pv bv r mo, .yld o] g lim = some (u, g') ∧ P f.pks g' := by
  have np := G.h.np; have nb := G.h.nb
  have hv := valid_iff.2 G.h
  have a113 := fun {x : List Int} {v : AV} (V : IsSl 1 intL x v) (hl : x.length ≤ 1000) st => s23 H.ho V hl st
  refine R_of _ (es _ _ _ _) e110 ?_
  simp only [f110]
  simp (disch := first | assumption | omega | (simp only [az]; done)) only [ru, eq_self, if_true, if_false, BEq.rfl, binI, AO.row?, splice, fillL, mmAll, loadV, storeV, zeros, Am.rowAt, Am.part, addOff, Nat.reduceAdd, Nat.reduceMul, Nat.reduceLeDiff, Nat.reduceSub, Nat.reduceLT, Int.reduceEq, Int.reduceLT, Int.reduceLE, Int.reduceGT, Int.reduceGE, Int.reduceAdd, Int.reduceSub, Int.reduceMul, Int.reduceNeg, Int.reduceToNat, reduceCtorEq, reduceIte, rmp, H.fai, Int.toNat_natCast, rmr, lenE, atE]
  refine G_loop_ind (fun y ts hk mk => ∃ (j : Nat), j ≤ f.h.ps.length ∧ y = f.h.ps.length - j ∧ hk = g ++ [.cells (wkC f k p b pv bv r mo) false] ∧
      ts.length = 52 ∧ ts.getD 1 .undef = .yld o ∧ ts.getD 2 .undef = .ptr g.length 0 ∧ ts.getD 4 .undef = I f.h.ps.length ∧ ts.getD 5 .undef = I f.h.bs.length ∧ ts.getD 6 .undef = I ((f.h.bs.length ^ j : Nat) : Int) ∧ ts.getD 21 .undef = I f.h.ps.length ∧ ts.getD 22 .undef = I j ∧ mk = []) ?_ f.h.ps.length _ _ _ ?_
  rotate_left
  · exact ⟨0, Nat.zero_le _, rfl, rfl, rfl, rfl, rfl, rfl, rfl, rfl, rfl, rfl, rfl⟩
  rintro y ts hk mk ihk ⟨j, hj, rfl, rfl, hl', q1, q2, q4, q5, q6, q21, q22, rfl⟩
  rw [lit_all hl']
  simp only [lit0, litS, Nat.reduceAdd, q1, q2, q4, q5, q6, q21, q22]
  simp (disch := first | assumption | omega | (simp only [az]; done)) only [ru, eq_self, if_true, if_false, BEq.rfl, binI, AO.row?, splice, fillL, mmAll, loadV, storeV, zeros, Am.rowAt, Am.part, addOff, Nat.reduceAdd, Nat.reduceMul, Nat.reduceLeDiff, Nat.reduceSub, Nat.reduceLT, Int.reduceEq, Int.reduceLT, Int.reduceLE, Int.reduceGT, Int.reduceGE, Int.reduceAdd, Int.reduceSub, Int.reduceMul, Int.reduceNeg, Int.reduceToNat, reduceCtorEq, reduceIte]
  by_cases hlt : (j : Int) < f.h.ps.length
  case pos =>
    have p1 := pow46_le (n := f.h.bs.length) (d := j) (by omega) (by omega)
    have p2 := pow46_le (n := f.h.bs.length) (d := j + 1) (by omega) (by omega)
    have pe : ((f.h.bs.length ^ j : Nat) : Int) * (f.h.bs.length : Int) = ((f.h.bs.length ^ (j + 1) : Nat) : Int) := by rw [Nat.pow_succ]; exact (Int.natCast_mul _ _).symm
    obtain ⟨Z, hZ⟩ : ∃ Z, Z = f.h.bs.length ^ j := ⟨_, rfl⟩
    obtain ⟨Z', hZ'⟩ : ∃ Z, Z = f.h.bs.length ^ (j + 1) := ⟨_, rfl⟩
    rw [← hZ, ← hZ'] at pe
    rw [← hZ] at p1
    rw [← hZ'] at p2
    simp only [← hZ]
    simp (disch := first | assumption | omega | (simp only [az]; done)) only [ru, eq_self, if_true, if_false, BEq.rfl, binI, AO.row?, splice, fillL, mmAll, loadV, storeV, zeros, Am.rowAt, Am.part, addOff, Nat.reduceAdd, Nat.reduceMul, Nat.reduceLeDiff, Nat.reduceSub, Nat.reduceLT, Int.reduceEq, Int.reduceLT, Int.reduceLE, Int.reduceGT, Int.reduceGE, Int.reduceAdd, Int.reduceSub, Int.reduceMul, Int.reduceNeg, Int.reduceToNat, reduceCtorEq, reduceIte, hlt, pe]
    refine ihk (f.h.ps.length - (j + 1)) _ _ _ (by omega) ⟨j + 1, by omega, rfl, rfl, rfl, rfl, rfl, rfl, rfl, ?_, rfl, rfl, rfl⟩
    rw [← hZ']; rfl
  obtain rfl : j = f.h.ps.length := by omega
  have p1 := pow46_le (n := f.h.bs.length) (d := f.h.ps.length) (by omega) (by omega)
  have pa := pkN_all (f := f)
  obtain ⟨M, hM⟩ : ∃ Z, Z = f.h.bs.length ^ f.h.ps.length := ⟨_, rfl⟩
  rw [← hM] at p1 pa
  simp only [← hM]
  simp (disch := first | assumption | omega | (simp only [az]; done)) only [ru, eq_self, if_true, if_false, BEq.rfl, binI, AO.row?, splice, fillL, mmAll, loadV, storeV, zeros, Am.rowAt, Am.part, addOff, Nat.reduceAdd, Nat.reduceMul, Nat.reduceLeDiff, Nat.reduceSub, Nat.reduceLT, Int.reduceEq, Int.reduceLT, Int.reduceLE, Int.reduceGT, Int.reduceGE, Int.reduceAdd, Int.reduceSub, Int.reduceMul, Int.reduceNeg, Int.reduceToNat, reduceCtorEq, reduceIte, hlt]
  clear ihk q1 q2 q4 q5 q6 q21 q22 hl' hlt
  refine G_loop_ind (fun y ts hk mk => ∃ (j : Nat), j ≤ M ∧ y = M - j ∧ g.length < hk.length ∧ hk[g.length]? = some (.cells (wkC f k p b pv bv r mo) false) ∧ P (pkN f j) hk ∧
      ts.length = 52 ∧ ts.getD 1 .undef = .yld o ∧ ts.getD 2 .undef = .ptr g.length 0 ∧ ts.getD 4 .undef = I f.h.ps.length ∧ ts.getD 5 .undef = I f.h.bs.length ∧ ts.getD 28 .undef = I M ∧ ts.getD 29 .undef = I j ∧ mk = []) ?_ M _ _ _ ?_
  rotate_left
  · exact ⟨0, Nat.zero_le _, rfl, by simp, by simp, hP _ _ _ h0 ⟨by simp, fun j hj => List.getElem?_append_left (by omega)⟩, rfl, rfl, rfl, rfl, rfl, rfl, rfl, rfl⟩
  clear ts
  rintro y ts hk mk ihk ⟨j, hj, rfl, m0, c0, hpk, hl', q1, q2, q4, q5, q28, q29, rfl⟩
  rw [lit_all hl']
  simp only [lit0, litS, Nat.reduceAdd, q1, q2, q4, q5, q28, q29]
  simp (disch := first | assumption | omega | (simp only [az]; done)) only [ru, eq_self, if_true, if_false, BEq.rfl, binI, AO.row?, splice, fillL, mmAll, loadV, storeV, zeros, Am.rowAt, Am.part, addOff, Nat.reduceAdd, Nat.reduceMul, Nat.reduceLeDiff, Nat.reduceSub, Nat.reduceLT, Int.reduceEq, Int.reduceLT, Int.reduceLE, Int.reduceGT, Int.reduceGE, Int.reduceAdd, Int.reduceSub, Int.reduceMul, Int.reduceNeg, Int.reduceToNat, reduceCtorEq, reduceIte]
  by_cases hlt : (j : Int) < M
  case neg =>
    obtain rfl : j = M := by omega
    simp (disch := first | assumption | omega | (simp only [az]; done)) only [ru, eq_self, if_true, if_false, BEq.rfl, binI, AO.row?, splice, fillL, mmAll, loadV, storeV, zeros, Am.rowAt, Am.part, addOff, Nat.reduceAdd, Nat.reduceMul, Nat.reduceLeDiff, Nat.reduceSub, Nat.reduceLT, Int.reduceEq, Int.reduceLT, Int.reduceLE, Int.reduceGT, Int.reduceGE, Int.reduceAdd, Int.reduceSub, Int.reduceMul, Int.reduceNeg, Int.reduceToNat, reduceCtorEq, reduceIte, hlt, fin0, fin0n]
    rw [← pa]; exact hpk
  have hB : 1 ≤ f.h.bs.length ∨ f.h.ps.length = 0 := by
    rcases Nat.eq_zero_or_pos f.h.ps.length with h | h
    · exact .inr h
    · rcases Nat.eq_zero_or_pos f.h.bs.length with h' | h'
      · rw [h', Nat.zero_pow h] at hM; omega
      · exact .inl h'
  have a129 := t129 (N := j) (B := f.h.bs.length) (m := f.h.ps.length) (by omega) (by omega) (by omega) hB
  have V : IsSl 1 intL (dgL j f.h.bs.length f.h.ps.length) (slV 1 intL (dgL j f.h.bs.length f.h.ps.length)) := slV_is
  have a113x := fun st => a113 V (by rw [dgL_len]; omega) st
  have ns := pkN_succ (f := f) (j := j)
  have hin : f.h.isP (dgL j f.h.bs.length f.h.ps.length) = true → dgL j f.h.bs.length f.h.ps.length ∈ f.pks := fun h => by
    have := isP_len h
    exact mem_pks.2 ⟨h, this.1, this.2⟩
  obtain ⟨F, hF⟩ : ∃ F, F = dgL j f.h.bs.length f.h.ps.length := ⟨_, rfl⟩
  rw [← hF] at a129 a113x ns hin V
  rw [hv] at a113x
  simp only [hsV] at a113x
  have c0w := c0
  simp only [wkC] at c0
  cases hp : f.h.isP F
  · rw [hp] at a113x ns
    simp (disch := first | assumption | omega | (simp only [az]; done)) only [ru, eq_self, if_true, if_false, BEq.rfl, binI, AO.row?, splice, fillL, mmAll, loadV, storeV, zeros, Am.rowAt, Am.part, addOff, Nat.reduceAdd, Nat.reduceMul, Nat.reduceLeDiff, Nat.reduceSub, Nat.reduceLT, Int.reduceEq, Int.reduceLT, Int.reduceLE, Int.reduceGT, Int.reduceGE, Int.reduceAdd, Int.reduceSub, Int.reduceMul, Int.reduceNeg, Int.reduceToNat, reduceCtorEq, reduceIte, rmp, H.fai, Int.toNat_natCast, lenV_sl V, view_sl V, scalar_sl V, cells_sl V, pure_sl V, hlt, c0, a129, a113x, Bool.true_and]
    refine ihk (M - (j + 1)) _ _ _ (by omega) ⟨j + 1, by omega, rfl, m0, c0w, ?_, rfl, rfl, rfl, rfl, rfl, rfl, rfl, rfl⟩
    rw [ns]; simpa using hpk
  · rw [hp] at a113x ns
    obtain ⟨g', hr, hP', fk⟩ := hstep (pkN f j) F hk (by omega) hpk (hin hp)
    simp (disch := first | assumption | omega | (simp only [az]; done)) only [ru, eq_self, if_true, if_false, BEq.rfl, binI, AO.row?, splice, fillL, mmAll, loadV, storeV, zeros, Am.rowAt, Am.part, addOff, Nat.reduceAdd, Nat.reduceMul, Nat.reduceLeDiff, Nat.reduceSub, Nat.reduceLT, Int.reduceEq, Int.reduceLT, Int.reduceLE, Int.reduceGT, Int.reduceGE, Int.reduceAdd, Int.reduceSub, Int.reduceMul, Int.reduceNeg, Int.reduceToNat, reduceCtorEq, reduceIte, rmp, H.fai, Int.toNat_natCast, lenV_sl V, view_sl V, scalar_sl V, cells_sl V, pure_sl V, hlt, c0, a129, a113x, Bool.true_and, exOp_callv0, List.nil_append, hr, Bool.not_true]
    refine ihk (M - (j + 1)) _ _ _ (by omega) ⟨j + 1, by omega, rfl, by have := fk.l; omega, (fk.k _ (by omega) m0).trans c0w, ?_, rfl, rfl, rfl, rfl, rfl, rfl, rfl, rfl⟩
    rw [ns]; simpa using hP'
end
end Go.Proofs.YtfagcnokdnanpaaGreat.S
