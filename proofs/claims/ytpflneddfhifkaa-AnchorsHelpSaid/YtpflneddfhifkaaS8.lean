import Derived.Test.YtpflneddfhifkaaS7
namespace Go.Proofs.Ytpflneddfhifkaa.S
open Go Go.Am Go.Proofs.Ytpflneddfhifkaa.T
set_option maxRecDepth 100000
set_option linter.unusedSimpArgs false
set_option linter.unusedVariables false




/-- does the wall stand in a current? -/
def standsI (s : Wal) (c : Int) : Bool := decide (s.lean * c ≤ s.corks) && decide (s.corks ≤ s.stones)
def uprV (n : Net) (s : Wal) : Int := if standsI s n.cur.hi then 1 else if standsI s n.cur.lo then 3 else 2
/-- the answer to Upright -/
def uprightR (n : Net) (x : Int) : Int × Int :=
  if n.valid then (if inR x 0 (n.walls.length - 1) then (uprV n (wallAt n x), 0) else (0, 1)) else (0, 20)

theorem s75 (s : Wal) (c : Int) (h1 : 0 ≤ s.lean * c ∧ s.lean * c ≤ 9 * 20) : ∀ (c0 : AO) (J : List AO), Ro E 75 [I c, .ptr 1 0] (c0 :: .cells [I s.sail, I s.drag, I s.lean, I s.corks, I s.stones] false :: J) = some (Bo (standsI s c)) := by
  intro c0 J
  refine Ro_of (es _ _ _ _) e75 ?_
  simp only [f75, standsI]
  simp (disch := first | assumption | omega | (simp only [az]; done)) only [ru, eq_self, if_true, if_false, BEq.rfl, binI, AO.row?, splice, fillL, mmAll, loadV, storeV, zeros, Am.rowAt, Am.part, addOff, Nat.reduceAdd, Nat.reduceMul, Nat.reduceLeDiff, Nat.reduceSub, Nat.reduceLT, Int.reduceEq, Int.reduceLT, Int.reduceLE, Int.reduceGT, Int.reduceGE, Int.reduceAdd, Int.reduceSub, Int.reduceMul, Int.reduceNeg, Int.reduceToNat, reduceCtorEq, reduceIte] ; repeat' ((first | refine GG_split (fun hb => ?_) (fun hb => ?_) | refine GC_split (fun hb => ?_) (fun hb => ?_)) <;> simp (disch := first | assumption | omega | (simp only [az]; done)) only [ru, eq_self, if_true, if_false, BEq.rfl, binI, AO.row?, splice, fillL, mmAll, loadV, storeV, zeros, Am.rowAt, Am.part, addOff, Nat.reduceAdd, Nat.reduceMul, Nat.reduceLeDiff, Nat.reduceSub, Nat.reduceLT, Int.reduceEq, Int.reduceLT, Int.reduceLE, Int.reduceGT, Int.reduceGE, Int.reduceAdd, Int.reduceSub, Int.reduceMul, Int.reduceNeg, Int.reduceToNat, reduceCtorEq, reduceIte, hb])
  all_goals (simp_all [AV.under])

theorem s22 {n : Net} {g a w : AV} (H : NetOk n g a w) (x : Int) (st : Bool) : Iso E 22 [netV n g a w, I x] st = some (.tup [I (uprightR n x).1, I (uprightR n x).2]) := by
  refine Iso_of (es _ _ _ _) e22 ?_
  simp only [f22, netV]
  cases hv : n.valid
  · simp (disch := first | assumption | omega | (simp only [az]; done)) only [ru, eq_self, if_true, if_false, BEq.rfl, binI, AO.row?, splice, fillL, mmAll, loadV, storeV, zeros, Am.rowAt, Am.part, addOff, Nat.reduceAdd, Nat.reduceMul, Nat.reduceLeDiff, Nat.reduceSub, Nat.reduceLT, Int.reduceEq, Int.reduceLT, Int.reduceLE, Int.reduceGT, Int.reduceGE, Int.reduceAdd, Int.reduceSub, Int.reduceMul, Int.reduceNeg, Int.reduceToNat, reduceCtorEq, reduceIte, s69 H, s68 H, lenV_sl H.g, lenV_sl H.a, lenV_sl H.w, elem_sl Spn.el H.g, elem_sl Anc.el H.a, elem_sl Wal.el H.w, view_sl H.g, view_sl H.a, view_sl H.w, scalar_sl H.g, scalar_sl H.a, scalar_sl H.w, cells_sl H.g, cells_sl H.a, cells_sl H.w, pure_sl H.g, pure_sl H.a, pure_sl H.w, Spn.e, Anc.e, Wal.e, Spn.eta, Anc.eta, Wal.eta, Int.toNat_natCast, hv] ; repeat' ((first | refine GG_split (fun hb => ?_) (fun hb => ?_) | refine GC_split (fun hb => ?_) (fun hb => ?_)) <;> simp (disch := first | assumption | omega | (simp only [az]; done)) only [ru, eq_self, if_true, if_false, BEq.rfl, binI, AO.row?, splice, fillL, mmAll, loadV, storeV, zeros, Am.rowAt, Am.part, addOff, Nat.reduceAdd, Nat.reduceMul, Nat.reduceLeDiff, Nat.reduceSub, Nat.reduceLT, Int.reduceEq, Int.reduceLT, Int.reduceLE, Int.reduceGT, Int.reduceGE, Int.reduceAdd, Int.reduceSub, Int.reduceMul, Int.reduceNeg, Int.reduceToNat, reduceCtorEq, reduceIte, s69 H, s68 H, lenV_sl H.g, lenV_sl H.a, lenV_sl H.w, elem_sl Spn.el H.g, elem_sl Anc.el H.a, elem_sl Wal.el H.w, view_sl H.g, view_sl H.a, view_sl H.w, scalar_sl H.g, scalar_sl H.a, scalar_sl H.w, cells_sl H.g, cells_sl H.a, cells_sl H.w, pure_sl H.g, pure_sl H.a, pure_sl H.w, Spn.e, Anc.e, Wal.e, Spn.eta, Anc.eta, Wal.eta, Int.toNat_natCast, hv, hb])
    all_goals simp only [uprightR, hv, if_false, Bool.false_eq_true]
  cases hx : inR x 0 (n.walls.length - 1)
  · simp (disch := first | assumption | omega | (simp only [az]; done)) only [ru, eq_self, if_true, if_false, BEq.rfl, binI, AO.row?, splice, fillL, mmAll, loadV, storeV, zeros, Am.rowAt, Am.part, addOff, Nat.reduceAdd, Nat.reduceMul, Nat.reduceLeDiff, Nat.reduceSub, Nat.reduceLT, Int.reduceEq, Int.reduceLT, Int.reduceLE, Int.reduceGT, Int.reduceGE, Int.reduceAdd, Int.reduceSub, Int.reduceMul, Int.reduceNeg, Int.reduceToNat, reduceCtorEq, reduceIte, s69 H, s68 H, lenV_sl H.g, lenV_sl H.a, lenV_sl H.w, elem_sl Spn.el H.g, elem_sl Anc.el H.a, elem_sl Wal.el H.w, view_sl H.g, view_sl H.a, view_sl H.w, scalar_sl H.g, scalar_sl H.a, scalar_sl H.w, cells_sl H.g, cells_sl H.a, cells_sl H.w, pure_sl H.g, pure_sl H.a, pure_sl H.w, Spn.e, Anc.e, Wal.e, Spn.eta, Anc.eta, Wal.eta, Int.toNat_natCast, hv, hx] ; repeat' ((first | refine GG_split (fun hb => ?_) (fun hb => ?_) | refine GC_split (fun hb => ?_) (fun hb => ?_)) <;> simp (disch := first | assumption | omega | (simp only [az]; done)) only [ru, eq_self, if_true, if_false, BEq.rfl, binI, AO.row?, splice, fillL, mmAll, loadV, storeV, zeros, Am.rowAt, Am.part, addOff, Nat.reduceAdd, Nat.reduceMul, Nat.reduceLeDiff, Nat.reduceSub, Nat.reduceLT, Int.reduceEq, Int.reduceLT, Int.reduceLE, Int.reduceGT, Int.reduceGE, Int.reduceAdd, Int.reduceSub, Int.reduceMul, Int.reduceNeg, Int.reduceToNat, reduceCtorEq, reduceIte, s69 H, s68 H, lenV_sl H.g, lenV_sl H.a, lenV_sl H.w, elem_sl Spn.el H.g, elem_sl Anc.el H.a, elem_sl Wal.el H.w, view_sl H.g, view_sl H.a, view_sl H.w, scalar_sl H.g, scalar_sl H.a, scalar_sl H.w, cells_sl H.g, cells_sl H.a, cells_sl H.w, pure_sl H.g, pure_sl H.a, pure_sl H.w, Spn.e, Anc.e, Wal.e, Spn.eta, Anc.eta, Wal.eta, Int.toNat_natCast, hv, hx, hb])
    all_goals simp only [uprightR, hv, hx, if_false, if_true, Bool.false_eq_true, Bool.false_and]
  have b := wallAt_b hv hx
  have B := netB hv
  have hx' := inR_iff.1 hx
  have x0 : 0 ≤ x := hx'.1
  have x1 : x < n.walls.length := by omega
  have cu0 := B.c0; have cu1 := B.c1; have cu2 := B.c2
  have m1 := mul_bd b.c0 b.c1 (show 0 ≤ n.cur.hi by omega) (show n.cur.hi ≤ 20 by omega)
  have m2 := mul_bd b.c0 b.c1 cu0 (show n.cur.lo ≤ 20 by omega)
  simp only [wallAt] at m1 m2
  simp (disch := first | assumption | omega | (simp only [az]; done)) only [ru, eq_self, if_true, if_false, BEq.rfl, binI, AO.row?, splice, fillL, mmAll, loadV, storeV, zeros, Am.rowAt, Am.part, addOff, Nat.reduceAdd, Nat.reduceMul, Nat.reduceLeDiff, Nat.reduceSub, Nat.reduceLT, Int.reduceEq, Int.reduceLT, Int.reduceLE, Int.reduceGT, Int.reduceGE, Int.reduceAdd, Int.reduceSub, Int.reduceMul, Int.reduceNeg, Int.reduceToNat, reduceCtorEq, reduceIte, s69 H, s68 H, lenV_sl H.g, lenV_sl H.a, lenV_sl H.w, elem_sl Spn.el H.g, elem_sl Anc.el H.a, elem_sl Wal.el H.w, view_sl H.g, view_sl H.a, view_sl H.w, scalar_sl H.g, scalar_sl H.a, scalar_sl H.w, cells_sl H.g, cells_sl H.a, cells_sl H.w, pure_sl H.g, pure_sl H.a, pure_sl H.w, Spn.e, Anc.e, Wal.e, Spn.eta, Anc.eta, Wal.eta, Int.toNat_natCast, hv, hx, s76, s75 _ _ m1, s75 _ _ m2]
  simp only [uprightR, hv, hx, wallAt, if_true, uprV]
  all_goals rfl

/-- how many of the first k numbers from lo on are such -/
def cntI (p : Int → Bool) (lo : Int) (k : Nat) : Nat := ((List.range k).filter fun j => p (lo + (j : Nat))).length
theorem cntI_succ (p : Int → Bool) (lo : Int) (k : Nat) : cntI p lo (k + 1) = cntI p lo k + if p (lo + (k : Nat)) then 1 else 0 := by
  unfold cntI
  rw [List.range_succ, List.filter_append, List.length_append]
  by_cases h : p (lo + (k : Nat)) = true <;> simp [h]
theorem cntI_le (p : Int → Bool) (lo : Int) (k : Nat) : cntI p lo k ≤ k := by
  unfold cntI
  exact Nat.le_trans (List.length_filter_le _ _) (by simp)
theorem cntI_all {p : Int → Bool} {lo : Int} : ∀ {k : Nat}, (∀ j : Nat, j < k → p (lo + j) = true) → cntI p lo k = k
  | 0, _ => rfl
  | k + 1, h => by rw [cntI_succ, cntI_all (fun j hj => h j (by omega)), if_pos (h k (by omega))]
theorem cntI_none {p : Int → Bool} {lo : Int} : ∀ {k : Nat}, (∀ j : Nat, j < k → p (lo + j) = false) → cntI p lo k = 0
  | 0, _ => rfl
  | k + 1, h => by rw [cntI_succ, cntI_none (fun j hj => h j (by omega)), if_neg (by rw [h k (by omega)]; simp)]
theorem cntI_pos {p : Int → Bool} {lo : Int} : ∀ {k : Nat} {j : Nat}, j < k → p (lo + j) = true → 0 < cntI p lo k
  | 0, _, h, _ => by omega
  | k + 1, j, h, hp => by
    rw [cntI_succ]
    by_cases e : j = k
    · subst e; rw [if_pos hp]; omega
    · have := cntI_pos (k := k) (j := j) (by omega) hp; omega
theorem cntI_lt {p : Int → Bool} {lo : Int} : ∀ {k : Nat} {j : Nat}, j < k → p (lo + j) = false → cntI p lo k < k
  | 0, _, h, _ => by omega
  | k + 1, j, h, hp => by
    rw [cntI_succ]
    by_cases e : j = k
    · subst e; rw [hp]; have := cntI_le p lo j; simp; omega
    · have := cntI_lt (k := k) (j := j) (by omega) hp; split <;> omega

/-- between the ends: what stands in more current stands in less -/
theorem upr_known {n : Net} (hv : n.valid = true) {s : Wal} (b : WalB s) : knownI (cntI (fun c => inR s.corks (s.lean * c) s.stones) n.cur.lo (n.cur.hi - n.cur.lo + 1).toNat) (n.cur.hi - n.cur.lo + 1).toNat = uprV n s := by
  have B := netB hv
  have c0 := B.c0; have c1 := B.c1
  have mono : ∀ c d : Int, c ≤ d → inR s.corks (s.lean * d) s.stones = true → inR s.corks (s.lean * c) s.stones = true := by
    intro c d hcd h
    rw [inR_iff] at h ⊢
    have := Int.mul_le_mul_of_nonneg_left hcd b.c0
    omega
  have e : ∀ c, standsI s c = inR s.corks (s.lean * c) s.stones := fun c => rfl
  obtain ⟨k, hk⟩ : ∃ k : Nat, (n.cur.hi - n.cur.lo + 1).toNat = k + 1 := ⟨(n.cur.hi - n.cur.lo).toNat, by omega⟩
  have hhi : n.cur.lo + (k : Nat) = n.cur.hi := by omega
  rw [hk]
  unfold uprV knownI
  simp only [e]
  by_cases h1 : inR s.corks (s.lean * n.cur.hi) s.stones = true
  · have : cntI (fun c => inR s.corks (s.lean * c) s.stones) n.cur.lo (k + 1) = k + 1 := cntI_all fun j hj => mono _ n.cur.hi (by omega) h1
    rw [this, if_pos h1, if_neg (by omega), if_pos rfl]
  · rw [if_neg h1]
    have h1' : inR s.corks (s.lean * (n.cur.lo + (k : Nat))) s.stones = false := by rw [hhi]; simpa using h1
    have lt := cntI_lt (p := fun c => inR s.corks (s.lean * c) s.stones) (lo := n.cur.lo) (k := k + 1) (j := k) (by omega) h1'
    by_cases h2 : inR s.corks (s.lean * n.cur.lo) s.stones = true
    · have p0 := cntI_pos (p := fun c => inR s.corks (s.lean * c) s.stones) (lo := n.cur.lo) (k := k + 1) (j := 0) (by omega) (by simpa using h2)
      rw [if_pos h2, if_neg (by omega), if_neg (by omega)]
    · have z := cntI_none (p := fun c => inR s.corks (s.lean * c) s.stones) (lo := n.cur.lo) (k := k + 1) fun j hj => by
        cases hh : inR s.corks (s.lean * (n.cur.lo + (j : Nat))) s.stones with
        | false => rfl
        | true => exact absurd (mono n.cur.lo _ (by omega) hh) h2
      rw [z, if_neg h2, if_pos (by simp)]

theorem s23 {n : Net} {g a w : AV} (H : NetOk n g a w) (x : Int) (st : Bool) : Iso E 23 [netV n g a w, I x] st = some (.tup [I (uprightR n x).1, I (uprightR n x).2]) := by
  refine Iso_of (es _ _ _ _) e23 ?_
  simp only [f23, netV]
  cases hv : n.valid
  · simp (disch := first | assumption | omega | (simp only [az]; done)) only [ru, eq_self, if_true, if_false, BEq.rfl, binI, AO.row?, splice, fillL, mmAll, loadV, storeV, zeros, Am.rowAt, Am.part, addOff, Nat.reduceAdd, Nat.reduceMul, Nat.reduceLeDiff, Nat.reduceSub, Nat.reduceLT, Int.reduceEq, Int.reduceLT, Int.reduceLE, Int.reduceGT, Int.reduceGE, Int.reduceAdd, Int.reduceSub, Int.reduceMul, Int.reduceNeg, Int.reduceToNat, reduceCtorEq, reduceIte, s63 H, s72 H, lenV_sl H.g, lenV_sl H.a, lenV_sl H.w, elem_sl Spn.el H.g, elem_sl Anc.el H.a, elem_sl Wal.el H.w, view_sl H.g, view_sl H.a, view_sl H.w, scalar_sl H.g, scalar_sl H.a, scalar_sl H.w, cells_sl H.g, cells_sl H.a, cells_sl H.w, pure_sl H.g, pure_sl H.a, pure_sl H.w, Spn.e, Anc.e, Wal.e, Spn.eta, Anc.eta, Wal.eta, Int.toNat_natCast, hv] ; repeat' ((first | refine GG_split (fun hb => ?_) (fun hb => ?_) | refine GC_split (fun hb => ?_) (fun hb => ?_)) <;> simp (disch := first | assumption | omega | (simp only [az]; done)) only [ru, eq_self, if_true, if_false, BEq.rfl, binI, AO.row?, splice, fillL, mmAll, loadV, storeV, zeros, Am.rowAt, Am.part, addOff, Nat.reduceAdd, Nat.reduceMul, Nat.reduceLeDiff, Nat.reduceSub, Nat.reduceLT, Int.reduceEq, Int.reduceLT, Int.reduceLE, Int.reduceGT, Int.reduceGE, Int.reduceAdd, Int.reduceSub, Int.reduceMul, Int.reduceNeg, Int.reduceToNat, reduceCtorEq, reduceIte, s63 H, s72 H, lenV_sl H.g, lenV_sl H.a, lenV_sl H.w, elem_sl Spn.el H.g, elem_sl Anc.el H.a, elem_sl Wal.el H.w, view_sl H.g, view_sl H.a, view_sl H.w, scalar_sl H.g, scalar_sl H.a, scalar_sl H.w, cells_sl H.g, cells_sl H.a, cells_sl H.w, pure_sl H.g, pure_sl H.a, pure_sl H.w, Spn.e, Anc.e, Wal.e, Spn.eta, Anc.eta, Wal.eta, Int.toNat_natCast, hv, hb])
    all_goals simp only [uprightR, hv, if_false, Bool.false_eq_true]
  cases hx : inR x 0 (n.walls.length - 1)
  · simp (disch := first | assumption | omega | (simp only [az]; done)) only [ru, eq_self, if_true, if_false, BEq.rfl, binI, AO.row?, splice, fillL, mmAll, loadV, storeV, zeros, Am.rowAt, Am.part, addOff, Nat.reduceAdd, Nat.reduceMul, Nat.reduceLeDiff, Nat.reduceSub, Nat.reduceLT, Int.reduceEq, Int.reduceLT, Int.reduceLE, Int.reduceGT, Int.reduceGE, Int.reduceAdd, Int.reduceSub, Int.reduceMul, Int.reduceNeg, Int.reduceToNat, reduceCtorEq, reduceIte, s63 H, s72 H, lenV_sl H.g, lenV_sl H.a, lenV_sl H.w, elem_sl Spn.el H.g, elem_sl Anc.el H.a, elem_sl Wal.el H.w, view_sl H.g, view_sl H.a, view_sl H.w, scalar_sl H.g, scalar_sl H.a, scalar_sl H.w, cells_sl H.g, cells_sl H.a, cells_sl H.w, pure_sl H.g, pure_sl H.a, pure_sl H.w, Spn.e, Anc.e, Wal.e, Spn.eta, Anc.eta, Wal.eta, Int.toNat_natCast, hv, hx] ; repeat' ((first | refine GG_split (fun hb => ?_) (fun hb => ?_) | refine GC_split (fun hb => ?_) (fun hb => ?_)) <;> simp (disch := first | assumption | omega | (simp only [az]; done)) only [ru, eq_self, if_true, if_false, BEq.rfl, binI, AO.row?, splice, fillL, mmAll, loadV, storeV, zeros, Am.rowAt, Am.part, addOff, Nat.reduceAdd, Nat.reduceMul, Nat.reduceLeDiff, Nat.reduceSub, Nat.reduceLT, Int.reduceEq, Int.reduceLT, Int.reduceLE, Int.reduceGT, Int.reduceGE, Int.reduceAdd, Int.reduceSub, Int.reduceMul, Int.reduceNeg, Int.reduceToNat, reduceCtorEq, reduceIte, s63 H, s72 H, lenV_sl H.g, lenV_sl H.a, lenV_sl H.w, elem_sl Spn.el H.g, elem_sl Anc.el H.a, elem_sl Wal.el H.w, view_sl H.g, view_sl H.a, view_sl H.w, scalar_sl H.g, scalar_sl H.a, scalar_sl H.w, cells_sl H.g, cells_sl H.a, cells_sl H.w, pure_sl H.g, pure_sl H.a, pure_sl H.w, Spn.e, Anc.e, Wal.e, Spn.eta, Anc.eta, Wal.eta, Int.toNat_natCast, hv, hx, hb])
    all_goals simp only [uprightR, hv, hx, if_false, if_true, Bool.false_eq_true, Bool.false_and]
  have b := wallAt_b hv hx
  have B := netB hv
  have hx' := inR_iff.1 hx
  have x0 : 0 ≤ x := hx'.1
  have x1 : x < n.walls.length := by omega
  have cu0 := B.c0; have cu1 := B.c1; have cu2 := B.c2
  have hval : uprightR n x = (uprV n (wallAt n x), 0) := by simp only [uprightR, hv, hx, if_true]
  have hk := upr_known hv b
  obtain ⟨s, hs⟩ : ∃ s, s = wallAt n x := ⟨_, rfl⟩
  have hs' : n.walls.getD x.toNat default = s := hs.symm
  rw [← hs] at b hk hval
  obtain ⟨p, hp⟩ : ∃ p : Int → Bool, p = fun c => inR s.corks (s.lean * c) s.stones := ⟨_, rfl⟩
  rw [← hp] at hk
  obtain ⟨K, hK⟩ : ∃ K : Nat, K = (n.cur.hi - n.cur.lo + 1).toNat := ⟨_, rfl⟩
  rw [← hK] at hk
  have hKi : (K : Int) = n.cur.hi - n.cur.lo + 1 := by omega
  simp (disch := first | assumption | omega | (simp only [az]; done)) only [ru, eq_self, if_true, if_false, BEq.rfl, binI, AO.row?, splice, fillL, mmAll, loadV, storeV, zeros, Am.rowAt, Am.part, addOff, Nat.reduceAdd, Nat.reduceMul, Nat.reduceLeDiff, Nat.reduceSub, Nat.reduceLT, Int.reduceEq, Int.reduceLT, Int.reduceLE, Int.reduceGT, Int.reduceGE, Int.reduceAdd, Int.reduceSub, Int.reduceMul, Int.reduceNeg, Int.reduceToNat, reduceCtorEq, reduceIte, s63 H, s72 H, lenV_sl H.g, lenV_sl H.a, lenV_sl H.w, elem_sl Spn.el H.g, elem_sl Anc.el H.a, elem_sl Wal.el H.w, view_sl H.g, view_sl H.a, view_sl H.w, scalar_sl H.g, scalar_sl H.a, scalar_sl H.w, cells_sl H.g, cells_sl H.a, cells_sl H.w, pure_sl H.g, pure_sl H.a, pure_sl H.w, Spn.e, Anc.e, Wal.e, Spn.eta, Anc.eta, Wal.eta, Int.toNat_natCast, hv, hx]
  refine G_loop_ind (fun m ts h mk => ∃ k : Nat, k ≤ K ∧ m = K - k ∧ ts.length = 42 ∧ ts.getD 1 .undef = I x ∧ ts.getD 2 .undef = .ptr 0 0 ∧
    ts.getD 7 .undef = I (cntI p n.cur.lo k) ∧ ts.getD 8 .undef = I k ∧ ts.getD 9 .undef = I (n.cur.lo + (k : Nat)) ∧ h = [.cells [I n.wind.lo, I n.wind.hi, I n.cur.lo, I n.cur.hi, g, a, w] false] ∧ mk = []) ?_ _ _ _ _ ⟨0, Nat.zero_le _, rfl, rfl, rfl, rfl, rfl, rfl, by simp, rfl, rfl⟩
  rintro m ts h mk ih ⟨k, hk1, rfl, hl, h1, h2, h7, h8, h9, rfl, rfl⟩
  rw [lit_all hl]
  simp only [lit0, litS, Nat.reduceAdd, h1, h2, h7, h8, h9]
  simp (disch := first | assumption | omega | (simp only [az]; done)) only [ru, eq_self, if_true, if_false, BEq.rfl, binI, AO.row?, splice, fillL, mmAll, loadV, storeV, zeros, Am.rowAt, Am.part, addOff, Nat.reduceAdd, Nat.reduceMul, Nat.reduceLeDiff, Nat.reduceSub, Nat.reduceLT, Int.reduceEq, Int.reduceLT, Int.reduceLE, Int.reduceGT, Int.reduceGE, Int.reduceAdd, Int.reduceSub, Int.reduceMul, Int.reduceNeg, Int.reduceToNat, reduceCtorEq, reduceIte, lenV_sl H.g, lenV_sl H.a, lenV_sl H.w, elem_sl Spn.el H.g, elem_sl Anc.el H.a, elem_sl Wal.el H.w, view_sl H.g, view_sl H.a, view_sl H.w, scalar_sl H.g, scalar_sl H.a, scalar_sl H.w, cells_sl H.g, cells_sl H.a, cells_sl H.w, pure_sl H.g, pure_sl H.a, pure_sl H.w, Spn.e, Anc.e, Wal.e, Spn.eta, Anc.eta, Wal.eta, Int.toNat_natCast]
  by_cases hlt : n.cur.lo + (k : Nat) ≤ n.cur.hi
  case pos =>
    have hlt' : k < K := by omega
    have m1 := mul_bd b.c0 b.c1 (show 0 ≤ n.cur.lo + (k : Nat) by omega) (show n.cur.lo + (k : Nat) ≤ 20 by omega)
    have hc := cntI_le p n.cur.lo k
    have hs77 := s77 s (n.cur.lo + (k : Nat)) 
    have hpk : p (n.cur.lo + (k : Nat)) = inR s.corks (s.lean * (n.cur.lo + (k : Nat))) s.stones := by rw [hp]
    simp (disch := first | assumption | omega | (simp only [az]; done)) only [ru, eq_self, if_true, if_false, BEq.rfl, binI, AO.row?, splice, fillL, mmAll, loadV, storeV, zeros, Am.rowAt, Am.part, addOff, Nat.reduceAdd, Nat.reduceMul, Nat.reduceLeDiff, Nat.reduceSub, Nat.reduceLT, Int.reduceEq, Int.reduceLT, Int.reduceLE, Int.reduceGT, Int.reduceGE, Int.reduceAdd, Int.reduceSub, Int.reduceMul, Int.reduceNeg, Int.reduceToNat, reduceCtorEq, reduceIte, lenV_sl H.g, lenV_sl H.a, lenV_sl H.w, elem_sl Spn.el H.g, elem_sl Anc.el H.a, elem_sl Wal.el H.w, view_sl H.g, view_sl H.a, view_sl H.w, scalar_sl H.g, scalar_sl H.a, scalar_sl H.w, cells_sl H.g, cells_sl H.a, cells_sl H.w, pure_sl H.g, pure_sl H.a, pure_sl H.w, Spn.e, Anc.e, Wal.e, Spn.eta, Anc.eta, Wal.eta, Int.toNat_natCast, hlt, hs', s77]
    rw [← hpk]
    have hsucc := cntI_succ p n.cur.lo k
    cases hb : p (n.cur.lo + (k : Nat))
    · rw [hb] at hsucc
      simp (disch := first | assumption | omega | (simp only [az]; done)) only [ru, eq_self, if_true, if_false, BEq.rfl, binI, AO.row?, splice, fillL, mmAll, loadV, storeV, zeros, Am.rowAt, Am.part, addOff, Nat.reduceAdd, Nat.reduceMul, Nat.reduceLeDiff, Nat.reduceSub, Nat.reduceLT, Int.reduceEq, Int.reduceLT, Int.reduceLE, Int.reduceGT, Int.reduceGE, Int.reduceAdd, Int.reduceSub, Int.reduceMul, Int.reduceNeg, Int.reduceToNat, reduceCtorEq, reduceIte]
      refine ih (K - (k + 1)) _ _ _ (by omega) ⟨k + 1, by omega, rfl, rfl, rfl, rfl, ?_, rfl, ?_, rfl, rfl⟩
      · show I _ = I _; congr 1; simp at hsucc; omega
      · show I _ = I _; congr 1; omega
    · rw [hb] at hsucc
      simp (disch := first | assumption | omega | (simp only [az]; done)) only [ru, eq_self, if_true, if_false, BEq.rfl, binI, AO.row?, splice, fillL, mmAll, loadV, storeV, zeros, Am.rowAt, Am.part, addOff, Nat.reduceAdd, Nat.reduceMul, Nat.reduceLeDiff, Nat.reduceSub, Nat.reduceLT, Int.reduceEq, Int.reduceLT, Int.reduceLE, Int.reduceGT, Int.reduceGE, Int.reduceAdd, Int.reduceSub, Int.reduceMul, Int.reduceNeg, Int.reduceToNat, reduceCtorEq, reduceIte]
      refine ih (K - (k + 1)) _ _ _ (by omega) ⟨k + 1, by omega, rfl, rfl, rfl, rfl, ?_, rfl, ?_, rfl, rfl⟩
      · show I _ = I _; congr 1; simp at hsucc; omega
      · show I _ = I _; congr 1; omega
  obtain rfl : k = K := by omega
  simp (disch := first | assumption | omega | (simp only [az]; done)) only [ru, eq_self, if_true, if_false, BEq.rfl, binI, AO.row?, splice, fillL, mmAll, loadV, storeV, zeros, Am.rowAt, Am.part, addOff, Nat.reduceAdd, Nat.reduceMul, Nat.reduceLeDiff, Nat.reduceSub, Nat.reduceLT, Int.reduceEq, Int.reduceLT, Int.reduceLE, Int.reduceGT, Int.reduceGE, Int.reduceAdd, Int.reduceSub, Int.reduceMul, Int.reduceNeg, Int.reduceToNat, reduceCtorEq, reduceIte, lenV_sl H.g, lenV_sl H.a, lenV_sl H.w, elem_sl Spn.el H.g, elem_sl Anc.el H.a, elem_sl Wal.el H.w, view_sl H.g, view_sl H.a, view_sl H.w, scalar_sl H.g, scalar_sl H.a, scalar_sl H.w, cells_sl H.g, cells_sl H.a, cells_sl H.w, pure_sl H.g, pure_sl H.a, pure_sl H.w, Spn.e, Anc.e, Wal.e, Spn.eta, Anc.eta, Wal.eta, Int.toNat_natCast, hlt, s78]
  rw [hval, hk]
  all_goals rfl
end Go.Proofs.Ytpflneddfhifkaa.S
