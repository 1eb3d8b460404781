/-
The mathematics and the functions, one after another (S3).
-/
import Derived.Test.YtmmibahjjeldgaaS2
import Derived.Test.YtmmibahjjeldgaaS1
import Derived.Test.YtmmibahjjeldgaaAmY
import Derived.Test.YtmmibahjjeldgaaTab

/-
All orders, handed over to one who changes memory of his own; the hours of all orders; Regret and Calm.
-/
namespace Go.Proofs.Ytmmibahjjeldgaa.S
open Go Go.Am Go.Proofs.Ytmmibahjjeldgaa.T
set_option maxRecDepth 100000
set_option linter.unusedSimpArgs false
set_option linter.unusedVariables false

section
variable {Sf : List AO → Nat → Prop}
/-- what is safe stays as it is, and safe -/
structure Rl (Sf : List AO → Nat → Prop) (h h' : List AO) : Prop where
  l : h.length ≤ h'.length
  k : ∀ j, Sf h j → h'[j]? = h[j]? ∧ Sf h' j
theorem Rl.refl (h : List AO) : Rl Sf h h := ⟨Nat.le_refl _, fun j hj => ⟨rfl, hj⟩⟩
theorem Rl.trans {a b c : List AO} (H : Rl Sf a b) (K : Rl Sf b c) : Rl Sf a c := ⟨Nat.le_trans H.l K.l, fun j hj => by
  have h1 := H.k j hj
  have h2 := K.k j h1.2
  exact ⟨h2.1.trans h1.1, h2.2⟩⟩
def RdQ (Sf : List AO → Nat → Prop) (h : List AO) (v : AV) (l : List Int) : Prop := RdS h v l ∧ ∀ o len, v = .ms 1 o 0 len → Sf h o
theorem RdQ.rl {h h' : List AO} {v : AV} {l : List Int} (H : RdQ Sf h v l) (F : Rl Sf h h') : RdQ Sf h' v l := by
  obtain ⟨h1 | ⟨hne, o, sh, e, hc⟩, h2⟩ := H
  · exact ⟨.inl h1, fun o len e => by rw [h1.2] at e; cases e⟩
  · have k := F.k o (h2 o _ e)
    refine ⟨.inr ⟨hne, o, sh, e, by rw [k.1]; exact hc⟩, fun o' len e' => ?_⟩
    rw [e] at e'; cases e'; exact k.2
theorem RdS.b0 {h : List AO} {v : AV} {l : List Int} (H : RdS h v l) : RdB 0 h v l := by
  rcases H with h1 | ⟨hne, o, sh, e, hc⟩
  · exact .inl h1
  · exact .inr ⟨hne, o, sh, Nat.zero_le _, e, hc⟩
theorem nxP_le {n : Net} {d : Nat} {F : List Int} {j : Nat} : (nxP n d F j).length ≤ (enm (may n.ps) n.hs.length (d + 1) F).length := by
  rw [← nxP_all]
  unfold nxP
  rw [List.take_length]
  have e : (nxt n F).flatMap (fun x => enm (may n.ps) n.hs.length d (F ++ [x])) = ((nxt n F).take j ++ (nxt n F).drop j).flatMap fun x => enm (may n.ps) n.hs.length d (F ++ [x]) := by rw [List.take_append_drop]
  rw [e, List.flatMap_append, List.length_append]; omega
set_option maxHeartbeats 4000000 in
theorem r110q {n : Net} {g p : AV} (H : NetOk n g p) {o lim B : Nat} (hlim : lim ≤ o) {P : List (List Int) → List AO → Prop}
    (hP : ∀ D h X, P D h → P D (h ++ [X]) ∧ Rl Sf h (h ++ [X]) ∧ Sf (h ++ [X]) h.length)
    (hstep : ∀ D F fv h, D.length < B → o < h.length → P D h → RdQ Sf h fv F → isO n F → ∃ h', R E (.rnd o) [fv] h lim = some (Bo true, h') ∧ P (D ++ [F]) h' ∧ Rl Sf h h') :
    ∀ (d : Nat) (F : List Int) (fv : AV) (D : List (List Int)) (h : List AO), F.length + d = n.hs.length → okE (may n.ps) n.hs.length F → RdQ Sf h fv F → o < h.length → D.length + (enm (may n.ps) n.hs.length d F).length ≤ B → P D h →
    ∃ h', R E (.fn 110) [netV n g p, fv, .yld o] h lim = some (Bo true, h') ∧ P (D ++ enm (may n.ps) n.hs.length d F) h' ∧ Rl Sf h h' := by
  have sg := H.sg
  intro d
  induction d with
  | zero =>
    intro F fv D h hd hF rd ho hB hp
    have hl : (F.length : Int) = n.hs.length := by omega
    obtain ⟨f1, f2, f3⟩ := rd.1.len
    obtain ⟨hp1, fr, _⟩ := hP D h (AO.cells [I n.m, g, p] false) hp
    obtain ⟨h', hr, hp', hp2⟩ := hstep D F fv (h ++ [AO.cells [I n.m, g, p] false]) (by simp [enm] at hB; omega) (by simp; omega) hp1 (rd.rl fr) ⟨by omega, hF⟩
    refine (fun x => ?_ : (∃ r h', R E (.fn 110) [netV n g p, fv, .yld o] h lim = some (r, h') ∧ (r = Bo true ∧ (P (D ++ enm (may n.ps) n.hs.length 0 F) h' ∧ Rl Sf h h'))) → _) (R_of _ (es _ _ _ _) e110 ?_)
    · obtain ⟨r, h', hr, rfl, hh⟩ := x; exact ⟨h', hr, hh⟩
    simp only [f110, netV]
    simp (disch := first | assumption | omega | (simp only [az]; done)) only [ru, eq_self, if_true, if_false, BEq.rfl, binI, AO.row?, splice, fillL, mmAll, loadV, storeV, zeros, Am.rowAt, Am.part, addOff, Nat.reduceAdd, Nat.reduceMul, Nat.reduceLeDiff, Nat.reduceSub, Nat.reduceLT, Int.reduceEq, Int.reduceLT, Int.reduceLE, Int.reduceGT, Int.reduceGE, Int.reduceAdd, Int.reduceSub, Int.reduceMul, Int.reduceNeg, Int.reduceToNat, reduceCtorEq, reduceIte, lenV_sl H.g, view_sl H.g, scalar_sl H.g, cells_sl H.g, pure_sl H.g, lenV_sl H.p, view_sl H.p, scalar_sl H.p, cells_sl H.p, pure_sl H.p, f1, f2, f3, hl, decide_true, exOp_callv0, hr]
    exact ⟨hp', fr.trans hp2⟩
  | succ d ih =>
    intro F fv D h hd hF rd ho hB hp
    have hl : ¬ (F.length : Int) = n.hs.length := by omega
    obtain ⟨f1, f2, f3⟩ := rd.1.len
    obtain ⟨hp1, fr, sfn⟩ := hP D h (AO.cells [I n.m, g, p] false) hp
    have rv := fun st => (rd.rl fr).1.view (st := st) (k := 7)
    have RF := resL_is F
    have c93 := fun st => s93 H RF (by omega) st
    simp only [netV] at c93
    have NV := resL_is (nxt n F)
    have nl := nxt_len (n := n) (F := F) (i := n.hs.length)
    obtain ⟨nv, hnv⟩ : ∃ u, u = resL (nxt n F) := ⟨_, rfl⟩
    rw [← hnv] at NV
    simp only [← hnv] at c93
    have nm : ∀ j, j < (nxt n F).length → ((nxt n F).getD j 0) ∈ nxt n F := fun j hj => getD_memI hj
    obtain ⟨L, hL⟩ : ∃ L, L = nxt n F := ⟨_, rfl⟩
    have hall := nxP_all (n := n) (d := d) (F := F)
    have hsucc := fun j hj => nxP_succ (n := n) (d := d) (F := F) (j := j) hj
    have nmem : ∀ x, x ∈ nxt n F → 0 ≤ x ∧ x < n.hs.length ∧ may n.ps F x = true := fun x hx => by have := nxt_mem.1 hx; exact ⟨this.1.1, this.1.2, this.2⟩
    have nl' : (nxt n F).length ≤ n.hs.length := nl
    rw [← hL] at NV hall hsucc nmem nl' nm
    have ev := elem_in NV
    refine (fun x => ?_ : (∃ r h', R E (.fn 110) [netV n g p, fv, .yld o] h lim = some (r, h') ∧ (r = Bo true ∧ (P (D ++ enm (may n.ps) n.hs.length (d + 1) F) h' ∧ Rl Sf h h'))) → _) (R_of _ (es _ _ _ _) e110 ?_)
    · obtain ⟨r, h', hr, rfl, hh⟩ := x; exact ⟨h', hr, hh⟩
    simp only [f110, netV]
    simp (disch := first | assumption | omega | (simp only [az]; done)) only [ru, eq_self, if_true, if_false, BEq.rfl, binI, AO.row?, splice, fillL, mmAll, loadV, storeV, zeros, Am.rowAt, Am.part, addOff, Nat.reduceAdd, Nat.reduceMul, Nat.reduceLeDiff, Nat.reduceSub, Nat.reduceLT, Int.reduceEq, Int.reduceLT, Int.reduceLE, Int.reduceGT, Int.reduceGE, Int.reduceAdd, Int.reduceSub, Int.reduceMul, Int.reduceNeg, Int.reduceToNat, reduceCtorEq, reduceIte, lenV_sl H.g, view_sl H.g, scalar_sl H.g, cells_sl H.g, pure_sl H.g, lenV_sl H.p, view_sl H.p, scalar_sl H.p, cells_sl H.p, pure_sl H.p, lenV_sl RF, view_sl RF, scalar_sl RF, cells_sl RF, pure_sl RF, lenV_sl NV, view_sl NV, scalar_sl NV, cells_sl NV, pure_sl NV, f1, f2, f3, hl, decide_false, atE, rv, c93]
    refine G_loop_ind (fun m ts hk mk => ∃ (j : Nat), j ≤ L.length ∧ m = L.length - j ∧ Rl Sf h hk ∧ Sf hk h.length ∧ hk[h.length]? = some (AO.cells [I n.m, g, p] false) ∧ P (D ++ nxP n d F j) hk ∧
      ts.length = 41 ∧ ts.getD 1 .undef = fv ∧ ts.getD 2 .undef = .yld o ∧ ts.getD 3 .undef = .ptr h.length 0 ∧ ts.getD 21 .undef = nv ∧ ts.getD 22 .undef = I L.length ∧ ts.getD 23 .undef = I j ∧ mk = []) ?_ _ _ _ _
      ⟨0, Nat.zero_le _, rfl, fr, sfn, by simp, by simpa [nxP] using hp1, rfl, rfl, rfl, rfl, rfl, rfl, rfl, rfl⟩
    rintro m ts hk mk ihk ⟨j, hj, rfl, fk, sk, c3, hpk, hl', q1, q2, q3, q21, q22, q23, rfl⟩
    rw [lit_all hl']
    simp only [lit0, litS, Nat.reduceAdd, q1, q2, q3, q21, q22, q23]
    simp (disch := first | assumption | omega | (simp only [az]; done)) only [ru, eq_self, if_true, if_false, BEq.rfl, binI, AO.row?, splice, fillL, mmAll, loadV, storeV, zeros, Am.rowAt, Am.part, addOff, Nat.reduceAdd, Nat.reduceMul, Nat.reduceLeDiff, Nat.reduceSub, Nat.reduceLT, Int.reduceEq, Int.reduceLT, Int.reduceLE, Int.reduceGT, Int.reduceGE, Int.reduceAdd, Int.reduceSub, Int.reduceMul, Int.reduceNeg, Int.reduceToNat, reduceCtorEq, reduceIte, f1]
    by_cases hlt : (j : Int) < L.length
    case neg =>
      obtain rfl : j = L.length := by omega
      rw [hall] at hpk
      simp (disch := first | assumption | omega | (simp only [az]; done)) only [ru, eq_self, if_true, if_false, BEq.rfl, binI, AO.row?, splice, fillL, mmAll, loadV, storeV, zeros, Am.rowAt, Am.part, addOff, Nat.reduceAdd, Nat.reduceMul, Nat.reduceLeDiff, Nat.reduceSub, Nat.reduceLT, Int.reduceEq, Int.reduceLT, Int.reduceLE, Int.reduceGT, Int.reduceGE, Int.reduceAdd, Int.reduceSub, Int.reduceMul, Int.reduceNeg, Int.reduceToNat, reduceCtorEq, reduceIte, hlt]
      exact ⟨hpk, fk⟩
    have hj' : j < L.length := by omega
    have xm := nm j hj'
    have sj := hsucc j hj'
    obtain ⟨x, hx⟩ : ∃ x, x = L.getD j 0 := ⟨_, rfl⟩
    rw [← hx] at xm sj
    obtain ⟨x0, x1, x2⟩ := nmem x xm
    have rdk := rd.rl fk
    have ok : o < hk.length := by have := fk.l; omega
    obtain ⟨mv, em, ea⟩ := rdk.1.b0.more (by omega) (lim := lim) x
    have n3 := (List.getElem?_eq_some_iff.1 c3).1
    obtain ⟨hpk1, fr1, sf1⟩ := hP _ hk (AO.cells ((F ++ [x]).flatMap fun n => [I n]) false) hpk
    have rd1 : RdQ Sf (hk ++ [AO.cells ((F ++ [x]).flatMap fun n => [I n]) false]) (.ms 1 hk.length 0 (F.length + 1)) (F ++ [x]) :=
      ⟨.inr ⟨by simp, hk.length, false, by simp, atE⟩, fun o' len e => by cases e; exact sf1⟩
    have hB' : (D ++ nxP n d F j).length + (enm (may n.ps) n.hs.length d (F ++ [x])).length ≤ B := by
      have := nxP_le (n := n) (d := d) (F := F) (j := j + 1)
      rw [sj, List.length_append] at this
      rw [List.length_append]; omega
    obtain ⟨h', hr, hp', fk'⟩ := ih (F ++ [x]) (.ms 1 hk.length 0 (F.length + 1)) _ (hk ++ [AO.cells ((F ++ [x]).flatMap fun n => [I n]) false]) (by simp; omega)
      (okE_snoc.2 ⟨hF, x0, x1, x2⟩) rd1 (by simp; omega) hB' hpk1
    have fr0 := Fr.app hk [AO.tomb]
    have c3' := fr0.at c3
    have sk1 := fr1.k _ sk
    have sk2 := fk'.k _ sk1.2
    simp (disch := first | assumption | omega | (simp only [az]; done)) only [ru, eq_self, if_true, if_false, BEq.rfl, binI, AO.row?, splice, fillL, mmAll, loadV, storeV, zeros, Am.rowAt, Am.part, addOff, Nat.reduceAdd, Nat.reduceMul, Nat.reduceLeDiff, Nat.reduceSub, Nat.reduceLT, Int.reduceEq, Int.reduceLT, Int.reduceLE, Int.reduceGT, Int.reduceGE, Int.reduceAdd, Int.reduceSub, Int.reduceMul, Int.reduceNeg, Int.reduceToNat, reduceCtorEq, reduceIte, hlt, ev, Int.toNat_natCast, ← hx, f1, c3, c3', n3, at_ap, pex_slice3, em, exOp_litS, AV.pureV.go, AV.pureV, Bool.and_true, GO_mapp, GO_mcall0, unhN, unhC, setT, setT0, getT, getT0, atT, atT0, ea, hr, Bool.not_true, exOp_call0]
    refine ihk (L.length - (j + 1)) _ _ _ (by omega) ⟨j + 1, by omega, rfl, fk.trans (fr1.trans fk'), sk2.2, ?_, ?_, rfl, rfl, rfl, rfl, rfl, rfl, rfl, rfl⟩
    · rw [sk2.1, sk1.1]; exact c3
    · rw [sj, ← List.append_assoc]; exact hp'
theorem r95q {n : Net} {g p : AV} (H : NetOk n g p) {o lim B : Nat} (hB : (ords n).length ≤ B) (hlim : lim ≤ o) {P : List (List Int) → List AO → Prop}
    (hP : ∀ D h X, P D h → P D (h ++ [X]) ∧ Rl Sf h (h ++ [X]) ∧ Sf (h ++ [X]) h.length)
    (hstep : ∀ D F fv h, D.length < B → o < h.length → P D h → RdQ Sf h fv F → isO n F → ∃ h', R E (.rnd o) [fv] h lim = some (Bo true, h') ∧ P (D ++ [F]) h' ∧ Rl Sf h h')
    {h : List AO} (ho : o < h.length) (h0 : P [] h) : ∃ r h', R E (.fn 95) [netV n g p, .yld o] h lim = some (r, h') ∧ P (ords n) h' := by
  obtain ⟨hp1, fr, _⟩ := hP _ _ (AO.cells [I n.m, g, p] false) h0
  obtain ⟨h', hr, hp, _⟩ := r110q H hlim hP hstep n.hs.length [] .nils [] (h ++ [AO.cells [I n.m, g, p] false]) (by simp) okE_nil ⟨.inl ⟨rfl, rfl⟩, fun o len e => by cases e⟩ (by simp; omega) (by simpa using hB) hp1
  rw [List.nil_append] at hp
  refine R_of _ (es _ _ _ _) e95 ?_
  simp only [f95, netV]
  simp (disch := first | assumption | omega | (simp only [az]; done)) only [ru, eq_self, if_true, if_false, BEq.rfl, binI, AO.row?, splice, fillL, mmAll, loadV, storeV, zeros, Am.rowAt, Am.part, addOff, Nat.reduceAdd, Nat.reduceMul, Nat.reduceLeDiff, Nat.reduceSub, Nat.reduceLT, Int.reduceEq, Int.reduceLT, Int.reduceLE, Int.reduceGT, Int.reduceGE, Int.reduceAdd, Int.reduceSub, Int.reduceMul, Int.reduceNeg, Int.reduceToNat, reduceCtorEq, reduceIte, exOp_call0, hr, fin0, fin0n]
  exact hp
end
theorem outE_apG {α : Type} {enc : α → List AV} {esz eb : Nat} (he : ∀ a, (enc a).length = esz) (hs : ∀ a, (enc a).all AV.scalar = true) (heb : 1 ≤ eb) (hb : eb ≤ 1000) {b : Nat} {h : List AO} {v : AV} {l : List α} {lim : Nat} (H : OutE enc esz b h v l) (hbl : b ≤ h.length) (hlim : lim ≤ b) (hl : l.length ≤ 1000000) (x : α) :
    ∃ h', appG false lim h.length esz eb (h ++ [AO.tomb]) v (.cs esz 1 (enc x)) = some (.ms esz h.length 0 (l.length + 1), h') ∧ OutE enc esz b h' (.ms esz h.length 0 (l.length + 1)) (l ++ [x]) ∧ h'.length = h.length + 1 ∧ ∀ j, j < h.length → (∀ o, v = .ms esz o 0 l.length → j ≠ o) → h'[j]? = h[j]? := by
  have hx : (enc x).length = 1 * esz := by rw [he]; omega
  rcases H with ⟨rfl, rfl⟩ | ⟨hne, o, ho, rfl, hc⟩
  · refine ⟨(h ++ [AO.tomb]).set h.length (.cells (enc x) false), ?_, .inr ⟨by simp, h.length, hbl, by simp, ?_⟩, by simp, fun j hj _ => ?_⟩
    · rw [appG_nil (n := 1) (xs := enc x) (by omega) rfl rfl hx (hs x) (by omega) heb]; simp
    · rw [setT0]; simp
    · rw [List.getElem?_set_ne (by omega), List.getElem?_append_left hj]
  · have ho' : o < h.length := (List.getElem?_eq_some_iff.1 hc).1
    have hbb : (l.length + 1) * eb ≤ 140737488355328 := by
      have := Nat.mul_le_mul (show l.length + 1 ≤ 1000001 by omega) hb
      omega
    refine ⟨((h ++ [AO.tomb]).set o .tomb).set h.length (.cells (l.flatMap enc ++ enc x) false), ?_, .inr ⟨by simp, h.length, hbl, by simp, ?_⟩, by simp, fun j hj hne' => ?_⟩
    · rw [appG_ms (keep := false) (c := l.flatMap enc) (n := 1) (xs := enc x) (by omega) (by rw [List.getElem?_append_left ho']; exact hc) (by rw [flat_len he]) rfl rfl hx (hs x) hbb heb (by omega)]
      rfl
    · rw [List.getElem?_set_self (by simp), List.flatMap_append]; simp
    · have := hne' o rfl
      rw [List.getElem?_set_ne (by omega), List.getElem?_set_ne (by omega), List.getElem?_append_left hj]
def As80 : ACode := .region 0 [oP 4 (.move (.t 9))]
def Bd80 : ACode := .block 1 (.region 1 [oP 10 (.fieldAddr 3 (.t 3)),
 ⟨(some 11), .load false 1 (.t 10), none, none, [0]⟩,
 ⟨(some 12), .load true 3 (.t 1), none, none, [0]⟩,
 oP 13 (.move (.t 4)),
 ⟨(some 14), .call 1 64 [(.t 12), (.t 13)], none, none, [0]⟩,
 oQ 15 (.litS 6 1 [.int .i64 0, .int .i64 0, .int .i64 0, .int .i64 0, .int .i64 0, .int .i64 0] [(0, (.t 14))]),
 ⟨(some 16), .append false 6 48 (.t 11) (.t 15), none, (some 0), []⟩,
 oP 17 (.fieldAddr 3 (.t 3)),
 ⟨none, .store 1 (.t 17) (.t 16), none, none, []⟩])
/-- what is not the list of hours that is being made -/
def Sf80 (h : List AO) (j : Nat) : Prop := 5 ≤ j ∧ j < h.length ∧ ∀ a b c e oa f l, h[2]? = some (.cells [a, b, c, .ms e oa f l] false) → j ≠ oa
set_option maxHeartbeats 4000000 in
theorem s80 {n : Net} {g p : AV} (H : NetOk n g p) (G : NetG n) (hne : ords n ≠ []) : Iso E 80 [netV n g p] false = some (rivV n g p (slV 6 (enc6 n) (ords n))) := by
  have k6 := G.h.le
  have el := enc6_len G
  have hle := ords_le G
  refine Iso_of (es _ _ _ _) e80 ?_
  simp only [f80, netV]
  simp (disch := first | assumption | omega | (simp only [az]; done)) only [ru, eq_self, if_true, if_false, BEq.rfl, binI, AO.row?, splice, fillL, mmAll, loadV, storeV, zeros, Am.rowAt, Am.part, addOff, Nat.reduceAdd, Nat.reduceMul, Nat.reduceLeDiff, Nat.reduceSub, Nat.reduceLT, Int.reduceEq, Int.reduceLT, Int.reduceLE, Int.reduceGT, Int.reduceGE, Int.reduceAdd, Int.reduceSub, Int.reduceMul, Int.reduceNeg, Int.reduceToNat, reduceCtorEq, reduceIte, lenV_sl H.g, view_sl H.g, scalar_sl H.g, cells_sl H.g, pure_sl H.g, lenV_sl H.p, view_sl H.p, scalar_sl H.p, cells_sl H.p, pure_sl H.p]
  obtain ⟨TS, hTS⟩ : ∃ TS : List AV, TS = [.agg [I n.m, g, p], .ptr 0 0, .ptr 1 0, .ptr 2 0, .undef, .agg [I n.m, g, p], .agg [I n.m, g, p, .nils], .agg [I n.m, g, p], .fn 95 [.agg [I n.m, g, p]] [], .undef, .undef, .undef, .undef, .undef, .undef, .undef, .undef, .undef, .undef] := ⟨_, rfl⟩
  obtain ⟨H1, hH1⟩ : ∃ H1 : List AO, H1 = [.cells [I n.m, g, p] false, .cells [I 0, .nils, .nils, .nils] false, .cells [I n.m, g, p, .nils] false, .dfr, .loop .ready none 80 TS [9] As80 Bd80 3] := ⟨_, rfl⟩
  have key := r95q (Sf := Sf80) H hle (o := 4) (lim := 0) (by omega)
    (P := fun D h => h[0]? = some (.cells [I n.m, g, p] false) ∧ h[1]? = some (.cells [I 0, .nils, .nils, .nils] false) ∧ (∃ v, h[2]? = some (.cells [I n.m, g, p, v] false) ∧ OutE (enc6 n) 6 5 h v D) ∧ h[3]? = some .dfr ∧ h[4]? = some (.loop .ready none 80 TS [9] As80 Bd80 3))
    (by
      rintro D h X ⟨a, b, ⟨v, c, c'⟩, d, e⟩
      have fr := Fr.app h [X]
      have l4 := (List.getElem?_eq_some_iff.1 e).1
      refine ⟨⟨fr.at a, fr.at b, ⟨v, fr.at c, c'.fr fr⟩, fr.at d, fr.at e⟩, ⟨fr.l, fun j hj => ⟨fr.k j hj.2.1, hj.1, by have := hj.2.1; have := fr.l; omega, fun a b c e oa f l hh => hj.2.2 a b c e oa f l (by rw [← hh, List.getElem?_append_left (by omega)])⟩⟩, by omega, by simp, fun a b c' e oa f l hh => ?_⟩
      rw [List.getElem?_append_left (by omega), c] at hh
      simp only [Option.some.injEq, AO.cells.injEq, List.cons.injEq, and_true] at hh
      obtain ⟨_, _, _, rfl⟩ := hh
      rcases c' with ⟨_, h2⟩ | ⟨_, o', _, h2, h3⟩
      · cases h2
      · cases h2
        have := (List.getElem?_eq_some_iff.1 h3).1
        omega) ?_ (h := H1) (by rw [hH1]; simp) (by rw [hH1]; exact ⟨rfl, rfl, ⟨.nils, rfl, .inl ⟨rfl, rfl⟩⟩, rfl, rfl⟩)
  · refine G_range_of rfl rfl ?_
    rw [← hTS]
    obtain ⟨r, h3, hr, g0, g1, ⟨v, g2, g2'⟩, g3, g4⟩ := key
    rw [hH1] at hr
    refine ⟨r, h3, .ready, none, 80, TS, [9], As80, Bd80, 3, hr, g4, .inl rfl, ?_⟩
    simp only [Option.getD_none, GE_nrm]
    obtain ⟨h4, hh4⟩ : ∃ h4, h4 = h3.set (([.cells [I n.m, g, p] false, .cells [I 0, .nils, .nils, .nils] false, .cells [I n.m, g, p, .nils] false] : List AO).length + 1) (AO.loop .exhausted none 80 TS [9] As80 Bd80 3) := ⟨_, rfl⟩
    rw [← hh4]
    rcases g2' with ⟨e, _⟩ | ⟨_, o, ho5, rfl, hc⟩
    · exact absurd e hne
    have k1 : h4[1]? = some (.cells [I 0, .nils, .nils, .nils] false) := by rw [hh4, List.getElem?_set_ne (by simp)]; exact g1
    have k2 : h4[2]? = some (.cells [I n.m, g, p, .ms 6 o 0 (ords n).length] false) := by rw [hh4, List.getElem?_set_ne (by simp)]; exact g2
    have k3 : h4[3]? = some .dfr := by rw [hh4, List.getElem?_set_ne (by simp)]; exact g3
    have l4 := (List.getElem?_eq_some_iff.1 k3).1
    have w1 : (h4.set 1 (.cells [I n.m, g, p, .ms 6 o 0 (ords n).length] false))[1]? = some (.cells [I n.m, g, p, .ms 6 o 0 (ords n).length] false) := List.getElem?_set_self (by omega)
    have w3 : (h4.set 1 (.cells [I n.m, g, p, .ms 6 o 0 (ords n).length] false))[3]? = some .dfr := by rw [List.getElem?_set_ne (by omega)]; exact k3
    have wf : ((h4.set 1 (.cells [I n.m, g, p, .ms 6 o 0 (ords n).length] false)).set 3 .tomb)[1]? = some (.cells [I n.m, g, p, .ms 6 o 0 (ords n).length] false) := by rw [List.getElem?_set_ne (by omega)]; exact w1
    have wo : ((h4.set 1 (.cells [I n.m, g, p, .ms 6 o 0 (ords n).length] false)).set 3 .tomb)[o]? = some (.cells ((ords n).flatMap (enc6 n)) false) := by
      rw [List.getElem?_set_ne (by omega), List.getElem?_set_ne (by omega), hh4, List.getElem?_set_ne (by simp; omega)]; exact hc
    have vw := RdC.view (enc := enc6 n) (st := false) (k := 6) ⟨o, rfl, wo⟩ el (fun a x hx => by
      obtain ⟨y, _, e⟩ := List.mem_flatMap.1 (show x ∈ (pad (tms n a)).flatMap intL from hx)
      simp only [List.mem_singleton] at e
      exact ⟨_, _, e⟩)
    have vg := view_sl H.g
    have vp := view_sl H.p
    rw [hTS]
    obtain ⟨N, hN⟩ : ∃ N, N = (ords n).length := ⟨_, rfl⟩
    obtain ⟨Q, hQ⟩ : ∃ Q, Q = slV 6 (enc6 n) (ords n) := ⟨_, rfl⟩
    rw [← hN] at k2 w1 w3 wf wo vw
    rw [← hQ] at vw ⊢
    simp (disch := first | assumption | omega | (simp only [az]; done)) only [ru, eq_self, if_true, if_false, BEq.rfl, binI, AO.row?, splice, fillL, mmAll, loadV, storeV, zeros, Am.rowAt, Am.part, addOff, Nat.reduceAdd, Nat.reduceMul, Nat.reduceLeDiff, Nat.reduceSub, Nat.reduceLT, Int.reduceEq, Int.reduceLT, Int.reduceLE, Int.reduceGT, Int.reduceGE, Int.reduceAdd, Int.reduceSub, Int.reduceMul, Int.reduceNeg, Int.reduceToNat, reduceCtorEq, reduceIte, k1, k2, lenV_sl H.g, view_sl H.g, scalar_sl H.g, cells_sl H.g, pure_sl H.g, lenV_sl H.p, view_sl H.p, scalar_sl H.p, cells_sl H.p, pure_sl H.p]
    refine finM (h' := (h4.set 1 (.cells [I n.m, g, p, .ms 6 o 0 N] false)).set 3 .tomb) (vs := [.agg [I n.m, g, p, .ms 6 o 0 N]]) (.inr rfl) (by simp) ?_ ?_ ?_
    · simp only [takeMarks, List.length_cons, List.length_nil, w3]
    · simp (disch := first | assumption | omega | (simp only [az]; done)) only [ru, eq_self, if_true, if_false, BEq.rfl, binI, AO.row?, splice, fillL, mmAll, loadV, storeV, zeros, Am.rowAt, Am.part, addOff, Nat.reduceAdd, Nat.reduceMul, Nat.reduceLeDiff, Nat.reduceSub, Nat.reduceLT, Int.reduceEq, Int.reduceLT, Int.reduceLE, Int.reduceGT, Int.reduceGE, Int.reduceAdd, Int.reduceSub, Int.reduceMul, Int.reduceNeg, Int.reduceToNat, reduceCtorEq, reduceIte, wf, List.mapM_cons, List.mapM_nil, getRes, Option.bind_eq_bind, Option.pure_def, Option.bind_some]
    · simp (disch := first | assumption | omega | (simp only [az]; done)) only [ru, eq_self, if_true, if_false, BEq.rfl, binI, AO.row?, splice, fillL, mmAll, loadV, storeV, zeros, Am.rowAt, Am.part, addOff, Nat.reduceAdd, Nat.reduceMul, Nat.reduceLeDiff, Nat.reduceSub, Nat.reduceLT, Int.reduceEq, Int.reduceLT, Int.reduceLE, Int.reduceGT, Int.reduceGE, Int.reduceAdd, Int.reduceSub, Int.reduceMul, Int.reduceNeg, Int.reduceToNat, reduceCtorEq, reduceIte, view_agg, List.mapM_cons, List.mapM_nil, view_int, vg, vp, vw, Option.bind_eq_bind, Option.pure_def, Option.bind_some, Option.map_some]
  · rintro D F fv h hDl ho ⟨g0, g1, ⟨v, g2, g2'⟩, g3, g4⟩ rd hO
    have rl := rd.1.len
    have := R_rnd_of (E := E) (lim := 0) (args := [fv]) (P := fun r h' => r = Bo true ∧ (h'[0]? = some (.cells [I n.m, g, p] false) ∧ h'[1]? = some (.cells [I 0, .nils, .nils, .nils] false) ∧ (∃ v, h'[2]? = some (.cells [I n.m, g, p, v] false) ∧ OutE (enc6 n) 6 5 h' v (D ++ [F])) ∧ h'[3]? = some .dfr ∧ h'[4]? = some (.loop .ready none 80 TS [9] As80 Bd80 3)) ∧ Rl Sf80 h h') g4 rfl (Nat.zero_le _) ?_
    · obtain ⟨r, h', hr, rfl, hp, fk⟩ := this
      exact ⟨h', hr, hp, fk⟩
    rw [hTS]
    simp only [setAll, List.set_cons_succ, List.set_cons_zero]
    rw [← hTS]
    unfold As80
    simp (disch := first | assumption | omega | (simp only [az]; done)) only [ru, eq_self, if_true, if_false, BEq.rfl, binI, AO.row?, splice, fillL, mmAll, loadV, storeV, zeros, Am.rowAt, Am.part, addOff, Nat.reduceAdd, Nat.reduceMul, Nat.reduceLeDiff, Nat.reduceSub, Nat.reduceLT, Int.reduceEq, Int.reduceLT, Int.reduceLE, Int.reduceGT, Int.reduceGE, Int.reduceAdd, Int.reduceSub, Int.reduceMul, Int.reduceNeg, Int.reduceToNat, reduceCtorEq, reduceIte]
    refine ⟨none, 80, TS, [9], As80, Bd80, 3, g4, ?_⟩
    obtain ⟨h6, hh6⟩ : ∃ h6, h6 = h.set 4 (AO.loop .busy none 80 TS [9] As80 Bd80 3) := ⟨_, rfl⟩
    rw [← hh6]
    have n0 : h6[0]? = some (.cells [I n.m, g, p] false) := by rw [hh6, List.getElem?_set_ne (by omega)]; exact g0
    have n1 : h6[1]? = some (.cells [I 0, .nils, .nils, .nils] false) := by rw [hh6, List.getElem?_set_ne (by omega)]; exact g1
    have n2 : h6[2]? = some (.cells [I n.m, g, p, v] false) := by rw [hh6, List.getElem?_set_ne (by omega)]; exact g2
    have n3 : h6[3]? = some .dfr := by rw [hh6, List.getElem?_set_ne (by omega)]; exact g3
    have n4 : h6[4]? = some (AO.loop .busy none 80 TS [9] As80 Bd80 3) := by rw [hh6, List.getElem?_set_self (by omega)]
    have l6 : h6.length = h.length := by rw [hh6]; simp
    have rds : RdS h6 fv F := by
      rcases rd.1 with h1 | ⟨hne', o, sh, e, hc⟩
      · exact .inl h1
      · have := (rd.2 o _ e).1
        exact .inr ⟨hne', o, sh, e, by rw [hh6, List.getElem?_set_ne (by omega)]; exact hc⟩
    have g6 : OutE (enc6 n) 6 5 h6 v D := by
      rcases g2' with h1 | ⟨hne', o, ho5, e, hc⟩
      · exact .inl h1
      · exact .inr ⟨hne', o, ho5, e, by rw [hh6, List.getElem?_set_ne (by omega)]; exact hc⟩
    obtain ⟨h7, A, ho7, l7, k7⟩ := outE_apG (eb := 48) (lim := 0) el enc6_sc (by omega) (by omega) g6 (by omega) (Nat.zero_le _) (by omega) F
    have v5 : ∀ j, j < 5 → ∀ o, v = .ms 6 o 0 D.length → j ≠ o := fun j hj o e => by
      rcases g6 with ⟨_, h2⟩ | ⟨_, o', h5, h2, _⟩
      · rw [h2] at e; cases e
      · rw [h2] at e; cases e; omega
    have p0 : h7[0]? = some (.cells [I n.m, g, p] false) := by rw [k7 0 (by omega) (v5 0 (by omega))]; exact n0
    have p1 : h7[1]? = some (.cells [I 0, .nils, .nils, .nils] false) := by rw [k7 1 (by omega) (v5 1 (by omega))]; exact n1
    have p2 : h7[2]? = some (.cells [I n.m, g, p, v] false) := by rw [k7 2 (by omega) (v5 2 (by omega))]; exact n2
    have p3 : h7[3]? = some .dfr := by rw [k7 3 (by omega) (v5 3 (by omega))]; exact n3
    have p4 : h7[4]? = some (AO.loop .busy none 80 TS [9] As80 Bd80 3) := by rw [k7 4 (by omega) (v5 4 (by omega))]; exact n4
    have vw := fun st => (rds.fr (Fr.app h6 [AO.tomb])).view (st := st) (k := 7)
    have RF := resL_is F
    have c64 := fun st => s64 H G RF (ord_len G hO) (fun i hi => ⟨(hO.2 i hi).1, (hO.2 i hi).2.1⟩) st
    obtain ⟨lv, hlv⟩ : ∃ q, q = resL F := ⟨_, rfl⟩
    rw [← hlv] at RF
    have ul : (tms n F).length = n.hs.length := tms2_len.1
    obtain ⟨ua, ub, uc, ud, ue, uf, e6⟩ := arr6 (l := tms n F) (by omega)
    simp only [netV, arrV, e6, ← hlv] at c64 vw
    rw [show enc6 n F = (pad (tms n F)).flatMap intL from rfl, e6] at A
    have t0 := fun X => (at_ap (m := [X]) (show 0 < h6.length by omega)).trans n0
    have t2 := fun X => (at_ap (m := [X]) (show 2 < h6.length by omega)).trans n2
    unfold Bd80
    simp (disch := first | assumption | omega | (simp only [az]; done)) only [ru, eq_self, if_true, if_false, BEq.rfl, binI, AO.row?, splice, fillL, mmAll, loadV, storeV, zeros, Am.rowAt, Am.part, addOff, Nat.reduceAdd, Nat.reduceMul, Nat.reduceLeDiff, Nat.reduceSub, Nat.reduceLT, Int.reduceEq, Int.reduceLT, Int.reduceLE, Int.reduceGT, Int.reduceGE, Int.reduceAdd, Int.reduceSub, Int.reduceMul, Int.reduceNeg, Int.reduceToNat, reduceCtorEq, reduceIte, lenV_sl H.g, view_sl H.g, scalar_sl H.g, cells_sl H.g, pure_sl H.g, lenV_sl H.p, view_sl H.p, scalar_sl H.p, cells_sl H.p, pure_sl H.p, lenV_sl RF, view_sl RF, scalar_sl RF, cells_sl RF, pure_sl RF, t0, t2, vw, c64, exOp_litS, AV.pureV.go, AV.pureV, Bool.and_true, GO_mapp, GO_mcall0, unhN, unhC, setT, setT0, getT, getT0, atT, atT0, A, p2, List.drop_succ_cons, List.drop_zero, List.drop_nil, List.take_succ_cons, List.take_zero, List.nil_append, List.append_nil, List.cons_append]
    obtain ⟨C, hC⟩ : ∃ C, C = AO.cells [I n.m, g, p, .ms 6 h6.length 0 (D.length + 1)] false := ⟨_, rfl⟩
    rw [← hC]
    refine ⟨.busy, none, 80, TS, [9], As80, Bd80, 3, by rw [List.getElem?_set_ne (by omega)]; exact p4, ?_⟩
    refine ⟨⟨?_, ?_, ⟨.ms 6 h6.length 0 (D.length + 1), ?_, ?_⟩, ?_, ?_⟩, ⟨by simp; omega, fun j hj => ⟨?_, hj.1, by have := hj.2.1; simp; omega, fun a b c e oa f l hh => ?_⟩⟩⟩
    · rw [List.getElem?_set_ne (by omega), List.getElem?_set_ne (by omega)]; exact p0
    · rw [List.getElem?_set_ne (by omega), List.getElem?_set_ne (by omega)]; exact p1
    · rw [List.getElem?_set_ne (by omega), List.getElem?_set_self (by omega), hC]
    · rcases ho7 with ⟨e, _⟩ | ⟨hne', o, h5, e, hc⟩
      · simp at e
      · exact .inr ⟨hne', o, h5, e, by rw [List.getElem?_set_ne (by omega), List.getElem?_set_ne (by omega)]; exact hc⟩
    · rw [List.getElem?_set_ne (by omega), List.getElem?_set_ne (by omega)]; exact p3
    · rw [List.getElem?_set_self (by simp; omega)]; rfl
    · have h5 := hj.1
      have hl5 := hj.2.1
      rw [List.getElem?_set_ne (by omega), List.getElem?_set_ne (by omega), k7 j (by omega) (fun o e => hj.2.2 _ _ _ _ o _ _ (by rw [g2, e])), hh6, List.getElem?_set_ne (by omega)]
    · have hl5 := hj.2.1
      rw [List.getElem?_set_ne (by omega), List.getElem?_set_self (by omega), hC] at hh
      simp only [Option.some.injEq, AO.cells.injEq, List.cons.injEq, AV.ms.injEq, and_true] at hh
      have := hh.2.2.2.2.1
      omega
section
variable {n : Net} {g p : AV} {l : List Int} {v : AV}
theorem view_cr {av : AV} {L : List (List Int)} (H : NetOk n g p) (AVh : IsSl 6 (enc6 n) L av) (f : Nat) (h : List AO) : view false h 8 (.fn f [.agg [I n.m, g, p, av]] []) = some (.fn f [.agg [I n.m, g, p, av]] []) := by
  have e : view false h 7 (.agg [I n.m, g, p, av]) = some (.agg [I n.m, g, p, av]) := by
    show ([I n.m, g, p, av].mapM (view false h 6)).map AV.agg = _
    simp only [List.mapM_cons, List.mapM_nil, view_int, view_sl H.g, view_sl H.p, view_sl AVh]; rfl
  show (match [AV.agg [I n.m, g, p, av]].mapM (view false h 7), ([] : List AV).mapM (view false h 7) with
    | some a', some b' => some (AV.fn f a' b')
    | _, _ => none) = _
  simp only [List.mapM_cons, List.mapM_nil, e]; rfl
theorem ords_l6 (G : NetG n) : ∀ c ∈ ords n, c.length ≤ 6 := fun c hc => ord_len G (mem_ords.1 hc)
theorem s41 (H : NetOk n g p) (V : IsSl 1 intL l v) (hl : l.length ≤ 1000) (st : Bool) : Iso E 41 [netV n g p, v] st = some (rgtR n l) := by
  have c1 := fun st => s63 H V hl st
  simp only [netV, gvE] at c1
  refine Iso_of (es _ _ _ _) e41 ?_
  simp only [f41, netV, rgtR, gvE]
  cases hv : n.valid
  · simp only [hv, Bool.false_eq_true, if_false] at c1
    simp (disch := first | assumption | omega | (simp only [az]; done)) only [ru, eq_self, if_true, if_false, BEq.rfl, binI, AO.row?, splice, fillL, mmAll, loadV, storeV, zeros, Am.rowAt, Am.part, addOff, Nat.reduceAdd, Nat.reduceMul, Nat.reduceLeDiff, Nat.reduceSub, Nat.reduceLT, Int.reduceEq, Int.reduceLT, Int.reduceLE, Int.reduceGT, Int.reduceGE, Int.reduceAdd, Int.reduceSub, Int.reduceMul, Int.reduceNeg, Int.reduceToNat, reduceCtorEq, reduceIte, lenV_sl H.g, view_sl H.g, scalar_sl H.g, cells_sl H.g, pure_sl H.g, lenV_sl H.p, view_sl H.p, scalar_sl H.p, cells_sl H.p, pure_sl H.p, lenV_sl V, view_sl V, scalar_sl V, cells_sl V, pure_sl V, c1, Bool.false_and, decide_true, decide_false]
  simp only [hv, if_true] at c1
  cases ho : ordB n l
  · simp only [ho, Bool.false_eq_true, if_false] at c1
    simp (disch := first | assumption | omega | (simp only [az]; done)) only [ru, eq_self, if_true, if_false, BEq.rfl, binI, AO.row?, splice, fillL, mmAll, loadV, storeV, zeros, Am.rowAt, Am.part, addOff, Nat.reduceAdd, Nat.reduceMul, Nat.reduceLeDiff, Nat.reduceSub, Nat.reduceLT, Int.reduceEq, Int.reduceLT, Int.reduceLE, Int.reduceGT, Int.reduceGE, Int.reduceAdd, Int.reduceSub, Int.reduceMul, Int.reduceNeg, Int.reduceToNat, reduceCtorEq, reduceIte, lenV_sl H.g, view_sl H.g, scalar_sl H.g, cells_sl H.g, pure_sl H.g, lenV_sl H.p, view_sl H.p, scalar_sl H.p, cells_sl H.p, pure_sl H.p, lenV_sl V, view_sl V, scalar_sl V, cells_sl V, pure_sl V, c1, Bool.and_false, decide_true, decide_false]
  simp only [ho, if_true] at c1
  have O := ordB_iff.1 ho
  obtain ⟨G, hne⟩ := valid_ne hv
  have c2 := s80 H G hne
  have AVh := slV_is (esz := 6) (enc := enc6 n) (l := ords n)
  obtain ⟨av, hav⟩ : ∃ av, av = slV 6 (enc6 n) (ords n) := ⟨_, rfl⟩
  rw [← hav] at AVh c2
  have c3 := fun st => s81 H G (ords_l6 G) (Nat.le_trans (ords_le G) (by omega)) AVh V (ord_len G O) (fun i hi => ⟨(O.2 i hi).1, (O.2 i hi).2.1⟩) st
  obtain ⟨Z, hZ⟩ : ∃ Z, Z = regr n l := ⟨_, rfl⟩
  rw [← hZ]
  simp only [netV, rivV, show mst (abv n l) (ords n) = Z from hZ.symm] at c2 c3
  simp (disch := first | assumption | omega | (simp only [az]; done)) only [ru, eq_self, if_true, if_false, BEq.rfl, binI, AO.row?, splice, fillL, mmAll, loadV, storeV, zeros, Am.rowAt, Am.part, addOff, Nat.reduceAdd, Nat.reduceMul, Nat.reduceLeDiff, Nat.reduceSub, Nat.reduceLT, Int.reduceEq, Int.reduceLT, Int.reduceLE, Int.reduceGT, Int.reduceGE, Int.reduceAdd, Int.reduceSub, Int.reduceMul, Int.reduceNeg, Int.reduceToNat, reduceCtorEq, reduceIte, lenV_sl H.g, view_sl H.g, scalar_sl H.g, cells_sl H.g, pure_sl H.g, lenV_sl H.p, view_sl H.p, scalar_sl H.p, cells_sl H.p, pure_sl H.p, lenV_sl V, view_sl V, scalar_sl V, cells_sl V, pure_sl V, lenV_sl AVh, view_sl AVh, scalar_sl AVh, cells_sl AVh, pure_sl AVh, c1, c2, c3, Bool.and_self, decide_true, decide_false, bne_self_eq_false]
theorem s43 (H : NetOk n g p) : Iso E 43 [netV n g p] false = some (calR n) := by
  have c1 := fun st => s18 H st
  simp only [netV, chk] at c1
  refine Iso_of (es _ _ _ _) e43 ?_
  simp only [f43, netV, calR]
  cases hv : n.valid
  · simp only [hv, Bool.false_eq_true, if_false] at c1
    simp (disch := first | assumption | omega | (simp only [az]; done)) only [ru, eq_self, if_true, if_false, BEq.rfl, binI, AO.row?, splice, fillL, mmAll, loadV, storeV, zeros, Am.rowAt, Am.part, addOff, Nat.reduceAdd, Nat.reduceMul, Nat.reduceLeDiff, Nat.reduceSub, Nat.reduceLT, Int.reduceEq, Int.reduceLT, Int.reduceLE, Int.reduceGT, Int.reduceGE, Int.reduceAdd, Int.reduceSub, Int.reduceMul, Int.reduceNeg, Int.reduceToNat, reduceCtorEq, reduceIte, lenV_sl H.g, view_sl H.g, scalar_sl H.g, cells_sl H.g, pure_sl H.g, lenV_sl H.p, view_sl H.p, scalar_sl H.p, cells_sl H.p, pure_sl H.p, c1, decide_true, decide_false]
  simp only [hv, if_true] at c1
  obtain ⟨G, hne⟩ := valid_ne hv
  have c2 := s80 H G hne
  have AVh := slV_is (esz := 6) (enc := enc6 n) (l := ords n)
  obtain ⟨av, hav⟩ : ∃ av, av = slV 6 (enc6 n) (ords n) := ⟨_, rfl⟩
  rw [← hav] at AVh c2
  have c3 : Iso E 70 [netV n g p, .fn 81 [rivV n g p av] []] false = some (.agg [I (lstN (regr n) (ords n)), resL (clm n), Bo true]) :=
    s70 H hne (f := regr n) fun F h fv V O => s81r H G (ords_l6 G) (Nat.le_trans (ords_le G) (by omega)) AVh V (ord_len G O) fun i hi => ⟨(O.2 i hi).1, (O.2 i hi).2.1⟩
  have vc := view_cr H AVh 81
  have RF := resL_is (clm n)
  obtain ⟨Z, hZ⟩ : ∃ Z, Z = lstN (regr n) (ords n) := ⟨_, rfl⟩
  obtain ⟨F, hF⟩ : ∃ F, F = resL (clm n) := ⟨_, rfl⟩
  rw [← hZ] at c3
  rw [← hF] at c3 RF ⊢
  simp only [netV, rivV] at c2 c3
  simp (disch := first | assumption | omega | (simp only [az]; done)) only [ru, eq_self, if_true, if_false, BEq.rfl, binI, AO.row?, splice, fillL, mmAll, loadV, storeV, zeros, Am.rowAt, Am.part, addOff, Nat.reduceAdd, Nat.reduceMul, Nat.reduceLeDiff, Nat.reduceSub, Nat.reduceLT, Int.reduceEq, Int.reduceLT, Int.reduceLE, Int.reduceGT, Int.reduceGE, Int.reduceAdd, Int.reduceSub, Int.reduceMul, Int.reduceNeg, Int.reduceToNat, reduceCtorEq, reduceIte, lenV_sl H.g, view_sl H.g, scalar_sl H.g, cells_sl H.g, pure_sl H.g, lenV_sl H.p, view_sl H.p, scalar_sl H.p, cells_sl H.p, pure_sl H.p, lenV_sl AVh, view_sl AVh, scalar_sl AVh, cells_sl AVh, pure_sl AVh, lenV_sl RF, view_sl RF, scalar_sl RF, cells_sl RF, pure_sl RF, c1, c2, c3, vc, AV.pureV, AV.pureV.go, decide_true, decide_false, bne_self_eq_false]
end
end Go.Proofs.Ytmmibahjjeldgaa.S

/-
Rule, Over and More by the program; More by the specification.
-/
namespace Go.Proofs.Ytmmibahjjeldgaa.S
open Go Go.Am Go.Proofs.Ytmmibahjjeldgaa.T
set_option maxRecDepth 100000
set_option linter.unusedSimpArgs false
set_option linter.unusedVariables false

theorem s114 (a : Int) (st : Bool) : Iso E 114 [I a] st = some (Bo false) := by
  refine Iso_of (es _ _ _ _) e114 ?_
  simp only [f114]
  simp (disch := first | assumption | omega | (simp only [az]; done)) only [ru, eq_self, if_true, if_false, BEq.rfl, binI, AO.row?, splice, fillL, mmAll, loadV, storeV, zeros, Am.rowAt, Am.part, addOff, Nat.reduceAdd, Nat.reduceMul, Nat.reduceLeDiff, Nat.reduceSub, Nat.reduceLT, Int.reduceEq, Int.reduceLT, Int.reduceLE, Int.reduceGT, Int.reduceGE, Int.reduceAdd, Int.reduceSub, Int.reduceMul, Int.reduceNeg, Int.reduceToNat, reduceCtorEq, reduceIte, bne_self_eq_false]
def cmpV (a b : Int) : Int := if a < b then -1 else if a > b then 1 else 0
theorem s111 (a b : Int) (st : Bool) : Iso E 111 [I a, I b] st = some (I (cmpV a b)) := by
  refine Iso_of (es _ _ _ _) e111 ?_
  simp only [f111, cmpV]
  by_cases h1 : a < b
  · simp (disch := first | assumption | omega | (simp only [az]; done)) only [ru, eq_self, if_true, if_false, BEq.rfl, binI, AO.row?, splice, fillL, mmAll, loadV, storeV, zeros, Am.rowAt, Am.part, addOff, Nat.reduceAdd, Nat.reduceMul, Nat.reduceLeDiff, Nat.reduceSub, Nat.reduceLT, Int.reduceEq, Int.reduceLT, Int.reduceLE, Int.reduceGT, Int.reduceGE, Int.reduceAdd, Int.reduceSub, Int.reduceMul, Int.reduceNeg, Int.reduceToNat, reduceCtorEq, reduceIte, s114, h1, decide_true]
  · by_cases h2 : a > b
    · simp (disch := first | assumption | omega | (simp only [az]; done)) only [ru, eq_self, if_true, if_false, BEq.rfl, binI, AO.row?, splice, fillL, mmAll, loadV, storeV, zeros, Am.rowAt, Am.part, addOff, Nat.reduceAdd, Nat.reduceMul, Nat.reduceLeDiff, Nat.reduceSub, Nat.reduceLT, Int.reduceEq, Int.reduceLT, Int.reduceLE, Int.reduceGT, Int.reduceGE, Int.reduceAdd, Int.reduceSub, Int.reduceMul, Int.reduceNeg, Int.reduceToNat, reduceCtorEq, reduceIte, s114, h1, h2, decide_true, decide_false]
    · simp (disch := first | assumption | omega | (simp only [az]; done)) only [ru, eq_self, if_true, if_false, BEq.rfl, binI, AO.row?, splice, fillL, mmAll, loadV, storeV, zeros, Am.rowAt, Am.part, addOff, Nat.reduceAdd, Nat.reduceMul, Nat.reduceLeDiff, Nat.reduceSub, Nat.reduceLT, Int.reduceEq, Int.reduceLT, Int.reduceLE, Int.reduceGT, Int.reduceGE, Int.reduceAdd, Int.reduceSub, Int.reduceMul, Int.reduceNeg, Int.reduceToNat, reduceCtorEq, reduceIte, s114, h1, h2, decide_false]
section
variable {n : Net} {g p : AV}
def better (n : Net) (a b : Int) : Prop := hiR n a * hR n b > hiR n b * hR n a
instance {n : Net} {a b : Int} : Decidable (better n a b) := inferInstanceAs (Decidable (_ > _))
def cmpN (n : Net) (a b : Int) : Int := cmpV (hiR n a * hR n b) (hiR n b * hR n a)
theorem cmpN_pos {a b : Int} : cmpN n a b > 0 ↔ better n a b := by
  unfold cmpN cmpV better
  split
  · constructor
    · intro h; omega
    · intro h; omega
  · split
    · constructor
      · intro _; assumption
      · intro _; omega
    · constructor
      · intro h; omega
      · intro h; contradiction
theorem s99r (H : NetOk n g p) (G : NetG n) {a b : Int} (a0 : 0 ≤ a) (a1 : a < n.hs.length) (b0 : 0 ≤ b) (b1 : b < n.hs.length) (h : List AO) : Ro E 99 [netV n g p, I a, I b] h = some (I (cmpN n a b)) := by
  have e3 := elem_hl H.g
  have ha := G.h.at a
  have hb := G.h.at b
  have ec : cmpN n a b = cmpV ((n.hs.getD a.toNat default).hi * (n.hs.getD b.toNat default).h) ((n.hs.getD b.toNat default).hi * (n.hs.getD a.toNat default).h) := rfl
  rw [ec]
  obtain ⟨x, hx⟩ : ∃ x, x = n.hs.getD a.toNat default := ⟨_, rfl⟩
  obtain ⟨y, hy⟩ : ∃ y, y = n.hs.getD b.toNat default := ⟨_, rfl⟩
  rw [← hx] at ha ⊢
  rw [← hy] at hb ⊢
  have m1 := mul_bd (a := x.hi) (b := y.h) (by omega) (by omega) (by omega) (by omega)
  have m2 := mul_bd (a := y.hi) (b := x.h) (by omega) (by omega) (by omega) (by omega)
  obtain ⟨h1, hh1⟩ : ∃ h1, h1 = h ++ [AO.cells [I n.m, g, p] false] := ⟨_, rfl⟩
  have at0 : h1[h.length]? = some (.cells [I n.m, g, p] false) := by rw [hh1]; exact atE
  have l1 : h1.length = h.length + 1 := by rw [hh1]; simp
  have at1 : ∀ J, (h1 ++ J)[h.length]? = some (.cells [I n.m, g, p] false) := fun J => by rw [List.getElem?_append_left (by omega)]; exact at0
  have lo : h.length ≤ h1.length := by omega
  have lo2 : h.length ≤ h1.length + 1 := by omega
  refine Ro_of (es _ _ _ _) e99 ?_
  simp only [f99, netV]
  simp (disch := first | assumption | omega | (simp only [az]; done)) only [ru, eq_self, if_true, if_false, BEq.rfl, binI, AO.row?, splice, fillL, mmAll, loadV, storeV, zeros, Am.rowAt, Am.part, addOff, Nat.reduceAdd, Nat.reduceMul, Nat.reduceLeDiff, Nat.reduceSub, Nat.reduceLT, Int.reduceEq, Int.reduceLT, Int.reduceLE, Int.reduceGT, Int.reduceGE, Int.reduceAdd, Int.reduceSub, Int.reduceMul, Int.reduceNeg, Int.reduceToNat, reduceCtorEq, reduceIte, lenV_sl H.g, view_sl H.g, scalar_sl H.g, cells_sl H.g, pure_sl H.g, lenV_sl H.p, view_sl H.p, scalar_sl H.p, cells_sl H.p, pure_sl H.p, ← hh1, at0, at1, e3, a0, a1, b0, b1, ← hx, ← hy, lo, lo2, setT, setT0, getT, getT0, atT, atT0, unhN, unhC, s111, List.drop_succ_cons, List.drop_zero, List.drop_nil, List.take_zero, List.nil_append, List.append_nil]
  rfl
/-- the first of the best of a list -/
def mfU (n : Net) (L : List Int) : Nat → Int
  | 0 => -1
  | k + 1 => if k = 0 then L.getD 0 0 else if better n (L.getD k 0) (mfU n L k) then L.getD k 0 else mfU n L k
theorem mfU_in {L : List Int} : ∀ {k : Nat}, 0 < k → k ≤ L.length → mfU n L k ∈ L
  | 0, h, _ => absurd h (Nat.lt_irrefl 0)
  | k + 1, _, hk => by
    rw [mfU]
    split
    · exact getD_memI (by omega)
    · split
      · exact getD_memI (by omega)
      · exact mfU_in (by omega) (by omega)
theorem mfU_app {L M : List Int} : ∀ {k : Nat}, k ≤ L.length → mfU n (L ++ M) k = mfU n L k
  | 0, _ => rfl
  | k + 1, h => by
    have e : ∀ j, j < L.length → (L ++ M).getD j 0 = L.getD j 0 := fun j hj => by
      rw [List.getD_eq_getElem?_getD, List.getElem?_append_left hj, ← List.getD_eq_getElem?_getD]
    rw [mfU, mfU, mfU_app (by omega), e k (by omega), e 0 (by omega)]
theorem pk_mf {F : List Int} : ∀ {k : Nat}, pk n F k = mfU n ((ofN (List.range k)).filter (may n.ps F)) ((ofN (List.range k)).filter (may n.ps F)).length
  | 0 => rfl
  | k + 1 => by
    rw [nxt_take]
    have ih := pk_mf (F := F) (k := k)
    obtain ⟨L, hL⟩ : ∃ L, L = (ofN (List.range k)).filter (may n.ps F) := ⟨_, rfl⟩
    have hin : ∀ x ∈ L, 0 ≤ x := fun x hx => by
      rw [hL, List.mem_filter, mem_rng] at hx; exact hx.1.1
    rw [← hL] at ih ⊢
    have e : pk n F (k + 1) = if may n.ps F (k : Int) then (if pk n F k < 0 ∨ better n (k : Int) (pk n F k) then (k : Int) else pk n F k) else pk n F k := rfl
    rw [e]
    cases hm : may n.ps F (k : Int)
    · rw [if_neg (by simp), if_neg (by simp), List.append_nil]; exact ih
    · rw [if_pos rfl, if_pos rfl, List.length_append, List.length_singleton, mfU]
      have g1 : (L ++ [(k : Int)]).getD L.length 0 = k := by simp [List.getD_eq_getElem?_getD]
      by_cases h0 : L.length = 0
      · have e0 : L = [] := List.eq_nil_of_length_eq_zero h0
        subst e0
        rw [if_pos (.inl (by rw [ih]; show (-1 : Int) < 0; decide)), if_pos (show ([] : List Int).length = 0 from rfl)]; rfl
      · rw [if_neg h0, g1, mfU_app (Nat.le_refl _), ← ih]
        have := hin _ (mfU_in (n := n) (L := L) (k := L.length) (by omega) (Nat.le_refl _))
        rw [← ih] at this
        by_cases hb : better n (k : Int) (pk n F k)
        · rw [if_pos (.inr hb), if_pos hb]
        · rw [if_neg (by rintro (h | h); omega; exact hb h), if_neg hb]
theorem pick_mf {F : List Int} : pick n F = mfU n (nxt n F) (nxt n F).length := pk_mf
set_option maxHeartbeats 1000000 in
theorem s98 (H : NetOk n g p) (G : NetG n) {L : List Int} {v : AV} (V : IsSl 1 intL L v) (h0 : 0 < L.length) (hl : L.length ≤ 1000) (hin : ∀ x ∈ L, 0 ≤ x ∧ x < n.hs.length) (st : Bool) : Iso E 98 [v, .fn 99 [netV n g p] []] st = some (I (mfU n L L.length)) := by
  have ev := elem_in V
  have h0' : (0 : Int) < L.length := by omega
  refine Iso_of (es _ _ _ _) e98 ?_
  simp only [f98, netV]
  have n1 : ¬ (L.length : Int) < 1 := by omega
  simp (disch := first | assumption | omega | (simp only [az]; done)) only [ru, eq_self, if_true, if_false, BEq.rfl, binI, AO.row?, splice, fillL, mmAll, loadV, storeV, zeros, Am.rowAt, Am.part, addOff, Nat.reduceAdd, Nat.reduceMul, Nat.reduceLeDiff, Nat.reduceSub, Nat.reduceLT, Int.reduceEq, Int.reduceLT, Int.reduceLE, Int.reduceGT, Int.reduceGE, Int.reduceAdd, Int.reduceSub, Int.reduceMul, Int.reduceNeg, Int.reduceToNat, reduceCtorEq, reduceIte, lenV_sl V, view_sl V, scalar_sl V, cells_sl V, pure_sl V, ev, h0', n1, Int.toNat_zero, decide_false]
  refine G_loop_ind (fun m ts h mk => ∃ k : Nat, 0 < k ∧ k ≤ L.length ∧ m = L.length - k ∧ ts.length = 33 ∧ ts.getD 0 .undef = v ∧ ts.getD 1 .undef = .fn 99 [.agg [I n.m, g, p]] [] ∧ ts.getD 5 .undef = I (mfU n L k) ∧ ts.getD 6 .undef = I k ∧ h = [] ∧ mk = []) ?_ _ _ _ _
    ⟨1, by omega, by omega, rfl, rfl, rfl, rfl, rfl, rfl, rfl, rfl⟩
  rintro m ts h mk ih ⟨k, hk0, hk, rfl, hl', q0, q1, q5, q6, rfl, rfl⟩
  rw [lit_all hl']
  simp only [lit0, litS, Nat.reduceAdd, q0, q1, q5, q6]
  simp (disch := first | assumption | omega | (simp only [az]; done)) only [ru, eq_self, if_true, if_false, BEq.rfl, binI, AO.row?, splice, fillL, mmAll, loadV, storeV, zeros, Am.rowAt, Am.part, addOff, Nat.reduceAdd, Nat.reduceMul, Nat.reduceLeDiff, Nat.reduceSub, Nat.reduceLT, Int.reduceEq, Int.reduceLT, Int.reduceLE, Int.reduceGT, Int.reduceGE, Int.reduceAdd, Int.reduceSub, Int.reduceMul, Int.reduceNeg, Int.reduceToNat, reduceCtorEq, reduceIte, lenV_sl V, view_sl V, scalar_sl V, cells_sl V, pure_sl V]
  by_cases hlt : (k : Int) < L.length
  case neg =>
    have ek : k = L.length := by omega
    rw [ek]
    have nlt : ¬ (L.length : Int) < L.length := by omega
    simp (disch := first | assumption | omega | (simp only [az]; done)) only [ru, eq_self, if_true, if_false, BEq.rfl, binI, AO.row?, splice, fillL, mmAll, loadV, storeV, zeros, Am.rowAt, Am.part, addOff, Nat.reduceAdd, Nat.reduceMul, Nat.reduceLeDiff, Nat.reduceSub, Nat.reduceLT, Int.reduceEq, Int.reduceLT, Int.reduceLE, Int.reduceGT, Int.reduceGE, Int.reduceAdd, Int.reduceSub, Int.reduceMul, Int.reduceNeg, Int.reduceToNat, reduceCtorEq, reduceIte, nlt]
  have hk' : k < L.length := by omega
  have a := hin _ (getD_memI hk')
  have b := hin _ (mfU_in (n := n) (L := L) hk0 hk)
  have cr := s99r H G a.1 a.2 b.1 b.2 []
  have stp : mfU n L (k + 1) = if better n (L.getD k 0) (mfU n L k) then L.getD k 0 else mfU n L k := by rw [mfU, if_neg (by omega)]
  simp only [netV] at cr
  obtain ⟨x, hx⟩ : ∃ x, x = L.getD k 0 := ⟨_, rfl⟩
  obtain ⟨y, hy⟩ : ∃ y, y = mfU n L k := ⟨_, rfl⟩
  rw [← hx, ← hy] at stp cr
  rw [← hy]
  have cp := cmpN_pos (n := n) (a := x) (b := y)
  by_cases hb : better n x y
  · have hc : cmpN n x y > 0 := cp.2 hb
    rw [if_pos hb] at stp
    simp (disch := first | assumption | omega | (simp only [az]; done)) only [ru, eq_self, if_true, if_false, BEq.rfl, binI, AO.row?, splice, fillL, mmAll, loadV, storeV, zeros, Am.rowAt, Am.part, addOff, Nat.reduceAdd, Nat.reduceMul, Nat.reduceLeDiff, Nat.reduceSub, Nat.reduceLT, Int.reduceEq, Int.reduceLT, Int.reduceLE, Int.reduceGT, Int.reduceGE, Int.reduceAdd, Int.reduceSub, Int.reduceMul, Int.reduceNeg, Int.reduceToNat, reduceCtorEq, reduceIte, lenV_sl V, view_sl V, scalar_sl V, cells_sl V, pure_sl V, hlt, ev, Int.toNat_natCast, ← hx, exOp_callv1, List.cons_append, List.nil_append, List.append_nil, cr, hc, decide_true]
    exact ih (L.length - (k + 1)) _ _ _ (by omega) ⟨k + 1, by omega, by omega, rfl, rfl, rfl, rfl, by rw [stp]; rfl, rfl, rfl, rfl⟩
  · have hc : ¬ cmpN n x y > 0 := fun h => hb (cp.1 h)
    rw [if_neg hb] at stp
    simp (disch := first | assumption | omega | (simp only [az]; done)) only [ru, eq_self, if_true, if_false, BEq.rfl, binI, AO.row?, splice, fillL, mmAll, loadV, storeV, zeros, Am.rowAt, Am.part, addOff, Nat.reduceAdd, Nat.reduceMul, Nat.reduceLeDiff, Nat.reduceSub, Nat.reduceLT, Int.reduceEq, Int.reduceLT, Int.reduceLE, Int.reduceGT, Int.reduceGE, Int.reduceAdd, Int.reduceSub, Int.reduceMul, Int.reduceNeg, Int.reduceToNat, reduceCtorEq, reduceIte, lenV_sl V, view_sl V, scalar_sl V, cells_sl V, pure_sl V, hlt, ev, Int.toNat_natCast, ← hx, exOp_callv1, List.cons_append, List.nil_append, List.append_nil, cr, hc, decide_false]
    exact ih (L.length - (k + 1)) _ _ _ (by omega) ⟨k + 1, by omega, by omega, rfl, rfl, rfl, rfl, by rw [stp]; rfl, rfl, rfl, rfl⟩
theorem rpre_ok (G : NetG n) {l : List Int} (O : isO n l) : ∀ {k : Nat}, k ≤ n.hs.length → okE (may n.ps) n.hs.length (rpre n k)
  | 0, _ => okE_nil
  | k + 1, hk => by
    have ih := rpre_ok G O (k := k) (by omega)
    obtain ⟨p0, p1, p2, _⟩ := pick_ok (hh1 G) O ih (by rw [rpre_len]; omega)
    exact okE_snoc.2 ⟨ih, p0, p1, p2⟩
set_option maxHeartbeats 2000000 in
theorem s78 (H : NetOk n g p) (G : NetG n) {l : List Int} (O : isO n l) (st : Bool) : Iso E 78 [netV n g p] st = some (resL (rule n)) := by
  have k6 := G.h.le
  refine Iso_of (es _ _ _ _) e78 ?_
  simp only [f78, netV]
  simp (disch := first | assumption | omega | (simp only [az]; done)) only [ru, eq_self, if_true, if_false, BEq.rfl, binI, AO.row?, splice, fillL, mmAll, loadV, storeV, zeros, Am.rowAt, Am.part, addOff, Nat.reduceAdd, Nat.reduceMul, Nat.reduceLeDiff, Nat.reduceSub, Nat.reduceLT, Int.reduceEq, Int.reduceLT, Int.reduceLE, Int.reduceGT, Int.reduceGE, Int.reduceAdd, Int.reduceSub, Int.reduceMul, Int.reduceNeg, Int.reduceToNat, reduceCtorEq, reduceIte, lenV_sl H.g, view_sl H.g, scalar_sl H.g, cells_sl H.g, pure_sl H.g, lenV_sl H.p, view_sl H.p, scalar_sl H.p, cells_sl H.p, pure_sl H.p]
  refine G_loop_ind (fun m ts h mk => ∃ (k : Nat) (o : AV), k ≤ n.hs.length ∧ m = n.hs.length - k ∧ OutE intL 1 1 h o (rpre n k) ∧ h[0]? = some (.cells [I n.m, g, p] false) ∧ ts.length = 21 ∧ ts.getD 1 .undef = .ptr 0 0 ∧ ts.getD 3 .undef = o ∧ ts.getD 7 .undef = I n.hs.length ∧ ts.getD 8 .undef = I k ∧ mk = []) ?_ _ _ _ _
    ⟨0, .nils, Nat.zero_le _, rfl, .inl ⟨rfl, rfl⟩, rfl, rfl, rfl, rfl, rfl, rfl, rfl⟩
  rintro m ts h mk ih ⟨k, o, hk, rfl, ho, h0, hl', q1, q3, q7, q8, rfl⟩
  rw [lit_all hl']
  simp only [lit0, litS, Nat.reduceAdd, q1, q3, q7, q8]
  simp (disch := first | assumption | omega | (simp only [az]; done)) only [ru, eq_self, if_true, if_false, BEq.rfl, binI, AO.row?, splice, fillL, mmAll, loadV, storeV, zeros, Am.rowAt, Am.part, addOff, Nat.reduceAdd, Nat.reduceMul, Nat.reduceLeDiff, Nat.reduceSub, Nat.reduceLT, Int.reduceEq, Int.reduceLT, Int.reduceLE, Int.reduceGT, Int.reduceGE, Int.reduceAdd, Int.reduceSub, Int.reduceMul, Int.reduceNeg, Int.reduceToNat, reduceCtorEq, reduceIte]
  by_cases hlt : (k : Int) < n.hs.length
  case neg =>
    have ek : k = n.hs.length := by omega
    rw [ek, ← rule_rpre] at ho
    have vw := ho.viewL (st := st) (k := 7)
    simp (disch := first | assumption | omega | (simp only [az]; done)) only [ru, eq_self, if_true, if_false, BEq.rfl, binI, AO.row?, splice, fillL, mmAll, loadV, storeV, zeros, Am.rowAt, Am.part, addOff, Nat.reduceAdd, Nat.reduceMul, Nat.reduceLeDiff, Nat.reduceSub, Nat.reduceLT, Int.reduceEq, Int.reduceLT, Int.reduceLE, Int.reduceGT, Int.reduceGE, Int.reduceAdd, Int.reduceSub, Int.reduceMul, Int.reduceNeg, Int.reduceToNat, reduceCtorEq, reduceIte, hlt, vw]
  have n0 := (List.getElem?_eq_some_iff.1 h0).1
  have OK := rpre_ok G O (k := k) (by omega)
  obtain ⟨i, hi, hmi⟩ := next_ex O OK (by rw [rpre_len]; omega)
  have RF := resL_is (rpre n k)
  have lr : (rpre n k).length = k := rpre_len
  have c93 := fun st => s93 H RF (by omega) st
  have NV := resL_is (nxt n (rpre n k))
  have nl : (nxt n (rpre n k)).length ≤ n.hs.length := nxt_len
  have n1 : 0 < (nxt n (rpre n k)).length := List.length_pos_of_mem (nxt_mem.2 ⟨⟨by omega, by omega⟩, hmi⟩)
  have c98 := fun st => s98 H G NV n1 (by omega) (fun x hx => (nxt_mem.1 hx).1) st
  rw [← pick_mf] at c98
  have vc := view_cl H 99
  have fw : ∀ st X, view st (h ++ [X]) 8 o = some (resL (rpre n k)) := fun st X => (ho.fr (Fr.app h [X])).viewL (st := st) (k := 7)
  obtain ⟨fv, hfv⟩ : ∃ q, q = resL (rpre n k) := ⟨_, rfl⟩
  obtain ⟨nv, hnv⟩ : ∃ q, q = resL (nxt n (rpre n k)) := ⟨_, rfl⟩
  rw [← hfv] at RF
  rw [← hnv] at NV
  simp only [netV, ← hfv, ← hnv] at c93 c98 fw
  have t0 := fun X => (at_ap (m := [X]) n0).trans h0
  obtain ⟨x, hx⟩ : ∃ x, x = pick n (rpre n k) := ⟨_, rfl⟩
  simp only [← hx] at c98
  obtain ⟨h7, A, ho7, l7, k7⟩ := outE_apG (eb := 8) (lim := 0) intE intSc (by omega) (by omega) ho (by omega) (Nat.zero_le _) (by omega) x
  rw [lr] at A ho7 k7
  have kz : h7[0]? = some (.cells [I n.m, g, p] false) := by
    rw [k7 0 n0 (fun oo e => by
      rcases ho with ⟨_, h2⟩ | ⟨_, o', h5, h2, _⟩
      · rw [h2] at e; cases e
      · rw [h2] at e; simp only [AV.ms.injEq] at e; omega)]
    exact h0
  simp (disch := first | assumption | omega | (simp only [az]; done)) only [ru, eq_self, if_true, if_false, BEq.rfl, binI, AO.row?, splice, fillL, mmAll, loadV, storeV, zeros, Am.rowAt, Am.part, addOff, Nat.reduceAdd, Nat.reduceMul, Nat.reduceLeDiff, Nat.reduceSub, Nat.reduceLT, Int.reduceEq, Int.reduceLT, Int.reduceLE, Int.reduceGT, Int.reduceGE, Int.reduceAdd, Int.reduceSub, Int.reduceMul, Int.reduceNeg, Int.reduceToNat, reduceCtorEq, reduceIte, lenV_sl H.g, view_sl H.g, scalar_sl H.g, cells_sl H.g, pure_sl H.g, lenV_sl H.p, view_sl H.p, scalar_sl H.p, cells_sl H.p, pure_sl H.p, lenV_sl RF, view_sl RF, scalar_sl RF, cells_sl RF, pure_sl RF, lenV_sl NV, view_sl NV, scalar_sl NV, cells_sl NV, pure_sl NV, hlt, t0, fw, c93, vc, c98, AV.pureV, exOp_litS, AV.pureV.go, Bool.and_true, GO_mapp, GO_mcall0, unhN, unhC, setT, setT0, getT, getT0, atT, atT0, A]
  exact ih (n.hs.length - (k + 1)) _ _ _ (by omega) ⟨k + 1, _, by omega, rfl, by rw [rpre, ← hx]; exact ho7, kz, rfl, rfl, rfl, rfl, rfl, rfl⟩
theorem s37 (H : NetOk n g p) : Iso E 37 [netV n g p] false = some (rulR n) := by
  have c1 := fun st => s18 H st
  simp only [netV, chk] at c1
  refine Iso_of (es _ _ _ _) e37 ?_
  simp only [f37, netV, rulR]
  cases hv : n.valid
  · simp only [hv, Bool.false_eq_true, if_false] at c1
    simp (disch := first | assumption | omega | (simp only [az]; done)) only [ru, eq_self, if_true, if_false, BEq.rfl, binI, AO.row?, splice, fillL, mmAll, loadV, storeV, zeros, Am.rowAt, Am.part, addOff, Nat.reduceAdd, Nat.reduceMul, Nat.reduceLeDiff, Nat.reduceSub, Nat.reduceLT, Int.reduceEq, Int.reduceLT, Int.reduceLE, Int.reduceGT, Int.reduceGE, Int.reduceAdd, Int.reduceSub, Int.reduceMul, Int.reduceNeg, Int.reduceToNat, reduceCtorEq, reduceIte, lenV_sl H.g, view_sl H.g, scalar_sl H.g, cells_sl H.g, pure_sl H.g, lenV_sl H.p, view_sl H.p, scalar_sl H.p, cells_sl H.p, pure_sl H.p, c1, decide_true, decide_false]
  simp only [hv, if_true] at c1
  obtain ⟨G, _, _, l, O⟩ := valid_ok hv
  have c2 := fun st => s78 H G O st
  have RF := resL_is (rule n)
  obtain ⟨F, hF⟩ : ∃ F, F = resL (rule n) := ⟨_, rfl⟩
  rw [← hF] at RF ⊢
  simp only [netV, ← hF] at c2
  simp (disch := first | assumption | omega | (simp only [az]; done)) only [ru, eq_self, if_true, if_false, BEq.rfl, binI, AO.row?, splice, fillL, mmAll, loadV, storeV, zeros, Am.rowAt, Am.part, addOff, Nat.reduceAdd, Nat.reduceMul, Nat.reduceLeDiff, Nat.reduceSub, Nat.reduceLT, Int.reduceEq, Int.reduceLT, Int.reduceLE, Int.reduceGT, Int.reduceGE, Int.reduceAdd, Int.reduceSub, Int.reduceMul, Int.reduceNeg, Int.reduceToNat, reduceCtorEq, reduceIte, lenV_sl H.g, view_sl H.g, scalar_sl H.g, cells_sl H.g, pure_sl H.g, lenV_sl H.p, view_sl H.p, scalar_sl H.p, cells_sl H.p, pure_sl H.p, lenV_sl RF, view_sl RF, scalar_sl RF, cells_sl RF, pure_sl RF, c1, c2, decide_true, decide_false, bne_self_eq_false]
theorem s39 (H : NetOk n g p) (st : Bool) : Iso E 39 [netV n g p] st = some (oveR n) := by
  have c1 := fun st => s18 H st
  simp only [netV, chk] at c1
  refine Iso_of (es _ _ _ _) e39 ?_
  simp only [f39, netV, oveR]
  cases hv : n.valid
  · simp only [hv, Bool.false_eq_true, if_false] at c1
    simp (disch := first | assumption | omega | (simp only [az]; done)) only [ru, eq_self, if_true, if_false, BEq.rfl, binI, AO.row?, splice, fillL, mmAll, loadV, storeV, zeros, Am.rowAt, Am.part, addOff, Nat.reduceAdd, Nat.reduceMul, Nat.reduceLeDiff, Nat.reduceSub, Nat.reduceLT, Int.reduceEq, Int.reduceLT, Int.reduceLE, Int.reduceGT, Int.reduceGE, Int.reduceAdd, Int.reduceSub, Int.reduceMul, Int.reduceNeg, Int.reduceToNat, reduceCtorEq, reduceIte, lenV_sl H.g, view_sl H.g, scalar_sl H.g, cells_sl H.g, pure_sl H.g, lenV_sl H.p, view_sl H.p, scalar_sl H.p, cells_sl H.p, pure_sl H.p, c1, decide_true, decide_false]
  simp only [hv, if_true] at c1
  obtain ⟨G, _, _, l, O⟩ := valid_ok hv
  have R := rule_isO G O
  have c2 := fun st => s78 H G O st
  have RF := resL_is (rule n)
  have c3 := fun st => s71 H G RF (ord_len G R) (fun j hj => ⟨(R.2 j hj).1, (R.2 j hj).2.1⟩) st
  have c4 := c70l H G (ords_ne O)
  have vc := view_cl H 71
  have b1 := worst_bd G R
  have b2 := lea_bd G O
  obtain ⟨F, hF⟩ : ∃ F, F = resL (rule n) := ⟨_, rfl⟩
  obtain ⟨W, hW⟩ : ∃ W, W = worst n (rule n) := ⟨_, rfl⟩
  obtain ⟨Z, hZ⟩ : ∃ Z, Z = lea n := ⟨_, rfl⟩
  obtain ⟨F2, hF2⟩ : ∃ F, F = resL (fir n) := ⟨_, rfl⟩
  rw [← hF] at RF
  rw [← hW] at b1 ⊢
  rw [← hZ] at b2 c4 ⊢
  rw [← hF2] at c4
  simp only [netV, ← hF, ← hW] at c2 c3 c4
  simp (disch := first | assumption | omega | (simp only [az]; done)) only [ru, eq_self, if_true, if_false, BEq.rfl, binI, AO.row?, splice, fillL, mmAll, loadV, storeV, zeros, Am.rowAt, Am.part, addOff, Nat.reduceAdd, Nat.reduceMul, Nat.reduceLeDiff, Nat.reduceSub, Nat.reduceLT, Int.reduceEq, Int.reduceLT, Int.reduceLE, Int.reduceGT, Int.reduceGE, Int.reduceAdd, Int.reduceSub, Int.reduceMul, Int.reduceNeg, Int.reduceToNat, reduceCtorEq, reduceIte, lenV_sl H.g, view_sl H.g, scalar_sl H.g, cells_sl H.g, pure_sl H.g, lenV_sl H.p, view_sl H.p, scalar_sl H.p, cells_sl H.p, pure_sl H.p, lenV_sl RF, view_sl RF, scalar_sl RF, cells_sl RF, pure_sl RF, c1, c2, c3, c4, vc, AV.pureV, AV.pureV.go, decide_true, decide_false, bne_self_eq_false]
/-! one mender more -/
def Net.more (n : Net) : Net := ⟨n.m + 1, n.hs, n.ps⟩
def morR (n : Net) : AV := if n.valid then (if n.m = 3 then .tup [I 0, I 2] else .tup [I (lea n - lea n.more), I 0]) else .tup [I 0, I 40]
theorem more_ok (H : NetOk n g p) : NetOk n.more g p := ⟨⟨H.g, H.p⟩, H.sg, H.sp⟩
theorem more_g (G : NetG n) (h : n.m ≠ 3) : NetG n.more := ⟨G.h, by have := G.m1; show 1 ≤ n.m + 1; omega, by have := G.m2; show n.m + 1 ≤ 3; omega, G.p⟩
theorem more_O {l : List Int} (O : isO n l) : isO n.more l := O
theorem more_valid (hv : n.valid = true) (h : n.m ≠ 3) : n.more.valid = true := by
  have G := (valid_ok hv).1
  have m1 := G.m1; have m2 := G.m2
  have e : inR (n.m + 1) 1 3 = true := inR_iff.2 ⟨by omega, by omega⟩
  simp only [Net.valid, Bool.and_eq_true] at hv ⊢
  exact ⟨⟨⟨⟨⟨e, hv.1.1.1.1.2⟩, hv.1.1.1.2⟩, hv.1.1.2⟩, hv.1.2⟩, hv.2⟩
set_option maxHeartbeats 1000000 in
theorem s45 (H : NetOk n g p) (st : Bool) : Iso E 45 [netV n g p] st = some (morR n) := by
  have c1 := fun st => s18 H st
  simp only [netV, chk] at c1
  refine Iso_of (es _ _ _ _) e45 ?_
  simp only [f45, netV, morR]
  cases hv : n.valid
  · simp only [hv, Bool.false_eq_true, if_false] at c1
    simp (disch := first | assumption | omega | (simp only [az]; done)) only [ru, eq_self, if_true, if_false, BEq.rfl, binI, AO.row?, splice, fillL, mmAll, loadV, storeV, zeros, Am.rowAt, Am.part, addOff, Nat.reduceAdd, Nat.reduceMul, Nat.reduceLeDiff, Nat.reduceSub, Nat.reduceLT, Int.reduceEq, Int.reduceLT, Int.reduceLE, Int.reduceGT, Int.reduceGE, Int.reduceAdd, Int.reduceSub, Int.reduceMul, Int.reduceNeg, Int.reduceToNat, reduceCtorEq, reduceIte, lenV_sl H.g, view_sl H.g, scalar_sl H.g, cells_sl H.g, pure_sl H.g, lenV_sl H.p, view_sl H.p, scalar_sl H.p, cells_sl H.p, pure_sl H.p, c1, decide_true, decide_false]
  simp only [hv, if_true] at c1
  by_cases h3 : n.m = 3
  · have hb : (n.m == 3) = true := by simp [h3]
    rw [if_pos h3]
    simp (disch := first | assumption | omega | (simp only [az]; done)) only [ru, eq_self, if_true, if_false, BEq.rfl, binI, AO.row?, splice, fillL, mmAll, loadV, storeV, zeros, Am.rowAt, Am.part, addOff, Nat.reduceAdd, Nat.reduceMul, Nat.reduceLeDiff, Nat.reduceSub, Nat.reduceLT, Int.reduceEq, Int.reduceLT, Int.reduceLE, Int.reduceGT, Int.reduceGE, Int.reduceAdd, Int.reduceSub, Int.reduceMul, Int.reduceNeg, Int.reduceToNat, reduceCtorEq, reduceIte, lenV_sl H.g, view_sl H.g, scalar_sl H.g, cells_sl H.g, pure_sl H.g, lenV_sl H.p, view_sl H.p, scalar_sl H.p, cells_sl H.p, pure_sl H.p, c1, hb, decide_true, decide_false, bne_self_eq_false]
  have hb : (n.m == 3) = false := by simp [h3]
  rw [if_neg h3]
  obtain ⟨G, _, _, l, O⟩ := valid_ok hv
  have G2 := more_g G h3
  have H2 := more_ok H
  have m1 := G.m1; have m2 := G.m2
  have c2 := c70l H G (ords_ne O)
  have c3 := c70l H2 G2 (ords_ne (more_O O))
  have vc := view_cl H 71
  have vc2 := view_cl H2 71
  have b1 := lea_bd G O
  have b2 := lea_bd G2 (more_O O)
  obtain ⟨Z, hZ⟩ : ∃ Z, Z = lea n := ⟨_, rfl⟩
  obtain ⟨F, hF⟩ : ∃ F, F = resL (fir n) := ⟨_, rfl⟩
  obtain ⟨Z2, hZ2⟩ : ∃ Z, Z = lea n.more := ⟨_, rfl⟩
  obtain ⟨F2, hF2⟩ : ∃ F, F = resL (fir n.more) := ⟨_, rfl⟩
  rw [← hZ] at c2 b1 ⊢
  rw [← hF] at c2
  rw [← hZ2] at c3 b2 ⊢
  rw [← hF2] at c3
  have c3' : Iso E 70 [.agg [I (n.m + 1), g, p], .fn 71 [.agg [I (n.m + 1), g, p]] []] false = some (.agg [I Z2, F2, Bo true]) := c3
  have vc2' : ∀ h, view false h 8 (.fn 71 [.agg [I (n.m + 1), g, p]] []) = some (.fn 71 [.agg [I (n.m + 1), g, p]] []) := vc2
  simp only [netV] at c2
  simp (disch := first | assumption | omega | (simp only [az]; done)) only [ru, eq_self, if_true, if_false, BEq.rfl, binI, AO.row?, splice, fillL, mmAll, loadV, storeV, zeros, Am.rowAt, Am.part, addOff, Nat.reduceAdd, Nat.reduceMul, Nat.reduceLeDiff, Nat.reduceSub, Nat.reduceLT, Int.reduceEq, Int.reduceLT, Int.reduceLE, Int.reduceGT, Int.reduceGE, Int.reduceAdd, Int.reduceSub, Int.reduceMul, Int.reduceNeg, Int.reduceToNat, reduceCtorEq, reduceIte, lenV_sl H.g, view_sl H.g, scalar_sl H.g, cells_sl H.g, pure_sl H.g, lenV_sl H.p, view_sl H.p, scalar_sl H.p, cells_sl H.p, pure_sl H.p, c1, hb, c2, c3', vc, vc2', AV.pureV, AV.pureV.go, unhN, unhC, setT, setT0, getT, getT0, atT, atT0, decide_true, decide_false, bne_self_eq_false]
set_option maxHeartbeats 1000000 in
theorem s46 (H : NetOk n g p) (st : Bool) : Iso E 46 [netV n g p] st = some (morR n) := by
  have c1 := fun st => s19 H st
  have c16 := fun st => s16 H st
  simp only [netV, chk, cpN] at c1 c16
  refine Iso_of (es _ _ _ _) e46 ?_
  simp only [f46, netV, morR]
  cases hv : n.valid
  · simp only [hv, Bool.false_eq_true, if_false] at c1
    simp (disch := first | assumption | omega | (simp only [az]; done)) only [ru, eq_self, if_true, if_false, BEq.rfl, binI, AO.row?, splice, fillL, mmAll, loadV, storeV, zeros, Am.rowAt, Am.part, addOff, Nat.reduceAdd, Nat.reduceMul, Nat.reduceLeDiff, Nat.reduceSub, Nat.reduceLT, Int.reduceEq, Int.reduceLT, Int.reduceLE, Int.reduceGT, Int.reduceGE, Int.reduceAdd, Int.reduceSub, Int.reduceMul, Int.reduceNeg, Int.reduceToNat, reduceCtorEq, reduceIte, lenV_sl H.g, view_sl H.g, scalar_sl H.g, cells_sl H.g, pure_sl H.g, lenV_sl H.p, view_sl H.p, scalar_sl H.p, cells_sl H.p, pure_sl H.p, c1, decide_true, decide_false]
  simp only [hv, if_true] at c1
  by_cases h3 : n.m = 3
  · have hb : (n.m == 3) = true := by simp [h3]
    rw [if_pos h3]
    simp (disch := first | assumption | omega | (simp only [az]; done)) only [ru, eq_self, if_true, if_false, BEq.rfl, binI, AO.row?, splice, fillL, mmAll, loadV, storeV, zeros, Am.rowAt, Am.part, addOff, Nat.reduceAdd, Nat.reduceMul, Nat.reduceLeDiff, Nat.reduceSub, Nat.reduceLT, Int.reduceEq, Int.reduceLT, Int.reduceLE, Int.reduceGT, Int.reduceGE, Int.reduceAdd, Int.reduceSub, Int.reduceMul, Int.reduceNeg, Int.reduceToNat, reduceCtorEq, reduceIte, lenV_sl H.g, view_sl H.g, scalar_sl H.g, cells_sl H.g, pure_sl H.g, lenV_sl H.p, view_sl H.p, scalar_sl H.p, cells_sl H.p, pure_sl H.p, c1, hb, decide_true, decide_false, bne_self_eq_false]
  have hb : (n.m == 3) = false := by simp [h3]
  rw [if_neg h3]
  obtain ⟨G, _, _, l, O⟩ := valid_ok hv
  have G2 := more_g G h3
  have H2 : NetOk n.more (slV 4 Hl.e n.hs) (slV 2 Pr.e n.ps) := ⟨⟨slV_is, slV_is⟩, H.sg, H.sp⟩
  have m1 := G.m1; have m2 := G.m2
  have c2 := fun st => s72 H G (ords_ne O) st
  have c3 := fun st => s72 H2 G2 (ords_ne (more_O O)) st
  have b1 := lea_bd G O
  have b2 := lea_bd G2 (more_O O)
  obtain ⟨gv, hgv⟩ : ∃ q, q = slV 4 Hl.e n.hs := ⟨_, rfl⟩
  obtain ⟨pv, hpv⟩ : ∃ q, q = slV 2 Pr.e n.ps := ⟨_, rfl⟩
  rw [← hgv, ← hpv] at H2
  simp only [← hgv, ← hpv] at c16 c3
  obtain ⟨Z, hZ⟩ : ∃ Z, Z = lea n := ⟨_, rfl⟩
  obtain ⟨Z2, hZ2⟩ : ∃ Z, Z = lea n.more := ⟨_, rfl⟩
  rw [← hZ] at b1 ⊢
  rw [← hZ2] at b2 ⊢
  have c3' : ∀ st, Iso E 72 [.agg [I (n.m + 1), gv, pv]] st = some (I Z2) := fun st => hZ2 ▸ c3 st
  simp only [netV, ← hZ] at c2
  simp (disch := first | assumption | omega | (simp only [az]; done)) only [ru, eq_self, if_true, if_false, BEq.rfl, binI, AO.row?, splice, fillL, mmAll, loadV, storeV, zeros, Am.rowAt, Am.part, addOff, Nat.reduceAdd, Nat.reduceMul, Nat.reduceLeDiff, Nat.reduceSub, Nat.reduceLT, Int.reduceEq, Int.reduceLT, Int.reduceLE, Int.reduceGT, Int.reduceGE, Int.reduceAdd, Int.reduceSub, Int.reduceMul, Int.reduceNeg, Int.reduceToNat, reduceCtorEq, reduceIte, lenV_sl H.g, view_sl H.g, scalar_sl H.g, cells_sl H.g, pure_sl H.g, lenV_sl H.p, view_sl H.p, scalar_sl H.p, cells_sl H.p, pure_sl H.p, lenV_sl H2.g, view_sl H2.g, scalar_sl H2.g, cells_sl H2.g, pure_sl H2.g, lenV_sl H2.p, view_sl H2.p, scalar_sl H2.p, cells_sl H2.p, pure_sl H2.p, c1, c16, hb, c2, c3', setE, atE, decide_true, decide_false, bne_self_eq_false]
end
end Go.Proofs.Ytmmibahjjeldgaa.S

/-
The inputs of the laws of stage 4, as the abstract machine has them.
-/
namespace Go.Proofs.Ytmmibahjjeldgaa.S
open Go Go.Am Go.Proofs.Ytmmibahjjeldgaa.T
set_option linter.unusedVariables false
set_option maxRecDepth 100000

theorem z3 : Try.prog.cellsOf 3 = 1 := by kernel_rfl
theorem z22 : Try.prog.cellsOf 22 = 1 := by kernel_rfl
theorem z23 : Try.prog.cellsOf 23 = 1 := by kernel_rfl
theorem z25 : Try.prog.cellsOf 25 = 3 := by kernel_rfl
theorem z26 : Try.prog.cellsOf 26 = 1 := by kernel_rfl
theorem z38 : Try.prog.cellsOf 38 = 2 := by kernel_rfl
theorem z54 : Try.prog.cellsOf 54 = 4 := by kernel_rfl
theorem z57 : Try.prog.cellsOf 57 = 2 := by kernel_rfl
theorem z59 : Try.prog.cellsOf 59 = 3 := by kernel_rfl
theorem z64 : Try.prog.cellsOf 64 = 3 := by kernel_rfl

theorem wfIc {d : Nat} {c : List AV} (h : WfC Try.prog (d + 1) 3 c) : ∃ i, c = [I i] ∧ True := by
  obtain ⟨i, e, hw⟩ := wf_int Try.underlying3 h
  exact ⟨i, e, trivial⟩
theorem wfI {d : Nat} {a : AV} (h : WfC Try.prog (d + 1) 3 [a]) : ∃ i, a = I i ∧ True := by
  obtain ⟨i, e, _⟩ := wfIc h
  simp only [List.cons.injEq, and_true] at e
  exact ⟨i, e, trivial⟩
theorem wfSpn {d : Nat} {c : List AV} (h : WfC Try.prog (d + 2) 38 c) : ∃ a b : Int, c = [I a, I b] := by
  obtain ⟨hl, hf⟩ := wf_struct Try.underlying38 h
  rw [z38] at hl
  match c, hl with
  | [x, y], _ =>
    have h0 : WfC Try.prog (d + 1) 3 (([x, y].drop 0).take (Try.prog.cellsOf 3)) := hf 0 _ rfl
    have h1 : WfC Try.prog (d + 1) 3 (([x, y].drop 1).take (Try.prog.cellsOf 3)) := hf 1 _ rfl
    rw [z3] at h0 h1
    obtain ⟨i, rfl, _⟩ := wfI (show WfC Try.prog (d + 1) 3 [x] from h0)
    obtain ⟨j, rfl, _⟩ := wfI (show WfC Try.prog (d + 1) 3 [y] from h1)
    exact ⟨i, j, rfl⟩
theorem wfPr {d : Nat} {c : List AV} (h : WfC Try.prog (d + 2) 57 c) : ∃ s : Pr, c = s.e ∧ True := by
  obtain ⟨hl, hf⟩ := wf_struct Try.underlying57 h
  rw [z57] at hl
  match c, hl with
  | [x, y], _ =>
    have h0 : WfC Try.prog (d + 1) 3 (([x, y].drop 0).take (Try.prog.cellsOf 3)) := hf 0 _ rfl
    have h1 : WfC Try.prog (d + 1) 3 (([x, y].drop 1).take (Try.prog.cellsOf 3)) := hf 1 _ rfl
    rw [z3] at h0 h1
    obtain ⟨i, rfl, _⟩ := wfI (show WfC Try.prog (d + 1) 3 [x] from h0)
    obtain ⟨j, rfl, _⟩ := wfI (show WfC Try.prog (d + 1) 3 [y] from h1)
    exact ⟨⟨i, j⟩, rfl, trivial⟩
theorem wfPair {d : Nat} {c : List AV} (h : WfC Try.prog (d + 2) 57 c) : ∃ a b : Int, c = [I a, I b] := by
  obtain ⟨s, e, _⟩ := wfPr h
  exact ⟨s.a, s.b, e⟩
theorem wfHl {d : Nat} {c : List AV} (h : WfC Try.prog (d + 3) 54 c) : ∃ s : Hl, c = s.e ∧ True := by
  obtain ⟨hl, hf⟩ := wf_struct Try.underlying54 h
  rw [z54] at hl
  match c, hl with
  | [x, y, z, u], _ =>
    have h0 : WfC Try.prog (d + 2) 3 (([x, y, z, u].drop 0).take (Try.prog.cellsOf 3)) := hf 0 _ rfl
    have h1 : WfC Try.prog (d + 2) 38 (([x, y, z, u].drop 1).take (Try.prog.cellsOf 38)) := hf 1 _ rfl
    have h2 : WfC Try.prog (d + 2) 3 (([x, y, z, u].drop 3).take (Try.prog.cellsOf 3)) := hf 2 _ rfl
    rw [z3] at h0 h2
    rw [z38] at h1
    obtain ⟨i, rfl, _⟩ := wfI (show WfC Try.prog (d + 1 + 1) 3 [x] from h0)
    obtain ⟨a, b, e⟩ := wfSpn (show WfC Try.prog (d + 2) 38 [y, z] from h1)
    obtain ⟨j, rfl, _⟩ := wfI (show WfC Try.prog (d + 1 + 1) 3 [u] from h2)
    simp only [List.cons.injEq, and_true] at e
    obtain ⟨rfl, rfl⟩ := e
    exact ⟨⟨i, a, b, j⟩, rfl, trivial⟩
theorem wfNums {d : Nat} {c : List AV} (h : WfC Try.prog (d + 2) 26 c) : ∃ (l : List Int) (v : AV), c = [v] ∧ IsSl 1 intL l v := by
  obtain ⟨l, v, e, iv, _⟩ := wf_sl (d := d + 1) (enc := intL) (p := fun _ => True) Try.underlying26 z3 (fun c hc => wfIc hc) h
  exact ⟨l, v, e, iv⟩
theorem wfNet {d : Nat} {c : List AV} (h : WfC Try.prog (d + 5) 25 c) : ∃ (n : Net) (g p : AV), AV.agg c = netV n g p ∧ NetIn n g p := by
  obtain ⟨hl, hf⟩ := wf_struct Try.underlying25 h
  rw [z25] at hl
  match c, hl with
  | [x, y, z], _ =>
    have h0 : WfC Try.prog (d + 4) 3 (([x, y, z].drop 0).take (Try.prog.cellsOf 3)) := hf 0 _ rfl
    have h1 : WfC Try.prog (d + 4) 22 (([x, y, z].drop 1).take (Try.prog.cellsOf 22)) := hf 1 _ rfl
    have h2 : WfC Try.prog (d + 4) 23 (([x, y, z].drop 2).take (Try.prog.cellsOf 23)) := hf 2 _ rfl
    rw [z3] at h0
    rw [z22] at h1
    rw [z23] at h2
    obtain ⟨m, rfl, _⟩ := wfI (show WfC Try.prog (d + 3 + 1) 3 [x] from h0)
    obtain ⟨lo, o, e2, io, _⟩ := wf_sl (d := d + 3) (enc := Hl.e) (p := fun _ => True) Try.underlying22 z54 (fun c hc => wfHl hc) (show WfC Try.prog (d + 4) 22 [y] from h1)
    obtain ⟨lw, v, e3, iw, _⟩ := wf_sl (d := d + 3) (enc := Pr.e) (p := fun _ => True) Try.underlying23 z57 (fun c hc => wfPr hc) (show WfC Try.prog (d + 4) 23 [z] from h2)
    simp only [List.cons.injEq, and_true] at e2 e3
    subst e2; subst e3
    exact ⟨⟨m, lo, lw⟩, y, z, rfl, ⟨io, iw⟩⟩
theorem wfPart {d : Nat} {c : List AV} (h : WfC Try.prog (d + 3) 59 c) : ∃ a b e : Int, c = [I a, I b, I e] := by
  obtain ⟨hl, hf⟩ := wf_struct Try.underlying59 h
  rw [z59] at hl
  match c, hl with
  | [x, y, z], _ =>
    have h0 : WfC Try.prog (d + 2) 3 (([x, y, z].drop 0).take (Try.prog.cellsOf 3)) := hf 0 _ rfl
    have h1 : WfC Try.prog (d + 2) 38 (([x, y, z].drop 1).take (Try.prog.cellsOf 38)) := hf 1 _ rfl
    rw [z3] at h0
    rw [z38] at h1
    obtain ⟨i, rfl, _⟩ := wfI (show WfC Try.prog (d + 1 + 1) 3 [x] from h0)
    obtain ⟨a, b, e⟩ := wfSpn (show WfC Try.prog (d + 2) 38 [y, z] from h1)
    simp only [List.cons.injEq, and_true] at e
    obtain ⟨rfl, rfl⟩ := e
    exact ⟨i, a, b, rfl⟩
theorem wfTrial {d : Nat} {c : List AV} (h : WfC Try.prog (d + 3) 64 c) : ∃ (a b e : List Int) (u v w : AV), c = [u, v, w] ∧ IsSl 1 intL a u ∧ IsSl 1 intL b v ∧ IsSl 1 intL e w := by
  obtain ⟨hl, hf⟩ := wf_struct Try.underlying64 h
  rw [z64] at hl
  match c, hl with
  | [x, y, z], _ =>
    have h0 : WfC Try.prog (d + 2) 26 (([x, y, z].drop 0).take (Try.prog.cellsOf 26)) := hf 0 _ rfl
    have h1 : WfC Try.prog (d + 2) 26 (([x, y, z].drop 1).take (Try.prog.cellsOf 26)) := hf 1 _ rfl
    have h2 : WfC Try.prog (d + 2) 26 (([x, y, z].drop 2).take (Try.prog.cellsOf 26)) := hf 2 _ rfl
    rw [z26] at h0 h1 h2
    obtain ⟨a, u, e0, iu⟩ := wfNums (show WfC Try.prog (d + 2) 26 [x] from h0)
    obtain ⟨b, v, e1, iv⟩ := wfNums (show WfC Try.prog (d + 2) 26 [y] from h1)
    obtain ⟨e, w, e2, iw⟩ := wfNums (show WfC Try.prog (d + 2) 26 [z] from h2)
    simp only [List.cons.injEq, and_true] at e0 e1 e2
    subst e0; subst e1; subst e2
    exact ⟨a, b, e, x, y, z, rfl, iu, iv, iw⟩
theorem own : ownKnob Try.prog.godebug = none := by kernel_rfl
theorem laid : laidOutB Try.prog = true := by kernel_rfl
def netW : Value := .agg #[.int .i64 0, .slice none 0 0, .slice none 0 0]
def twoW : Value := .agg #[.int .i64 0, .int .i64 0]
def threeW : Value := .agg #[.int .i64 0, .int .i64 0, .int .i64 0]
def trialW : Value := .agg #[.slice none 0 0, .slice none 0 0, .slice none 0 0]
end Go.Proofs.Ytmmibahjjeldgaa.S

namespace Go.Proofs.Ytmmibahjjeldgaa.S
open Go Go.Am Go.Proofs.Ytmmibahjjeldgaa.T
theorem works_run : (callN E 100 (.fn 15) [] [] 0).map (·.1) = some (.bool true) := by kernel_rfl
end Go.Proofs.Ytmmibahjjeldgaa.S

