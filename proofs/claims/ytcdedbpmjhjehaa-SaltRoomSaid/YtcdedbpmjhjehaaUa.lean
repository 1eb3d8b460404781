/-
SaltRoom: greater barrels, and one more.
-/
import Derived.Test.YtcdedbpmjhjehaaSx
namespace Go.Proofs.Ytcdedbpmjhjehaa.S
open Go Go.Am Go.Proofs.Ytcdedbpmjhjehaa.T
set_option maxRecDepth 100000
set_option linter.unusedSimpArgs false
set_option linter.unusedVariables false

/-- with other barrels -/
def Hs.wb (h : Hs) (bs : List Int) : Hs := { h with bs := bs }
/-- barrels that are not less -/
structure Rm (bs cs : List Int) : Prop where
  l : bs.length ≤ cs.length
  b : ∀ i, i < bs.length → bs.getD i 0 ≤ cs.getD i 0
theorem Rm.refl (bs : List Int) : Rm bs bs := ⟨Nat.le_refl _, fun _ _ => Int.le_refl _⟩
theorem Rm.trans {a b c : List Int} (h : Rm a b) (h' : Rm b c) : Rm a c := ⟨Nat.le_trans h.l h'.l, fun i hi => Int.le_trans (h.b i hi) (h'.b i (Nat.lt_of_lt_of_le hi h.l))⟩
theorem Rm.snoc (bs : List Int) (s : Int) : Rm bs (bs ++ [s]) := ⟨by simp, fun i hi => by
  rw [List.getD_eq_getElem?_getD, List.getD_eq_getElem?_getD, List.getElem?_append_left hi]; exact Int.le_refl _⟩
theorem Rm.set {bs : List Int} {i : Nat} {v : Int} (h : bs.getD i 0 ≤ v) : Rm bs (bs.set i v) := ⟨by simp, fun j hj => by
  by_cases e : i = j
  · subst e
    have : (bs.set i v).getD i 0 = v := by rw [List.getD_eq_getElem?_getD, List.getElem?_set_self hj]; rfl
    rw [this]; exact h
  · rw [List.getD_eq_getElem?_getD, List.getD_eq_getElem?_getD, List.getElem?_set_ne e]; exact Int.le_refl _⟩
/-- pieces of the law's code -/
def sq : ACode → ACode
  | .seq _ b => b
  | c => c
def fq : ACode → ACode
  | .seq a _ => a
  | c => c
def tailC8 : ACode := sq (sq (sq (sq (sq f8.body))))
def tailD8 : ACode := sq (sq (sq (sq (sq (sq tailC8)))))
theorem tailC_eq : tailC8 = .seq (fq (sq (sq (sq (sq (sq f8.body)))))) (.seq (fq (sq (sq (sq (sq (sq (sq f8.body))))))) (.seq (fq (sq (sq (sq (sq (sq (sq (sq f8.body)))))))) (.seq (fq (sq (sq (sq (sq (sq (sq (sq (sq f8.body))))))))) (.seq (fq (sq (sq (sq (sq (sq (sq (sq (sq (sq f8.body)))))))))) (.seq (fq (sq (sq (sq (sq (sq (sq (sq (sq (sq (sq f8.body))))))))))) (tailD8)))))) := rfl
theorem body8 : f8.body = .seq (fq f8.body) (.seq (fq (sq f8.body)) (.seq (fq (sq (sq f8.body))) (.seq (fq (sq (sq (sq f8.body)))) (.seq (fq (sq (sq (sq (sq f8.body))))) tailC8)))) := rfl
theorem tmps8 : f8.ntmps = 202 := rfl
theorem res8 : f8.results = [.tmp 6] := rfl
section
variable {h : Hs} {k p b : AV}
theorem out_no {x : List Int} {bs : List Int} (hx : ∀ c ∈ x, c < bs.length) {c : Nat} (hc : bs.length ≤ c) : prs h.ps x c = [] := prs_none fun hm => by
  have := hx _ hm; omega
theorem rm_ft {cs : List Int} (R : Rm h.bs cs) (G : HG (h.wb cs)) {x : List Int} (hx : ∀ c ∈ x, c < h.bs.length) (hf : h.ft x = true) : (h.wb cs).ft x = true := by
  rw [Hs.ft_iff]
  intro c hc
  show ndP h.ks h.fl (prs h.ps x c) ≤ cs.getD c 0
  by_cases hcc : c < h.bs.length
  · exact Int.le_trans (Hs.ft_iff.1 hf c hcc) (R.b c hcc)
  · rw [out_no (bs := h.bs) hx (by omega)]
    have := (G.b c hc).1
    have e : (h.wb cs).bs.getD c 0 = cs.getD c 0 := rfl
    rw [e] at this
    simp [ndP, slP, lbP, sm]; exact this
theorem rm_sums {cs : List Int} (R : Rm h.bs cs) {x : List Int} (hx : ∀ c ∈ x, c < h.bs.length) {f : List Pr → Int} (h0 : f [] = 0) : sums cs.length (fun c => f (prs h.ps x c)) = sums h.bs.length fun c => f (prs h.ps x c) :=
  sums_zero R.l fun c h1 _ => by rw [out_no (bs := h.bs) hx h1, h0]
theorem rm_pk {cs : List Int} (R : Rm h.bs cs) (G : HG (h.wb cs)) {x : List Int} (P : Pkg h x) : Pkg (h.wb cs) x := ⟨P.l, fun c hc => by have := P.c c hc; have := R.l; show 0 ≤ c ∧ c < cs.length; omega, rm_ft R G (fun c hc => (P.c c hc).2) P.f⟩
theorem rm_po {cs : List Int} (R : Rm h.bs cs) (G : HG (h.wb cs)) {x : List Int} (P : Pko h x) : Pko (h.wb cs) x := ⟨P.l, fun c hc => by have := P.c c hc; have := R.l; show -1 ≤ c ∧ c < cs.length; omega, rm_ft R G (fun c hc => (P.c c hc).2) P.f⟩
theorem rm_sa {cs : List Int} (R : Rm h.bs cs) {x : List Int} (hx : ∀ c ∈ x, c < h.bs.length) : (h.wb cs).sa x = h.sa x := rm_sums R hx (f := fun l => slP h.ks h.fl l) rfl
theorem rm_us {cs : List Int} (R : Rm h.bs cs) {x : List Int} (hx : ∀ c ∈ x, c < h.bs.length) : (h.wb cs).us x = h.us x := rm_sums R hx (f := fun l => if l.length = 0 then 0 else 1) rfl
theorem rm_ea {cs : List Int} (R : Rm h.bs cs) {x : List Int} (hx : ∀ c ∈ x, c < h.bs.length) (d : Int) : (h.wb cs).ea d x = h.ea d x := rm_sums R hx (f := fun l => if dyP h.ks l ≤ d then lbP l else 0) (by simp [lbP, sm])
/-- what more room comes to -/
structure More (h o : Hs) : Prop where
  p : ∀ x, Pkg h x → Pkg o x
  m : h.pk ≠ [] → o.pk ≠ [] ∧ lsf o.sa o.pk ≤ lsf h.sa h.pk ∧ lsf o.us o.pk ≤ lsf h.us h.pk
  e : ∀ d, mst (h.ea d) h.pk ≤ mst (o.ea d) o.pk
  s : ∀ s, mst (h.sto s) h.po ≤ mst (o.sto s) o.po
theorem rm_more {cs : List Int} (G : HG h) (R : Rm h.bs cs) (G' : HG (h.wb cs)) : More h (h.wb cs) where
  p := fun x P => rm_pk R G' P
  m := fun hn => by
    obtain ⟨⟨x, hx, ex⟩, _⟩ := lsf_spec (f := h.sa) hn
    obtain ⟨⟨y, hy, ey⟩, _⟩ := lsf_spec (f := h.us) hn
    have Px := G.mem_pk.1 hx
    have Py := G.mem_pk.1 hy
    have mx := G'.mem_pk.2 (rm_pk R G' Px)
    have my := G'.mem_pk.2 (rm_pk R G' Py)
    have hn' : (h.wb cs).pk ≠ [] := fun e => by rw [e] at mx; cases mx
    have h1 := (lsf_spec (f := (h.wb cs).sa) hn').2 x mx
    have h2 := (lsf_spec (f := (h.wb cs).us) hn').2 y my
    rw [rm_sa R fun c hc => (Px.c c hc).2, ex] at h1
    rw [rm_us R fun c hc => (Py.c c hc).2, ey] at h2
    exact ⟨hn', h1, h2⟩
  e := fun d => mst_le mst_ge.1 fun x hx => by
    have P := G.mem_pk.1 hx
    have := (mst_ge (f := (h.wb cs).ea d) (l := (h.wb cs).pk)).2 x (G'.mem_pk.2 (rm_pk R G' P))
    rw [rm_ea R fun c hc => (P.c c hc).2] at this
    exact this
  s := fun s => mst_le mst_ge.1 fun x hx => by
    have P := G.mem_po.1 hx
    have := (mst_ge (f := (h.wb cs).sto s) (l := (h.wb cs).po)).2 x (G'.mem_po.2 (rm_po R G' P))
    have e : (h.wb cs).sto s x = h.sto s x := by
      unfold Hs.sto
      rw [rm_sa R fun c hc => (P.c c hc).2]; rfl
    rw [e] at this
    exact this
set_option maxHeartbeats 4000000 in
theorem day8 (H : HsOk h k p b) (G : HG h) {l x : List Int} {v w : AV} (V : IsSl 1 intL l v) (W : IsSl 1 intL x w) (y : Int) (l1 : x.length ≤ 1000) {kv pv : AV} (KV : IsSl 2 Kd.e h.ks kv) (PV : IsSl 2 Pr.e h.ps pv) {cs : List Int} (R : Rm h.bs cs) {a c d : AV} {hh : List AO} {gl : Nat} (c0 : hh[0]? = some (.cells [k, I h.fl, p, b] false)) (c2' : hh[2]? = some (.cells [v, w, I y] false)) (c3 : hh[gl]? = some (.cells [a, I h.fl, c, d] false)) (va : ∀ n, Am.view false hh (n + 1) a = some kv) (vc : ∀ n, Am.view false hh (n + 1) c = some pv) (vd : ∀ n, Am.view false hh (n + 1) d = some (slV 1 intL cs)) (lcs : cs.length ≤ 41) (hro : (h.wb cs).rdy = true) : ∀ ts : List AV, ts.length = 202 → ts.getD 3 .undef = .ptr 0 0 → ts.getD 5 .undef = .ptr 2 0 → ts.getD 7 .undef = .ptr gl 0 → Am.G ⟨E, 0, none, 8, Done 0 [ARes.tmp 6] fun r h' => Am.view false h' 8 r = some (Bo true)⟩ tailD8 [] ts hh [] := by
  have hv := valid_iff.2 G
  have cp := fun st => s18 W l1 st
  obtain ⟨w', hw'⟩ : ∃ w', w' = slV 1 intL x := ⟨_, rfl⟩
  have W' : IsSl 1 intL x w' := by rw [hw']; exact slV_is
  rw [← hw'] at cp
  have a49 := fun st => s49 H G st
  have a23 := fun st => s23 H W' l1 st
  have a47 := fun st => s47 H G W l1 st
  have a38 := fun st => s38 H y st
  have a42 := fun st => s42 H y st
  have zt : ∀ v : Int, (if (0 : Int) = 0 then v else 0) = v := fun v => rfl
  simp only [hsV, ansN, askE, askS, vE, hv, if_true, Bool.true_and] at a49 a23 a47 a38 a42
  obtain ⟨bv, hbv⟩ : ∃ v, v = slV 1 intL cs := ⟨_, rfl⟩
  have BV : IsSl 1 intL cs bv := by rw [hbv]; exact slV_is
  rw [← hbv] at vd
  have HO : HsOk (h.wb cs) kv pv bv := { k := KV, p := PV, b := BV, nk := H.nk, np := H.np, nb := lcs }
  have o46 := fun st => s46 HO.toHsIn st
  have fls : (h.wb cs).fl = h.fl := rfl
  simp only [hsV, fls] at o46
  have GO' := (rdy_iff.1 hro).1
  have MO := rm_more G R GO'
  have hvo := valid_iff.2 GO'
  have o49 := fun st => s49 HO GO' st
  have o23 := fun st => s23 HO W' l1 st
  have o38 := fun st => s38 HO y st
  have o42 := fun st => s42 HO y st
  simp only [hsV, fls, ansN, askE, askS, vE, hvo, if_true, Bool.true_and] at o49 o23 o38 o42
  have ke := MO.e y
  have ks := MO.s y
  obtain ⟨A, hA⟩ : ∃ A, A = mst (h.ea y) h.pk := ⟨_, rfl⟩
  obtain ⟨A', hA'⟩ : ∃ A, A = mst ((h.wb cs).ea y) (h.wb cs).pk := ⟨_, rfl⟩
  obtain ⟨B, hB⟩ : ∃ B, B = mst (h.sto y) h.po := ⟨_, rfl⟩
  obtain ⟨B', hB'⟩ : ∃ B, B = mst ((h.wb cs).sto y) (h.wb cs).po := ⟨_, rfl⟩
  rw [← hA, ← hA'] at ke
  rw [← hB, ← hB'] at ks
  rw [← hA] at a38
  rw [← hA'] at o38
  rw [← hB] at a42
  rw [← hB'] at o42
  have n1 : ¬ A' < A := by omega
  have n2 : ¬ B' < B := by omega
  have km := MO.m
  intro ts hl' q3 q5 q7
  rw [lit_all hl']
  simp only [lit0, litS, Nat.reduceAdd, q3, q5, q7]
  simp only [tailD8, tailC8, sq, f8]
  have e20 : inR y 0 20 = true → inR y 0 999 = true := fun hy => inR_iff.2 (by have := inR_iff.1 hy; omega)
  cases hy : inR y 0 20
  · cases hz : inR y 0 999
    · simp (disch := first | assumption | omega | (simp only [az]; done)) only [ru, eq_self, if_true, if_false, BEq.rfl, binI, AO.row?, splice, fillL, mmAll, loadV, storeV, zeros, Am.rowAt, Am.part, addOff, Nat.reduceAdd, Nat.reduceMul, Nat.reduceLeDiff, Nat.reduceSub, Nat.reduceLT, Int.reduceEq, Int.reduceLT, Int.reduceLE, Int.reduceGT, Int.reduceGE, Int.reduceAdd, Int.reduceSub, Int.reduceMul, Int.reduceNeg, Int.reduceToNat, reduceCtorEq, reduceIte, lenV_sl HO.k, lenV_sl HO.p, lenV_sl HO.b, elem_kd HO.k, elem_pr HO.p, elem_in HO.b, view_sl HO.k, view_sl HO.p, view_sl HO.b, scalar_sl HO.k, scalar_sl HO.p, scalar_sl HO.b, cells_sl HO.k, cells_sl HO.p, cells_sl HO.b, pure_sl HO.k, pure_sl HO.p, pure_sl HO.b, Int.toNat_natCast, lenV_sl H.k, lenV_sl H.p, lenV_sl H.b, elem_kd H.k, elem_pr H.p, elem_in H.b, view_sl H.k, view_sl H.p, view_sl H.b, scalar_sl H.k, scalar_sl H.p, scalar_sl H.b, cells_sl H.k, cells_sl H.p, cells_sl H.b, pure_sl H.k, pure_sl H.p, pure_sl H.b, Int.toNat_natCast, lenV_sl V, elem_in V, view_sl V, scalar_sl V, cells_sl V, pure_sl V, Int.toNat_natCast, lenV_sl W, elem_in W, view_sl W, scalar_sl W, cells_sl W, pure_sl W, Int.toNat_natCast, lenV_sl W', elem_in W', view_sl W', scalar_sl W', cells_sl W', pure_sl W', Int.toNat_natCast, c0, c2', c3, va, vc, vd, s48, s60, hy, hz, gUn, s16, Bool.not_true, decide_true, decide_false]
    · rw [hz] at a42 o42
      simp only [if_true, zt] at a42 o42
      simp (disch := first | assumption | omega | (simp only [az]; done)) only [ru, eq_self, if_true, if_false, BEq.rfl, binI, AO.row?, splice, fillL, mmAll, loadV, storeV, zeros, Am.rowAt, Am.part, addOff, Nat.reduceAdd, Nat.reduceMul, Nat.reduceLeDiff, Nat.reduceSub, Nat.reduceLT, Int.reduceEq, Int.reduceLT, Int.reduceLE, Int.reduceGT, Int.reduceGE, Int.reduceAdd, Int.reduceSub, Int.reduceMul, Int.reduceNeg, Int.reduceToNat, reduceCtorEq, reduceIte, lenV_sl HO.k, lenV_sl HO.p, lenV_sl HO.b, elem_kd HO.k, elem_pr HO.p, elem_in HO.b, view_sl HO.k, view_sl HO.p, view_sl HO.b, scalar_sl HO.k, scalar_sl HO.p, scalar_sl HO.b, cells_sl HO.k, cells_sl HO.p, cells_sl HO.b, pure_sl HO.k, pure_sl HO.p, pure_sl HO.b, Int.toNat_natCast, lenV_sl H.k, lenV_sl H.p, lenV_sl H.b, elem_kd H.k, elem_pr H.p, elem_in H.b, view_sl H.k, view_sl H.p, view_sl H.b, scalar_sl H.k, scalar_sl H.p, scalar_sl H.b, cells_sl H.k, cells_sl H.p, cells_sl H.b, pure_sl H.k, pure_sl H.p, pure_sl H.b, Int.toNat_natCast, lenV_sl V, elem_in V, view_sl V, scalar_sl V, cells_sl V, pure_sl V, Int.toNat_natCast, lenV_sl W, elem_in W, view_sl W, scalar_sl W, cells_sl W, pure_sl W, Int.toNat_natCast, lenV_sl W', elem_in W', view_sl W', scalar_sl W', cells_sl W', pure_sl W', Int.toNat_natCast, c0, c2', c3, va, vc, vd, s48, s60, hy, hz, a42, o42, n2, gUn, s16, Bool.not_true, decide_true, decide_false]
  · have hz := e20 hy
    rw [hy] at a38 o38
    rw [hz] at a42 o42
    simp only [if_true, zt] at a42 o42 a38 o38
    by_cases hp : h.pk = []
    · simp only [hp, if_true] at a38
      obtain ⟨E1, hE1⟩ : ∃ E1 : Int, E1 = (if (h.wb cs).pk = [] then 3 else 0) := ⟨_, rfl⟩
      simp only [← hE1] at o38
      simp (disch := first | assumption | omega | (simp only [az]; done)) only [ru, eq_self, if_true, if_false, BEq.rfl, binI, AO.row?, splice, fillL, mmAll, loadV, storeV, zeros, Am.rowAt, Am.part, addOff, Nat.reduceAdd, Nat.reduceMul, Nat.reduceLeDiff, Nat.reduceSub, Nat.reduceLT, Int.reduceEq, Int.reduceLT, Int.reduceLE, Int.reduceGT, Int.reduceGE, Int.reduceAdd, Int.reduceSub, Int.reduceMul, Int.reduceNeg, Int.reduceToNat, reduceCtorEq, reduceIte, lenV_sl HO.k, lenV_sl HO.p, lenV_sl HO.b, elem_kd HO.k, elem_pr HO.p, elem_in HO.b, view_sl HO.k, view_sl HO.p, view_sl HO.b, scalar_sl HO.k, scalar_sl HO.p, scalar_sl HO.b, cells_sl HO.k, cells_sl HO.p, cells_sl HO.b, pure_sl HO.k, pure_sl HO.p, pure_sl HO.b, Int.toNat_natCast, lenV_sl H.k, lenV_sl H.p, lenV_sl H.b, elem_kd H.k, elem_pr H.p, elem_in H.b, view_sl H.k, view_sl H.p, view_sl H.b, scalar_sl H.k, scalar_sl H.p, scalar_sl H.b, cells_sl H.k, cells_sl H.p, cells_sl H.b, pure_sl H.k, pure_sl H.p, pure_sl H.b, Int.toNat_natCast, lenV_sl V, elem_in V, view_sl V, scalar_sl V, cells_sl V, pure_sl V, Int.toNat_natCast, lenV_sl W, elem_in W, view_sl W, scalar_sl W, cells_sl W, pure_sl W, Int.toNat_natCast, lenV_sl W', elem_in W', view_sl W', scalar_sl W', cells_sl W', pure_sl W', Int.toNat_natCast, c0, c2', c3, va, vc, vd, s48, s60, hy, hz, a38, o38, a42, o42, n2, gUn, s16, Bool.not_true, decide_true, decide_false]
    · obtain ⟨hp', _, _⟩ := km hp
      simp only [hp, if_false, zt] at a38
      simp only [hp', if_false, zt] at o38
      simp (disch := first | assumption | omega | (simp only [az]; done)) only [ru, eq_self, if_true, if_false, BEq.rfl, binI, AO.row?, splice, fillL, mmAll, loadV, storeV, zeros, Am.rowAt, Am.part, addOff, Nat.reduceAdd, Nat.reduceMul, Nat.reduceLeDiff, Nat.reduceSub, Nat.reduceLT, Int.reduceEq, Int.reduceLT, Int.reduceLE, Int.reduceGT, Int.reduceGE, Int.reduceAdd, Int.reduceSub, Int.reduceMul, Int.reduceNeg, Int.reduceToNat, reduceCtorEq, reduceIte, lenV_sl HO.k, lenV_sl HO.p, lenV_sl HO.b, elem_kd HO.k, elem_pr HO.p, elem_in HO.b, view_sl HO.k, view_sl HO.p, view_sl HO.b, scalar_sl HO.k, scalar_sl HO.p, scalar_sl HO.b, cells_sl HO.k, cells_sl HO.p, cells_sl HO.b, pure_sl HO.k, pure_sl HO.p, pure_sl HO.b, Int.toNat_natCast, lenV_sl H.k, lenV_sl H.p, lenV_sl H.b, elem_kd H.k, elem_pr H.p, elem_in H.b, view_sl H.k, view_sl H.p, view_sl H.b, scalar_sl H.k, scalar_sl H.p, scalar_sl H.b, cells_sl H.k, cells_sl H.p, cells_sl H.b, pure_sl H.k, pure_sl H.p, pure_sl H.b, Int.toNat_natCast, lenV_sl V, elem_in V, view_sl V, scalar_sl V, cells_sl V, pure_sl V, Int.toNat_natCast, lenV_sl W, elem_in W, view_sl W, scalar_sl W, cells_sl W, pure_sl W, Int.toNat_natCast, lenV_sl W', elem_in W', view_sl W', scalar_sl W', cells_sl W', pure_sl W', Int.toNat_natCast, c0, c2', c3, va, vc, vd, s48, s60, hy, hz, a38, o38, a42, o42, n1, n2, gUn, s16, Bool.not_true, decide_true, decide_false]
set_option maxHeartbeats 4000000 in
theorem tail8 (H : HsOk h k p b) (G : HG h) {l x : List Int} {v w : AV} (V : IsSl 1 intL l v) (W : IsSl 1 intL x w) (y : Int) (l1 : x.length ≤ 1000) {kv pv : AV} (KV : IsSl 2 Kd.e h.ks kv) (PV : IsSl 2 Pr.e h.ps pv) {cs : List Int} (R : Rm h.bs cs) {a c d : AV} {hh : List AO} {gl : Nat} (c0 : hh[0]? = some (.cells [k, I h.fl, p, b] false)) (c2' : hh[2]? = some (.cells [v, w, I y] false)) (c3 : hh[gl]? = some (.cells [a, I h.fl, c, d] false)) (va : ∀ n, Am.view false hh (n + 1) a = some kv) (vc : ∀ n, Am.view false hh (n + 1) c = some pv) (vd : ∀ n, Am.view false hh (n + 1) d = some (slV 1 intL cs)) (lcs : cs.length ≤ 41) (ts : List AV) (hl' : ts.length = 202) (q3 : ts.getD 3 .undef = .ptr 0 0) (q5 : ts.getD 5 .undef = .ptr 2 0) (q7 : ts.getD 7 .undef = .ptr gl 0) : Am.G ⟨E, 0, none, 8, Done 0 [ARes.tmp 6] fun r h' => Am.view false h' 8 r = some (Bo true)⟩ tailC8 [] ts hh [] := by
  have hv := valid_iff.2 G
  have cp := fun st => s18 W l1 st
  obtain ⟨w', hw'⟩ : ∃ w', w' = slV 1 intL x := ⟨_, rfl⟩
  have W' : IsSl 1 intL x w' := by rw [hw']; exact slV_is
  rw [← hw'] at cp
  have a49 := fun st => s49 H G st
  have a23 := fun st => s23 H W' l1 st
  have a47 := fun st => s47 H G W l1 st
  have a38 := fun st => s38 H y st
  have a42 := fun st => s42 H y st
  have zt : ∀ v : Int, (if (0 : Int) = 0 then v else 0) = v := fun v => rfl
  simp only [hsV, ansN, askE, askS, vE, hv, if_true, Bool.true_and] at a49 a23 a47 a38 a42
  rw [lit_all hl']
  simp only [lit0, litS, Nat.reduceAdd, q3, q5, q7]
  have day := fun hro => day8 H G V W y l1 KV PV R c0 c2' c3 va vc vd lcs hro
  obtain ⟨bv, hbv⟩ : ∃ v, v = slV 1 intL cs := ⟨_, rfl⟩
  have BV : IsSl 1 intL cs bv := by rw [hbv]; exact slV_is
  rw [← hbv] at vd
  have HO : HsOk (h.wb cs) kv pv bv := { k := KV, p := PV, b := BV, nk := H.nk, np := H.np, nb := lcs }
  have o46 := fun st => s46 HO.toHsIn st
  have fls : (h.wb cs).fl = h.fl := rfl
  simp only [hsV, fls] at o46
  cases hro : (h.wb cs).rdy
  · simp only [tailC8, sq, f8]
    simp (disch := first | assumption | omega | (simp only [az]; done)) only [ru, eq_self, if_true, if_false, BEq.rfl, binI, AO.row?, splice, fillL, mmAll, loadV, storeV, zeros, Am.rowAt, Am.part, addOff, Nat.reduceAdd, Nat.reduceMul, Nat.reduceLeDiff, Nat.reduceSub, Nat.reduceLT, Int.reduceEq, Int.reduceLT, Int.reduceLE, Int.reduceGT, Int.reduceGE, Int.reduceAdd, Int.reduceSub, Int.reduceMul, Int.reduceNeg, Int.reduceToNat, reduceCtorEq, reduceIte, c0, c2', c3, va, vc, vd, o46, hro, s16, gUn, Bool.not_false]
  have GO' := (rdy_iff.1 hro).1
  have MO := rm_more G R GO'
  have hvo := valid_iff.2 GO'
  have o49 := fun st => s49 HO GO' st
  have o23 := fun st => s23 HO W' l1 st
  have o38 := fun st => s38 HO y st
  have o42 := fun st => s42 HO y st
  simp only [hsV, fls, ansN, askE, askS, vE, hvo, if_true, Bool.true_and] at o49 o23 o38 o42
  have ke := MO.e y
  have ks := MO.s y
  obtain ⟨A, hA⟩ : ∃ A, A = mst (h.ea y) h.pk := ⟨_, rfl⟩
  obtain ⟨A', hA'⟩ : ∃ A, A = mst ((h.wb cs).ea y) (h.wb cs).pk := ⟨_, rfl⟩
  obtain ⟨B, hB⟩ : ∃ B, B = mst (h.sto y) h.po := ⟨_, rfl⟩
  obtain ⟨B', hB'⟩ : ∃ B, B = mst ((h.wb cs).sto y) (h.wb cs).po := ⟨_, rfl⟩
  rw [← hA, ← hA'] at ke
  rw [← hB, ← hB'] at ks
  rw [← hA] at a38
  rw [← hA'] at o38
  rw [← hB] at a42
  rw [← hB'] at o42
  have n1 : ¬ A' < A := by omega
  have n2 : ¬ B' < B := by omega
  have km := MO.m
  obtain ⟨M, hM⟩ : ∃ M, M = lsf h.sa h.pk := ⟨_, rfl⟩
  obtain ⟨M', hM'⟩ : ∃ M, M = lsf (h.wb cs).sa (h.wb cs).pk := ⟨_, rfl⟩
  obtain ⟨N, hN⟩ : ∃ M, M = lsf h.us h.pk := ⟨_, rfl⟩
  obtain ⟨N', hN'⟩ : ∃ M, M = lsf (h.wb cs).us (h.wb cs).pk := ⟨_, rfl⟩
  rw [← hM, ← hM', ← hN, ← hN'] at km
  rw [← hM, ← hN] at a49
  rw [← hM', ← hN'] at o49
  rw [tailC_eq]
  by_cases hp : h.pk = []
  · have z1 : decide (h.pk ≠ []) = false := decide_eq_false fun hn => hn hp
    have hg : h.isP x = false := by
      cases hc : h.isP x with
      | false => rfl
      | true => have := G.mem_pk.2 (isP_iff.1 hc); rw [hp] at this; cases this
    rw [z1] at a49
    rw [hg] at a23 a47
    simp (disch := first | assumption | omega | (simp only [az]; done)) only [ru, eq_self, if_true, if_false, BEq.rfl, binI, AO.row?, splice, fillL, mmAll, loadV, storeV, zeros, Am.rowAt, Am.part, addOff, Nat.reduceAdd, Nat.reduceMul, Nat.reduceLeDiff, Nat.reduceSub, Nat.reduceLT, Int.reduceEq, Int.reduceLT, Int.reduceLE, Int.reduceGT, Int.reduceGE, Int.reduceAdd, Int.reduceSub, Int.reduceMul, Int.reduceNeg, Int.reduceToNat, reduceCtorEq, reduceIte, lenV_sl HO.k, lenV_sl HO.p, lenV_sl HO.b, elem_kd HO.k, elem_pr HO.p, elem_in HO.b, view_sl HO.k, view_sl HO.p, view_sl HO.b, scalar_sl HO.k, scalar_sl HO.p, scalar_sl HO.b, cells_sl HO.k, cells_sl HO.p, cells_sl HO.b, pure_sl HO.k, pure_sl HO.p, pure_sl HO.b, Int.toNat_natCast, lenV_sl H.k, lenV_sl H.p, lenV_sl H.b, elem_kd H.k, elem_pr H.p, elem_in H.b, view_sl H.k, view_sl H.p, view_sl H.b, scalar_sl H.k, scalar_sl H.p, scalar_sl H.b, cells_sl H.k, cells_sl H.p, cells_sl H.b, pure_sl H.k, pure_sl H.p, pure_sl H.b, Int.toNat_natCast, lenV_sl V, elem_in V, view_sl V, scalar_sl V, cells_sl V, pure_sl V, Int.toNat_natCast, lenV_sl W, elem_in W, view_sl W, scalar_sl W, cells_sl W, pure_sl W, Int.toNat_natCast, lenV_sl W', elem_in W', view_sl W', scalar_sl W', cells_sl W', pure_sl W', Int.toNat_natCast, c0, c2', c3, va, vc, vd, fq, sq, f8, o46, hro, a49, o49, cp, a23, o23, a47, gUn, Bool.not_false, Bool.not_true, decide_true, decide_false, beq_self_eq_true]
    refine day hro _ ?_ ?_ ?_ ?_ <;> rfl
  · have z1 : decide (h.pk ≠ []) = true := decide_eq_true hp
    obtain ⟨hp', km1, km2⟩ := km hp
    have z2 : decide ((h.wb cs).pk ≠ []) = true := decide_eq_true hp'
    have n3 : ¬ M' > M := by omega
    have n4 : ¬ N' > N := by omega
    rw [z1] at a49
    rw [z2] at o49
    cases hg : h.isP x
    · rw [hg] at a23 a47
      simp (disch := first | assumption | omega | (simp only [az]; done)) only [ru, eq_self, if_true, if_false, BEq.rfl, binI, AO.row?, splice, fillL, mmAll, loadV, storeV, zeros, Am.rowAt, Am.part, addOff, Nat.reduceAdd, Nat.reduceMul, Nat.reduceLeDiff, Nat.reduceSub, Nat.reduceLT, Int.reduceEq, Int.reduceLT, Int.reduceLE, Int.reduceGT, Int.reduceGE, Int.reduceAdd, Int.reduceSub, Int.reduceMul, Int.reduceNeg, Int.reduceToNat, reduceCtorEq, reduceIte, lenV_sl HO.k, lenV_sl HO.p, lenV_sl HO.b, elem_kd HO.k, elem_pr HO.p, elem_in HO.b, view_sl HO.k, view_sl HO.p, view_sl HO.b, scalar_sl HO.k, scalar_sl HO.p, scalar_sl HO.b, cells_sl HO.k, cells_sl HO.p, cells_sl HO.b, pure_sl HO.k, pure_sl HO.p, pure_sl HO.b, Int.toNat_natCast, lenV_sl H.k, lenV_sl H.p, lenV_sl H.b, elem_kd H.k, elem_pr H.p, elem_in H.b, view_sl H.k, view_sl H.p, view_sl H.b, scalar_sl H.k, scalar_sl H.p, scalar_sl H.b, cells_sl H.k, cells_sl H.p, cells_sl H.b, pure_sl H.k, pure_sl H.p, pure_sl H.b, Int.toNat_natCast, lenV_sl V, elem_in V, view_sl V, scalar_sl V, cells_sl V, pure_sl V, Int.toNat_natCast, lenV_sl W, elem_in W, view_sl W, scalar_sl W, cells_sl W, pure_sl W, Int.toNat_natCast, lenV_sl W', elem_in W', view_sl W', scalar_sl W', cells_sl W', pure_sl W', Int.toNat_natCast, c0, c2', c3, va, vc, vd, fq, sq, f8, o46, hro, a49, o49, cp, a23, o23, a47, n3, n4, gUn, Bool.not_false, Bool.not_true, decide_true, decide_false, beq_self_eq_true]
      refine day hro _ ?_ ?_ ?_ ?_ <;> rfl
    · have hg2 : (h.wb cs).isP x = true := isP_iff.2 (MO.p x (isP_iff.1 hg))
      rw [hg] at a23 a47
      rw [hg2] at o23
      simp (disch := first | assumption | omega | (simp only [az]; done)) only [ru, eq_self, if_true, if_false, BEq.rfl, binI, AO.row?, splice, fillL, mmAll, loadV, storeV, zeros, Am.rowAt, Am.part, addOff, Nat.reduceAdd, Nat.reduceMul, Nat.reduceLeDiff, Nat.reduceSub, Nat.reduceLT, Int.reduceEq, Int.reduceLT, Int.reduceLE, Int.reduceGT, Int.reduceGE, Int.reduceAdd, Int.reduceSub, Int.reduceMul, Int.reduceNeg, Int.reduceToNat, reduceCtorEq, reduceIte, lenV_sl HO.k, lenV_sl HO.p, lenV_sl HO.b, elem_kd HO.k, elem_pr HO.p, elem_in HO.b, view_sl HO.k, view_sl HO.p, view_sl HO.b, scalar_sl HO.k, scalar_sl HO.p, scalar_sl HO.b, cells_sl HO.k, cells_sl HO.p, cells_sl HO.b, pure_sl HO.k, pure_sl HO.p, pure_sl HO.b, Int.toNat_natCast, lenV_sl H.k, lenV_sl H.p, lenV_sl H.b, elem_kd H.k, elem_pr H.p, elem_in H.b, view_sl H.k, view_sl H.p, view_sl H.b, scalar_sl H.k, scalar_sl H.p, scalar_sl H.b, cells_sl H.k, cells_sl H.p, cells_sl H.b, pure_sl H.k, pure_sl H.p, pure_sl H.b, Int.toNat_natCast, lenV_sl V, elem_in V, view_sl V, scalar_sl V, cells_sl V, pure_sl V, Int.toNat_natCast, lenV_sl W, elem_in W, view_sl W, scalar_sl W, cells_sl W, pure_sl W, Int.toNat_natCast, lenV_sl W', elem_in W', view_sl W', scalar_sl W', cells_sl W', pure_sl W', Int.toNat_natCast, c0, c2', c3, va, vc, vd, fq, sq, f8, o46, hro, a49, o49, cp, a23, o23, a47, n3, n4, gUn, Bool.not_false, Bool.not_true, decide_true, decide_false, beq_self_eq_true]
      refine day hro _ ?_ ?_ ?_ ?_ <;> rfl
set_option maxHeartbeats 4000000 in
theorem s8 (H0 : HsIn h k p b) (u m e : Int) {l x : List Int} {v w : AV} (V : IsSl 1 intL l v) (W : IsSl 1 intL x w) (y : Int) : Iso E 8 [hsV h.fl k p b, .agg [I u, I m, I e], .agg [v, w, I y]] false = some (Bo true) := by
  have a0 := fun st => s46 H0 st
  simp only [hsV] at a0
  refine Iso_of (es _ _ _ _) e8 ?_
  rw [body8, tmps8, res8]
  simp only [hsV]
  cases hr : h.rdy
  · simp (disch := first | assumption | omega | (simp only [az]; done)) only [ru, eq_self, if_true, if_false, BEq.rfl, binI, AO.row?, splice, fillL, mmAll, loadV, storeV, zeros, Am.rowAt, Am.part, addOff, Nat.reduceAdd, Nat.reduceMul, Nat.reduceLeDiff, Nat.reduceSub, Nat.reduceLT, Int.reduceEq, Int.reduceLT, Int.reduceLE, Int.reduceGT, Int.reduceGE, Int.reduceAdd, Int.reduceSub, Int.reduceMul, Int.reduceNeg, Int.reduceToNat, reduceCtorEq, reduceIte, fq, sq, f8, lenV_sl H0.k, lenV_sl H0.p, lenV_sl H0.b, elem_kd H0.k, elem_pr H0.p, elem_in H0.b, view_sl H0.k, view_sl H0.p, view_sl H0.b, scalar_sl H0.k, scalar_sl H0.p, scalar_sl H0.b, cells_sl H0.k, cells_sl H0.p, cells_sl H0.b, pure_sl H0.k, pure_sl H0.p, pure_sl H0.b, Int.toNat_natCast, lenV_sl V, elem_in V, view_sl V, scalar_sl V, cells_sl V, pure_sl V, Int.toNat_natCast, lenV_sl W, elem_in W, view_sl W, scalar_sl W, cells_sl W, pure_sl W, Int.toNat_natCast, a0, hr, s16, gUn, Bool.not_false]
  by_cases hl : (x.length : Int) > 40
  · simp (disch := first | assumption | omega | (simp only [az]; done)) only [ru, eq_self, if_true, if_false, BEq.rfl, binI, AO.row?, splice, fillL, mmAll, loadV, storeV, zeros, Am.rowAt, Am.part, addOff, Nat.reduceAdd, Nat.reduceMul, Nat.reduceLeDiff, Nat.reduceSub, Nat.reduceLT, Int.reduceEq, Int.reduceLT, Int.reduceLE, Int.reduceGT, Int.reduceGE, Int.reduceAdd, Int.reduceSub, Int.reduceMul, Int.reduceNeg, Int.reduceToNat, reduceCtorEq, reduceIte, fq, sq, f8, lenV_sl H0.k, lenV_sl H0.p, lenV_sl H0.b, elem_kd H0.k, elem_pr H0.p, elem_in H0.b, view_sl H0.k, view_sl H0.p, view_sl H0.b, scalar_sl H0.k, scalar_sl H0.p, scalar_sl H0.b, cells_sl H0.k, cells_sl H0.p, cells_sl H0.b, pure_sl H0.k, pure_sl H0.p, pure_sl H0.b, Int.toNat_natCast, lenV_sl V, elem_in V, view_sl V, scalar_sl V, cells_sl V, pure_sl V, Int.toNat_natCast, lenV_sl W, elem_in W, view_sl W, scalar_sl W, cells_sl W, pure_sl W, Int.toNat_natCast, a0, hr, hl, s16, gUn, Bool.not_true, Bool.not_false, decide_true]
    done
  cases hm : inR m 0 99
  · simp (disch := first | assumption | omega | (simp only [az]; done)) only [ru, eq_self, if_true, if_false, BEq.rfl, binI, AO.row?, splice, fillL, mmAll, loadV, storeV, zeros, Am.rowAt, Am.part, addOff, Nat.reduceAdd, Nat.reduceMul, Nat.reduceLeDiff, Nat.reduceSub, Nat.reduceLT, Int.reduceEq, Int.reduceLT, Int.reduceLE, Int.reduceGT, Int.reduceGE, Int.reduceAdd, Int.reduceSub, Int.reduceMul, Int.reduceNeg, Int.reduceToNat, reduceCtorEq, reduceIte, fq, sq, f8, lenV_sl H0.k, lenV_sl H0.p, lenV_sl H0.b, elem_kd H0.k, elem_pr H0.p, elem_in H0.b, view_sl H0.k, view_sl H0.p, view_sl H0.b, scalar_sl H0.k, scalar_sl H0.p, scalar_sl H0.b, cells_sl H0.k, cells_sl H0.p, cells_sl H0.b, pure_sl H0.k, pure_sl H0.p, pure_sl H0.b, Int.toNat_natCast, lenV_sl V, elem_in V, view_sl V, scalar_sl V, cells_sl V, pure_sl V, Int.toNat_natCast, lenV_sl W, elem_in W, view_sl W, scalar_sl W, cells_sl W, pure_sl W, Int.toNat_natCast, a0, hr, hl, s57, hm, s16, gUn, Bool.not_true, Bool.not_false, decide_false]
  have H := rdy_ok H0 hr
  have G := (rdy_iff.1 hr).1
  have np := G.np; have nb := G.nb
  have hv := valid_iff.2 G
  have hmr := inR_iff.1 hm
  have c2 : ∀ {lim : Nat} {pl : Option Nat} {ρ : Opd → AV} {h : List AO} {f : Nat} {args : List Opd}, exOp (R E) lim pl ρ h (.call 2 f args) = C2 E f (args.map ρ) h := exOp_call2
  have l1 : x.length ≤ 1000 := by omega
  have cp := fun st => s18 W l1 st
  obtain ⟨w', hw'⟩ : ∃ w', w' = slV 1 intL x := ⟨_, rfl⟩
  have W' : IsSl 1 intL x w' := by rw [hw']; exact slV_is
  rw [← hw'] at cp
  have a49 := fun st => s49 H G st
  have a23 := fun st => s23 H W' l1 st
  have a47 := fun st => s47 H G W l1 st
  have a38 := fun st => s38 H y st
  have a42 := fun st => s42 H y st
  have zt : ∀ v : Int, (if (0 : Int) = 0 then v else 0) = v := fun v => rfl
  simp only [hsV, ansN, askE, askS, vE, hv, if_true, Bool.true_and] at a49 a23 a47 a38 a42
  obtain ⟨ok, op, ob, g, C, fr, lo, CP⟩ := c17 H [.cells [k, I h.fl, p, b] false, .cells [I u, I m, I e] false, .cells [v, w, I y] false]
  simp only [List.length_cons, List.length_nil, Nat.zero_add, Nat.reduceAdd, hsV] at lo C
  have x1 := CP.n1; have x2 := CP.n2
  have g0 := fr.at (j := 0) rfl
  have g1 := fr.at (j := 1) rfl
  have g2 := fr.at (j := 2) rfl
  have lg := (List.getElem?_eq_some_iff.1 CP.b).1
  obtain ⟨h1, eh1⟩ : ∃ h1, h1 = g ++ [AO.cells [msK h ok, I h.fl, msP h op, msB h ob] false] := ⟨_, rfl⟩
  have lh1 : h1.length = g.length + 1 := by rw [eh1]; simp
  have b0 : h1[0]? = some (.cells [k, I h.fl, p, b] false) := by rw [eh1, at_ap (by omega)]; exact g0
  have b1 : h1[1]? = some (.cells [I u, I m, I e] false) := by rw [eh1, at_ap (by omega)]; exact g1
  have b2 : h1[2]? = some (.cells [v, w, I y] false) := by rw [eh1, at_ap (by omega)]; exact g2
  have b3 : h1[g.length]? = some (.cells [msK h ok, I h.fl, msP h op, msB h ob] false) := by rw [eh1]; exact atE
  have bk : h1[ok]? = some (.cells (h.ks.flatMap Kd.e) false) := by rw [eh1, at_ap (by omega)]; exact CP.k
  have bp : h1[op]? = some (.cells (h.ps.flatMap Pr.e) false) := by rw [eh1, at_ap (by omega)]; exact CP.p
  have bb : h1[ob]? = some (.cells (h.bs.flatMap intL) false) := by rw [eh1, at_ap lg]; exact CP.b
  clear fr CP
  obtain ⟨kv, hkv⟩ : ∃ v, v = slV 2 Kd.e h.ks := ⟨_, rfl⟩
  obtain ⟨pv, hpv⟩ : ∃ v, v = slV 2 Pr.e h.ps := ⟨_, rfl⟩
  have KV : IsSl 2 Kd.e h.ks kv := by rw [hkv]; exact slV_is
  have PV : IsSl 2 Pr.e h.ps pv := by rw [hpv]; exact slV_is
  have a58 := fun st => s58 H u st
  simp only [hsV] at a58
  have tail : ∀ (cs : List Int), Rm h.bs cs → ∀ (a c d : AV) (hh : List AO) (ts : List AV), hh[0]? = some (.cells [k, I h.fl, p, b] false) → hh[2]? = some (.cells [v, w, I y] false) → hh[g.length]? = some (.cells [a, I h.fl, c, d] false) → (∀ n, Am.view false hh (n + 1) a = some kv) → (∀ n, Am.view false hh (n + 1) c = some pv) → (∀ n, Am.view false hh (n + 1) d = some (slV 1 intL cs)) → cs.length ≤ 41 → ts.length = 202 → ts.getD 3 .undef = .ptr 0 0 → ts.getD 5 .undef = .ptr 2 0 → ts.getD 7 .undef = .ptr g.length 0 →
      Am.G ⟨E, 0, none, 8, Done 0 [ARes.tmp 6] fun r h' => Am.view false h' 8 r = some (Bo true)⟩ tailC8 [] ts hh [] := by
    intro cs R a c d hh ts c0 c2' c3 va vc vd lcs hl' q3 q5 q7
    exact tail8 H G V W y l1 KV PV R c0 c2' c3 va vc vd lcs ts hl' q3 q5 q7
  have fb := fun (o : Nat) (hh : List AO) (l : List Int) (hc : hh[o]? = some (.cells (l.flatMap intL) false)) st n => viewB (l := l) hc (st := st) (n := n)
  cases hu : inR u 0 (h.bs.length - 1)
  · by_cases he : e ≥ 0
    · obtain ⟨b0v, hb0v⟩ : ∃ v, v = slV 1 intL h.bs := ⟨_, rfl⟩
      obtain ⟨b1v, hb1v⟩ : ∃ v, v = slV 1 intL (h.bs ++ [e]) := ⟨_, rfl⟩
      have BV0 : IsSl 1 intL h.bs b0v := by rw [hb0v]; exact slV_is
      have BV1 : IsSl 1 intL (h.bs ++ [e]) b1v := by rw [hb1v]; exact slV_is
      obtain ⟨h2, eh2⟩ : ∃ h2, h2 = h1.set g.length (.cells [kv, I h.fl, pv, b1v] false) := ⟨_, rfl⟩
      have d0 : h2[0]? = some (.cells [k, I h.fl, p, b] false) := by rw [eh2]; exact set_of b0 (by omega)
      have d2 : h2[2]? = some (.cells [v, w, I y] false) := by rw [eh2]; exact set_of b2 (by omega)
      have d3 : h2[g.length]? = some (.cells [kv, I h.fl, pv, b1v] false) := by rw [eh2]; exact set_at b3
      have a59 := fun st => s59 (h := h) { k := KV, p := PV, b := BV0, nk := H.nk, np := H.np, nb := H.nb } e st
      simp only [hsV, cpV] at a59
      rw [show slV 2 Kd.e (h.more e).ks = kv from hkv.symm, show slV 2 Pr.e (h.more e).ps = pv from hpv.symm, show slV 1 intL (h.more e).bs = b1v from hb1v.symm, show (h.more e).fl = h.fl from rfl] at a59
      have wk := fun st n => viewK (l := h.ks) bk (st := st) (n := n)
      have wp := fun st n => viewP (l := h.ps) bp (st := st) (n := n)
      have wb := fun st n => viewB (l := h.bs) bb (st := st) (n := n)
      rw [← hb0v] at wb
      rw [← hkv] at wk
      rw [← hpv] at wp
      simp (disch := first | assumption | omega | (simp only [az]; done)) only [ru, eq_self, if_true, if_false, BEq.rfl, binI, AO.row?, splice, fillL, mmAll, loadV, storeV, zeros, Am.rowAt, Am.part, addOff, Nat.reduceAdd, Nat.reduceMul, Nat.reduceLeDiff, Nat.reduceSub, Nat.reduceLT, Int.reduceEq, Int.reduceLT, Int.reduceLE, Int.reduceGT, Int.reduceGE, Int.reduceAdd, Int.reduceSub, Int.reduceMul, Int.reduceNeg, Int.reduceToNat, reduceCtorEq, reduceIte, lenV_sl H.k, lenV_sl H.p, lenV_sl H.b, elem_kd H.k, elem_pr H.p, elem_in H.b, view_sl H.k, view_sl H.p, view_sl H.b, scalar_sl H.k, scalar_sl H.p, scalar_sl H.b, cells_sl H.k, cells_sl H.p, cells_sl H.b, pure_sl H.k, pure_sl H.p, pure_sl H.b, Int.toNat_natCast, lenV_sl V, elem_in V, view_sl V, scalar_sl V, cells_sl V, pure_sl V, Int.toNat_natCast, lenV_sl W, elem_in W, view_sl W, scalar_sl W, cells_sl W, pure_sl W, Int.toNat_natCast, fq, sq, f8, a0, hr, hl, s57, hm, gUn, Bool.not_true, Bool.not_false, decide_true, decide_false, c2, C, ← eh1, b0, b1, b2, b3, a58, hu, he, wk, wp, wb, a59, ← eh2, scalar_sl KV, scalar_sl PV, cells_sl KV, cells_sl PV, scalar_sl BV1, cells_sl BV1]
      refine tail (h.bs ++ [e]) (Rm.snoc h.bs e) kv pv b1v h2 _ d0 d2 d3 (fun n => view_sl KV _ _) (fun n => view_sl PV _ _) (fun n => by rw [hb1v]; exact view_sl slV_is _ _) (by simp; omega) ?_ ?_ ?_ ?_ <;> rfl
    · have he' : ¬ e ≥ 0 := he
      simp (disch := first | assumption | omega | (simp only [az]; done)) only [ru, eq_self, if_true, if_false, BEq.rfl, binI, AO.row?, splice, fillL, mmAll, loadV, storeV, zeros, Am.rowAt, Am.part, addOff, Nat.reduceAdd, Nat.reduceMul, Nat.reduceLeDiff, Nat.reduceSub, Nat.reduceLT, Int.reduceEq, Int.reduceLT, Int.reduceLE, Int.reduceGT, Int.reduceGE, Int.reduceAdd, Int.reduceSub, Int.reduceMul, Int.reduceNeg, Int.reduceToNat, reduceCtorEq, reduceIte, lenV_sl H.k, lenV_sl H.p, lenV_sl H.b, elem_kd H.k, elem_pr H.p, elem_in H.b, view_sl H.k, view_sl H.p, view_sl H.b, scalar_sl H.k, scalar_sl H.p, scalar_sl H.b, cells_sl H.k, cells_sl H.p, cells_sl H.b, pure_sl H.k, pure_sl H.p, pure_sl H.b, Int.toNat_natCast, lenV_sl V, elem_in V, view_sl V, scalar_sl V, cells_sl V, pure_sl V, Int.toNat_natCast, lenV_sl W, elem_in W, view_sl W, scalar_sl W, cells_sl W, pure_sl W, Int.toNat_natCast, fq, sq, f8, a0, hr, hl, s57, hm, gUn, Bool.not_true, Bool.not_false, decide_true, decide_false, c2, C, ← eh1, b0, b1, b2, b3, a58, hu, he']
      refine tail h.bs (Rm.refl h.bs) (msK h ok) (msP h op) (msB h ob) h1 _ b0 b2 b3 (fun n => by rw [hkv]; exact viewK bk) (fun n => by rw [hpv]; exact viewP bp) (fun n => viewB bb) (by have := H.nb; omega) ?_ ?_ ?_ ?_ <;> rfl
  · have hur := inR_iff.1 hu
    obtain ⟨i, rfl⟩ : ∃ i : Nat, u = i := ⟨u.toNat, by omega⟩
    have hi : i < h.bs.length := by omega
    have hbi := G.b i hi
    have fa := flat_at (l := h.bs) (i := i) hi
    have bl : (h.bs.flatMap intL).length = h.bs.length := flat1 h.bs
    have u0 : (0 : Int) ≤ i := by omega
    have u1 : (i : Int) < h.bs.length := by omega
    obtain ⟨z, hz⟩ : ∃ z, z = h.bs.getD i 0 := ⟨_, rfl⟩
    rw [← hz] at fa hbi
    obtain ⟨bs1, hbs1⟩ : ∃ l, l = h.bs.set i (z + m) := ⟨_, rfl⟩
    have R1 : Rm h.bs bs1 := by rw [hbs1]; exact Rm.set (by omega)
    have lb1 : bs1.length = h.bs.length := by rw [hbs1]; simp
    obtain ⟨g3, eg3⟩ : ∃ g3, g3 = h1.set ob (.cells (bs1.flatMap intL) false) := ⟨_, rfl⟩
    have e0 : g3[0]? = some (.cells [k, I h.fl, p, b] false) := by rw [eg3]; exact set_of b0 (by omega)
    have e1 : g3[1]? = some (.cells [I (i : Int), I m, I e] false) := by rw [eg3]; exact set_of b1 (by omega)
    have e2 : g3[2]? = some (.cells [v, w, I y] false) := by rw [eg3]; exact set_of b2 (by omega)
    have e3 : g3[g.length]? = some (.cells [msK h ok, I h.fl, msP h op, msB h ob] false) := by rw [eg3]; exact set_of b3 (by omega)
    have ek : g3[ok]? = some (.cells (h.ks.flatMap Kd.e) false) := by rw [eg3]; exact set_of bk (by omega)
    have ep : g3[op]? = some (.cells (h.ps.flatMap Pr.e) false) := by rw [eg3]; exact set_of bp (by omega)
    have eb : g3[ob]? = some (.cells (bs1.flatMap intL) false) := by rw [eg3]; exact set_at bb
    have vb1 := fun st n => viewB (l := bs1) eb (st := st) (n := n)
    rw [lb1] at vb1
    have ip := int_put hi (z + m)
    rw [← hbs1] at ip
    have ip2 : (h.bs.flatMap intL).take i ++ ([I (z + m)] ++ (h.bs.flatMap intL).drop (i + 1)) = bs1.flatMap intL := by rw [← List.append_assoc]; exact ip
    have fit : i + 1 ≤ h.bs.length := by omega
    obtain ⟨CB, hCB⟩ : ∃ c, c = h.bs.flatMap intL := ⟨_, rfl⟩
    rw [← hCB] at bb fa bl ip ip2
    by_cases he : e ≥ 0
    · obtain ⟨b0v, hb0v⟩ : ∃ v, v = slV 1 intL bs1 := ⟨_, rfl⟩
      obtain ⟨b1v, hb1v⟩ : ∃ v, v = slV 1 intL (bs1 ++ [e]) := ⟨_, rfl⟩
      have BV0 : IsSl 1 intL bs1 b0v := by rw [hb0v]; exact slV_is
      have BV1 : IsSl 1 intL (bs1 ++ [e]) b1v := by rw [hb1v]; exact slV_is
      obtain ⟨h2, eh2⟩ : ∃ h2, h2 = g3.set g.length (.cells [kv, I h.fl, pv, b1v] false) := ⟨_, rfl⟩
      have d0 : h2[0]? = some (.cells [k, I h.fl, p, b] false) := by rw [eh2]; exact set_of e0 (by omega)
      have d2 : h2[2]? = some (.cells [v, w, I y] false) := by rw [eh2]; exact set_of e2 (by omega)
      have d3 : h2[g.length]? = some (.cells [kv, I h.fl, pv, b1v] false) := by rw [eh2]; exact set_at e3
      have a59 := fun st => s59 (h := h.wb bs1) { k := KV, p := PV, b := BV0, nk := H.nk, np := H.np, nb := by show bs1.length ≤ 41; have := H.nb; omega } e st
      simp only [hsV, cpV] at a59
      rw [show slV 2 Kd.e ((h.wb bs1).more e).ks = kv from hkv.symm, show slV 2 Pr.e ((h.wb bs1).more e).ps = pv from hpv.symm, show slV 1 intL ((h.wb bs1).more e).bs = b1v from hb1v.symm, show (h.wb bs1).fl = h.fl from rfl, show ((h.wb bs1).more e).fl = h.fl from rfl] at a59
      have wk := fun st n => viewK (l := h.ks) ek (st := st) (n := n)
      have wp := fun st n => viewP (l := h.ps) ep (st := st) (n := n)
      have vb2 := fun st n => vb1 st n
      rw [← hb0v] at vb2
      rw [← hkv] at wk
      rw [← hpv] at wp
      simp (disch := first | assumption | omega | (simp only [az]; done)) only [ru, eq_self, if_true, if_false, BEq.rfl, binI, AO.row?, splice, fillL, mmAll, loadV, storeV, zeros, Am.rowAt, Am.part, addOff, Nat.reduceAdd, Nat.reduceMul, Nat.reduceLeDiff, Nat.reduceSub, Nat.reduceLT, Int.reduceEq, Int.reduceLT, Int.reduceLE, Int.reduceGT, Int.reduceGE, Int.reduceAdd, Int.reduceSub, Int.reduceMul, Int.reduceNeg, Int.reduceToNat, reduceCtorEq, reduceIte, lenV_sl H.k, lenV_sl H.p, lenV_sl H.b, elem_kd H.k, elem_pr H.p, elem_in H.b, view_sl H.k, view_sl H.p, view_sl H.b, scalar_sl H.k, scalar_sl H.p, scalar_sl H.b, cells_sl H.k, cells_sl H.p, cells_sl H.b, pure_sl H.k, pure_sl H.p, pure_sl H.b, Int.toNat_natCast, lenV_sl V, elem_in V, view_sl V, scalar_sl V, cells_sl V, pure_sl V, Int.toNat_natCast, lenV_sl W, elem_in W, view_sl W, scalar_sl W, cells_sl W, pure_sl W, Int.toNat_natCast, fq, sq, f8, a0, hr, hl, s57, hm, gUn, Bool.not_true, Bool.not_false, decide_true, decide_false, c2, C, ← eh1, b0, b1, b2, b3, a58, hu, he, bb, u0, u1, fa, bl, fit, ip, ← eg3, e0, e1, e2, e3, wk, wp, vb2, a59, ← eh2, scalar_sl KV, scalar_sl PV, cells_sl KV, cells_sl PV, scalar_sl BV1, cells_sl BV1, Nat.mul_one]
      refine tail (bs1 ++ [e]) (R1.trans (Rm.snoc bs1 e)) kv pv b1v h2 _ d0 d2 d3 (fun n => view_sl KV _ _) (fun n => view_sl PV _ _) (fun n => by rw [hb1v]; exact view_sl slV_is _ _) (by simp; omega) ?_ ?_ ?_ ?_ <;> rfl
    · have he' : ¬ e ≥ 0 := he
      simp (disch := first | assumption | omega | (simp only [az]; done)) only [ru, eq_self, if_true, if_false, BEq.rfl, binI, AO.row?, splice, fillL, mmAll, loadV, storeV, zeros, Am.rowAt, Am.part, addOff, Nat.reduceAdd, Nat.reduceMul, Nat.reduceLeDiff, Nat.reduceSub, Nat.reduceLT, Int.reduceEq, Int.reduceLT, Int.reduceLE, Int.reduceGT, Int.reduceGE, Int.reduceAdd, Int.reduceSub, Int.reduceMul, Int.reduceNeg, Int.reduceToNat, reduceCtorEq, reduceIte, lenV_sl H.k, lenV_sl H.p, lenV_sl H.b, elem_kd H.k, elem_pr H.p, elem_in H.b, view_sl H.k, view_sl H.p, view_sl H.b, scalar_sl H.k, scalar_sl H.p, scalar_sl H.b, cells_sl H.k, cells_sl H.p, cells_sl H.b, pure_sl H.k, pure_sl H.p, pure_sl H.b, Int.toNat_natCast, lenV_sl V, elem_in V, view_sl V, scalar_sl V, cells_sl V, pure_sl V, Int.toNat_natCast, lenV_sl W, elem_in W, view_sl W, scalar_sl W, cells_sl W, pure_sl W, Int.toNat_natCast, fq, sq, f8, a0, hr, hl, s57, hm, gUn, Bool.not_true, Bool.not_false, decide_true, decide_false, c2, C, ← eh1, b0, b1, b2, b3, a58, hu, he', bb, u0, u1, fa, bl, fit, ip, ← eg3, e0, e1, e2, e3, Nat.mul_one]
      refine tail bs1 R1 (msK h ok) (msP h op) (msB h ob) g3 _ e0 e2 e3 (fun n => by rw [hkv]; exact viewK ek) (fun n => by rw [hpv]; exact viewP ep) (vb1 false) (by omega) ?_ ?_ ?_ ?_ <;> rfl
end
end Go.Proofs.Ytcdedbpmjhjehaa.S

