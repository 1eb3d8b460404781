/-
Operations that look at their operands alone: all of them.
-/
import Derived.Test.YtfkhcljimkbmeaaAmPure2
namespace Go.Am
open Go
set_option linter.unusedVariables false
set_option linter.unusedSimpArgs false

variable {P : Program} {S : Fz} {φ : Mp} {w : World} {ρ : Operand → Value} {τ : Opd → AV} {m : Nat → Nat}

/-- the operation yields a value that fits, and leaves the world alone -/
def VOk (P : Program) (S : Fz) (φ : Mp) (w : World) (s : Sem Next) (r : AV) : Prop := ∃ v, s.run P w = .ok (.value v) w ∧ Rel S φ r v

theorem VOk.of_run {s : Sem Value} {v : Value} {r : AV} (h : s.run P w = .ok v w) (hr : Rel S φ r v) :
    VOk P S φ w (do pure (.value (← s))) r := ⟨v, by simp [h], hr⟩

theorem binI_snd {op : BinOp} {t : TypeId} {x y : Operand} {k : IntKind} {a b : Int} {r : AV} (hb : binOk op = true) (h : binI op k a b = some r) :
    ∃ v, (do eqGuard op t x y (.int k a) (.int k b); binOp op t (.int k a) (.int k b) : Sem Value).run P w = .ok v w ∧ Rel S φ r v := by
  have e0 : ∀ o : BinOp, (eqGuard o t x y (.int k a) (.int k b)).run P w = .ok () w := by
    intro o; cases o <;> simp [eqGuard]
  simp only [Sem.run_bind, e0, Result.andThen_ok]
  cases op <;> simp [binOk] at hb <;> simp only [binI] at h
  all_goals first
    | (split at h <;> first | (cases h; done) | (cases h; rename_i hn; exact ⟨_, by simp [binOp, Op.intDiv, hn]; rfl, by first | (rw [wr_eq]; exact .int _ _ _) | exact .int _ _ _⟩))
    | (cases h; exact ⟨_, by simp [binOp, Op.intArith, Op.intCmp]; rfl, by first | (rw [wr_eq]; exact .int _ _ _) | exact .bool _ _ | exact .int _ _ _⟩)

theorem parts_snd {f : Nat → Option (Nat × Nat)} (hρ : ∀ x y, cOpd x = some y → Rel S φ (τ y) (ρ x)) : ∀ (ps : List (Nat × Operand)) (l : List (Nat × Nat × Opd)), cParts f ps = some l →
    l.length = ps.length ∧ ∀ (j : Nat) p q, (l.map fun (o, s, x) => (o, s, τ x))[j]? = some p → (ps.map fun (i, x) => (i, ρ x))[j]? = some q → f q.1 = some (p.1, p.2.1) ∧ Rel S φ p.2.2 q.2
  | [], l, h => by simp [cParts] at h; subst h; exact ⟨rfl, fun j p q hp => by simp at hp⟩
  | (i, x) :: r, l, h => by
    simp only [cParts, Option.bind_eq_bind, Option.bind_eq_some_iff, Option.some.injEq] at h
    obtain ⟨⟨o, s⟩, hf, y, hy, l', hl', rfl⟩ := h
    obtain ⟨h1, h2⟩ := parts_snd hρ r l' hl'
    refine ⟨by simp [h1], fun j p q hp hq => ?_⟩
    cases j with
    | zero => simp at hp hq; subst hp; subst hq; exact ⟨hf, hρ x y hy⟩
    | succ j => simp at hp hq; exact h2 j p q (by simpa using hp) (by simpa using hq)

theorem opds_snd (hρ : ∀ x y, cOpd x = some y → Rel S φ (τ y) (ρ x)) {xs : List Operand} {ys : List Opd} (h : xs.mapM cOpd = some ys) : RelL S φ (ys.map τ) (xs.map ρ) := by
  obtain ⟨h1, h2⟩ := mapM_some h
  refine ⟨by simp [h1], fun j a v ha hv => ?_⟩
  simp only [List.getElem?_map, Option.map_eq_some_iff] at ha hv
  obtain ⟨y, hy, rfl⟩ := ha
  obtain ⟨x, hx, rfl⟩ := hv
  obtain ⟨y', hy', hf⟩ := h2 j x hx
  rw [hy] at hy'; cases hy'
  exact hρ x y hf

theorem addOff_snd {x r : AV} {v : Value} {n : Nat} (hx : Rel S φ x v) (h : addOff x n = some r) : ∃ a, v = .pointer (some a) ∧ Rel S φ r (.pointer (some (a.add n))) := by
  unfold addOff at h
  split at h
  · cases h; cases hx with
    | ptr _ o off b z hb => exact ⟨_, rfl, by rw [Addr.add_lit]; exact .ptr _ _ _ _ _ hb⟩
  · cases h; cases hx with
    | cptr _ cells b off c vs hS hh hr =>
      refine ⟨_, rfl, ?_⟩
      rw [Addr.add_lit]
      refine .cptr _ _ _ _ c (fun j => vs (n + j)) hS (fun j a hj => ?_) (fun j a hj => ?_)
      · rw [List.getElem?_drop] at hj; have := hh (n + j) a hj; rwa [← Nat.add_assoc] at this
      · rw [List.getElem?_drop] at hj; exact hr (n + j) a hj
  · cases h

theorem mm_snd (mx : Bool) : ∀ (xs : List AV) (vs : List Value) (x r : AV) (v : Value), RelL S φ xs vs → Rel S φ x v → mmAll mx x xs = some r →
    ∃ u, (vs.foldlM (if mx then Builtin.max2 else Builtin.min2) v).run P w = .ok u w ∧ Rel S φ r u
  | [], vs, x, r, v, h, hx, hm => by
    obtain rfl : vs = [] := by have := h.1; cases vs <;> simp_all
    simp only [mmAll] at hm; cases hm
    exact ⟨v, by simp, hx⟩
  | a :: xs, vs, x, r, v, h, hx, hm => by
    obtain ⟨u, rest, rfl, hu, hrest⟩ := h.cons_inv
    unfold mmAll at hm
    split at hm
    · rename_i h0; cases h0
    · rename_i k n k' n' l h0
      cases h0
      cases hx; cases hu
      obtain ⟨u', h1, h2⟩ := mm_snd mx _ _ _ r (.int k (mmx mx n n')) hrest (.int _ _ _) hm
      refine ⟨u', ?_, h2⟩
      cases mx with
      | true => simpa [List.foldlM_cons, Builtin.max2, mmx] using h1
      | false => simpa [List.foldlM_cons, Builtin.min2, mmx] using h1
    · cases hm

theorem sliceB_snd {v : Option AV} {u : Option Value} {most dflt n : Nat} {code : BoundsCode} (hv : ∀ x, v = some x → ∃ y, u = some y ∧ Rel S φ x y) (hn : v = none → u = none) (h : sliceB v most dflt = some n) :
    (u = none ∧ n = dflt) ∨ (∃ y, u = some y ∧ n ≤ most ∧ (Instr.sliceBound y most code).run P w = .ok n w) := by
  unfold sliceB at h
  split at h
  · cases h; exact .inl ⟨hn rfl, rfl⟩
  · rename_i k i
    split at h
    · rename_i hi
      cases h
      obtain ⟨y, rfl, hy⟩ := hv _ rfl
      cases hy
      exact .inr ⟨_, rfl, by omega, run_sliceBound _ k i most code hi.1 hi.2⟩
    · cases h
  · cases h


theorem sliceV_snd {t e : TypeId} {esz : Nat} {x r : AV} {v : Value} {lo hi : Option AV} {vl vh : Option Value} (ht : P.underlying t = some (.slice e)) (hs : szP P e = some esz)
    (hx : Rel S φ x v) (hlo : ∀ a, lo = some a → ∃ y, vl = some y ∧ Rel S φ a y) (hlo' : lo = none → vl = none) (hhi : ∀ a, hi = some a → ∃ y, vh = some y ∧ Rel S φ a y) (hhi' : hi = none → vh = none)
    (h : sliceV esz x lo hi = some r) : ∃ u, (Instr.sliceAt t v vl vh none).run P w = .ok u w ∧ Rel S φ r u := by
  have main : ∀ (a : Option Addr) (len cap hh l : Nat), len ≤ cap → sliceB hi len len = some hh → sliceB lo hh 0 = some l →
      l ≤ hh ∧ hh ≤ len ∧ (Instr.sliceAt t (.slice a len cap) vl vh none).run P w = .ok (.slice (if cap = l then a else a.map (·.add (l * esz))) (hh - l) (cap - l)) w := by
    intro a len cap hh l hc h1 h2
    have hsz := run_szP hs w
    have g1 := sliceB_snd (w := w) (P := P) (code := .sliceAcap) hhi hhi' h1
    have g2 := sliceB_snd (w := w) (P := P) (code := .sliceB) hlo hlo' h2
    have g0 : (vh = none ∧ hh = len) ∨ (∃ y, vh = some y ∧ hh ≤ len ∧ (Instr.sliceBound y cap .sliceAcap).run P w = .ok hh w) := by
      rcases g1 with g1 | ⟨y, e1, e2, e3⟩
      · exact .inl g1
      · refine .inr ⟨y, e1, e2, ?_⟩
        cases hi with
        | none => simp [sliceB] at h1; have := hhi' rfl; rw [e1] at this; cases this
        | some a' =>
          obtain ⟨y', hy', hr'⟩ := hhi a' rfl
          rw [e1] at hy'; cases hy'
          unfold sliceB at h1
          split at h1
          · rename_i h0; cases h0
          · rename_i k i h0; cases h0
            split at h1
            · rename_i hi'; cases h1; cases hr'; exact run_sliceBound _ k i cap _ hi'.1 (by omega)
            · cases h1
          · cases h1
    have hle : hh ≤ len := by rcases g0 with ⟨_, e⟩ | ⟨_, _, e, _⟩ <;> omega
    have hle2 : l ≤ hh := by rcases g2 with ⟨_, e⟩ | ⟨_, _, e, _⟩ <;> omega
    refine ⟨hle2, hle, ?_⟩
    rcases g0 with ⟨rfl, rfl⟩ | ⟨y, rfl, _, e3⟩ <;> rcases g2 with ⟨rfl, rfl⟩ | ⟨y2, rfl, _, e4⟩ <;>
      simp [Instr.sliceAt, Instr.slice, run_underlying ht, Instr.sliceBounds, hsz, *]
  unfold sliceV at h
  split at h
  · split at h
    · rename_i h1 h2
      cases h
      cases hx
      obtain ⟨_, _, h3⟩ := main none 0 0 _ _ (Nat.le_refl _) h1 (by
        rename_i l
        have : sliceB hi 0 0 = some 0 := by
          cases hi with
          | none => rfl
          | some a =>
            unfold sliceB at h1 ⊢
            split at h1
            · rename_i h0; cases h0
            · rename_i h0; cases h0; split at h1
              · rename_i hc; simp; omega
              · cases h1
            · cases h1
        rw [h1] at this; cases this; exact h2)
      refine ⟨_, h3, ?_⟩
      have e1 : ∀ hh l, l ≤ hh → hh ≤ 0 → (Value.slice (if 0 = l then none else (none : Option Addr).map (·.add (l * esz))) (hh - l) (0 - l)) = .slice none 0 0 := by
        intro hh l a b
        obtain rfl : hh = 0 := by omega
        obtain rfl : l = 0 := by omega
        simp
      rw [e1 _ _ (by assumption) (by assumption)]
      exact .nils _
    · cases h
  · rename_i e' len cells
    split at h
    · rename_i he
      have he := he.symm
      subst he
      split at h
      · cases h
      · rename_i hh h1
        split at h
        · cases h
        · rename_i l h2
          cases h
          cases hx with
          | cs0 _ _ a cap =>
            obtain ⟨a1, a2, h3⟩ := main a 0 cap hh l (by omega) h1 h2
            refine ⟨_, h3, ?_⟩
            obtain rfl : hh = 0 := by omega
            obtain rfl : l = 0 := by omega
            simpa using Rel.cs0 _ _ _ _
          | cs _ _ _ _ b off cap c vs hS hl hc hcell hr =>
            obtain ⟨a1, a2, h3⟩ := main _ len cap hh l hc h1 h2
            refine ⟨_, h3, ?_⟩
            by_cases hz : hh - l = 0
            · rw [hz]; simpa using Rel.cs0 _ _ _ _
            · rw [if_neg (by omega)]
              simp only [Option.map_some, Addr.add_lit]
              have hlen : (List.take ((hh - l) * esz) (List.drop (l * esz) cells)).length = (hh - l) * esz := by
                have e1 : l * esz + (hh - l) * esz = hh * esz := by rw [← Nat.add_mul]; congr 1; omega
                have e2 : hh * esz ≤ len * esz := Nat.mul_le_mul_right _ a2
                simp; omega
              have sub : ∀ (j : Nat) a, (List.take ((hh - l) * esz) (List.drop (l * esz) cells))[j]? = some a → cells[l * esz + j]? = some a := by
                intro j a hj
                rw [List.getElem?_take] at hj
                split at hj
                · rwa [List.getElem?_drop] at hj
                · cases hj
              refine .cs _ _ _ _ _ _ _ c (fun j => vs (l * esz + j)) hS hlen (by omega) (fun j a hj => ?_) (fun j a hj => hr _ a (sub j a hj))
              have := hcell _ a (sub j a hj); rwa [← Nat.add_assoc] at this
    · cases h
  · rename_i e' o off len
    split at h
    · rename_i he
      have he := he.symm
      subst he
      split at h
      · cases h
      · rename_i hh h1
        split at h
        · cases h
        · rename_i l h2
          cases hx with
          | ms _ _ _ _ _ b z cap hb hc hz =>
            obtain ⟨a1, a2, h3⟩ := main _ len cap hh l hc h1 h2
            refine ⟨_, h3, ?_⟩
            split at h
            · rename_i hlh
              cases h
              have e1 : l * esz + (cap - l) * esz = cap * esz := by rw [← Nat.add_mul]; congr 1; omega
              have e2 : (if cap = l then some (⟨b, off, none⟩ : Addr) else (some (⟨b, off, none⟩ : Addr)).map (·.add (l * esz))) = some ⟨b, off + l * esz, none⟩ := by
                split
                · rename_i e3
                  have : l = 0 := by omega
                  subst this; simp
                · simp [Addr.add_lit]
              rw [e2]
              exact .ms _ _ _ _ _ _ _ _ hb (by omega) (by omega)
            · cases h
              have : hh - l = 0 := by omega
              rw [this]; exact .cs0 _ _ _ _
    · cases h
  · cases h

theorem elemAt_snd {t e : TypeId} {esz : Nat} {x i r : AV} {v u : Value} (ht : P.underlying t = some (.slice e)) (hs : szP P e = some esz)
    (hx : Rel S φ x v) (hi : Rel S φ i u) (h : elemAt esz x i = some r) : ∃ y, (Instr.indexAt t v u).run P w = .ok y w ∧ Rel S φ r y := by
  have hsz := run_szP hs w
  unfold elemAt at h
  split at h
  · rename_i e' len cells k n
    split at h
    · rename_i hc
      obtain ⟨he, h0, h1⟩ := hc
      have he := he.symm
      subst he
      cases h
      cases hi
      cases hx with
      | cs0 => omega
      | cs _ _ _ _ b off cap c vs hS hl hc' hcell hr =>
        refine ⟨.pointer (some ⟨b, off + n.toNat * esz, none⟩), ?_, ?_⟩
        · simp [Instr.indexAt, run_underlying ht, asIntOf, h0, h1, hsz, Addr.add_lit]
        · refine .cptr _ _ _ _ c (fun j => vs (n.toNat * esz + j)) hS (fun j a hj => ?_) (fun j a hj => ?_)
          · rw [List.getElem?_take] at hj
            split at hj
            · rw [List.getElem?_drop] at hj; have := hcell _ a hj; rwa [← Nat.add_assoc] at this
            · cases hj
          · rw [List.getElem?_take] at hj
            split at hj
            · rw [List.getElem?_drop] at hj; exact hr _ a hj
            · cases hj
    · cases h
  · rename_i e' o off len k n
    split at h
    · rename_i hc
      obtain ⟨he, h0, h1⟩ := hc
      have he := he.symm
      subst he
      cases h
      cases hi
      cases hx with
      | ms _ _ _ _ _ b z cap hb hc' hz =>
        refine ⟨.pointer (some ⟨b, off + n.toNat * esz, none⟩), ?_, .ptr _ _ _ _ _ hb⟩
        simp [Instr.indexAt, run_underlying ht, asIntOf, h0, h1, hsz, Addr.add_lit]
    · cases h
  · cases h


theorem opd_opt (hρ : ∀ x y, cOpd x = some y → Rel S φ (τ y) (ρ x)) {x : Option Operand} {y : Option Opd} (h : cOpdO x = some y) :
    (∀ a, y.map τ = some a → ∃ u, x.map ρ = some u ∧ Rel S φ a u) ∧ (y.map τ = none → x.map ρ = none) := by
  cases x with
  | none => simp [cOpdO] at h; subst h; exact ⟨fun a ha => by simp at ha, fun _ => rfl⟩
  | some x =>
    simp only [cOpdO, Option.map_eq_some_iff] at h
    obtain ⟨z, hz, rfl⟩ := h
    refine ⟨fun a ha => ?_, fun ha => by simp at ha⟩
    simp at ha; subst ha
    exact ⟨_, rfl, hρ x z hz⟩

set_option maxHeartbeats 1000000 in
theorem pex_snd (hρ : ∀ x y, cOpd x = some y → Rel S φ (τ y) (ρ x)) {o : Oper} {p : POp} (hc : cOp P m o.op = some (.p p)) {r : AV} (h : pex τ p = some r) :
    VOk P S φ w (execOp ρ o) r := by
  unfold execOp
  cases hop : o.op with
  | move x =>
    simp only [hop, cOp, Option.bind_eq_bind, Option.bind_eq_some_iff, Option.some.injEq, AOp.p.injEq] at hc
    obtain ⟨y, hy, rfl⟩ := hc
    simp only [pex, Option.some.injEq] at h; subst h
    exact ⟨_, rfl, hρ x y hy⟩
  | assign x =>
    simp only [hop, cOp, Option.bind_eq_bind, Option.bind_eq_some_iff, Option.some.injEq, AOp.p.injEq] at hc
    obtain ⟨y, hy, rfl⟩ := hc
    simp only [pex, Option.some.injEq] at h; subst h
    exact ⟨_, rfl, hρ x y hy⟩
  | pick c a b =>
    simp only [hop, cOp, Option.bind_eq_bind, Option.bind_eq_some_iff, Option.some.injEq, AOp.p.injEq] at hc
    obtain ⟨yc, hyc, ya, hya, yb, hyb, rfl⟩ := hc
    have r1 := hρ _ _ hyc
    have r2 := hρ _ _ hya
    have r3 := hρ _ _ hyb
    simp only [pex] at h
    split at h
    · rename_i t ht
      rw [ht] at r1
      cases h
      cases hv : ρ c <;> rw [hv] at r1 <;> cases r1
      refine ⟨if t then ρ a else ρ b, by simp [asBool, hv], ?_⟩
      cases t <;> simpa
    · cases h
  | build t parts =>
    simp only [hop, cOp, Option.bind_eq_bind, Option.bind_eq_some_iff] at hc
    obtain ⟨z, hz, hc⟩ := hc
    obtain ⟨zv, hzv, hzr⟩ := run_zeroP hz w
    split at hc
    · rename_i fs hu
      simp only [Option.bind_eq_some_iff] at hc
      obtain ⟨l, hl, hc⟩ := hc
      split at hc
      · rename_i hall
        simp only [Option.some.injEq, AOp.p.injEq] at hc; subst hc
        simp only [pex, Option.map_eq_some_iff] at h
        obtain ⟨row, hrow, rfl⟩ := h
        obtain ⟨h1, h2⟩ := parts_snd hρ _ _ hl
        -- the places
        have hpl : ∀ (fl : List Field), (fl.all fun f => (szP P f.type).isSome) = true → ∀ (w : World), (fl.mapM fun f => do pure (f.offset, ← sizeOf f.type) : Sem (List (Nat × Nat))).run P w = .ok (fl.map fun f => (f.offset, (szP P f.type).getD 0)) w := by
          intro fl
          induction fl with
          | nil => intro _ w; simp
          | cons f fl ih =>
            intro ha w
            simp only [List.all_cons, Bool.and_eq_true] at ha
            obtain ⟨n, hn⟩ := Option.isSome_iff_exists.1 ha.1
            simp only [List.mapM_cons, Sem.run_bind, run_szP hn, Result.andThen_ok, Sem.run_pure, ih ha.2 w, List.map_cons, hn, Option.getD_some]
        have hpl' : (fs.mapM fun f => do pure (f.offset, ← sizeOf f.type) : Sem (Array (Nat × Nat))).run P w = .ok (fs.toList.map fun f => (f.offset, (szP P f.type).getD 0)).toArray w := by
          rw [Array.mapM_eq_mapM_toList]
          simp only [Sem.run_map, hpl fs.toList hall w, Result.andThen_ok]
        obtain ⟨c', hc', hr', hsz'⟩ := fill_snd (S := S) (φ := φ) (place := ((fs.toList.map fun f => (f.offset, (szP P f.type).getD 0)).toArray[·]?)) (parts.toList.map fun (i, x) => (i, ρ x)) _ z.cells zv.cells row (by simpa using h1) (by
          intro j p q hp hq
          obtain ⟨g1, g2⟩ := h2 j p q hp hq
          refine ⟨?_, g2⟩
          simp only [Option.bind_eq_some_iff, Option.some.injEq] at g1
          obtain ⟨f, hf, n, hn, hfn⟩ := g1
          have hf' : fs.toList[q.1]? = some f := by simpa using hf
          simpa [hf, hn] using hfn) (hzr S φ).cells hrow
        refine ⟨.agg c', ?_, Rel.agg_iff.2 hr'⟩
        simp only [Instr.build, Sem.run_bind, hzv, Result.andThen_ok, run_underlying hu, hpl', Array.toList_map, hc']
        rfl
      · cases hc
    · rename_i n e hu
      simp only [Option.bind_eq_some_iff, Option.some.injEq, AOp.p.injEq] at hc
      obtain ⟨s, hs, l, hl, rfl⟩ := hc
      simp only [pex, Option.map_eq_some_iff] at h
      obtain ⟨row, hrow, rfl⟩ := h
      obtain ⟨h1, h2⟩ := parts_snd hρ _ _ hl
      obtain ⟨c', hc', hr', hsz'⟩ := fill_snd (S := S) (φ := φ) (place := fun i => some (i * s, s)) (parts.toList.map fun (i, x) => (i, ρ x)) _ z.cells zv.cells row (by simpa using h1) h2 (hzr S φ).cells hrow
      refine ⟨.agg c', ?_, Rel.agg_iff.2 hr'⟩
      simp only [Instr.build, Sem.run_bind, hzv, Result.andThen_ok, run_underlying hu, run_szP hs, Array.toList_map, hc']
      rfl
    · cases hc
  | nilCheck x =>
    simp only [hop, cOp, Option.bind_eq_bind, Option.bind_eq_some_iff, Option.some.injEq, AOp.p.injEq] at hc
    obtain ⟨y, hy, rfl⟩ := hc
    have r1 := hρ _ _ hy
    simp only [pex] at h
    split at h <;> first | (cases h; done) | skip
    all_goals
      rename_i ht
      rw [ht] at r1
      cases h
      cases hv : ρ x <;> rw [hv] at r1 <;> cases r1
      all_goals exact ⟨_, by simp only [hv]; rfl, by constructor <;> assumption⟩
  | binOp op t x y yt =>
    simp only [hop, cOp, Option.bind_eq_bind, Option.bind_eq_some_iff] at hc
    obtain ⟨a, ha, b, hb, hc⟩ := hc
    have r1 := hρ _ _ ha
    have r2 := hρ _ _ hb
    split at hc
    · rename_i k hu
      split at hc
      · rename_i hok
        simp only [Option.some.injEq, AOp.p.injEq] at hc; subst hc
        simp only [pex] at h
        split at h
        · rename_i k1 n1 k2 n2 h1 h2
          rw [h1] at r1; rw [h2] at r2
          split at h
          · rename_i hk; subst hk
            cases hv1 : ρ x <;> rw [hv1] at r1 <;> cases r1
            cases hv2 : ρ y <;> rw [hv2] at r2 <;> cases r2
            obtain ⟨v, hv, hr⟩ := binI_snd (P := P) (S := S) (φ := φ) (w := w) (t := t) (x := x) (y := y) hok h
            simp only [hv1, hv2]
            exact VOk.of_run hv hr
          · cases h
        · cases h
      · cases hc
    all_goals first
      | (rename_i hu
         simp only [Option.some.injEq, AOp.p.injEq] at hc; subst hc
         simp only [pex] at h
         split at h
         · rename_i n1 n2 h1 h2
           rw [h1] at r1; rw [h2] at r2
           cases h
           cases hv1 : ρ x <;> rw [hv1] at r1 <;> cases r1
           cases hv2 : ρ y <;> rw [hv2] at r2 <;> cases r2
           refine ⟨_, ?_, .bool _ _⟩
           have hq : (Op.equal t (.bool n1) (.bool n2)).run P w = .ok (n1 == n2) w := run_equalIn_bool' w 9999 t n1 n2 hu
           simp [eqGuard, binOp, hq, hv1, hv2]
         · cases h)
      | (rename_i fs hu
         simp only [Option.bind_eq_some_iff, Option.some.injEq, AOp.p.injEq] at hc
         obtain ⟨ks, hks, rfl⟩ := hc
         obtain ⟨fs', hu', hh1, hh2, hk⟩ := plainStruct_spec hks
         rw [hu] at hu'; cases hu'
         simp only [pex] at h
         split at h
         · rename_i n1 n2 h1 h2
           rw [h1] at r1; rw [h2] at r2
           simp only [Option.map_eq_some_iff] at h
           obtain ⟨e, he, rfl⟩ := h
           cases hv1 : ρ x <;> rw [hv1] at r1 <;> first | (cases r1; done) | skip
           rename_i xs
           cases hv2 : ρ y <;> rw [hv2] at r2 <;> first | (cases r2; done) | skip
           rename_i ys
           have q1 := Rel.agg_iff.1 r1
           have q2 := Rel.agg_iff.1 r2
           have hfo : P.underlying t = some (.struct (P.fieldsOf t)) := by simp [Program.fieldsOf, hu]
           have hfo' : P.fieldsOf t = fs := by simp [Program.fieldsOf, hu]
           have hq : (Op.equal t (.agg xs) (.agg ys)).run P w = .ok e w := by
             have := run_equalIn_struct (P := P) w 9999 t xs ys hfo hh1
             rw [hfo'] at this
             refine this.trans (eqFields_snd (S := S) (φ := φ) 9998 fs.toList ks 0 n1 n2 e hk (fun j a hj => ?_) (fun j a hj => ?_) he)
             · obtain ⟨u, hu', hr'⟩ := q1.get hj; exact ⟨u, by simpa using hu', hr'⟩
             · obtain ⟨u, hu', hr'⟩ := q2.get hj; exact ⟨u, by simpa using hu', hr'⟩
           refine ⟨_, ?_, .bool _ _⟩
           simp [eqGuard, binOp, hq, hh2, hv1, hv2]
         · cases h)
      | (cases hc; done)
  | unOp op t x =>
    have main : ∀ y, cOpd x = some y → (op = .neg ∨ op = .not) → pex τ (.un op y) = some r → VOk P S φ w (do pure (.value (← Op.unary op (ρ x)))) r := by
      intro y hy hop2 h
      have r1 := hρ _ _ hy
      simp only [pex] at h
      split at h
      · rename_i k n h1
        rw [h1] at r1
        cases h
        cases hv : ρ x <;> rw [hv] at r1 <;> cases r1
        exact ⟨_, by simp [Op.unary, Op.intArith]; rfl, by rw [wr_eq, show (0 : Int) - n = -n by omega]; exact .int _ _ _⟩
      · rename_i b h1
        rw [h1] at r1
        cases h
        cases hv : ρ x <;> rw [hv] at r1 <;> cases r1
        exact ⟨.bool !b, by simp [Op.unary], .bool _ _⟩
      · cases h
    cases op <;> simp only [hop, cOp, Option.bind_eq_bind, Option.bind_eq_some_iff, Option.some.injEq, AOp.p.injEq, reduceCtorEq] at hc
    · obtain ⟨y, hy, rfl⟩ := hc; exact main y hy (.inl rfl) h
    · obtain ⟨y, hy, rfl⟩ := hc; exact main y hy (.inr rfl) h
  | convert s d x =>
    simp only [hop, cOp, Option.bind_eq_bind, Option.bind_eq_some_iff] at hc
    split at hc
    · rename_i k0 k hs hd
      simp only [Option.bind_eq_some_iff, Option.some.injEq, AOp.p.injEq] at hc
      obtain ⟨y, hy, rfl⟩ := hc
      have r1 := hρ _ _ hy
      simp only [pex] at h
      split at h
      · rename_i k1 n h1
        rw [h1] at r1
        cases h
        cases hv : ρ x <;> rw [hv] at r1 <;> cases r1
        refine ⟨.int k (k.wrap n), ?_, by rw [wr_eq]; exact .int _ _ _⟩
        simp [convert, run_underlying hs, run_underlying hd, Conv.intToInt, hv]
      · cases h
    · cases hc
  | makeFunc fn first captured =>
    cases fn <;> simp only [hop, cOp, Option.bind_eq_bind, Option.bind_eq_some_iff, Option.some.injEq, AOp.p.injEq, reduceCtorEq] at hc
    obtain ⟨a, ha, b, hb, rfl⟩ := hc
    simp only [pex, Option.some.injEq] at h; subst h
    have q1 := opds_snd hρ ha
    have q2 := opds_snd hρ hb
    refine ⟨_, by simp [Instr.makeFunc]; rfl, ?_⟩
    exact .fn _ _ _ _ _ _ (by simpa using q1.1) (by simpa using q2.1) (fun j x v h1 h2 => q1.2 j x v h1 (by simpa using h2)) (fun j x v h1 h2 => q2.2 j x v h1 (by simpa using h2))
  | slice t x lo hi mx =>
    cases mx with
    | some _ => simp [hop, cOp] at hc
    | none =>
      simp only [hop, cOp] at hc
      split at hc
      · rename_i e hu
        simp only [Option.bind_eq_bind, Option.bind_eq_some_iff, Option.some.injEq, AOp.p.injEq] at hc
        obtain ⟨s, hs, y, hy, l, hl, hh, hhh, rfl⟩ := hc
        simp only [pex] at h
        obtain ⟨u, hu', hr⟩ := sliceV_snd (w := w) hu hs (hρ _ _ hy) (opd_opt hρ hl).1 (opd_opt hρ hl).2 (opd_opt hρ hhh).1 (opd_opt hρ hhh).2 h
        exact VOk.of_run hu' hr
      · cases hc
  | fieldAddr t x f =>
    simp only [hop, cOp] at hc
    split at hc
    · rename_i fs hu
      simp only [Option.bind_eq_bind, Option.bind_eq_some_iff] at hc
      obtain ⟨g, hg, n, hn, hc⟩ := hc
      split at hc
      · cases hc
      · rename_i hn0
        simp only [Option.bind_eq_some_iff, Option.some.injEq, AOp.p.injEq] at hc
        obtain ⟨y, hy, rfl⟩ := hc
        simp only [pex] at h
        obtain ⟨a, ha, hr⟩ := addOff_snd (hρ _ _ hy) h
        refine ⟨_, ?_, hr⟩
        simp [Instr.fieldAt, run_underlying hu, hg, ha, Instr.sureAddr, fieldPlace, run_szP hn, hn0]
    · cases hc
  | field t x f =>
    simp only [hop, cOp] at hc
    split at hc
    · rename_i fs hu
      simp only [Option.bind_eq_bind, Option.bind_eq_some_iff, Option.some.injEq, AOp.p.injEq] at hc
      obtain ⟨g, hg, ag, hag, n, hn, y, hy, rfl⟩ := hc
      have r1 := hρ _ _ hy
      simp only [pex] at h
      split at h
      · rename_i c h1
        rw [h1] at r1
        cases hv : ρ x <;> rw [hv] at r1 <;> first | (cases r1; done) | skip
        rename_i cs
        obtain ⟨v, hv', hr⟩ := run_part hag hn (Rel.agg_iff.1 r1) h w
        refine ⟨v, ?_, hr⟩
        simp [Instr.field, run_underlying hu, hg, asAgg, hv, hv']
      · cases h
    · cases hc
  | indexAddr t x i =>
    simp only [hop, cOp] at hc
    split at hc
    · rename_i n e hu
      simp only [Option.bind_eq_bind, Option.bind_eq_some_iff, Option.some.injEq, AOp.p.injEq] at hc
      obtain ⟨s, hs, y, hy, z, hz, rfl⟩ := hc
      have r1 := hρ _ _ hz
      simp only [pex] at h
      split at h
      · rename_i k j h1
        rw [h1] at r1
        split at h
        · rename_i hj
          obtain ⟨a, ha, hr⟩ := addOff_snd (hρ _ _ hy) h
          cases hv : ρ i <;> rw [hv] at r1 <;> cases r1
          refine ⟨_, ?_, hr⟩
          simp [Instr.indexAt, run_underlying hu, asIntOf, ha, Instr.sureAddr, hj.1, hj.2, run_szP hs, hv]
        · cases h
      · cases h
    · rename_i e hu
      simp only [Option.bind_eq_bind, Option.bind_eq_some_iff, Option.some.injEq, AOp.p.injEq] at hc
      obtain ⟨s, hs, y, hy, z, hz, rfl⟩ := hc
      simp only [pex] at h
      obtain ⟨u, hu', hr⟩ := elemAt_snd (w := w) hu hs (hρ _ _ hy) (hρ _ _ hz) h
      exact VOk.of_run hu' hr
    · cases hc
  | index t x i =>
    simp only [hop, cOp] at hc
    split at hc
    · rename_i n e hu
      simp only [Option.bind_eq_bind, Option.bind_eq_some_iff, Option.some.injEq, AOp.p.injEq] at hc
      obtain ⟨ag, hag, s, hs, y, hy, z, hz, rfl⟩ := hc
      have r1 := hρ _ _ hy
      have r2 := hρ _ _ hz
      simp only [pex] at h
      split at h
      · rename_i c k j h1 h2
        rw [h1] at r1; rw [h2] at r2
        split at h
        · rename_i hj
          cases hv : ρ x <;> rw [hv] at r1 <;> first | (cases r1; done) | skip
          rename_i cs
          cases hv2 : ρ i <;> rw [hv2] at r2 <;> cases r2
          obtain ⟨v, hv', hr⟩ := run_part hag hs (Rel.agg_iff.1 r1) h w
          refine ⟨v, ?_, hr⟩
          simp [Instr.index, run_underlying hu, asIntOf, hj.1, hj.2, run_szP hs, hv, hv2, hv']
        · cases h
      · cases h
    · cases hc
  | extract x ix =>
    simp only [hop, cOp, Option.bind_eq_bind, Option.bind_eq_some_iff, Option.some.injEq, AOp.p.injEq] at hc
    obtain ⟨y, hy, rfl⟩ := hc
    have r1 := hρ _ _ hy
    simp only [pex] at h
    split at h
    · rename_i vs h1
      rw [h1] at r1
      cases hv : ρ x <;> rw [hv] at r1 <;> first | (cases r1; done) | skip
      rename_i us
      obtain ⟨u, hu, hr⟩ := (Rel.tup_iff.1 r1).get h
      refine ⟨u, ?_, hr⟩
      have hu' : us[ix]? = some u := by simpa using hu
      simp [Instr.extract, hv, hu']
    · cases h
  | call c =>
    simp only [hop, cOp, Option.bind_eq_bind, Option.bind_eq_some_iff] at hc
    obtain ⟨as, has, hc⟩ := hc
    have q := opds_snd hρ has
    cases hcal : c.callee with
    | value x => cases x <;> simp [hcal, Option.bind_eq_some_iff] at hc
    | invoke r n => simp [hcal] at hc
    | builtin b =>
      have hargs : (c.args.map ρ).toList = c.args.toList.map ρ := by simp
      have hgo : ∀ (f : Array TypeId → TypeId → Array Value → Sem Value) (v : Value), (∀ (ty : TypeId) (con : Array Bool), builtin b c.argTypes ty con (c.args.map ρ) = (do pure (.value (← f c.argTypes ty (c.args.map ρ))))) →
          (∀ ty, (f c.argTypes ty (c.args.map ρ)).run P w = .ok v w) → Rel S φ r v → VOk P S φ w (do let d ← resolve ρ c o.type; invoke d.target d.args) r := by
        intro f v h1 h2 h3
        refine ⟨v, ?_, h3⟩
        simp [resolve, hcal, invoke, h1, h2]
      cases b <;> simp only [hcal, reduceCtorEq] at hc
      case append =>
        split at hc <;> simp [Option.bind_eq_some_iff] at hc
      case cap =>
        split at hc
        · rename_i hu
          simp only [Option.some.injEq, AOp.p.injEq] at hc; subst hc
          obtain ⟨v, rest, e1, hv, hrest⟩ := q.cons_inv
          obtain rfl : rest = [] := by have := hrest.1; cases rest <;> simp_all
          have e2 : c.args.map ρ = #[v] := by apply Array.ext'; rw [hargs, e1]
          simp only [Option.bind_eq_some_iff] at hu
          obtain ⟨t0, ht0, hu⟩ := hu
          simp only [pex] at h
          split at h
          · rename_i h1
            rw [h1] at hv; cases hv; cases h
            refine hgo Builtin.cap_ (.int .i64 0) (fun _ _ => rfl) (fun ty => ?_) (.int _ _ _)
            simp [Builtin.cap_, ht0, e2, run_underlying hu, goInt]
          · cases h
        · cases hc
      case len =>
        split at hc
        · rename_i hu
          simp only [Option.some.injEq, AOp.p.injEq] at hc; subst hc
          obtain ⟨v, rest, e1, hv, hrest⟩ := q.cons_inv
          obtain rfl : rest = [] := by have := hrest.1; cases rest <;> simp_all
          have e2 : c.args.map ρ = #[v] := by apply Array.ext'; rw [hargs, e1]
          simp only [Option.bind_eq_some_iff] at hu
          obtain ⟨t0, ht0, hu⟩ := hu
          simp only [pex] at h
          split at h
          · rename_i h1
            rw [h1] at hv; cases hv; cases h
            refine hgo Builtin.len_ (.int .i64 0) (fun _ _ => rfl) (fun ty => ?_) (.int _ _ _)
            simp [Builtin.len_, ht0, e2, run_underlying hu, goInt]
          · rename_i len _ h1
            rw [h1] at hv; cases h
            refine hgo Builtin.len_ (.int .i64 len) (fun _ _ => rfl) (fun ty => ?_) (.int _ _ _)
            cases hv <;> simp [Builtin.len_, ht0, e2, run_underlying hu, goInt]
          · rename_i len h1
            rw [h1] at hv; cases h
            refine hgo Builtin.len_ (.int .i64 len) (fun _ _ => rfl) (fun ty => ?_) (.int _ _ _)
            cases hv <;> simp [Builtin.len_, ht0, e2, run_underlying hu, goInt]
          · cases h
        · rename_i n e x' hu
          simp only [Option.some.injEq, AOp.p.injEq] at hc; subst hc
          obtain ⟨v, rest, e1, hv, hrest⟩ := q.cons_inv
          obtain rfl : rest = [] := by have := hrest.1; cases rest <;> simp_all
          have e2 : c.args.map ρ = #[v] := by apply Array.ext'; rw [hargs, e1]
          simp only [Option.bind_eq_some_iff] at hu
          obtain ⟨t0, ht0, hu⟩ := hu
          simp only [pex, Option.some.injEq] at h; subst h
          refine hgo Builtin.len_ (.int .i64 n) (fun _ _ => rfl) (fun ty => ?_) (.int _ _ _)
          simp [Builtin.len_, ht0, e2, run_underlying hu, goInt]
        · rename_i a x' hu
          split at hc
          · rename_i n e hua
            simp only [Option.some.injEq, AOp.p.injEq] at hc; subst hc
            obtain ⟨v, rest, e1, hv, hrest⟩ := q.cons_inv
            obtain rfl : rest = [] := by have := hrest.1; cases rest <;> simp_all
            have e2 : c.args.map ρ = #[v] := by apply Array.ext'; rw [hargs, e1]
            simp only [Option.bind_eq_some_iff] at hu
            obtain ⟨t0, ht0, hu⟩ := hu
            simp only [pex, Option.some.injEq] at h; subst h
            refine hgo Builtin.len_ (.int .i64 n) (fun _ _ => rfl) (fun ty => ?_) (.int _ _ _)
            simp [Builtin.len_, ht0, e2, run_underlying hu, run_underlying hua, goInt]
          · cases hc
        · cases hc
      case max =>
        split at hc
        · rename_i x' xs
          simp only [Option.some.injEq, AOp.p.injEq] at hc; subst hc
          obtain ⟨v, rest, e1, hv, hrest⟩ := q.cons_inv
          have e2 : (c.args.map ρ).toList = v :: rest := by rw [hargs, e1]
          simp only [pex] at h
          obtain ⟨u, hu, hr⟩ := mm_snd (w := w) (P := P) true _ _ _ _ _ hrest hv h
          refine hgo Builtin.max_ u (fun _ _ => rfl) (fun ty => ?_) hr
          unfold Builtin.max_; rw [e2]; exact hu
        · cases hc
      case min =>
        split at hc
        · rename_i x' xs
          simp only [Option.some.injEq, AOp.p.injEq] at hc; subst hc
          obtain ⟨v, rest, e1, hv, hrest⟩ := q.cons_inv
          have e2 : (c.args.map ρ).toList = v :: rest := by rw [hargs, e1]
          simp only [pex] at h
          obtain ⟨u, hu, hr⟩ := mm_snd (w := w) (P := P) false _ _ _ _ _ hrest hv h
          refine hgo Builtin.min_ u (fun _ _ => rfl) (fun ty => ?_) hr
          unfold Builtin.min_; rw [e2]; exact hu
        · cases hc
  | buildSlice t len parts =>
    simp only [hop, cOp] at hc
    split at hc <;> simp [Option.bind_eq_some_iff] at hc
  | makeSlice t l c =>
    simp only [hop, cOp] at hc
    split at hc <;> simp [Option.bind_eq_some_iff] at hc
  | _ => simp [hop, cOp, Option.bind_eq_some_iff] at hc

end Go.Am
