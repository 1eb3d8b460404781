/-
Operations but for calls: all of them.
-/
import Derived.Test.YtfkhcljimkbmeaaAmOps
namespace Go.Am
open Go
set_option linter.unusedVariables false
set_option linter.unusedSimpArgs false

variable {P : Program} {mode : Nat → Nat → Nat} {S : Fz} {φ : Mp} {B : Nat} {h : List AO} {w : World} {ρ : Operand → Value} {τ : Opd → AV} {m : Nat → Nat}

def AOp.isCall : AOp → Bool
  | .call .. | .callv .. => true
  | _ => false

theorem kept_call {a b : AOp} (h : a.kept = b.kept) (hb : b.isCall = false) : a.isCall = false := by
  cases a <;> cases b <;> simp_all [AOp.kept, AOp.isCall]

theorem kept_p {a : AOp} {p : POp} (h : a.kept = (AOp.p p).kept) : a = .p p := by
  cases a <;> simp_all [AOp.kept]

theorem kept_append {k0 : Bool} {x y : Nat} {s t : Opd} {a : AOp} (h : (AOp.append k0 x y s t).kept = a.kept) : ∃ k, a = .append k x y s t := by
  cases a <;> simp_all [AOp.kept]

theorem zv_len {z : AV} {zv : Value} (hz : ∀ S φ, Rel S φ z zv) : zv.cells.size = z.cells.length := by
  have := (hz (fun _ => none) Mp.no).cells.1; simp at this; omega

theorem appendZ_snd (H : HR P mode S φ B h w) {lim : Nat} (pl : Option Nat) (hp : PlOk φ h pl) {t u ty e : TypeId} {esz eb n : Nat} {z : AV} (ht : P.underlying t = some (.slice e)) (hu : P.underlying u = some (.int .i64)) (hz : zeroP P e = some z) (hs : szP P e = some esz) (hb : ebP P e = some eb)
    (hzs : z.cells.length = esz) (hs1 : 1 ≤ esz) (hn : 1 ≤ n) (hbig : eb * n ≤ 1099511627776) (heb : 1 ≤ eb) :
    ∃ v w' φ', (Builtin.append_ #[t, u] ty #[.slice none 0 0, .int .i64 (n : Int)]).run P w = .ok v w' ∧ Rel S φ' (.ms esz (pl.getD h.length) 0 n) v ∧ Post P mode S φ B lim h w pl S φ' (newAt pl h (zeros n z.cells)) w' := by
  obtain ⟨i, hi, hisz⟩ := szP_info hs
  obtain ⟨zv, hzv, hzr⟩ := zeroP_info hz hi
  have hib : i.bytes = eb := by simp only [ebP, hi, Option.map_some, Option.some.injEq] at hb; exact hb
  have hzz : zv.cells.size = esz := by rw [zv_len hzr, hzs]
  have hn1 : n ≤ 1099511627776 := Nat.le_trans (Nat.le_mul_of_pos_left _ heb) hbig
  have hwrap : IntKind.i64.wrap (n : Int) = n := by rw [IntKind.wrap_i64]; omega
  have hbig' : (n : Int) * (i.bytes : Int) ≤ 1099511627776 := by
    have : ((eb * n : Nat) : Int) ≤ 1099511627776 := by omega
    rw [Int.natCast_mul, Int.mul_comm] at this; rw [hib]; exact this
  have h1 : ¬ ((n : Int) < 0) := by omega
  have h2 : ¬ (281474976710656 < (n : Int) * (i.bytes : Int)) := by omega
  have h3 : ¬ n = 0 := by omega
  have h4 : ¬ (9223372036854775807 < (n : Int)) := by omega
  have hbn : n * i.bytes ≤ 1099511627776 := by rw [hib, Nat.mul_comm]; exact hbig
  have h5 : ¬ (281474976710656 < Builtin.nextslicecap n 0 * i.bytes) := by rw [nextslicecap_zero (by omega)]; omega
  have h6 : ¬ n * i.size = 0 := by rw [hisz]; have := Nat.mul_pos hn hs1; omega
  have hr : (Builtin.append_ #[t, u] ty #[.slice none 0 0, .int .i64 (n : Int)]).run P w = .ok (.slice (some ⟨w.heap.size, 0, none⟩) n (grownCap w n 0 e))
      (w.drew.alloc (.cells (Builtin.zeroCells zv.cells n ++ Builtin.zeroCells zv.cells (grownCap w n 0 e - n)) e)) := by
    have hne : i.size ≠ 0 := by omega
    simp [Builtin.append_, run_underlying ht, run_underlying hu, sizeOf, typeInfo, zeroValue, hi, hzv, Builtin.lenOf, asInt, asIntOf, hwrap, h1, h2, h3, h4, h5, hne, Question.forced, run_firstCells_none, newRow, grownCap]
    exact fun h0 => absurd h0 h6
  have Hd := H.heap (w' := w.drew) rfl
  have hrow : ∀ (j : Nat) x, (zeros n z.cells)[j]? = some x → ∃ v, (Builtin.zeroCells zv.cells n ++ Builtin.zeroCells zv.cells (grownCap w n 0 e - n))[j]? = some v ∧ Rel S φ x v := by
    intro j x hx
    obtain ⟨v, hv, hrv⟩ := zeros_row ((hzr S φ).cells) n (n * zv.cells.size) (by rw [hzz, hzs]; exact Nat.le_refl _) (f := fun i => zv.cells[i % zv.cells.size]!) (fun j _ => rfl) j x hx
    refine ⟨v, ?_, hrv⟩
    have hl := (List.getElem?_eq_some_iff.1 hx).1
    rw [zeros_len, hzs] at hl
    rw [Array.getElem?_append_left (by rw [size_zeroCells, hzz]; exact hl)]
    exact hv
  have hp2 := newRow_post Hd pl hp e (c := zeros n z.cells) (cs := Builtin.zeroCells zv.cells n ++ Builtin.zeroCells zv.cells (grownCap w n 0 e - n)) (by
    rw [zeros_len, Array.size_append, size_zeroCells, hzz, hzs]; omega) hrow false lim
  rw [newAt_eq]
  refine ⟨_, _, _, hr, ?_, ⟨hp2.hr, hp2.le, hp2.sle, ⟨rfl, rfl, rfl, by simp, fun q hq => hp2.fx.old q hq⟩, hp2.len, hp2.keep, hp2.none⟩⟩
  refine .ms _ _ _ _ _ _ _ _ (Mp.set_same _ _ _) (grownCap_ge w n 0 e) ?_
  simp only [Array.size_append, size_zeroCells, hzz, Nat.zero_add]
  rw [← Nat.add_mul]
  have := grownCap_ge w n 0 e
  exact Nat.mul_le_mul_right _ (by omega)

def memOp : Op → Bool
  | .load .. | .store .. | .alloc _ | .box .. | .buildSlice .. | .makeSlice .. | .call _ => true
  | _ => false
theorem cOp_cls {P : Program} {m : Nat → Nat} {op : Op} {a : AOp} (h : cOp P m op = some a) :
    (∃ p, a = .p p) ∨ memOp op = true := by
  cases op with
  | unOp op t x =>
    left
    cases op <;> simp only [cOp, Option.bind_eq_bind, Option.bind_eq_some_iff, Option.some.injEq, reduceCtorEq] at h
    all_goals (obtain ⟨_, _, h⟩ := h; exact ⟨_, h.symm⟩)
  | makeFunc fn a b =>
    left
    cases fn <;> simp only [cOp, Option.bind_eq_bind, Option.bind_eq_some_iff, Option.some.injEq, reduceCtorEq] at h
    all_goals (obtain ⟨_, _, _, _, h⟩ := h; exact ⟨_, h.symm⟩)
  | slice t x lo hi mx =>
    left
    cases mx <;> simp only [cOp, Option.bind_eq_bind, reduceCtorEq] at h
    split at h
    · simp only [Option.bind_eq_some_iff, Option.some.injEq] at h
      obtain ⟨_, _, _, _, _, _, _, _, h⟩ := h; exact ⟨_, h.symm⟩
    · cases h
  | binOp op t x y yt =>
    left
    simp only [cOp, Option.bind_eq_bind, Option.bind_eq_some_iff] at h
    obtain ⟨_, _, _, _, h⟩ := h
    split at h
    · split at h
      · simp only [Option.some.injEq] at h; exact ⟨_, h.symm⟩
      · cases h
    · simp only [Option.some.injEq] at h; exact ⟨_, h.symm⟩
    · simp only [Option.some.injEq] at h; exact ⟨_, h.symm⟩
    · simp only [Option.bind_eq_some_iff, Option.some.injEq] at h; obtain ⟨_, _, h⟩ := h; exact ⟨_, h.symm⟩
    · simp only [Option.bind_eq_some_iff, Option.some.injEq] at h; obtain ⟨_, _, h⟩ := h; exact ⟨_, h.symm⟩
    · cases h
  | build t ps =>
    left
    simp only [cOp, Option.bind_eq_bind, Option.bind_eq_some_iff] at h
    obtain ⟨_, _, h⟩ := h
    split at h
    · simp only [Option.bind_eq_some_iff] at h
      obtain ⟨_, _, h⟩ := h
      split at h
      · simp only [Option.some.injEq] at h; exact ⟨_, h.symm⟩
      · cases h
    · simp only [Option.bind_eq_some_iff, Option.some.injEq] at h
      obtain ⟨_, _, _, _, h⟩ := h; exact ⟨_, h.symm⟩
    · cases h
  | fieldAddr t x f =>
    left
    simp only [cOp, Option.bind_eq_bind] at h
    split at h
    · simp only [Option.bind_eq_some_iff] at h
      obtain ⟨_, _, _, _, h⟩ := h
      split at h
      · cases h
      · simp only [Option.bind_eq_some_iff, Option.some.injEq] at h
        obtain ⟨_, _, h⟩ := h; exact ⟨_, h.symm⟩
    · cases h
  | field t x f =>
    left
    simp only [cOp, Option.bind_eq_bind] at h
    split at h
    · simp only [Option.bind_eq_some_iff, Option.some.injEq] at h
      obtain ⟨_, _, _, _, _, _, _, _, h⟩ := h; exact ⟨_, h.symm⟩
    · cases h
  | indexAddr t x i =>
    left
    simp only [cOp, Option.bind_eq_bind] at h
    split at h
    · simp only [Option.bind_eq_some_iff, Option.some.injEq] at h
      obtain ⟨_, _, _, _, _, _, h⟩ := h; exact ⟨_, h.symm⟩
    · simp only [Option.bind_eq_some_iff, Option.some.injEq] at h
      obtain ⟨_, _, _, _, _, _, h⟩ := h; exact ⟨_, h.symm⟩
    · cases h
  | index t x i =>
    left
    simp only [cOp, Option.bind_eq_bind] at h
    split at h
    · simp only [Option.bind_eq_some_iff, Option.some.injEq] at h
      obtain ⟨_, _, _, _, _, _, _, _, h⟩ := h; exact ⟨_, h.symm⟩
    · cases h
  | convert s d x =>
    left
    simp only [cOp, Option.bind_eq_bind] at h
    split at h
    · simp only [Option.bind_eq_some_iff, Option.some.injEq] at h
      obtain ⟨_, _, h⟩ := h; exact ⟨_, h.symm⟩
    · cases h
  | move x | assign x | nilCheck x =>
    left
    simp only [cOp, Option.bind_eq_bind, Option.bind_eq_some_iff, Option.some.injEq] at h
    obtain ⟨_, _, h⟩ := h; exact ⟨_, h.symm⟩
  | pick a b c =>
    left
    simp only [cOp, Option.bind_eq_bind, Option.bind_eq_some_iff, Option.some.injEq] at h
    obtain ⟨_, _, _, _, _, _, h⟩ := h; exact ⟨_, h.symm⟩
  | extract x ix =>
    left
    simp only [cOp, Option.bind_eq_bind, Option.bind_eq_some_iff, Option.some.injEq] at h
    obtain ⟨_, _, h⟩ := h; exact ⟨_, h.symm⟩
  | load | store | alloc | box | buildSlice | makeSlice | call => exact .inr rfl
  | _ => simp [cOp] at h

theorem memOp_snd (H : HR P mode S φ B h w) (hρ : ∀ x y, cOpd x = some y → Rel S φ (τ y) (ρ x)) {lim : Nat} (pl : Option Nat) (hp : PlOk φ h pl) {o : Oper} {a0 a : AOp} (hc : cOp P m o.op = some a0) (hk : a0.kept = a.kept) (ha : a.isCall = false) (hnp : ∀ p, a ≠ .p p)
    {call : Callee} {r : AV} {h' : List AO} (hx : exOp call lim pl τ h a = some (r, h')) (hm : memOp o.op = true) : OpOk P mode S φ B lim h w pl (execOp ρ o) r h' := by
  unfold execOp
  cases hop : o.op with
  | load t y =>
    simp only [hop, cOp, Option.bind_eq_bind, Option.bind_eq_some_iff, Option.some.injEq] at hc
    obtain ⟨ag, hag, size, hsz, x, hx', rfl⟩ := hc
    obtain rfl : a = .load ag size x := by cases a <;> simp_all [AOp.kept]
    have r1 := hρ _ _ hx'
    simp only [exOp] at hx
    split at hx
    · rename_i q off hq
      split at hx
      · rename_i c hrow
        simp only [Option.map_eq_some_iff, Prod.mk.injEq] at hx
        obtain ⟨v, hv, rfl, rfl⟩ := hx
        rw [hq] at r1
        obtain ⟨b, hb, hcell⟩ := ptr_cells H hrow r1
        obtain ⟨u, hu, hr⟩ := loadVar_snd hag hsz hcell hv
        exact OpOk.of_run (by simpa [Instr.loadAt, Instr.sureAddr, hb] using hu) hr (Post.refl H lim pl)
      · cases hx
    · rename_i c hq
      simp only [Option.map_eq_some_iff, Prod.mk.injEq] at hx
      obtain ⟨v, hv, rfl, rfl⟩ := hx
      rw [hq] at r1
      obtain ⟨b, off, hb, hcell⟩ := cptr_cells H r1
      obtain ⟨u, hu, hr⟩ := loadVar_snd hag hsz hcell hv
      exact OpOk.of_run (by simpa [Instr.loadAt, Instr.sureAddr, hb] using hu) hr (Post.refl H lim pl)
    · cases hx
  | store t y z =>
    simp only [hop, cOp, Option.bind_eq_bind, Option.bind_eq_some_iff, Option.some.injEq] at hc
    obtain ⟨size, hsz, x, hx', u, hu, rfl⟩ := hc
    obtain rfl : a = .store size x u := by cases a <;> simp_all [AOp.kept]
    have r1 := hρ _ _ hx'
    have r2 := hρ _ _ hu
    simp only [exOp] at hx
    split at hx
    · rename_i q off hq
      split at hx
      · rename_i c hrow
        split at hx
        · rename_i hcc
          obtain ⟨hl, hfit, hsc, hlim⟩ := hcc
          cases hx
          rw [hq] at r1
          obtain ⟨b1, z1, hb1, hSb, hor⟩ : ∃ b z, φ q = some (b, z) ∧ S b = none ∧ ORow S φ w c b z := by
            rcases H.obj q _ hrow with hh | ⟨b, z, h1, h2, h3⟩
            · cases hh
            · exact ⟨b, z, h1, h2, h3⟩
          obtain ⟨cs, e2, g1, g2, g3, g4⟩ := hor
          have hy : ρ y = .pointer (some ⟨b1, off, none⟩) := by
            cases hv : ρ y <;> rw [hv] at r1 <;> cases r1
            rename_i h0
            rw [hb1] at h0; cases h0; rfl
          have hrc := r2.cells
          have hpost := H.store (off := off) (vs := (τ u).cells) (us := (ρ z).cells.toList) hrow hb1 g1 (by omega) hrc lim hlim pl
          have hone := rel_same_cells (r := c) hrc hsc
          have hst := run_storeCells_at P b1 off e2 (ρ z).cells.toList 0 cs w g1 (by have := hrc.1; omega) hone
          simp only [Nat.add_zero] at hst
          have hsize : (ρ z).cells.size = size := by have := hrc.1; simp at this; omega
          refine ⟨.skip, _, φ, ?_, .inl ⟨rfl, rfl⟩, hpost⟩
          simp [Instr.storeAt, Instr.sureAddr, hy, storeVar, run_szP hsz, hsize, hst]
        · cases hx
      · cases hx
    · cases hx
  | alloc e =>
    simp only [hop, cOp, Option.bind_eq_bind, Option.bind_eq_some_iff, Option.some.injEq] at hc
    obtain ⟨z, hz, rfl⟩ := hc
    obtain rfl : a = .alloc z.cells := by cases a <;> simp_all [AOp.kept]
    obtain ⟨zv, hzv, hzr⟩ := run_zeroP hz w
    simp only [exOp] at hx
    cases hx
    rw [newAt_eq]
    obtain ⟨g1, g2⟩ := relL_row (hzr S φ).cells
    refine OpOk.of_run (v := .pointer (some ⟨w.heap.size, 0, none⟩)) (w' := w.alloc (.cells zv.cells e)) ?_ (.ptr _ _ _ _ _ (Mp.set_same _ _ _)) (newRow_post H pl hp e g1 g2 false lim)
    simp [Instr.alloc, hzv, newVar, newRow]
  | box e x =>
    simp only [hop, cOp, Option.bind_eq_bind, Option.bind_eq_some_iff, Option.some.injEq] at hc
    obtain ⟨y, hy, rfl⟩ := hc
    obtain rfl : a = .box y := by cases a <;> simp_all [AOp.kept]
    simp only [exOp] at hx
    cases hx
    rw [newAt_eq]
    obtain ⟨g1, g2⟩ := relL_row (hρ _ _ hy).cells
    refine OpOk.of_run (v := .pointer (some ⟨w.heap.size, 0, none⟩)) (w' := w.alloc (.cells (ρ x).cells e)) ?_ (.ptr _ _ _ _ _ (Mp.set_same _ _ _)) (newRow_post H pl hp e g1 g2 false lim)
    simp [Instr.box, newVar, newRow]
  | buildSlice t len parts =>
    simp only [hop, cOp, Option.bind_eq_bind] at hc
    split at hc
    · rename_i e hu
      simp only [Option.bind_eq_some_iff] at hc
      obtain ⟨s, hs, z, hz, l, hl, hc⟩ := hc
      split at hc
      · rename_i hcc
        obtain ⟨hbig, hzs, hs1⟩ := hcc
        simp only [Option.some.injEq] at hc; subst hc
        obtain rfl : a = .buildSlice s len z.cells l := by cases a <;> simp_all [AOp.kept]
        obtain ⟨zv, hzv, hzr⟩ := run_zeroP hz w
        simp only [exOp, Option.map_eq_some_iff, Prod.mk.injEq] at hx
        obtain ⟨row, hrow, rfl, rfl⟩ := hx
        rw [newAt_eq]
        obtain ⟨h1, h2⟩ := partsI_snd hρ s _ _ hl
        have hzz : zv.cells.size = s := by rw [zv_len hzr, hzs]
        have hz0 : RelL S φ (zeros len z.cells) ((Array.range (len * s)).map (zv.cells[· % zv.cells.size]!)).toList := by
          refine ⟨by simp [zeros_len, hzs], fun j x u hx hu => ?_⟩
          obtain ⟨v, hv, hr⟩ := zeros_row (hzr S φ).cells len (len * s) (by rw [hzs]; exact Nat.le_refl _) (f := fun i => zv.cells[i % zv.cells.size]!) (fun j _ => rfl) j x hx
          have hu' : ((Array.range (len * s)).map (fun i => zv.cells[i % zv.cells.size]!))[j]? = some u := by rw [← Array.getElem?_toList]; exact hu
          rw [hv] at hu'; cases hu'; exact hr
        obtain ⟨c', hc', hr', hsz'⟩ := fill_snd (S := S) (φ := φ) (place := fun i => some (i * s, s)) (parts.toList.map fun (i, x) => (i, ρ x)) _ _ _ row (by simpa using h1) h2 hz0 hrow
        obtain ⟨g1, g2⟩ := relL_row hr'
        have hpost := newRow_post H pl hp e g1 g2 false lim
        have hcsz : c'.size = len * s := by rw [hsz']; simp
        refine OpOk.of_run (v := .slice (some ⟨w.heap.size, 0, none⟩) len len) (w' := w.alloc (.cells c' e)) ?_ (.ms _ _ _ _ _ _ c'.size _ (Mp.set_same _ _ _) (Nat.le_refl _) (by omega)) hpost
        have hc3 : Instr.fill (fun i => some (i * s, s)) ((Array.range (len * s)).map (zv.cells[· % zv.cells.size]!)) (parts.toList.map fun x => (x.1, ρ x.2)) = some c' := hc'
        by_cases hl0 : len = 0
        · subst hl0
          have e0 : (Array.range (0 * s)).map (zv.cells[· % zv.cells.size]!) = #[] := by rw [Nat.zero_mul, Array.range_zero']; simp
          rw [e0] at hc3
          have e1 : (Array.range 0) = #[] := Array.range_zero'
          simp [Instr.buildSlice, run_underlying hu, run_szP hs, e1, hc3, newRow]
        · have hls : len * s ≠ 0 := by have := Nat.mul_pos (Nat.pos_of_ne_zero hl0) hs1; omega
          have hbig2 : ¬ (16777216 < len * s) := by omega
          simp [Instr.buildSlice, run_underlying hu, run_szP hs, hbig2, hl0, show s ≠ 0 by omega, hzv, hc3, newRow]
          exact fun h0 => absurd h0 hls
      · cases hc
    · cases hc
  | makeSlice t l c =>
    simp only [hop, cOp, Option.bind_eq_bind] at hc
    split at hc
    · rename_i e hu
      simp only [Option.bind_eq_some_iff] at hc
      obtain ⟨s, hs, eb, heb, z, hz, hc⟩ := hc
      split at hc
      · rename_i hcc
        obtain ⟨hzs, hs1⟩ := hcc
        simp only [Option.bind_eq_some_iff, Option.some.injEq] at hc
        obtain ⟨yl, hyl, yc, hyc, rfl⟩ := hc
        obtain rfl : a = .makeSlice s eb z.cells yl yc := by cases a <;> simp_all [AOp.kept]
        have r1 := hρ _ _ hyl
        have r2 := hρ _ _ hyc
        obtain ⟨i, hi, hisz⟩ := szP_info hs
        obtain ⟨zv, hzv, hzr⟩ := zeroP_info hz hi
        have hib : i.bytes = eb := by simp only [ebP, hi, Option.map_some, Option.some.injEq] at heb; exact heb
        simp only [exOp] at hx
        split at hx
        · rename_i k1 n1 k2 n2 hq1 hq2
          rw [hq1] at r1; rw [hq2] at r2
          split at hx
          · rename_i hcc
            obtain ⟨h0, h1, hbig, hb1⟩ := hcc
            cases hx
            rw [newAt_eq]
            have hn2 : n2 ≤ 1099511627776 := by
              have h5 : 0 ≤ n2 := by omega
              obtain ⟨m2, rfl⟩ := Int.eq_ofNat_of_zero_le h5
              have h6 : eb * m2 ≤ 1099511627776 := by
                have h7 : ((eb * m2 : Nat) : Int) ≤ 1099511627776 := by rw [Int.natCast_mul]; exact hbig
                omega
              have := Nat.le_trans (Nat.le_mul_of_pos_left m2 hb1) h6
              omega
            have hv1 : ρ l = .int k1 n1 := by cases hv : ρ l <;> rw [hv] at r1 <;> cases r1; rfl
            have hv2 : ρ c = .int k2 n2 := by cases hv : ρ c <;> rw [hv] at r2 <;> cases r2; rfl
            have hr := run_make (P := P) w t e i zv hu hi hzv k1 k2 n1 n2 h0 h1 (by rw [hib]; omega) (by omega)
            have hzz : zv.cells.size = s := by rw [zv_len hzr, hzs]
            have hmul : n1.toNat * s ≤ n2.toNat * s := Nat.mul_le_mul_right _ (by omega)
            have hpost := newRow_post H pl hp e (c := zeros n1.toNat z.cells) (cs := madeCells zv.cells (n2.toNat * i.size)) (by rw [size_madeCells, zeros_len, hzs, hisz]; exact hmul) (by
              intro j x hx
              exact zeros_row (hzr S φ).cells n1.toNat (n2.toNat * i.size) (by rw [hzs, hisz]; exact hmul) (f := fun i => zv.cells[i % zv.cells.size]!) (fun j _ => rfl) j x hx) false lim
            refine OpOk.of_run (by rw [hv1, hv2]; exact hr) (.ms _ _ _ _ _ _ _ _ (Mp.set_same _ _ _) (by omega) ?_) hpost
            rw [size_madeCells, hisz, Nat.zero_add]; exact Nat.le_refl _
          · cases hx
        · cases hx
      · cases hc
    · cases hc
  | call c =>
    simp only [hop, cOp, Option.bind_eq_bind, Option.bind_eq_some_iff] at hc
    obtain ⟨as, has, hc⟩ := hc
    have q := opds_snd hρ has
    cases hcal : c.callee with
    | value x =>
      exfalso
      cases x <;> simp [hcal, Option.bind_eq_some_iff] at hc
      all_goals first
        | (obtain ⟨_, _, rfl⟩ := hc; cases a <;> simp_all [AOp.kept, AOp.isCall])
        | (subst hc; cases a <;> simp_all [AOp.kept, AOp.isCall])
    | invoke r n => simp [hcal] at hc
    | builtin b =>
      have hargs : (c.args.map ρ).toList = c.args.toList.map ρ := by simp
      cases b <;> simp only [hcal, reduceCtorEq] at hc
      case append =>
        split at hc
        · rename_i e e1 s x hu1 hu2
          simp only [Option.bind_eq_some_iff] at hc
          obtain ⟨z, hz, s', hs, hc⟩ := hc
          split at hc
          · rename_i hcc
            obtain ⟨hzs, hs1, hty⟩ := hcc
            simp only [Option.bind_eq_some_iff, Option.some.injEq] at hc
            obtain ⟨eb, heb, rfl⟩ := hc
            obtain ⟨keep, rfl⟩ := kept_append hk
            obtain ⟨v1, rest, e2, rv1, hrest⟩ := q.cons_inv
            obtain ⟨v2, rest2, rfl, rv2, hrest2⟩ := hrest.cons_inv
            obtain rfl : rest2 = [] := List.eq_nil_of_length_eq_zero hrest2.1.symm
            have e3 : c.args.map ρ = #[v1, v2] := by apply Array.ext'; rw [hargs, e2]
            have ht : P.underlying (c.argTypes.getD 0 0) = some (.slice e) := by
              rw [hty] at hu1; simpa using hu1
            obtain ⟨v, w', φ', hr, hrel, hpost⟩ := append_snd (ty := o.type) H pl hp ht hz hs heb hzs hs1 rv1 rv2 hx
            refine ⟨.value v, w', φ', ?_, .inr ⟨v, rfl, hrel⟩, hpost⟩
            rw [hty.symm] at hr
            simp [resolve, hcal, invoke, builtin, e3, hr]
          · cases hc
        · rename_i e s x hu1 hu2
          simp only [Option.bind_eq_some_iff] at hc
          obtain ⟨z, hz, s', hs, hc⟩ := hc
          split at hc
          · rename_i hcc
            obtain ⟨hzs, hs1⟩ := hcc
            simp only [Option.bind_eq_some_iff, Option.some.injEq] at hc
            obtain ⟨eb, heb, rfl⟩ := hc
            obtain rfl : a = .appendZ s' eb z.cells s x := by cases a <;> simp_all [AOp.kept]
            obtain ⟨v1, rest, e2, rv1, hrest⟩ := q.cons_inv
            obtain ⟨v2, rest2, rfl, rv2, hrest2⟩ := hrest.cons_inv
            obtain rfl : rest2 = [] := List.eq_nil_of_length_eq_zero hrest2.1.symm
            have e3 : c.args.map ρ = #[v1, v2] := by apply Array.ext'; rw [hargs, e2]
            simp only [Option.bind_eq_some_iff] at hu1 hu2
            obtain ⟨t1, ht1, hu1⟩ := hu1
            obtain ⟨t2, ht2, hu2⟩ := hu2
            simp only [exOp] at hx
            split at hx
            · rename_i n hq1 hq2
              rw [hq1] at rv1; rw [hq2] at rv2
              cases rv1; cases rv2
              split at hx
              · rename_i hcc
                obtain ⟨hn1, hbig, hb1⟩ := hcc
                cases hx
                have h5 : 0 ≤ n := by omega
                obtain ⟨m2, rfl⟩ := Int.eq_ofNat_of_zero_le h5
                have h6 : eb * m2 ≤ 1099511627776 := by
                  have h7 : ((eb * m2 : Nat) : Int) ≤ 1099511627776 := by rw [Int.natCast_mul]; exact hbig
                  omega
                obtain ⟨v, w', φ', hr, hrel, hpost⟩ := appendZ_snd (t := t1) (u := t2) (ty := o.type) (lim := lim) H pl hp hu1 hu2 hz hs heb hzs hs1 (n := m2) (by omega) h6 hb1
                refine ⟨.value v, w', φ', ?_, .inr ⟨v, rfl, by simpa using hrel⟩, by simpa using hpost⟩
                have happ : ∀ (A : Array TypeId) (ty : TypeId) (V : Array Value), A[0]? = some t1 → A[1]? = some t2 → Builtin.append_ A ty V = Builtin.append_ #[t1, t2] ty V := by
                  intro A ty V hA0 hA1
                  unfold Builtin.append_
                  simp only [hA0, hA1]
                  rfl
                simp [resolve, hcal, invoke, builtin, e3, happ _ _ _ ht1 ht2, hr]
              · cases hx
            · cases hx
          · cases hc
        · cases hc
      all_goals
        exfalso
        have hpa : ∃ p, a0 = .p p := by
          split at hc
          all_goals first
            | (cases hc; done)
            | (simp only [Option.some.injEq] at hc; exact ⟨_, hc.symm⟩)
            | (split at hc <;> first | (cases hc; done) | (simp only [Option.some.injEq] at hc; exact ⟨_, hc.symm⟩))
        obtain ⟨p, rfl⟩ := hpa
        exact hnp p (kept_p hk.symm)
  | _ => simp [hop, memOp] at hm

theorem mem_snd (H : HR P mode S φ B h w) (hρ : ∀ x y, cOpd x = some y → Rel S φ (τ y) (ρ x)) {lim : Nat} (pl : Option Nat) (hp : PlOk φ h pl) {o : Oper} {a0 a : AOp} (hc : cOp P m o.op = some a0) (hk : a0.kept = a.kept) (ha : a.isCall = false)
    {call : Callee} {r : AV} {h' : List AO} (hx : exOp call lim pl τ h a = some (r, h')) : OpOk P mode S φ B lim h w pl (execOp ρ o) r h' := by
  by_cases hpp : ∃ p, a = .p p
  · obtain ⟨p, rfl⟩ := hpp
    obtain rfl := kept_p hk
    simp only [exOp, Option.map_eq_some_iff, Prod.mk.injEq] at hx
    obtain ⟨v, hv, rfl, rfl⟩ := hx
    obtain ⟨u, hu, hr⟩ := pex_snd (w := w) hρ hc hv
    exact ⟨_, w, φ, hu, .inr ⟨u, rfl, hr⟩, Post.refl H lim pl⟩
  · have hnp : ∀ p, a ≠ .p p := fun p e => hpp ⟨p, e⟩
    rcases cOp_cls hc with ⟨p, rfl⟩ | hm
    · exact absurd (kept_p hk.symm) (hnp p)
    · exact memOp_snd H hρ pl hp hc hk ha hnp hx hm

end Go.Am
