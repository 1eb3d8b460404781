/-
CutsBeside: what is paid for two tables side by side (mathematics).
-/
import Derived.Test.YtkmcbiimlnphmaaYr
namespace Go.Proofs.Ytkmcbiimlnphmaa.S
open Go Go.Am Go.Proofs.Ytkmcbiimlnphmaa.T
set_option maxRecDepth 100000
set_option linter.unusedSimpArgs false
set_option linter.unusedVariables false

section
variable {t u : List Pt} {f g : Nat → Int} {lx ly : List Int}
theorem loV_cong (T : TG t) {r r' : Nat → Int} (h : ∀ i, i < t.length → r i = r' i) : loV t r = loV t r' ∧ hiV t r = hiV t r' := by
  unfold loV hiV
  rw [lin_cT T h, lin_cT T (r := fun i => 0 - r i) (r' := fun i => 0 - r' i) fun i hi => by rw [h i hi]]
  exact ⟨rfl, rfl⟩
theorem sdb_is1 (T : TW t) (U : TW u) (O : TW (sdb t u)) : is1 (sdb t u) = (is1 t && is1 u) := by
  rw [Bool.eq_iff_iff, Bool.and_eq_true, is1_iff O.toTG, is1_iff T.toTG, is1_iff U.toTG]
  constructor
  · rintro ⟨w, hw⟩
    obtain ⟨a, b⟩ := (tru_side T.toTG U.toTG).1 hw
    exact ⟨⟨_, a⟩, ⟨_, b⟩⟩
  · rintro ⟨⟨a, ha⟩, ⟨b, hb⟩⟩
    exact ⟨joi t.length a b, (tru_side T.toTG U.toTG).2 ⟨tru_cong (fun i hi => joi_l hi) ha, by rw [joi_r]; exact hb⟩⟩
theorem rW_l {i : Nat} (h : i < t.length) : rW (sdb t u) i = rW t i := by
  unfold rW
  rw [sdb_l h, sdb_len]
  by_cases e : (t.getD i default).of = -1
  · rw [if_pos ⟨by omega, e⟩, if_pos ⟨h, e⟩]
  · rw [if_neg (fun h => e h.2), if_neg (fun h => e h.2)]
theorem rW_r (U : TG u) {j : Nat} (h : j < u.length) : rW (sdb t u) (t.length + j) = rW u j := by
  unfold rW
  rw [sdb_r h, sdb_len]
  have o := (shp_of (n := t.length) (U.of j h).1 (q := 0)).2.2
  by_cases e : (u.getD j default).of = -1
  · rw [if_pos ⟨by omega, o.2 e⟩, if_pos ⟨h, e⟩]
  · rw [if_neg (fun h => e (o.1 h.2)), if_neg (fun h => e h.2)]
/-- the whole fish of both tables -/
theorem sdb_whole (T : TW t) (U : TW u) (O : TW (sdb t u)) (h1 : is1 t = true) (h2 : is1 u = true) : loV (sdb t u) (rW (sdb t u)) = loV t (rW t) + loV u (rW u) ∧ hiV (sdb t u) (rW (sdb t u)) = hiV t (rW t) + hiV u (rW u) := by
  have a := loV_cong T.toTG (r := rW (sdb t u)) (r' := rW t) fun i hi => rW_l hi
  have b := loV_cong U.toTG (r := fsh t.length (rW (sdb t u))) (r' := rW u) fun j hj => rW_r U.toTG hj
  rw [sdb_lo T U O h1 h2, sdb_hi T U O h1 h2, a.1, a.2, b.1, b.2]
  exact ⟨rfl, rfl⟩
/-- the cuts of both tables -/
def sdc (n : Nat) (lx ly : List Int) : List Int := lx ++ ly.map fun a : Int => a + (n : Int)
theorem cut_rng {l : List Int} (h : cutB t l = true) : ∀ a ∈ l, 0 ≤ a ∧ a < t.length := by
  intro a ha
  obtain ⟨i, hi, rfl⟩ := mem_getD (d := 0) ha
  simp only [cutB, List.all_eq_true, List.mem_range, cutAt, Bool.and_eq_true, inR_iff] at h
  have := (h i hi).1.1
  omega
theorem mem_sdc {n : Nat} {a : Int} : a ∈ sdc n lx ly ↔ a ∈ lx ∨ a - n ∈ ly := by
  simp only [sdc, List.mem_append, List.mem_map]
  constructor
  · rintro (h | ⟨b, hb, rfl⟩)
    · exact .inl h
    · right; rw [show b + (n : Int) - n = b by omega]; exact hb
  · rintro (h | h)
    · exact .inl h
    · exact .inr ⟨_, h, by omega⟩
theorem rS_l (T : TG t) (hx : cutB t lx = true) (hy : cutB u ly = true) {i : Nat} (h : i < t.length) : rS (sdb t u) (sdc t.length lx ly) i = rS t lx i := by
  have ry := cut_rng hy
  have o := T.of i h
  have e1 : ((i : Int) ∈ sdc t.length lx ly) ↔ ((i : Int) ∈ lx) := by
    rw [mem_sdc]; exact ⟨fun h' => h'.resolve_right fun h2 => by have := ry _ h2; omega, .inl⟩
  have e2 : thr (sdb t u) (sdc t.length lx ly) i = thr t lx i := by
    simp only [thr, Int.toNat_natCast, sdb_l h]
    congr 1
    rw [decide_eq_decide, mem_sdc]
    exact ⟨fun h' => h'.resolve_right fun h2 => by have := ry _ h2; omega, .inl⟩
  unfold rS
  rw [sdb_l h, sdb_len, e2]
  by_cases c : thr t lx i = true ∧ (i : Int) ∉ lx
  · rw [if_pos ⟨by omega, c.1, fun hh => c.2 (e1.1 hh)⟩, if_pos ⟨h, c⟩]
  · rw [if_neg (fun hh => c ⟨hh.2.1, fun hm => hh.2.2 (e1.2 hm)⟩), if_neg (fun hh => c hh.2)]
theorem thr_r (U : TG u) (hx : cutB t lx = true) (hy : cutB u ly = true) {j : Nat} (h : j < u.length) {F : List Int} {F' : List Int} (hF : ∀ a : Int, 0 ≤ a → (a + (t.length : Int) ∈ F' ↔ a ∈ F)) : thr (sdb t u) F' ((t.length + j : Nat) : Int) = thr u F j := by
  have o := U.of j h
  have p := (shp_of (n := t.length) o.1 (q := 0)).2.2
  simp only [thr, Int.toNat_natCast, sdb_r h]
  by_cases e : (u.getD j default).of = -1
  · rw [decide_eq_true (p.2 e), decide_eq_true e]; rfl
  · rw [decide_eq_false (fun hh => e (p.1 hh)), decide_eq_false e, Bool.false_or, Bool.false_or, decide_eq_decide]
    have : (shp t.length (u.getD j default)).of = (u.getD j default).of + t.length := by unfold shp; rw [if_neg e]
    rw [this]
    exact hF _ (by omega)
theorem rS_r (U : TG u) (hx : cutB t lx = true) (hy : cutB u ly = true) {j : Nat} (h : j < u.length) : rS (sdb t u) (sdc t.length lx ly) (t.length + j) = rS u ly j := by
  have rx := cut_rng hx
  have hF : ∀ a : Int, 0 ≤ a → (a + t.length ∈ sdc t.length lx ly ↔ a ∈ ly) := fun a ha => by
    rw [mem_sdc, show a + (t.length : Int) - t.length = a by omega]
    exact ⟨fun h' => h'.resolve_left fun h2 => by have := rx _ h2; omega, .inr⟩
  have e1 : (((t.length + j : Nat) : Int) ∈ sdc t.length lx ly) ↔ ((j : Int) ∈ ly) := by
    rw [← hF j (by omega), show ((t.length + j : Nat) : Int) = (j : Int) + t.length by omega]
  have e2 := thr_r U hx hy h (F := ly) (F' := sdc t.length lx ly) hF
  unfold rS
  rw [sdb_r h, sdb_len, e2, shp_w.2.2]
  by_cases c : thr u ly j = true ∧ (j : Int) ∉ ly
  · rw [if_pos ⟨by omega, c.1, fun hh => c.2 (e1.1 hh)⟩, if_pos ⟨h, c⟩]
  · rw [if_neg (fun hh => c ⟨hh.2.1, fun hm => hh.2.2 (e1.2 hm)⟩), if_neg (fun hh => c hh.2)]
/-- the price of both cuts -/
theorem sdb_price (T : TW t) (U : TW u) (O : TW (sdb t u)) (h1 : is1 t = true) (h2 : is1 u = true) (hx : cutB t lx = true) (hy : cutB u ly = true) : loV (sdb t u) (rS (sdb t u) (sdc t.length lx ly)) = loV t (rS t lx) + loV u (rS u ly) ∧ hiV (sdb t u) (rS (sdb t u) (sdc t.length lx ly)) = hiV t (rS t lx) + hiV u (rS u ly) := by
  have a := loV_cong T.toTG (r := rS (sdb t u) (sdc t.length lx ly)) (r' := rS t lx) fun i hi => rS_l T.toTG hx hy hi
  have b := loV_cong U.toTG (r := fsh t.length (rS (sdb t u) (sdc t.length lx ly))) (r' := rS u ly) fun j hj => rS_r U.toTG hx hy hj
  rw [sdb_lo T U O h1 h2, sdb_hi T U O h1 h2, a.1, a.2, b.1, b.2]
  exact ⟨rfl, rfl⟩
theorem sdc_len {n : Nat} : (sdc n lx ly).length = lx.length + ly.length := by simp [sdc]
theorem sdc_l {n i : Nat} (h : i < lx.length) : (sdc n lx ly).getD i 0 = lx.getD i 0 := by
  simp only [sdc, List.getD_eq_getElem?_getD, List.getElem?_append_left h]
theorem sdc_r {n j : Nat} (h : j < ly.length) : (sdc n lx ly).getD (lx.length + j) 0 = ly.getD j 0 + n := by
  simp only [sdc, List.getD_eq_getElem?_getD]
  rw [List.getElem?_append_right (by omega), Nat.add_sub_cancel_left, List.getElem?_map, List.getElem?_eq_getElem h]; rfl
theorem sdc_cut (T : TG t) (U : TG u) (O : TG (sdb t u)) (hx : cutB t lx = true) (hy : cutB u ly = true) : cutB (sdb t u) (sdc t.length lx ly) = true := by
  have rx := cut_rng hx; have ry := cut_rng hy
  have ax : ∀ i, i < lx.length → 0 ≤ lx.getD i 0 ∧ lx.getD i 0 < t.length := fun i hi => rx _ (getD_mem hi)
  have ay : ∀ i, i < ly.length → 0 ≤ ly.getD i 0 ∧ ly.getD i 0 < u.length := fun i hi => ry _ (getD_mem hi)
  have hF : ∀ a : Int, 0 ≤ a → (a + t.length ∈ sdc t.length lx ly ↔ a ∈ ly) := fun a ha => by
    rw [mem_sdc, show a + (t.length : Int) - t.length = a by omega]
    exact ⟨fun h' => h'.resolve_left fun h2 => by have := rx _ h2; omega, .inr⟩
  rw [← cut_eq T] at hx
  rw [← cut_eq U] at hy
  rw [← cut_eq O]
  simp only [cutR, risB, Bool.and_eq_true, List.all_eq_true, List.mem_range, inR_iff, Bool.or_eq_true, decide_eq_true_eq] at hx hy ⊢
  rw [sdc_len, sdb_len]
  refine ⟨fun i hi => ?_, fun i hi => ?_⟩
  · by_cases h : i < lx.length
    · rw [sdc_l h]
      have b := hx.1 i h
      have c := ax i h
      refine ⟨by omega, ?_⟩
      by_cases e : i = 0
      · exact .inl e
      · rw [sdc_l (show i - 1 < lx.length by omega)]; exact b.2
    · obtain ⟨j, rfl⟩ : ∃ j, i = lx.length + j := ⟨i - lx.length, by omega⟩
      have hj : j < ly.length := by omega
      rw [sdc_r hj]
      have b := hy.1 j hj
      have c := ay j hj
      refine ⟨by omega, ?_⟩
      by_cases e : lx.length + j = 0
      · exact .inl e
      · right
        by_cases e2 : j = 0
        · subst e2
          rw [show lx.length + 0 - 1 = lx.length - 1 by omega, sdc_l (show lx.length - 1 < lx.length by omega)]
          have := ax (lx.length - 1) (by omega)
          omega
        · rw [show lx.length + j - 1 = lx.length + (j - 1) by omega, sdc_r (show j - 1 < ly.length by omega)]
          rcases b.2 with h0 | h0
          · omega
          · omega
  · by_cases h : i < lx.length
    · rw [sdc_l h]
      have b := hx.2 i h
      have c := ax i h
      obtain ⟨p, hp⟩ : ∃ p : Nat, lx.getD i 0 = p := ⟨(lx.getD i 0).toNat, by omega⟩
      rw [hp] at b c ⊢
      have pl : p < t.length := by omega
      refine ⟨by rw [can_l U pl]; exact b.1, ?_⟩
      have b2 := b.2
      simp only [thr, Int.toNat_natCast, sdb_l pl, Bool.or_eq_true, decide_eq_true_eq] at b2 ⊢
      rcases b2 with b2 | b2
      · exact .inl b2
      · exact .inr (mem_sdc.2 (.inl b2))
    · obtain ⟨j, rfl⟩ : ∃ j, i = lx.length + j := ⟨i - lx.length, by omega⟩
      have hj : j < ly.length := by omega
      rw [sdc_r hj]
      have b := hy.2 j hj
      have c := ay j hj
      obtain ⟨p, hp⟩ : ∃ p : Nat, ly.getD j 0 = p := ⟨(ly.getD j 0).toNat, by omega⟩
      rw [hp] at b c ⊢
      have pl : p < u.length := by omega
      rw [show (p : Int) + t.length = ((t.length + p : Nat) : Int) by omega]
      refine ⟨by rw [can_r T U]; exact b.1, ?_⟩
      rw [thr_r U (by rw [← cut_eq T]; simp only [cutR, risB, Bool.and_eq_true, List.all_eq_true, List.mem_range, inR_iff, Bool.or_eq_true, decide_eq_true_eq]; exact hx) (by rw [← cut_eq U]; simp only [cutR, risB, Bool.and_eq_true, List.all_eq_true, List.mem_range, inR_iff, Bool.or_eq_true, decide_eq_true_eq]; exact hy) pl (F := ly) hF]
      exact b.2
end
end Go.Proofs.Ytkmcbiimlnphmaa.S

