/-
Operations that read and write memory, but for calls: all of them.
-/
import Derived.Test.YtfkhcljimkbmeaaAmApp
namespace Go.Am
open Go
set_option linter.unusedVariables false
set_option linter.unusedSimpArgs false

variable {P : Program} {mode : Nat → Nat → Nat} {S : Fz} {φ : Mp} {B : Nat} {h : List AO} {w : World} {ρ : Operand → Value} {τ : Opd → AV} {m : Nat → Nat}

theorem partsI_snd (hρ : ∀ x y, cOpd x = some y → Rel S φ (τ y) (ρ x)) (s : Nat) : ∀ (ps : List (Nat × Operand)) (l : List (Nat × Opd)), cPartsI ps = some l →
    l.length = ps.length ∧ ∀ (j : Nat) p q, (l.map fun (i, x) => (i * s, s, τ x))[j]? = some p → (ps.map fun (i, x) => (i, ρ x))[j]? = some q → some (q.1 * s, s) = some (p.1, p.2.1) ∧ Rel S φ p.2.2 q.2
  | [], l, h => by simp [cPartsI] at h; subst h; exact ⟨rfl, fun j p q hp => by simp at hp⟩
  | (i, x) :: r, l, h => by
    simp only [cPartsI, Option.bind_eq_bind, Option.bind_eq_some_iff, Option.some.injEq] at h
    obtain ⟨y, hy, l', hl', rfl⟩ := h
    obtain ⟨h1, h2⟩ := partsI_snd hρ s r l' hl'
    refine ⟨by simp [h1], fun j p q hp hq => ?_⟩
    cases j with
    | zero => simp at hp hq; subst hp; subst hq; exact ⟨rfl, hρ x y hy⟩
    | succ j => simp at hp hq; exact h2 j p q (by simpa using hp) (by simpa using hq)

theorem rel_same_cells {S : Fz} {φ : Mp} {r : List AV} {xs : List AV} {us : List Value} (hr : RelL S φ xs us) (hs : xs.all AV.scalar = true) : ∀ u ∈ us, u.oneCell' = true := by
  intro u hu
  obtain ⟨j, hj⟩ := List.mem_iff_getElem?.1 hu
  have hjl := (List.getElem?_eq_some_iff.1 hj).1
  have : j < xs.length := by rw [hr.1]; exact hjl
  have hx := List.getElem?_eq_getElem this
  exact (hr.2 j _ u hx hj).one (List.all_eq_true.1 hs _ (List.getElem_mem this))

/-- an append -/
theorem append_snd (H : HR P mode S φ B h w) {lim : Nat} (pl : Option Nat) (hp : PlOk φ h pl) {t ty e : TypeId} {esz eb : Nat} {z : AV} {keep : Bool} (ht : P.underlying t = some (.slice e)) (hz : zeroP P e = some z) (hs : szP P e = some esz) (hb : ebP P e = some eb)
    (hzs : z.cells.length = esz) (hs1 : 1 ≤ esz) {s x : Opd} {sv xv : Value} (rs : Rel S φ (τ s) sv) (rx : Rel S φ (τ x) xv) {call : Callee} {r : AV} {h' : List AO}
    (hx : exOp call lim pl τ h (.append keep esz eb s x) = some (r, h')) :
    ∃ v w' φ', (Builtin.append_ #[t, t] ty #[sv, xv]).run P w = .ok v w' ∧ Rel S φ' r v ∧ Post P mode S φ B lim h w pl S φ' h' w' := by
  obtain ⟨i, hi, hisz⟩ := szP_info hs
  obtain ⟨zv, hzv, hzr⟩ := zeroP_info hz hi
  have hib : i.bytes = eb := by simp only [ebP, hi, Option.map_some, Option.some.injEq] at hb; exact hb
  simp only [exOp] at hx
  split at hx
  · rename_i sl n xs hsl hn hxs
    split at hx
    · rename_i hxl
      have hrow := rowOf_list H rx hxs
      obtain ⟨n', hn', hrow⟩ := hrow
      rw [hn] at hn'; cases hn'
      split at hx
      · rename_i hn0
        subst hn0
        cases hx
        -- nothing is appended
        refine ⟨sv, w, φ, ?_, rs, Post.refl H lim pl⟩
        have hsv : ∃ a l c, sv = .slice a l c ∧ l ≤ c ∧ l = sl := by
          cases hs' : τ s <;> rw [hs'] at rs hsl <;> simp [lenOf] at hsl
          · cases rs; exact ⟨_, _, _, rfl, Nat.le_refl _, by omega⟩
          · cases rs with
            | cs0 => exact ⟨_, _, _, rfl, by omega, by omega⟩
            | cs _ _ _ _ _ _ _ _ _ _ _ hc => exact ⟨_, _, _, rfl, hc, by omega⟩
          · cases rs with | ms _ _ _ _ _ _ _ _ _ hc _ => exact ⟨_, _, _, rfl, hc, by omega⟩
        obtain ⟨a, l, c, rfl, hlc, _⟩ := hsv
        have hxv : ∃ a' c', xv = .slice a' 0 c' := by
          rcases hrow with ⟨_, a', c', rfl⟩ | ⟨b, off, cap, vs, rfl, _, _⟩ <;> exact ⟨_, _, rfl⟩
        obtain ⟨a', c', rfl⟩ := hxv
        cases a <;> cases a' <;> simp [Builtin.append_, run_underlying ht, sizeOf, typeInfo, hi, Builtin.lenOf, hlc, Builtin.firstCells, loadCells, loadCellsFrom, storeCells]
      · rename_i hn0
        split at hx
        · rename_i hc
          obtain ⟨hbig, heb, hsc⟩ := hc
          -- something is appended
          obtain ⟨b, off, cap, us, rfl, hus, hcell⟩ : ∃ b off cap vs, xv = .slice (some ⟨b, off, none⟩) n cap ∧ RelL S φ xs vs ∧ ∀ (j : Nat) u, vs[j]? = some u → w.cell? ((⟨b, off, none⟩ : Addr).add j) = some u := by
            rcases hrow with ⟨hxe, _⟩ | h0
            · have h1 : 1 ≤ n * esz := Nat.mul_pos (by omega) hs1
              rw [hxe] at hxl; simp only [List.length_nil] at hxl; omega
            · exact h0
          have hul : us.length = n * i.size := by rw [← hus.1, hxl, hisz]
          have hone := rel_same_cells (r := xs) hus hsc
          have hbytes : (sl + n) * i.bytes ≤ 1099511627776 := by rw [hib]; exact hbig
          have hn63 : sl + n ≤ 1099511627776 := Nat.le_trans (Nat.le_mul_of_pos_right _ (by omega)) hbig
          split at hx
          · rename_i hsn
            rw [hsn] at rs hsl; cases rs
            simp [lenOf] at hsl; subst hsl
            cases hx
            have hr := run_append_nil (P := P) w t ty e i zv ht hi hzv ⟨b, off, none⟩ n cap us hul hcell (by omega) (by omega) (by rw [Nat.zero_add] at hbytes; omega)
            rw [newAt_eq]
            have hrow2 : ∀ (j : Nat) x, xs[j]? = some x → ∃ v, (us.toArray ++ Builtin.zeroCells zv.cells (grownCap w n 0 e - n))[j]? = some v ∧ Rel S φ x v := by
              intro j x hx
              obtain ⟨u, hu, hru⟩ := hus.get hx
              refine ⟨u, ?_, hru⟩
              have := (List.getElem?_eq_some_iff.1 hu).1
              rw [Array.getElem?_append_left (by simpa using this)]
              simpa using hu
            have hp2 := newRow_post (H.heap (w' := w.drew) rfl) pl hp e (c := xs) (cs := us.toArray ++ Builtin.zeroCells zv.cells (grownCap w n 0 e - n)) (by simp; rw [hus.1]; omega) hrow2 false lim
            have hzz : zv.cells.size = i.size := by
              have h1 := (hzr S φ).cells.1
              rw [hzs] at h1; simp at h1; omega
            refine ⟨_, _, _, hr, ?_, ⟨hp2.hr, hp2.le, hp2.sle, ⟨rfl, rfl, rfl, by simp, fun q hq => hp2.fx.old q hq⟩, hp2.len, hp2.keep, hp2.none⟩⟩
            refine .ms _ _ _ _ _ _ _ _ (Mp.set_same _ _ _) (grownCap_ge w n 0 e) ?_
            simp only [Array.size_append, List.size_toArray, size_zeroCells, hzz, hul, hisz, Nat.zero_add]
            rw [← Nat.add_mul]
            have := grownCap_ge w n 0 e
            exact Nat.mul_le_mul_right _ (by omega)
          · rename_i e' o off' len hsm
            rw [hsm] at rs hsl
            simp [lenOf] at hsl; subst hsl
            split at hx
            · rename_i c sh hco
              split at hx
              · rename_i hcc
                obtain ⟨he, hoff, hlim, hfull⟩ := hcc
                subst he; subst hoff
                cases hx
                cases rs with
                | ms _ _ _ _ _ b1 z1 cap1 hb1 hcap1 hz1 =>
                  obtain ⟨bb, zz, hbb, hSb, hor⟩ : ∃ b z, φ o = some (b, z) ∧ S b = none ∧ ORow S φ w c b z := by
                    rcases H.obj o _ hco with hh | ⟨b, z, h1, h2, h3⟩
                    · cases hh
                    · exact ⟨b, z, h1, h2, h3⟩
                  rw [hb1] at hbb; cases hbb
                  obtain ⟨cs, e2, g1, g2, g3, g4⟩ := hor
                  have hk : len * e' ≤ c.length := by rcases hfull with h0 | h0 <;> omega
                  by_cases hroom : len + n ≤ cap1
                  · -- in place
                    have hmul : (len + n) * e' ≤ cap1 * e' := Nat.mul_le_mul_right _ hroom
                    rw [Nat.add_mul] at hmul
                    have hr := run_append_room' (P := P) (w := w) t ty e e2 i ht hi b1 len cap1 cs g1 ⟨b, off, none⟩ n cap us hul hcell hone hroom (by rw [hul, hisz]; omega)
                    have hp2 := H.inPlace pl hp (k := len * e') (xs := xs) (us := us) (keep := keep) (sh' := (keep && len != 0) || sh) hco hb1 g1 hk (by
                      rcases hfull with h0 | ⟨h0, h1, _⟩
                      · exact .inl h0
                      · exact .inr ⟨h0, h1⟩) (by rw [hxl]; omega) hus (by intro h0; simp [h0]) (by
                      intro h0
                      subst h0
                      by_cases hl0 : len = 0
                      · subst hl0
                        rcases hfull with h1 | ⟨h1, _⟩
                        · left; exact List.eq_nil_of_length_eq_zero (by omega)
                        · cases h1
                      · right; simp [hl0]) lim hlim
                    rw [hisz] at hr
                    exact ⟨_, _, _, hr, .ms _ _ _ _ _ _ _ _ (Mp.set_same _ _ _) hroom hz1, hp2⟩
                  · -- into a new block
                    have holds : ∀ (j : Nat) v, (cs.toList.take (len * i.size))[j]? = some v → w.cell? ((⟨b1, 0, none⟩ : Addr).add j) = some v := by
                      intro j v hv
                      rw [List.getElem?_take] at hv
                      split at hv
                      · rw [Addr.add_lit, Nat.zero_add, cell_of_row w b1 j cs e2 (0, 0) g1]; simpa using hv
                      · cases hv
                    have hcz : len * i.size ≤ cs.size := by rw [hisz]; omega
                    have hr := run_append_grow (P := P) w t ty e i zv ht hi hzv ⟨b1, 0, none⟩ len cap1 (cs.toList.take (len * i.size)) (by simp; omega) holds ⟨b, off, none⟩ n cap us hul hcell (by omega) (by omega)
                      (growslice_fits (by omega) (by omega))
                    have hzz : zv.cells.size = i.size := by
                      have h1 := (hzr S φ).cells.1
                      rw [hzs] at h1; simp at h1; omega
                    have Hd := H.heap (w' := w.drew) rfl
                    have H2 : HR P mode S φ B (h.set o (if keep then .ro c else .tomb)) w.drew := by
                      cases keep with
                      | true => exact Hd.toRo hco
                      | false => exact Hd.bury hco
                    have hp3 : PlOk φ (h.set o (if keep then AO.ro c else .tomb)) pl := ⟨fun i hi => by simpa using hp.ok i hi⟩
                    have hlen3 : (h.set o (if keep then AO.ro c else .tomb)).length = h.length := by simp
                    have hrow2 : ∀ (j : Nat) x, (c.take (len * e') ++ xs)[j]? = some x → ∃ v, ((cs.toList.take (len * i.size)).toArray ++ us.toArray ++ Builtin.zeroCells zv.cells (grownCap w (len + n) cap1 e - (len + n)))[j]? = some v ∧ Rel S φ x v := by
                      intro j x hx
                      have hA : RelL S φ (c.take (len * e') ++ xs) (cs.toList.take (len * i.size) ++ us) := by
                        refine RelL.append ⟨by simp [hisz]; omega, fun j x u hx hu => ?_⟩ hus
                        rw [List.getElem?_take] at hx hu
                        split at hx
                        · rw [if_pos (by rw [hisz]; assumption)] at hu
                          obtain ⟨v, hv, hrv⟩ := g4 j x hx
                          have : cs.toList[j]? = some v := by simpa using hv
                          rw [this] at hu; cases hu; exact hrv
                        · cases hx
                      obtain ⟨u, hu, hru⟩ := hA.get hx
                      refine ⟨u, ?_, hru⟩
                      have := (List.getElem?_eq_some_iff.1 hu).1
                      rw [Array.getElem?_append_left (by simpa using this), List.append_toArray]
                      simpa using hu
                    have hp2 := newRow_post H2 pl hp3 e (c := c.take (len * e') ++ xs) (cs := (cs.toList.take (len * i.size)).toArray ++ us.toArray ++ Builtin.zeroCells zv.cells (grownCap w (len + n) cap1 e - (len + n))) (by
                      simp; rw [hus.1, hisz]; omega) hrow2 ((keep && len != 0) || sh) lim
                    rw [hlen3] at hp2
                    refine ⟨_, _, _, hr, ?_, ⟨hp2.hr, hp2.le, hp2.sle, ⟨rfl, rfl, rfl, by simp, fun q hq => hp2.fx.old q hq⟩, ?_, ?_, ?_⟩⟩
                    · refine .ms _ _ _ _ _ _ _ _ (Mp.set_same _ _ _) (grownCap_ge w (len + n) cap1 e) ?_
                      simp only [Array.size_append, List.size_toArray, size_zeroCells, hzz, hul, hisz, Nat.zero_add, List.length_take, Array.length_toList]
                      have h5 : min (len * e') cs.size = len * e' := by omega
                      rw [h5, ← Nat.add_mul, ← Nat.add_mul]
                      have := grownCap_ge w (len + n) cap1 e
                      exact Nat.mul_le_mul_right _ (by omega)
                    · have := hp2.len; rw [hlen3] at this; exact this
                    · intro q hq hq2 hpq
                      rw [hp2.keep q hq (by rw [hlen3]; exact hq2) hpq]
                      exact List.getElem?_set_ne (by omega)
                    · intro q hq hpq hnn
                      exact hp2.none q (by rw [hlen3]; exact hq) hpq hnn
              · cases hx
            · cases hx
          · cases hx
        · cases hx
    · cases hx
  · cases hx

end Go.Am
