/-
An append in place.
-/
import Derived.Test.YtfkhcljimkbmeaaAmMem2
namespace Go.Am
open Go
set_option linter.unusedVariables false
set_option linter.unusedSimpArgs false

variable {P : Program} {mode : Nat → Nat → Nat} {S : Fz} {φ : Mp} {B : Nat} {h : List AO} {w : World} {ρ : Operand → Value} {τ : Opd → AV} {m : Nat → Nat}

/-- as 'run_append_room', over a row of whatever element type -/
theorem run_append_room' (t ty e e' : TypeId) (i : TypeInfo) (ht : P.underlying t = some (.slice e)) (hi : P.info? e = some i)
    (g sLen sCap : Nat) (cur : Array Value) (hg : w.heap[g]? = some (.cells cur e' (0, 0)))
    (a : Addr) (m c : Nat) (news : List Value) (hl : news.length = m * i.size) (hnews : ∀ (j : Nat) u, news[j]? = some u → w.cell? (a.add j) = some u) (h1 : ∀ u ∈ news, u.oneCell' = true)
    (hroom : sLen + m ≤ sCap) (hfit : sLen * i.size + news.length ≤ cur.size) :
    (Builtin.append_ #[t, t] ty #[.slice (some ⟨g, 0, none⟩) sLen sCap, .slice (some a) m c]).run P w =
      .ok (.slice (some ⟨g, 0, none⟩) (sLen + m) sCap) (w.setRow g (cur.toList.take (sLen * i.size) ++ news ++ cur.toList.drop (sLen * i.size + news.length)).toArray) := by
  have hf := run_firstCells_some (P := P) w i.size m a m c news hl hnews
  have hst := run_storeCells_at P g (sLen * i.size) e' news 0 cur w hg (by simpa using hfit) h1
  simp only [Nat.add_zero] at hst
  simp [Builtin.append_, run_underlying ht, sizeOf, typeInfo, hi, Builtin.lenOf, hroom, hf, Addr.add_lit, hst]

theorem HR.inPlace (H : HR P mode S φ B h w) (pl : Option Nat) (hp : PlOk φ h pl) {o k : Nat} {c xs : List AV} {us : List Value} {sh keep sh' : Bool} (ho : h[o]? = some (.cells c sh)) {b z : Nat} (hb : φ o = some (b, z))
    {cs : Array Value} {e : TypeId} (hcs : w.heap[b]? = some (.cells cs e (0, 0))) (hk : k ≤ c.length) (hfull : k = c.length ∨ (keep = false ∧ sh = false)) (hfit : k + xs.length ≤ z) (hr : RelL S φ xs us)
    (hsh : sh = true → sh' = true) (hkeep : keep = true → c = [] ∨ sh' = true) (lim : Nat) (hlim : lim ≤ o) :
    Post P mode S φ B lim h w pl S (φ.set (pl.getD h.length) (b, z)) (newObj' pl (h.set o (if keep then .ro c else .tomb)) (.cells (c.take k ++ xs) sh')) (w.setRow b (cs.toList.take k ++ us ++ cs.toList.drop (k + us.length)).toArray) := by
  have hl := (List.getElem?_eq_some_iff.1 ho).1
  obtain ⟨b', z', hb', hS, hor⟩ : ∃ b z, φ o = some (b, z) ∧ S b = none ∧ ORow S φ w c b z := by
    rcases H.obj o _ ho with hh | ⟨b, z, h1, h2, h3⟩
    · cases hh
    · exact ⟨b, z, h1, h2, h3⟩
  rw [hb] at hb'; cases hb'
  obtain ⟨cs', e', g1, g2, g3, g4⟩ := hor
  rw [hcs] at g1; cases g1
  have hn := pl_none H.dom hp
  have hle := Mp.le_set (b, z) hn
  have hne : pl.getD h.length ≠ o := by intro e1; rw [e1, hb] at hn; cases hn
  have hp' : PlOk φ (h.set o (if keep then AO.ro c else .tomb)) pl := ⟨fun i hi => by simpa using hp.ok i hi⟩
  have hlen : (h.set o (if keep then AO.ro c else .tomb)).length = h.length := by simp
  have hother : ∀ q, q ≠ b → (w.setRow b (cs.toList.take k ++ us ++ cs.toList.drop (k + us.length)).toArray).heap[q]? = w.heap[q]? := fun q hq => setRow_other w b q _ hq
  have hlen2 := hr.1
  have hX : (cs.toList.take k ++ us ++ cs.toList.drop (k + us.length)).length = cs.size := by simp; omega
  have hget : ∀ j, j < k → (cs.toList.take k ++ us ++ cs.toList.drop (k + us.length))[j]? = cs.toList[j]? := by
    intro j hj
    rw [List.append_assoc, List.getElem?_append_left (by simp; omega), List.getElem?_take, if_pos hj]
  have hset := setRow_heap w b cs (cs.toList.take k ++ us ++ cs.toList.drop (k + us.length)).toArray e _ hcs
  -- which objects share the block
  have hshare : ∀ q a b1 z1, h[q]? = some a → φ q = some (b1, z1) → q ≠ o → b1 = b → a = .tomb ∨ ∃ c', a = .ro c' ∧ c'.length ≤ c.length ∧ (c' = [] ∨ (sh = true ∧ c'.length ≤ k)) := by
    intro q a b1 z1 hq hq2 hqo hbb
    subst hbb
    have hm := H.inj o q _ a b1 z z1 ho hq hb hq2 (Ne.symm hqo)
    cases a with
    | tomb => exact .inl rfl
    | ro c' =>
      simp [mayShare] at hm
      refine .inr ⟨c', rfl, hm.1, hm.2.imp id fun e1 => ⟨e1, ?_⟩⟩
      rcases hfull with rfl | ⟨_, e2⟩
      · exact hm.1
      · rw [e1] at e2; cases e2
    | _ => simp [mayShare] at hm
  refine ⟨⟨by simpa using H.bs, ?_, ?_, ?_, ?_, ?_⟩, hle, fun _ _ => rfl, ⟨rfl, rfl, rfl, by simp, fun q hq => hother q (by have := (H.lt o b z hb).2; omega)⟩, ?_, ?_, ?_⟩
  · intro q x hx
    by_cases e1 : q = pl.getD h.length
    · subst e1
      have := pl_lt (pl := pl) hp' (AO.cells (c.take k ++ xs) sh')
      rwa [hlen] at this
    · rw [Mp.set_other _ _ e1] at hx
      have := H.dom q x hx
      have h2 := newObj'_len pl (h.set o (if keep then AO.ro c else .tomb)) (AO.cells (c.take k ++ xs) sh')
      rw [hlen] at h2; omega
  · intro q b1 z1 hx
    by_cases e1 : q = pl.getD h.length
    · subst e1; rw [Mp.set_same] at hx; cases hx; simpa using H.lt o _ _ hb
    · rw [Mp.set_other _ _ e1] at hx; simpa using H.lt q b1 z1 hx
  · intro b1 c1 hs
    have : b1 ≠ b := by intro e1; subst e1; rw [hS] at hs; cases hs
    obtain ⟨e1, fr, he⟩ := H.fro b1 c1 hs
    exact ⟨e1, fr, (hother b1 this).trans he⟩
  · intro q a hq
    by_cases e1 : q = pl.getD h.length
    · subst e1
      have h0 := newObj'_get pl (h.set o (if keep then AO.ro c else .tomb)) (AO.cells (c.take k ++ xs) sh') hp'
      rw [hlen] at h0
      rw [h0] at hq; cases hq
      refine .inr ⟨b, z, Mp.set_same _ _ _, hS, _, e, hset, by simpa using hX.trans g2, by simp; omega, fun j x hx => ?_⟩
      by_cases hj : j < k
      · rw [List.getElem?_append_left (by simp; omega), List.getElem?_take, if_pos hj] at hx
        obtain ⟨v, hv, hrv⟩ := g4 j x hx
        refine ⟨v, ?_, hrv.up hle⟩
        have h1 := hget j hj
        simp only [List.getElem?_toArray]
        rw [h1]; simpa using hv
      · rw [List.getElem?_append_right (by simp; omega)] at hx
        simp only [List.length_take, Nat.min_eq_left hk] at hx
        obtain ⟨u, hu, hru⟩ := hr.get hx
        refine ⟨u, ?_, hru.up hle⟩
        have hju := (List.getElem?_eq_some_iff.1 hu).1
        have hkk : (cs.toList.take k).length = k := by simp; omega
        simp only [List.getElem?_toArray, List.append_assoc]
        rw [List.getElem?_append_right (by omega), hkk, List.getElem?_append_left hju]
        exact hu
    · have h0 := newObj'_other pl (h.set o (if keep then AO.ro c else .tomb)) (AO.cells (c.take k ++ xs) sh') (o := q) (by rw [hlen]; exact e1)
      rw [h0] at hq
      rw [Mp.set_other _ _ e1]
      by_cases e2 : q = o
      · subst e2
        simp [hl] at hq
        cases keep with
        | false => simp at hq; exact .inl hq.symm
        | true =>
          simp at hq; subst hq
          obtain rfl : k = c.length := by rcases hfull with e3 | ⟨e3, _⟩; exact e3; cases e3
          refine .inr ⟨b, z, hb, hS, _, e, hset, by simpa using hX.trans g2, g3, fun j x hx => ?_⟩
          obtain ⟨v, hv, hrv⟩ := g4 j x hx
          refine ⟨v, ?_, hrv.up hle⟩
          have h1 := hget j (List.getElem?_eq_some_iff.1 hx).1
          simp only [List.getElem?_toArray]
          rw [h1]; simpa using hv
      · rw [List.getElem?_set_ne (Ne.symm e2)] at hq
        rcases H.obj q a hq with rfl | ⟨b1, z1, k1, k2, k3⟩
        · exact .inl rfl
        · by_cases hbb : b1 = b
          · subst hbb
            rcases hshare q a b1 z1 hq k1 e2 rfl with rfl | ⟨c', rfl, hc1, hc2⟩
            · exact .inl rfl
            · obtain ⟨cs1, e1', q1, q2, q3, q4⟩ := k3
              rw [hcs] at q1; cases q1
              refine .inr ⟨b1, z1, k1, k2, _, e, hset, by simpa using hX.trans q2, q3, fun j x hx => ?_⟩
              rcases hc2 with rfl | ⟨_, hc3⟩
              · simp at hx
              · obtain ⟨v, hv, hrv⟩ := q4 j x hx
                refine ⟨v, ?_, hrv.up hle⟩
                have h1 := hget j (by have := (List.getElem?_eq_some_iff.1 hx).1; omega)
                simp only [List.getElem?_toArray]
                rw [h1]; simpa using hv
          · exact .inr ⟨b1, z1, k1, k2, k3.mono (fun _ _ h => h) hle (hother b1 hbb)⟩
  · -- which share
    have hnew : ∀ q a b1 z1, q ≠ pl.getD h.length → (newObj' pl (h.set o (if keep then AO.ro c else .tomb)) (AO.cells (c.take k ++ xs) sh'))[q]? = some a → φ q = some (b1, z1) → b1 = b → mayShare (.cells (c.take k ++ xs) sh') a := by
      intro q a b1 z1 hq1 hq2 hq3 hbb
      subst hbb
      rw [newObj'_other pl _ _ (by rw [hlen]; exact hq1)] at hq2
      by_cases e2 : q = o
      · subst e2
        simp [hl] at hq2
        cases keep with
        | false => simp at hq2; subst hq2; trivial
        | true =>
          simp at hq2; subst hq2
          obtain rfl : k = c.length := by rcases hfull with e3 | ⟨e3, _⟩; exact e3; cases e3
          exact ⟨by simp, hkeep rfl⟩
      · rw [List.getElem?_set_ne (Ne.symm e2)] at hq2
        rcases hshare q a b1 z1 hq2 hq3 e2 rfl with rfl | ⟨c', rfl, hc1, hc2⟩
        · trivial
        · refine ⟨?_, hc2.imp id fun hc3 => hsh hc3.1⟩
          rcases hc2 with rfl | ⟨_, hc3⟩
          · simp
          · simp; omega
    intro q q' a a' b1 z1 z2 hq hq' k1 k2 hqq
    by_cases e1 : q = pl.getD h.length
    · have e2 : q' ≠ pl.getD h.length := fun e2 => hqq (e1.trans e2.symm)
      have h0 := newObj'_get pl (h.set o (if keep then AO.ro c else .tomb)) (AO.cells (c.take k ++ xs) sh') hp'
      rw [hlen] at h0
      rw [e1] at hq k1
      rw [h0] at hq; cases hq
      rw [Mp.set_same] at k1; cases k1
      rw [Mp.set_other _ _ e2] at k2
      exact hnew q' a' _ _ e2 hq' k2 rfl
    · rw [Mp.set_other _ _ e1] at k1
      by_cases e2 : q' = pl.getD h.length
      · have h0 := newObj'_get pl (h.set o (if keep then AO.ro c else .tomb)) (AO.cells (c.take k ++ xs) sh') hp'
        rw [hlen] at h0
        rw [e2] at hq' k2
        rw [h0] at hq'; cases hq'
        rw [Mp.set_same] at k2; cases k2
        exact mayShare_comm (hnew q a _ _ e1 hq k1 rfl)
      · rw [Mp.set_other _ _ e2] at k2
        rw [newObj'_other pl _ _ (by rw [hlen]; exact e1)] at hq
        rw [newObj'_other pl _ _ (by rw [hlen]; exact e2)] at hq'
        by_cases e3 : q = o
        · subst e3
          simp [hl] at hq
          rw [List.getElem?_set_ne hqq] at hq'
          cases keep with
          | false => simp at hq; subst hq; trivial
          | true =>
            simp at hq; subst hq
            rw [hb] at k1; cases k1
            rcases hshare q' a' _ _ hq' k2 (Ne.symm hqq) rfl with rfl | ⟨c', rfl, _, _⟩ <;> trivial
        · rw [List.getElem?_set_ne (Ne.symm e3)] at hq
          by_cases e4 : q' = o
          · subst e4
            simp [hl] at hq'
            cases keep with
            | false => simp at hq'; subst hq'; cases a <;> trivial
            | true =>
              simp at hq'; subst hq'
              rw [hb] at k2; cases k2
              rcases hshare q a _ _ hq k1 e3 rfl with rfl | ⟨c', rfl, _, _⟩ <;> trivial
          · rw [List.getElem?_set_ne (Ne.symm e4)] at hq'
            exact H.inj q q' a a' b1 z1 z2 hq hq' k1 k2 hqq
  · have h2 := newObj'_len pl (h.set o (if keep then AO.ro c else .tomb)) (AO.cells (c.take k ++ xs) sh')
    rw [hlen] at h2; exact h2
  · intro q hq hq2 hpq
    have e1 : q ≠ pl.getD h.length := by
      cases pl with
      | none => simp; omega
      | some i => simp at hpq ⊢; exact hpq
    rw [newObj'_other pl _ _ (by rw [hlen]; exact e1)]
    exact List.getElem?_set_ne (by omega)
  · intro q hq hpq hnn
    rw [Mp.set_other]
    · exact hnn
    · cases pl with
      | none => simp; omega
      | some i => simp at hpq ⊢; exact hpq

end Go.Am
