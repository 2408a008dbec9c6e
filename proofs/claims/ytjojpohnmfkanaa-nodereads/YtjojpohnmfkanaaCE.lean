/- Which nodes may be; Check. -/
import Derived.Test.YtjojpohnmfkanaaCD
namespace Go.Proofs.Ytjojpohnmfkanaa
open Go.RowKit
set_option linter.unusedVariables false

theorem rowc_drop (xs : List En) (k : Nat) : rowc (xs.drop k) = (rowc xs).drop (k * 4) := by
  induction k generalizing xs with
  | zero => simp
  | succ k ih => cases xs with
    | nil => simp [rowc]
    | cons x xs =>
      have e : rowc (x :: xs) = x.cells ++ rowc xs := by simp [rowc]
      rw [List.drop_succ_cons, ih, e, List.drop_append, En.cells_len, (List.drop_eq_nil_of_le (by rw [En.cells_len]; omega) : x.cells.drop ((k + 1) * 4) = []), List.nil_append, show (k + 1) * 4 - 4 = k * 4 by omega]
theorem Ens.drop {w : World} {b off n c : Nat} {xs : List En} (h : Ens w (some ⟨b, off, none⟩) n c xs) (k : Nat) (hk : k ≤ n) : Ens w (some ⟨b, off + k * 4, none⟩) (n - k) (c - k) (xs.drop k) := by
  refine ⟨by rw [List.length_drop, h.len], by have := h.cap; omega, by have := h.max; omega, by (intro e; cases e), ?_, fun x hx => h.each x (List.mem_of_mem_drop hx)⟩
  rcases h.row with h0 | ⟨b', off', e, hlt, hc⟩
  · subst h0; exact .inl (by simp)
  · cases e
    refine .inr ⟨b, off + k * 4, rfl, hlt, fun j u hu => ?_⟩
    rw [rowc_drop, List.getElem?_drop] at hu
    have := hc _ u hu
    rwa [show off + k * 4 + j = off + (k * 4 + j) by omega]
theorem Ens.take {w : World} {a : Option Addr} {n c : Nat} {xs : List En} (h : Ens w a n c xs) (k : Nat) (hk : k ≤ n) : Ens w a k c (xs.take k) := by
  refine ⟨by rw [List.length_take, h.len]; omega, by have := h.cap; omega, h.max, fun e => by have := h.bare e; omega, ?_, fun x hx => h.each x (List.mem_of_mem_take hx)⟩
  rcases h.row with h0 | ⟨b', off', e, hlt, hc⟩
  · subst h0; exact .inl (by simp)
  · refine .inr ⟨b', off', e, hlt, fun j u hu => hc j u ?_⟩
    have e : rowc xs = rowc (xs.take k) ++ rowc (xs.drop k) := by rw [← rowc_app, List.take_append_drop]
    rw [e, List.getElem?_append_left (List.getElem?_eq_some_iff.1 hu).1]
    exact hu
set_option maxHeartbeats 1600000 in
set_option maxRecDepth 1000000 in
theorem maybe_none (leaf : Bool) (a : Option Addr) (c : Nat) (w : World) :
    Calls Try.prog 69 #[.agg #[.bool leaf, .slice a 0 c]] w fun e w' => e = .returned (.bool false) ∧ Below w.heap.size w w' := by
  obtain ⟨n0, n1, -⟩ := cells_two (heap_alloc_new w (.cells #[.bool leaf, .slice a 0 c] 25))
  have HB0 := hide (below_alloc w (.cells #[.bool leaf, .slice a 0 c] 25))
  go_enter Try.func69, Try.ntmps69
  go_wp2
  go_ret
  exact ⟨rfl, HB0.out⟩
set_option maxHeartbeats 1600000 in
set_option maxRecDepth 1000000 in
theorem maybe_leaf (a : Option Addr) (n c : Nat) (xs : List En) (w : World) (h : Ens w a n c xs) (hn : n ≤ 1000000) (h0 : 0 < n) :
    Calls Try.prog 69 #[.agg #[.bool true, .slice a n c]] w fun e w' => e = .returned (.bool (keysOk [] (ers xs) && (ers xs).all Ee.valOk)) ∧ Below w.heap.size w w' := by
  have hb := heap_alloc_new w (.cells #[.bool true, .slice a n c] 25)
  obtain ⟨n0, n1, -⟩ := cells_two hb
  have hB0 := below_alloc w (.cells #[.bool true, .slice a n c] 25)
  have HB0 := hide hB0
  have HE := hide (h.below hB0)
  have HB := hide hb
  have hnz : ((n : Int) == 0) = false := by simp; omega
  have HK := hide (keys_any a n c xs _ HE.out hn)
  clear h hB0 hb
  go_enter Try.func69, Try.ntmps69
  go_wp2_with fail
  refine HK.out.mono ?_
  rintro e w2 ⟨rfl, hb2⟩
  have hbk := (hb2.block _ (lt_of_block HB.out)).trans HB.out
  obtain ⟨m0, m1, -⟩ := cells_two hbk
  have HA := hide (allval_any a n c xs w2 (HE.out.below hb2) hn)
  have HB2 := hide (HB0.out.trans (hb2.mono HB0.out.size))
  clear hb2 hbk HK
  rcases Bool.eq_false_or_eq_true (keysOk [] (ers xs)) with hk | hk
  · rw [hk]
    have HKk := hide hk
    clear hk
    go_wp2_with (go_at_call 83; refine HA.out.mono ?_; rintro e w3 ⟨rfl, hb3⟩)
    go_ret
    exact ⟨by rw [HKk.out]; simp, HB2.out.trans (hb3.mono HB2.out.size)⟩
  · rw [hk]
    have HKk := hide hk
    clear hk
    go_wp2
    go_ret
    exact ⟨by rw [HKk.out]; simp, HB2.out⟩
set_option maxHeartbeats 1600000 in
set_option maxRecDepth 1000000 in
theorem maybe_branch (a : Option Addr) (n c : Nat) (x : En) (xs : List En) (w : World) (h : Ens w a n c (x :: xs)) (hn : n ≤ 1000000) :
    Calls Try.prog 69 #[.agg #[.bool false, .slice a n c]] w fun e w' => e = .returned (.bool (decide (x.e.key.length = 0) && (keysOk [] (ers xs) && ((ers (x :: xs)).all Ee.kid && decide ((ers (x :: xs)).map Ee.page).Nodup)))) ∧ Below w.heap.size w w' := by
  have hb := heap_alloc_new w (.cells #[.bool false, .slice a n c] 25)
  obtain ⟨n0, n1, -⟩ := cells_two hb
  have hB0 := below_alloc w (.cells #[.bool false, .slice a n c] 25)
  have HB0 := hide hB0
  have HE := hide (h.below hB0)
  have HB := hide hb
  have hl := h.len
  rw [List.length_cons] at hl
  have hn0 : 0 < n := by omega
  have hnz : ((n : Int) == 0) = false := by simp; omega
  have hcap := h.cap
  have hmax := h.max
  obtain ⟨b, off, rfl, hbs, c0, c1, c2, c3⟩ := HE.out.cells (k := 0) (x := x) rfl
  simp only [Nat.zero_mul, Nat.add_zero] at c0 c1 c2 c3
  clear hB0 hb
  by_cases hk0 : x.e.key.length = 0
  · have hkz : ((x.e.key.length : Int) == 0) = true := by simp; exact List.eq_nil_of_length_eq_zero hk0
    have HK0 := hide hk0
    have HC := hide (fun (W : World) a m d (e : Ens W a m d xs) (hm : m ≤ 1000000) => keys_any a m d xs W e hm)
    have HA := hide (fun (W : World) (e : Ens W (some ⟨b, off, none⟩) n c (x :: xs)) => allkid_any (some ⟨b, off, none⟩) n c (x :: xs) W e hn)
    have HP := hide (fun (W : World) (e : Ens W (some ⟨b, off, none⟩) n c (x :: xs)) => pages_any (some ⟨b, off, none⟩) n c (x :: xs) W e hn)
    rw [hk0] at c0
    generalize keysOk [] (ers xs) = R1 at *
    generalize (ers (x :: xs)).all Ee.kid = R2 at *
    generalize decide ((ers (x :: xs)).map Ee.page).Nodup = R3 at *
    by_cases hc1 : c = 1
    · subst hc1
      obtain rfl : n = 1 := by omega
      have HT : Hid (Ens (w.alloc (.cells #[.bool false, .slice (some ⟨b, off, none⟩) 1 1] 25)) (some ⟨b, off, none⟩) 0 0 xs) := by
        have e : xs = [] := List.eq_nil_of_length_eq_zero (by omega)
        subst e
        exact ⟨rfl, Nat.le_refl _, by omega, by (intro e; cases e), .inl rfl, by intro x hx; simp at hx⟩
      clear h hl hk0
      go_enter Try.func69, Try.ntmps69
      go_wp2_with fail
      refine (HC.out _ _ _ _ HT.out (by omega)).mono ?_
      rintro e w2 ⟨rfl, hb2⟩
      have hbk := (hb2.block _ (lt_of_block HB.out)).trans HB.out
      obtain ⟨m0, m1, -⟩ := cells_two hbk
      have HE2 := hide (HE.out.below hb2)
      have HB2 := hide (HB0.out.trans (hb2.mono HB0.out.size))
      have HBk2 := hide hbk
      clear hb2 hbk HT
      cases R1 with
      | false =>
        go_wp2
        go_ret
        exact ⟨by rw [HK0.out]; simp, HB2.out⟩
      | true =>
        go_wp2_with fail
        refine (HA.out _ HE2.out).mono ?_
        rintro e w3 ⟨rfl, hb3⟩
        have hbk := (hb3.block _ (lt_of_block HBk2.out)).trans HBk2.out
        obtain ⟨p0, p1, -⟩ := cells_two hbk
        have HE3 := hide (HE2.out.below hb3)
        have HB3 := hide (HB2.out.trans (hb3.mono HB2.out.size))
        clear hb3 hbk
        cases R2 with
        | false =>
          go_wp2
          go_ret
          exact ⟨by rw [HK0.out]; simp, HB3.out⟩
        | true =>
          go_wp2_with (go_at_call 86; refine (HP.out _ HE3.out).mono ?_; rintro e w4 ⟨rfl, hb4⟩)
          go_ret
          exact ⟨by rw [HK0.out]; simp, HB3.out.trans (hb4.mono HB3.out.size)⟩
    · have HT : Hid (Ens (w.alloc (.cells #[.bool false, .slice (some ⟨b, off, none⟩) n c] 25)) (some ⟨b, off + 4, none⟩) (n - 1) (c - 1) xs) := by
        have := HE.out.drop 1 (by omega)
        rw [Hid]
        simpa using this
      clear h hl hk0
      go_enter Try.func69, Try.ntmps69
      go_wp2_with fail
      refine (HC.out _ _ _ _ HT.out (by omega)).mono ?_
      rintro e w2 ⟨rfl, hb2⟩
      have hbk := (hb2.block _ (lt_of_block HB.out)).trans HB.out
      obtain ⟨m0, m1, -⟩ := cells_two hbk
      have HE2 := hide (HE.out.below hb2)
      have HB2 := hide (HB0.out.trans (hb2.mono HB0.out.size))
      have HBk2 := hide hbk
      clear hb2 hbk HT
      cases R1 with
      | false =>
        go_wp2
        go_ret
        exact ⟨by rw [HK0.out]; simp, HB2.out⟩
      | true =>
        go_wp2_with fail
        refine (HA.out _ HE2.out).mono ?_
        rintro e w3 ⟨rfl, hb3⟩
        have hbk := (hb3.block _ (lt_of_block HBk2.out)).trans HBk2.out
        obtain ⟨p0, p1, -⟩ := cells_two hbk
        have HE3 := hide (HE2.out.below hb3)
        have HB3 := hide (HB2.out.trans (hb3.mono HB2.out.size))
        clear hb3 hbk
        cases R2 with
        | false =>
          go_wp2
          go_ret
          exact ⟨by rw [HK0.out]; simp, HB3.out⟩
        | true =>
          go_wp2_with (go_at_call 86; refine (HP.out _ HE3.out).mono ?_; rintro e w4 ⟨rfl, hb4⟩)
          go_ret
          exact ⟨by rw [HK0.out]; simp, HB3.out.trans (hb4.mono HB3.out.size)⟩
  · have hkz : ((x.e.key.length : Int) == 0) = false := by simp; intro e; exact hk0 (by rw [e]; rfl)
    go_enter Try.func69, Try.ntmps69
    go_wp2
    go_ret
    exact ⟨by simp [hk0], HB0.out⟩
theorem mayB_leaf (es : List Ee) (h : es ≠ []) : mayB true es = (keysOk [] es && es.all Ee.valOk) := by
  cases es with
  | nil => exact absurd rfl h
  | cons e r => rfl
theorem maybe_any (leaf : Bool) (a : Option Addr) (n c : Nat) (xs : List En) (w : World) (h : Ens w a n c xs) (hn : n ≤ 1000000) :
    Calls Try.prog 69 #[.agg #[.bool leaf, .slice a n c]] w fun e w' => e = .returned (.bool (mayB leaf (ers xs))) ∧ Below w.heap.size w w' := by
  cases xs with
  | nil =>
    have hl := h.len
    simp at hl
    subst hl
    exact maybe_none leaf a c w
  | cons x xs =>
    cases leaf with
    | true =>
      rw [mayB_leaf _ (by simp [ers])]
      exact maybe_leaf a n c (x :: xs) w h hn (by have := h.len; simp at this; omega)
    | false => exact maybe_branch a n c x xs w h hn
set_option maxHeartbeats 1600000 in
set_option maxRecDepth 1000000 in
theorem check_any (leaf : Bool) (a : Option Addr) (n c : Nat) (xs : List En) (w : World) (h : Ens w a n c xs) (hn : n ≤ 1000000) (hw : wts (ers xs) ≤ 1000000) :
    Calls Try.prog 26 #[.agg #[.bool leaf, .slice a n c]] w fun e w' => e = .returned (.int .u16 ((chk leaf (ers xs) : Nat) : Int)) ∧ Below w.heap.size w w' := by
  have hb := heap_alloc_new w (.cells #[.bool leaf, .slice a n c] 25)
  obtain ⟨n0, n1, -⟩ := cells_two hb
  have hB0 := below_alloc w (.cells #[.bool leaf, .slice a n c] 25)
  have HB0 := hide hB0
  have HE := hide (h.below hB0)
  have HB := hide hb
  have HM := hide (maybe_any leaf a n c xs _ HE.out hn)
  have HS := hide (fun (W : World) (e : Ens W a n c xs) => size_any leaf a n c xs W e hn hw)
  have HD : Hid (chk leaf (ers xs) = if mayB leaf (ers xs) then (if nsz leaf (ers xs) ≤ 1008 then 0 else 91) else 90) := hide rfl
  have hz : nsz leaf (ers xs) ≤ 11000002 := by have := esum_le leaf (ers xs); rw [ers_len, h.len] at this; unfold nsz; omega
  clear h hB0 hb
  generalize chk leaf (ers xs) = C at *
  generalize mayB leaf (ers xs) = M at *
  generalize nsz leaf (ers xs) = Z at *
  cases M with
  | false =>
    go_enter Try.func26, Try.ntmps26
    go_wp2_with (go_at_call 69; refine HM.out.mono ?_; rintro e w2 ⟨rfl, hb2⟩)
    go_ret
    exact ⟨by rw [HD.out]; rfl, HB0.out.trans (hb2.mono HB0.out.size)⟩
  | true =>
    go_enter Try.func26, Try.ntmps26
    go_wp2_with fail
    refine HM.out.mono ?_
    rintro e w2 ⟨rfl, hb2⟩
    have hbk := (hb2.block _ (lt_of_block HB.out)).trans HB.out
    obtain ⟨m0, m1, -⟩ := cells_two hbk
    have HE2 := hide (HE.out.below hb2)
    have HB2 := hide (HB0.out.trans (hb2.mono HB0.out.size))
    clear hb2 hbk HM
    by_cases hl : Z ≤ 1008
    · have d1 : ¬ (1008 : Int) < (Z : Int) := by omega
      have HL := hide hl
      clear hl
      go_wp2_with (go_at_call 27; refine (HS.out _ HE2.out).mono ?_; rintro e w3 ⟨rfl, hb3⟩)
      go_ret
      exact ⟨by rw [HD.out, if_pos trivial, if_pos HL.out]; rfl, HB2.out.trans (hb3.mono HB2.out.size)⟩
    · have d1 : (1008 : Int) < (Z : Int) := by omega
      have HL := hide hl
      clear hl
      go_wp2_with (go_at_call 27; refine (HS.out _ HE2.out).mono ?_; rintro e w3 ⟨rfl, hb3⟩)
      go_ret
      exact ⟨by rw [HD.out, if_pos trivial, if_neg HL.out]; rfl, HB2.out.trans (hb3.mono HB2.out.size)⟩
end Go.Proofs.Ytjojpohnmfkanaa
