/- Words in a row: do they rise, may they be; Need. -/
import Derived.Test.YtlahkeapfcfbbaaDoorLF
namespace Go.Proofs.YtlahkeapfcfbbaaDoor
open Go.RowKit Go.Maps
set_option linter.unusedVariables false
variable {w w' : World}
set_option maxHeartbeats 1600000 in
set_option maxRecDepth 1000000 in
theorem need_any (w : World) (n : Nat) (hn : n ≤ 1000000) : Calls Tryd.prog 23 #[.int .i64 (n : Int)] w fun e w' => e = .returned (.int .i64 (((n + 250) / 251 : Nat) : Int)) ∧ w' = w := by
  by_cases h : n = 0
  · subst h
    go_enter Tryd.func23, Tryd.ntmps23
    go_wp2
    go_ret
    exact ⟨rfl, rfl⟩
  · have h1 : ¬ (n : Int) ≤ 0 := by omega
    generalize hm : (n + 250) / 251 = m
    have e : ((n : Int) - 1) / 251 + 1 = (m : Int) := by omega
    have e2 : ((n : Int) + 250) / 251 = (m : Int) := by omega
    have HM := hide hm
    clear hm
    go_enter Tryd.func23, Tryd.ntmps23
    go_wp2
    go_ret
    exact ⟨rfl, rfl⟩
/-- a slice's first cells hold the words zs. -/
def Rw (w : World) (a : Option Addr) (zs : List Nat) : Prop :=
  zs = [] ∨ ∃ b off, a = some ⟨b, off, none⟩ ∧ b < w.heap.size ∧ ∀ i, i < zs.length → w.cell? ⟨b, off + i, none⟩ = some (.int .u32 ((zs.getD i 0 : Nat) : Int))
/-- words that may be. -/
def W32 (zs : List Nat) : Prop := ∀ z ∈ zs, z ≤ 4294967295
theorem Rw.below {a : Option Addr} {zs : List Nat} (h : Rw w a zs) (hb : Below w.heap.size w w') : Rw w' a zs := by
  rcases h with h | ⟨b, off, rfl, hlt, hc⟩
  · exact .inl h
  · exact .inr ⟨b, off, rfl, Nat.lt_of_lt_of_le hlt hb.size, fun i hi => (hb.cell (p := ⟨b, off + i, none⟩) hlt).trans (hc i hi)⟩
theorem Rw.take {a : Option Addr} {zs : List Nat} (h : Rw w a zs) (k : Nat) : Rw w a (zs.take k) := by
  rcases h with rfl | ⟨b, off, rfl, hlt, hc⟩
  · exact .inl (by simp)
  · exact .inr ⟨b, off, rfl, hlt, fun i hi => by
      simp only [List.length_take] at hi
      rw [hc i (by omega)]
      simp [List.getD_eq_getElem?_getD, show i < k by omega]⟩
theorem W32.at {zs : List Nat} (h : W32 zs) (i : Nat) : zs.getD i 0 ≤ 4294967295 := by
  by_cases hi : i < zs.length
  · rw [List.getD_eq_getElem?_getD, List.getElem?_eq_getElem hi]; exact h _ (List.getElem_mem hi)
  · rw [List.getD_eq_getElem?_getD, List.getElem?_eq_none (by omega)]; simp
/-- may each be a page that is free? -/
def okp (n : Nat) : Bool := decide (2 ≤ n) && decide (n ≤ 16383)
/-- does each rise above the one ahead? -/
def rise (zs : List Nat) : Bool := (List.range zs.length).all fun i => i == 0 || decide (zs.getD (i - 1) 0 < zs.getD i 0)
theorem all_at {zs : List Nat} {p : Nat → Bool} : zs.all p = true ↔ ∀ i, i < zs.length → p (zs.getD i 0) = true := by
  rw [List.all_eq_true]
  constructor
  · intro h i hi
    rw [List.getD_eq_getElem?_getD, List.getElem?_eq_getElem hi]; exact h _ (List.getElem_mem hi)
  · intro h x hx
    obtain ⟨i, hi, rfl⟩ := List.getElem_of_mem hx
    have := h i hi
    rwa [List.getD_eq_getElem?_getD, List.getElem?_eq_getElem hi] at this
theorem rise_at {zs : List Nat} : rise zs = true ↔ ∀ i, 0 < i → i < zs.length → zs.getD (i - 1) 0 < zs.getD i 0 := by
  unfold rise
  simp only [List.all_eq_true, List.mem_range, Bool.or_eq_true, beq_iff_eq, decide_eq_true_eq]
  constructor
  · intro h i h0 h1
    exact (h i h1).resolve_left (by omega)
  · intro h i h1
    by_cases e : i = 0
    · exact .inl e
    · exact .inr (h i (by omega) h1)
theorem bool_false {b : Bool} (h : ¬ b = true) : b = false := by simpa using h
set_option maxHeartbeats 1600000 in
set_option maxRecDepth 1000000 in
theorem allMay_any (w : World) (a : Option Addr) (n c : Nat) (zs : List Nat) (hl : zs.length = n) (hn : n ≤ 1000000) (hr : Rw w a zs) (hz : W32 zs) :
    Calls Tryd.prog 61 #[.slice a n c] w fun e w' => e = .returned (.bool (zs.all okp)) ∧ Same w w' := by
  have HL := hide hl
  have HR := hide hr
  have HZ := hide hz
  clear hl hr hz
  go_enter Tryd.func61, Tryd.ntmps61
  go_wp2
  go_loopw [7] (fun i wr => ∃ k : Nat, k ≤ n ∧ i = .int .i64 k ∧ (∀ j, j < k → okp (zs.getD j 0) = true) ∧ Same w wr) (fun i _ => n - (intOf i).toNat)
  case atStart => exact ⟨0, Nat.zero_le _, rfl, fun j hj => by omega, Same.refl _⟩
  case round =>
    obtain ⟨k, hk, rfl, hall, hsame⟩ := hrel
    have HAl := hide hall
    have HSa := hide hsame
    clear hall hsame
    by_cases hlt : k < n
    · have hlk : k < zs.length := by have := HL.out; omega
      rcases HR.out.below HSa.out.below with h0 | ⟨b, o, rfl, _, hc⟩
      · subst h0; simp at hlk
      have g1 := hc k hlk
      clear hc
      have HM := hide (mayBe_any wr (zs.getD k 0) (HZ.out.at k))
      by_cases hok : okp (zs.getD k 0) = true
      · have HOk := hide hok
        unfold okp at hok
        rw [hok] at HM
        clear hok
        generalize zs.getD k 0 = z at g1 HM
        go_wp2_with (go_at_call 24; refine HM.out.mono ?_; rintro e w1 ⟨rfl, hw1⟩; rw [hw1]; clear hw1)
        go_roundw
        case rel => exact ⟨k + 1, by omega, by go_num, fun j hj => by
          by_cases e : j = k
          · subst e; exact HOk.out
          · exact HAl.out j (by omega), HSa.out⟩
        case measure => simp [intOf]; omega
      · have hok' := bool_false hok
        have HF : Hid (zs.all okp = false) := by
          rw [Hid]
          refine bool_false fun h => hok (all_at.1 h k hlk)
        unfold okp at hok'
        rw [hok'] at HM
        clear hok hok'
        generalize zs.getD k 0 = z at g1 HM
        go_wp2_with (go_at_call 24; refine HM.out.mono ?_; rintro e w1 ⟨rfl, hw1⟩; rw [hw1]; clear hw1)
        go_ret
        exact ⟨by rw [HF.out]; rfl, HSa.out⟩
    · have HT : Hid (zs.all okp = true) := all_at.2 fun i hi => HAl.out i (by have := HL.out; omega)
      go_wp2
      go_ret
      exact ⟨by rw [HT.out]; rfl, HSa.out⟩
set_option maxHeartbeats 1600000 in
set_option maxRecDepth 1000000 in
theorem isList_any (w : World) (a : Option Addr) (n c : Nat) (zs : List Nat) (hl : zs.length = n) (hn : n ≤ 1000000) (hr : Rw w a zs) (hz : W32 zs) :
    Calls Tryd.prog 60 #[.slice a n c] w fun e w' => e = .returned (.bool (rise zs && zs.all okp)) ∧ Same w w' := by
  have HL := hide hl
  have HR := hide hr
  have HZ := hide hz
  clear hl hr hz
  go_enter Tryd.func60, Tryd.ntmps60
  go_wp2
  go_loopw [3] (fun i wr => ∃ k : Nat, 1 ≤ k ∧ (k ≤ n ∨ k = 1) ∧ i = .int .i64 k ∧ (∀ j, 0 < j → j < k → zs.getD (j - 1) 0 < zs.getD j 0) ∧ Same w wr) (fun i _ => n - (intOf i).toNat)
  case atStart => exact ⟨1, Nat.le_refl _, .inr rfl, rfl, fun j hj hj2 => by omega, Same.refl _⟩
  case round =>
    obtain ⟨k, hk1, hk, rfl, hall, hsame⟩ := hrel
    have HAl := hide hall
    have HSa := hide hsame
    clear hall hsame
    by_cases hlt : k < n
    · have hlk : k < zs.length := by have := HL.out; omega
      rcases HR.out.below HSa.out.below with h0 | ⟨b, o, rfl, _, hc⟩
      · subst h0; simp at hlk
      have g1 := hc k hlk
      have g2 := hc (k - 1) (by omega)
      obtain ⟨m, rfl⟩ : ∃ m, k = m + 1 := ⟨k - 1, by omega⟩
      rw [Nat.add_sub_cancel] at g2
      clear hc
      by_cases hok : zs.getD m 0 < zs.getD (m + 1) 0
      · have HOk := hide hok
        have hq : ¬ ((zs.getD (m + 1) 0 : Nat) : Int) ≤ ((zs.getD m 0 : Nat) : Int) := by omega
        have hqd : decide (((zs.getD (m + 1) 0 : Nat) : Int) ≤ ((zs.getD m 0 : Nat) : Int)) = false := decide_eq_false hq
        have hqn : ¬ zs.getD (m + 1) 0 ≤ zs.getD m 0 := by omega
        have hqe : decide (zs.getD (m + 1) 0 ≤ zs.getD m 0) = false := decide_eq_false hqn
        clear hok hq
        generalize zs.getD (m + 1) 0 = y at g1 hqd hqn hqe
        generalize zs.getD m 0 = z at g2 hqd hqn hqe
        go_wp2
        go_quiet (fail)
        go_wp2
        go_roundw
        case rel => exact ⟨m + 1 + 1, by omega, .inl (by omega), by go_num, fun j hj hj2 => by
          by_cases e : j = m + 1
          · subst e; rw [Nat.add_sub_cancel]; exact HOk.out
          · exact HAl.out j hj (by omega), HSa.out.drewN _⟩
        case measure => simp [intOf]; omega
      · have HF : Hid (rise zs = false) := by
          rw [Hid]
          refine bool_false fun h => hok ?_
          have := rise_at.1 h (m + 1) (by omega) hlk
          rwa [Nat.add_sub_cancel] at this
        have hq : ((zs.getD (m + 1) 0 : Nat) : Int) ≤ ((zs.getD m 0 : Nat) : Int) := by omega
        have hqd : decide (((zs.getD (m + 1) 0 : Nat) : Int) ≤ ((zs.getD m 0 : Nat) : Int)) = true := decide_eq_true hq
        have hqn : zs.getD (m + 1) 0 ≤ zs.getD m 0 := by omega
        have hqe : decide (zs.getD (m + 1) 0 ≤ zs.getD m 0) = true := decide_eq_true hqn
        clear hok hq
        generalize zs.getD (m + 1) 0 = y at g1 hqd hqn hqe
        generalize zs.getD m 0 = z at g2 hqd hqn hqe
        go_wp2
        go_quiet (fail)
        go_wp2
        go_ret
        exact ⟨by rw [HF.out]; rfl, HSa.out.drewN _⟩
    · have HT : Hid (rise zs = true) := rise_at.2 fun i h0 hi => HAl.out i h0 (by have := HL.out; omega)
      have HM := hide (allMay_any wr a n c zs HL.out hn (HR.out.below HSa.out.below) HZ.out)
      go_wp2_with (go_at_call 61; refine HM.out.mono ?_; rintro e w1 ⟨rfl, hs1⟩; have HS1 := hide hs1; clear hs1)
      go_ret
      exact ⟨by rw [HT.out, Bool.true_and]; rfl, HSa.out.trans HS1.out⟩
end Go.Proofs.YtlahkeapfcfbbaaDoor
