/- Where a key stands: the search. -/
import Derived.Test.YtcflnkepopcofaaX
namespace Go.Proofs.Ytcflnkepopcofaa
open Go.RowKit
set_option linter.unusedVariables false

theorem one_below {w W : World} {q : Nat} {v : Value} (hq : w.cell? ⟨q, 0, none⟩ = some v) (hb : Below w.heap.size w W) : W.cell? ⟨q, 0, none⟩ = some v := (hb.cell (p := ⟨q, 0, none⟩) (World.block_lt_of_cell? w _ hq)).trans hq
/-- has the key reached what is looked for? -/
def pge (key k : List Int) : Bool := decide (0 ≤ ordI k key)
def pgt (key k : List Int) : Bool := decide (0 < ordI k key)
/-- the place that a search comes to. -/
def At (p : List Int → Bool) (xs : List En) (i : Nat) : Prop := i ≤ xs.length ∧ (∀ x, 0 < i → xs[i - 1]? = some x → p x.e.key = false) ∧ ∀ x, xs[i]? = some x → p x.e.key = true
set_option maxHeartbeats 1600000 in
set_option maxRecDepth 1000000 in
theorem place1_any (q : Nat) (ka : Option Addr) (kn kc : Nat) (key : List Int) (a : Option Addr) (n c : Nat) (ks : List Int) (w : World) (hq : w.cell? ⟨q, 0, none⟩ = some (.slice ka kn kc)) (hk : Inn w ka kn kc key) (h : Inn w a n c ks) :
    Calls Try.prog 45 #[.slice a n c, .pointer (some ⟨q, 0, none⟩)] w fun e w' => e = .returned (.bool (pge key ks)) ∧ Below w.heap.size w w' := by
  have HC := hide (compare_any h hk)
  have HD : Hid (pge key ks = decide (0 ≤ ordI ks key)) := hide rfl
  clear h hk
  generalize ordI ks key = O at *
  generalize pge key ks = B at *
  go_enter Try.func45, Try.ntmps45
  go_wp2_with (go_at_call 27; refine HC.out.mono ?_; rintro e w2 ⟨rfl, rfl⟩)
  go_ret
  exact ⟨by rw [HD.out]; rfl, Below.refl _ _⟩
set_option maxHeartbeats 1600000 in
set_option maxRecDepth 1000000 in
theorem place1_first1 (q q1 q2 : Nat) (ka : Option Addr) (kn kc : Nat) (key : List Int) (a : Option Addr) (n c : Nat) (xs : List En) (j : Nat) (x : En) (w : World) (hq : w.cell? ⟨q, 0, none⟩ = some (.slice ka kn kc)) (hk : Inn w ka kn kc key) (h : Ens w a n c xs)
    (hq1 : w.cell? ⟨q1, 0, none⟩ = some (.func (.func 45) #[] #[.pointer (some ⟨q, 0, none⟩)])) (hq2 : w.cell? ⟨q2, 0, none⟩ = some (.slice a n c)) (hx : xs[j]? = some x) (hj : j < n) :
    Calls Try.prog 54 #[.int .i64 (j : Int), .pointer (some ⟨q1, 0, none⟩), .pointer (some ⟨q2, 0, none⟩)] w fun e w' => e = .returned (.bool (pge key x.e.key)) ∧ Below w.heap.size w w' := by
  obtain ⟨b, off, rfl, hbs, c0, c1, c2, c3⟩ := h.cells hx
  have hok := h.each x (List.mem_of_getElem? hx)
  have hcap := h.cap
  have hmax := h.max
  have HG := hide (place1_any q ka kn kc key x.ka x.e.key.length x.kc x.e.key w.drew hq (hk.below (Below.refl _ _).drew) (hok.key.below (Below.refl _ _).drew))
  have HQ1 := hide hq1
  have HQ2 := hide hq2
  have HC0 := hide c0
  clear h hk hok hx
  generalize pge key x.e.key = B at *
  go_enter Try.func54, Try.ntmps54
  go_wp2
  go_region_held3 (fun W => W.cell? ⟨q1, 0, none⟩ = some (.func (.func 45) #[] #[.pointer (some ⟨q, 0, none⟩)]) ∧ W.cell? ⟨q2, 0, none⟩ = some (.slice (some ⟨b, off, none⟩) n c) ∧ W.cell? ⟨b, off + j * 4, none⟩ = some (.slice x.ka x.e.key.length x.kc)) ((refine ⟨?_, ?_, ?_⟩ <;> assumption)) ((first | (go_at_call 45; refine HG.out.mono ?_; intro r' w2 hh; obtain ⟨rfl, hb2⟩ := hh; have HB2 := hide hb2; clear hb2 hq1 hq2 c0 c1 c2 c3 hq; have hq1 := (HB2.out.cell (p := ⟨q1, 0, none⟩) (World.block_lt_of_cell? w _ HQ1.out)).trans HQ1.out; have hq2 := (HB2.out.cell (p := ⟨q2, 0, none⟩) (World.block_lt_of_cell? w _ HQ2.out)).trans HQ2.out; have c0 := (HB2.out.cell (p := ⟨b, off + j * 4, none⟩) (World.block_lt_of_cell? w _ HC0.out)).trans HC0.out)))
  go_wp2
  go_ret
  exact ⟨rfl, (Below.refl _ _).drew.trans HB2.out⟩
set_option maxHeartbeats 3200000 in
set_option maxRecDepth 1000000 in
theorem place1_search (q q1 q2 : Nat) (ka : Option Addr) (kn kc : Nat) (key : List Int) (a : Option Addr) (n c : Nat) (xs : List En) (w : World) (hq : w.cell? ⟨q, 0, none⟩ = some (.slice ka kn kc)) (hk : Inn w ka kn kc key) (h : Ens w a n c xs) (hn : n ≤ 1000000)
    (hq1 : w.cell? ⟨q1, 0, none⟩ = some (.func (.func 45) #[] #[.pointer (some ⟨q, 0, none⟩)])) (hq2 : w.cell? ⟨q2, 0, none⟩ = some (.slice a n c)) :
    Calls Try.prog 53 #[.int .i64 (n : Int), .func (.func 54) #[] #[.pointer (some ⟨q1, 0, none⟩), .pointer (some ⟨q2, 0, none⟩)]] w fun e w' => ∃ i : Nat, e = .returned (.int .i64 (i : Int)) ∧ At (pge key) xs i ∧ Below w.heap.size w w' := by
  have HE := hide h
  have HK := hide hk
  have HQ := hide hq
  have HQ1 := hide hq1
  have HQ2 := hide hq2
  have HL := hide h.len
  clear h hk hq hq1 hq2
  go_enter Try.func53, Try.ntmps53
  go_wp2
  go_loopw [5, 6] (fun vi vj wr => ∃ (i j : Nat), i ≤ j ∧ j ≤ n ∧ vi = .int .i64 (i : Int) ∧ vj = .int .i64 (j : Int) ∧ (∀ x, 0 < i → xs[i - 1]? = some x → pge key x.e.key = false) ∧ (∀ x, xs[j]? = some x → pge key x.e.key = true) ∧ Below w.heap.size w wr) (fun vi vj _ => (intOf vj).toNat - (intOf vi).toNat)
  case atStart => exact ⟨0, n, Nat.zero_le _, Nat.le_refl _, rfl, rfl, fun x h => by omega, fun x hx => by have := (List.getElem?_eq_some_iff.1 hx).1; have := HL.out; omega, Below.refl _ _⟩
  case round =>
    obtain ⟨i, j, hij, hjn, rfl, rfl, hlo, hhi, hbl⟩ := hrel
    have HLo := hide hlo
    have HHi := hide hhi
    have HBl := hide hbl
    clear hlo hhi
    by_cases hlt : i < j
    · have hm : (i + j) / 2 < n := by omega
      obtain ⟨x, hx, hok⟩ := (HE.out.below hbl).at hm
      have HF := hide (place1_first1 q q1 q2 ka kn kc key a n c xs ((i + j) / 2) x wr (one_below HQ.out hbl) (HK.out.below hbl) (HE.out.below hbl) (one_below HQ1.out hbl) (one_below HQ2.out hbl) hx hm)
      have HX := hide hx
      clear hok hx hbl
      have e1 : ((((i + j) / 2 : Nat)) : Int) = ((i : Int) + (j : Int)) / 2 := by omega
      rw [e1] at HF
      have d0 : (i : Int) < (j : Int) := by omega
      rcases Bool.eq_false_or_eq_true (pge key x.e.key) with hp | hp
      · rw [hp] at HF
        have HP := hide hp
        clear hp
        have hmj : (i + j) / 2 < j := by omega
        go_wp2_with (go_at_call 54; refine HF.out.mono ?_; rintro e w2 ⟨rfl, hb2⟩)
        go_roundw
        case rel => exact ⟨i, (i + j) / 2, by omega, by omega, by go_num, by rw [e1], HLo.out, fun y hy => by rw [HX.out] at hy; cases hy; exact HP.out, HBl.out.trans (hb2.mono HBl.out.size)⟩
        case measure => simp [intOf]; omega
      · rw [hp] at HF
        have HP := hide hp
        clear hp
        have hmj : (i + j) / 2 < j := by omega
        go_wp2_with (go_at_call 54; refine HF.out.mono ?_; rintro e w2 ⟨rfl, hb2⟩)
        go_roundw
        case rel => exact ⟨(i + j) / 2 + 1, j, by omega, by omega, by rw [Int.natCast_add, e1]; rfl, rfl, fun y _ hy => by rw [Nat.add_sub_cancel, HX.out] at hy; cases hy; exact HP.out, HHi.out, HBl.out.trans (hb2.mono HBl.out.size)⟩
        case measure => simp [intOf]; omega
    · obtain rfl : i = j := by omega
      go_wp2
      go_ret
      exact ⟨i, rfl, ⟨by rw [HL.out]; exact hjn, HLo.out, HHi.out⟩, HBl.out⟩
set_option maxHeartbeats 1600000 in
set_option maxRecDepth 1000000 in
theorem Find1_any (q : Nat) (ka : Option Addr) (kn kc : Nat) (key : List Int) (a : Option Addr) (n c : Nat) (ks : List Int) (w : World) (hq : w.cell? ⟨q, 0, none⟩ = some (.slice ka kn kc)) (hk : Inn w ka kn kc key) (h : Inn w a n c ks) :
    Calls Try.prog 26 #[.slice a n c, .pointer (some ⟨q, 0, none⟩)] w fun e w' => e = .returned (.bool (pgt key ks)) ∧ Below w.heap.size w w' := by
  have HC := hide (compare_any h hk)
  have HD : Hid (pgt key ks = decide (0 < ordI ks key)) := hide rfl
  clear h hk
  generalize ordI ks key = O at *
  generalize pgt key ks = B at *
  go_enter Try.func26, Try.ntmps26
  go_wp2_with (go_at_call 27; refine HC.out.mono ?_; rintro e w2 ⟨rfl, rfl⟩)
  go_ret
  exact ⟨by rw [HD.out]; rfl, Below.refl _ _⟩
set_option maxHeartbeats 1600000 in
set_option maxRecDepth 1000000 in
theorem Find1_first1 (q q1 q2 : Nat) (ka : Option Addr) (kn kc : Nat) (key : List Int) (a : Option Addr) (n c : Nat) (xs : List En) (j : Nat) (x : En) (w : World) (hq : w.cell? ⟨q, 0, none⟩ = some (.slice ka kn kc)) (hk : Inn w ka kn kc key) (h : Ens w a n c xs)
    (hq1 : w.cell? ⟨q1, 0, none⟩ = some (.func (.func 26) #[] #[.pointer (some ⟨q, 0, none⟩)])) (hq2 : w.cell? ⟨q2, 0, none⟩ = some (.slice a n c)) (hx : xs[j]? = some x) (hj : j < n) :
    Calls Try.prog 54 #[.int .i64 (j : Int), .pointer (some ⟨q1, 0, none⟩), .pointer (some ⟨q2, 0, none⟩)] w fun e w' => e = .returned (.bool (pgt key x.e.key)) ∧ Below w.heap.size w w' := by
  obtain ⟨b, off, rfl, hbs, c0, c1, c2, c3⟩ := h.cells hx
  have hok := h.each x (List.mem_of_getElem? hx)
  have hcap := h.cap
  have hmax := h.max
  have HG := hide (Find1_any q ka kn kc key x.ka x.e.key.length x.kc x.e.key w.drew hq (hk.below (Below.refl _ _).drew) (hok.key.below (Below.refl _ _).drew))
  have HQ1 := hide hq1
  have HQ2 := hide hq2
  have HC0 := hide c0
  clear h hk hok hx
  generalize pgt key x.e.key = B at *
  go_enter Try.func54, Try.ntmps54
  go_wp2
  go_region_held3 (fun W => W.cell? ⟨q1, 0, none⟩ = some (.func (.func 26) #[] #[.pointer (some ⟨q, 0, none⟩)]) ∧ W.cell? ⟨q2, 0, none⟩ = some (.slice (some ⟨b, off, none⟩) n c) ∧ W.cell? ⟨b, off + j * 4, none⟩ = some (.slice x.ka x.e.key.length x.kc)) ((refine ⟨?_, ?_, ?_⟩ <;> assumption)) ((first | (go_at_call 26; refine HG.out.mono ?_; intro r' w2 hh; obtain ⟨rfl, hb2⟩ := hh; have HB2 := hide hb2; clear hb2 hq1 hq2 c0 c1 c2 c3 hq; have hq1 := (HB2.out.cell (p := ⟨q1, 0, none⟩) (World.block_lt_of_cell? w _ HQ1.out)).trans HQ1.out; have hq2 := (HB2.out.cell (p := ⟨q2, 0, none⟩) (World.block_lt_of_cell? w _ HQ2.out)).trans HQ2.out; have c0 := (HB2.out.cell (p := ⟨b, off + j * 4, none⟩) (World.block_lt_of_cell? w _ HC0.out)).trans HC0.out)))
  go_wp2
  go_ret
  exact ⟨rfl, (Below.refl _ _).drew.trans HB2.out⟩
set_option maxHeartbeats 3200000 in
set_option maxRecDepth 1000000 in
theorem Find1_search (q q1 q2 : Nat) (ka : Option Addr) (kn kc : Nat) (key : List Int) (a : Option Addr) (n c : Nat) (xs : List En) (w : World) (hq : w.cell? ⟨q, 0, none⟩ = some (.slice ka kn kc)) (hk : Inn w ka kn kc key) (h : Ens w a n c xs) (hn : n ≤ 1000000)
    (hq1 : w.cell? ⟨q1, 0, none⟩ = some (.func (.func 26) #[] #[.pointer (some ⟨q, 0, none⟩)])) (hq2 : w.cell? ⟨q2, 0, none⟩ = some (.slice a n c)) :
    Calls Try.prog 53 #[.int .i64 (n : Int), .func (.func 54) #[] #[.pointer (some ⟨q1, 0, none⟩), .pointer (some ⟨q2, 0, none⟩)]] w fun e w' => ∃ i : Nat, e = .returned (.int .i64 (i : Int)) ∧ At (pgt key) xs i ∧ Below w.heap.size w w' := by
  have HE := hide h
  have HK := hide hk
  have HQ := hide hq
  have HQ1 := hide hq1
  have HQ2 := hide hq2
  have HL := hide h.len
  clear h hk hq hq1 hq2
  go_enter Try.func53, Try.ntmps53
  go_wp2
  go_loopw [5, 6] (fun vi vj wr => ∃ (i j : Nat), i ≤ j ∧ j ≤ n ∧ vi = .int .i64 (i : Int) ∧ vj = .int .i64 (j : Int) ∧ (∀ x, 0 < i → xs[i - 1]? = some x → pgt key x.e.key = false) ∧ (∀ x, xs[j]? = some x → pgt key x.e.key = true) ∧ Below w.heap.size w wr) (fun vi vj _ => (intOf vj).toNat - (intOf vi).toNat)
  case atStart => exact ⟨0, n, Nat.zero_le _, Nat.le_refl _, rfl, rfl, fun x h => by omega, fun x hx => by have := (List.getElem?_eq_some_iff.1 hx).1; have := HL.out; omega, Below.refl _ _⟩
  case round =>
    obtain ⟨i, j, hij, hjn, rfl, rfl, hlo, hhi, hbl⟩ := hrel
    have HLo := hide hlo
    have HHi := hide hhi
    have HBl := hide hbl
    clear hlo hhi
    by_cases hlt : i < j
    · have hm : (i + j) / 2 < n := by omega
      obtain ⟨x, hx, hok⟩ := (HE.out.below hbl).at hm
      have HF := hide (Find1_first1 q q1 q2 ka kn kc key a n c xs ((i + j) / 2) x wr (one_below HQ.out hbl) (HK.out.below hbl) (HE.out.below hbl) (one_below HQ1.out hbl) (one_below HQ2.out hbl) hx hm)
      have HX := hide hx
      clear hok hx hbl
      have e1 : ((((i + j) / 2 : Nat)) : Int) = ((i : Int) + (j : Int)) / 2 := by omega
      rw [e1] at HF
      have d0 : (i : Int) < (j : Int) := by omega
      rcases Bool.eq_false_or_eq_true (pgt key x.e.key) with hp | hp
      · rw [hp] at HF
        have HP := hide hp
        clear hp
        have hmj : (i + j) / 2 < j := by omega
        go_wp2_with (go_at_call 54; refine HF.out.mono ?_; rintro e w2 ⟨rfl, hb2⟩)
        go_roundw
        case rel => exact ⟨i, (i + j) / 2, by omega, by omega, by go_num, by rw [e1], HLo.out, fun y hy => by rw [HX.out] at hy; cases hy; exact HP.out, HBl.out.trans (hb2.mono HBl.out.size)⟩
        case measure => simp [intOf]; omega
      · rw [hp] at HF
        have HP := hide hp
        clear hp
        have hmj : (i + j) / 2 < j := by omega
        go_wp2_with (go_at_call 54; refine HF.out.mono ?_; rintro e w2 ⟨rfl, hb2⟩)
        go_roundw
        case rel => exact ⟨(i + j) / 2 + 1, j, by omega, by omega, by rw [Int.natCast_add, e1]; rfl, rfl, fun y _ hy => by rw [Nat.add_sub_cancel, HX.out] at hy; cases hy; exact HP.out, HHi.out, HBl.out.trans (hb2.mono HBl.out.size)⟩
        case measure => simp [intOf]; omega
    · obtain rfl : i = j := by omega
      go_wp2
      go_ret
      exact ⟨i, rfl, ⟨by rw [HL.out]; exact hjn, HLo.out, HHi.out⟩, HBl.out⟩
end Go.Proofs.Ytcflnkepopcofaa
