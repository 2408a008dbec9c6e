/- Need; may a value stand on these pages; a page's payload. -/
import Derived.Test.YtpcckaahfaobeaaOA
namespace Go.Proofs.Ytpcckaahfaobeaa
open Go.RowKit Go.Maps
set_option linter.unusedVariables false
variable {w w' : World}
/-- how many pages a value of so many bytes takes. -/
def need (n : Nat) : Nat := if n ≤ 64 ∨ 8192 < n then 0 else (n + 1003) / 1004
theorem need_le (n : Nat) : need n ≤ 9 := by unfold need; split <;> omega
theorem need_pos {n : Nat} (h : 0 < need n) : 65 ≤ n ∧ n ≤ 8192 ∧ need n = (n + 1003) / 1004 := by
  unfold need at h ⊢
  split at h
  · omega
  · rw [if_neg (by assumption)]; omega
set_option maxHeartbeats 1600000 in
set_option maxRecDepth 1000000 in
theorem need_any (w : World) (n : Nat) (hn : n ≤ 9223372036854775807) : Calls Try.prog 5 #[.int .i64 (n : Int)] w fun e w' => e = .returned (.int .i64 ((need n : Nat) : Int)) ∧ w' = w := by
  by_cases h : n ≤ 64
  · have h1 : (n : Int) ≤ 64 := by omega
    have e : need n = 0 := by unfold need; rw [if_pos (.inl h)]
    rw [e]
    go_enter Try.func5, Try.ntmps5
    go_wp2
    go_ret
    exact ⟨rfl, rfl⟩
  · have h1 : ¬ (n : Int) ≤ 64 := by omega
    by_cases h2 : 8192 < n
    · have h3 : (8192 : Int) < (n : Int) := by omega
      have e : need n = 0 := by unfold need; rw [if_pos (.inr h2)]
      rw [e]
      go_enter Try.func5, Try.ntmps5
      go_wp2
      go_ret
      exact ⟨rfl, rfl⟩
    · have h3 : ¬ (8192 : Int) < (n : Int) := by omega
      obtain ⟨m, hm⟩ : ∃ m, m = need n := ⟨_, rfl⟩
      have hm' := hm
      unfold need at hm'
      rw [if_neg (by omega)] at hm'
      have e : ((n : Int) - 1) / 1004 + 1 = (m : Int) := by omega
      have hmb : m ≤ 9 := by omega
      rw [← hm]
      have HM := hide hm
      clear hm hm'
      go_enter Try.func5, Try.ntmps5
      go_wp2
      go_ret
      exact ⟨rfl, rfl⟩
set_option maxHeartbeats 1600000 in
set_option maxRecDepth 1000000 in
theorem mayNot_any (w : World) (n : Nat) (hn : n ≤ 4294967295) : Calls Try.prog 15 #[.int .u32 (n : Int)] w fun e w' => e = .returned (.bool (!okp n)) ∧ w' = w := by
  unfold okp
  by_cases h : 2 ≤ n
  · have h1 : ¬ (n : Int) < 2 := by omega
    by_cases h2 : n ≤ 16383
    · have h3 : ¬ (16384 : Int) ≤ (n : Int) := by omega
      simp only [h, h2, decide_true, Bool.and_self, Bool.not_true]
      go_enter Try.func15, Try.ntmps15
      go_wp2
      go_ret
      exact ⟨rfl, rfl⟩
    · have h3 : (16384 : Int) ≤ (n : Int) := by omega
      simp only [h, h2, decide_true, decide_false, Bool.and_false, Bool.not_false]
      go_enter Try.func15, Try.ntmps15
      go_wp2
      go_ret
      exact ⟨rfl, rfl⟩
  · have h1 : (n : Int) < 2 := by omega
    simp only [h, decide_false, Bool.false_and, Bool.not_false]
    go_enter Try.func15, Try.ntmps15
    go_wp2
    go_ret
    exact ⟨rfl, rfl⟩
set_option maxHeartbeats 1600000 in
set_option maxRecDepth 1000000 in
theorem indexFunc_any (w : World) (a : Option Addr) (n c : Nat) (zs : List Nat) (hl : zs.length = n) (hn : n ≤ 1000000) (hr : Rw w a zs) (hz : W32 zs) :
    Calls Try.prog 25 #[.slice a n c, .func (.func 15) #[] #[]] w fun e w' => ∃ k : Int, e = .returned (.int .i64 k) ∧ -1 ≤ k ∧ k ≤ 1000000 ∧ (decide (0 ≤ k)) = !zs.all okp ∧ w' = w := by
  have HL := hide hl
  have HR := hide hr
  have HZ := hide hz
  clear hl hr hz
  go_enter Try.func25, Try.ntmps25
  go_wp2
  go_loop [8] (fun i => ∃ k : Nat, k ≤ n ∧ i = .int .i64 k ∧ (zs.take k).all okp = true) (fun i => n - (intOf i).toNat)
  case atStart => exact ⟨0, Nat.zero_le _, rfl, by simp⟩
  case round =>
    obtain ⟨k, hk, rfl, hall⟩ := hrel
    have HA := hide hall
    clear hall
    by_cases hlt : k < n
    · have hlk : k < zs.length := by have := HL.out; omega
      rcases HR.out with h0 | ⟨b, o, rfl, _, hc⟩
      · subst h0; simp at hlk
      have g1 := hc k hlk
      clear hc
      have HC := hide (mayNot_any w (zs.getD k 0) (HZ.out.at k))
      have HT : Hid ((zs.take (k + 1)).all okp = ((zs.take k).all okp && okp (zs.getD k 0))) := by
        rw [Hid, List.take_succ_eq_append_getElem hlk, List.all_append, List.getD_eq_getElem?_getD, List.getElem?_eq_getElem hlk]; simp
      have HBd : Hid (okp (zs.getD k 0) = false → zs.all okp = false) := fun h => by
        rw [Bool.eq_false_iff]
        intro hh
        have := all_at.1 hh k hlk
        rw [h] at this
        cases this
      clear hlk
      generalize zs.getD k 0 = z at *
      by_cases hz : okp z = true
      · rw [hz] at HC
        have HZk := hide hz
        clear hz
        go_wp2_with (go_at_call 15; refine HC.out.mono ?_; rintro e w2 ⟨rfl, hw2⟩; rw [hw2]; clear hw2)
        go_round
        case rel => exact ⟨k + 1, by omega, by go_num, by rw [HT.out, HA.out, HZk.out]; rfl⟩
        case measure => simp [intOf]; omega
      · rw [Bool.not_eq_true] at hz
        have HZk := hide (HBd.out hz)
        rw [hz] at HC
        clear hz
        go_wp2_with (go_at_call 15; refine HC.out.mono ?_; rintro e w2 ⟨rfl, hw2⟩; rw [hw2]; clear hw2)
        go_ret
        exact ⟨_, rfl, by omega, by omega, by rw [HZk.out]; simp, rfl⟩
    · go_wp2
      go_ret
      refine ⟨_, rfl, by omega, by omega, ?_, rfl⟩
      have := HA.out
      rw [List.take_of_length_le (by have := HL.out; omega)] at this
      rw [this]; rfl
set_option maxHeartbeats 1600000 in
set_option maxRecDepth 1000000 in
theorem contains_any (w : World) (a : Option Addr) (n c : Nat) (zs : List Nat) (hl : zs.length = n) (hn : n ≤ 1000000) (hr : Rw w a zs) (hz : W32 zs) :
    Calls Try.prog 14 #[.slice a n c, .func (.func 15) #[] #[]] w fun e w' => e = .returned (.bool (!zs.all okp)) ∧ w' = w := by
  have HC := hide (indexFunc_any w a n c zs hl hn hr hz)
  clear hl hr hz
  go_enter Try.func14, Try.ntmps14
  go_wp2_with (go_at_call 25; refine HC.out.mono ?_; rintro e w2 ⟨k, rfl, h1, h2, h3, h4⟩; have H3 := hide h3; rw [h4]; clear h3 h4)
  go_ret
  exact ⟨by rw [← H3.out]; rfl, rfl⟩
set_option maxHeartbeats 1600000 in
set_option maxRecDepth 1000000 in
theorem firstOf_any (w : World) (a : Option Addr) (n c : Nat) (zs : List Nat) (hl : zs.length = n) (hn : n ≤ 1000000) (hr : Rw w a zs) :
    Calls Try.prog 18 #[.slice a n c] w fun e w' => e = .returned (.int .u32 ((zs.getD 0 0 : Nat) : Int)) ∧ w' = w := by
  by_cases h : n = 0
  · subst h
    have e : zs = [] := List.eq_nil_of_length_eq_zero hl
    subst e
    go_enter Try.func18, Try.ntmps18
    go_wp2
    go_ret
    exact ⟨rfl, rfl⟩
  · have h1 : ((n : Int) == 0) = false := by rw [beq_eq_false_iff_ne]; omega
    have h2 : (0 : Int) < (n : Int) := by omega
    have hlk : 0 < zs.length := by omega
    rcases hr with h0 | ⟨b, o, rfl, _, hc⟩
    · subst h0; simp at hlk
    have g1 : w.cell? ⟨b, o, none⟩ = some (.int .u32 ((zs.getD 0 0 : Nat) : Int)) := hc 0 hlk
    clear hc
    generalize zs.getD 0 0 = z at *
    clear hl hlk
    go_enter Try.func18, Try.ntmps18
    go_wp2
    go_ret
    exact ⟨rfl, rfl⟩
set_option maxHeartbeats 1600000 in
set_option maxRecDepth 1000000 in
theorem payloadOf_any (w : World) (x : Nat) (hx : x ≤ 4294967295) (a : Option Addr) (n c : Nat) (zs : List Int) (hl : zs.length = n) (hn : n ≤ 1000000) (hna : a = none → n = 0 ∧ c = 0) (hr : Row w a zs) :
    Calls Try.prog 17 #[.int .u32 (x : Int), .slice a n c] w fun e w' => ∃ v', e = .returned v' ∧ Own w' v' (le4 x ++ zs) ∧ (∀ k, v'.ownBlock = some k → w.heap.size ≤ k) ∧ Below w.heap.size w w' := by
  obtain ⟨i0, hi, hz0, hz1, hz2⟩ := info_parts infoU8
  obtain ⟨w1, hmk, ho1, hg1⟩ := run_make_own (P := Try.prog) w 0 22 5 i0 (.int .u8 0) 1 Try.underlying22 hi hz0 hz1 .i64 .i64 (4 + n) (by rw [hz2]; omega) (by unfold maxLen; omega) (Nat.zero_le _)
  rw [show (((4 + n : Nat)) : Int) = 4 + (n : Int) by omega] at hmk
  have HO1 : Hid (Own w1 (.slice (some ⟨w.heap.size, 0, none⟩) 0 (4 + n)) []) := ho1
  have HM1 : Hid (Below w.heap.size w w1) := ⟨hg1.os, hg1.tape, hg1.output, hg1.size, fun k hk => hg1.block k hk (by simp)⟩
  have HL := hide hl
  have HR := hide hr
  have HP := hide (putNumber_any w1 _ [] HO1.out x hx (by simp))
  have HSr : Hid (∀ W, Below w.heap.size w W → Src Try.prog 1 22 (.slice a n c) n (zs.map (Value.int .u8)) W) := fun W hW => src_row W a n c zs hl hna (hr.below hW)
  clear ho1 hg1 hl hr hna
  go_enter Try.func17, Try.ntmps17
  go_wp2_with (first
    | (go_at_call 27; refine HP.out.mono ?_; rintro e w2 ⟨v2, rfl, h1, h2, h3⟩; have hb2 : Below w.heap.size w w2 := HM1.out.trans (h3.below HM1.out.size (fun k hk => (by simp [Value.ownBlock] at hk; omega))); have HB2 := hide hb2; have HS2 := hide (HSr.out w2 hb2); obtain ⟨a2, n2, c2, rfl, hn2⟩ := h1.shape2; have H1 := hide h1; have H2 := hide h2; clear h1 h2 h3 hb2)
    | (at_builtin; refine wpList_append_src (by rfl) (.tmp 10) (.tmp 11) 22 22 (by rfl) i0 Try.underlying22 hi hz0 hz1 hz2 (.slice a2 n2 c2) ([] ++ le4 x) (by rfl) H1.out (.slice a n c) n zs (by rfl) HS2.out (by rw [List.nil_append, le4_len]; omega) ?_; intro v' w3 hown3 hg3 hf3; have HO3 := hide hown3; have HG3 := hide hg3; have HF3 := hide hf3; clear hown3 hg3 hf3))
  go_ret
  have hv2 : ∀ k, (Value.slice a2 n2 c2).ownBlock = some k → w.heap.size ≤ k := fun k hk => by
    rcases H2.out with e | ⟨k', e, hk'⟩
    · rw [e] at hk
      have : w.heap.size = k := by simpa [Value.ownBlock] using hk
      omega
    · rw [e] at hk
      cases hk
      exact Nat.le_trans HM1.out.size hk'
  refine ⟨v', rfl, HO3.out, fun k hk => ?_, HB2.out.grown HG3.out HB2.out.size hv2⟩
  rcases HF3.out k hk with h | h
  · exact hv2 k h
  · exact Nat.le_trans HB2.out.size h
end Go.Proofs.Ytpcckaahfaobeaa
