/- Need; may a value stand on these pages; a page's payload. -/
import Derived.Test.YtlmofgfkclfgeaaGreatOA
import Derived.Test.YtlmofgfkclfgeaaGreatFQ
import Derived.BigQuiet
namespace Go.Proofs.YtlmofgfkclfgeaaGreat
open Go.RowKit Go.Maps
set_option linter.unusedVariables false
variable {w w' : World}
/-- how many pages a value of so many bytes takes. -/
def need (n : Nat) : Nat := if n ≤ 64 ∨ 8192 < n then 0 else (n + 1003) / 1004
theorem need_le (n : Nat) : need n ≤ 9 := by unfold need; split <;> omega
theorem need_pos {n : Nat} (h : 0 < need n) : 65 ≤ n ∧ n ≤ 8192 ∧ need n = (n + 1003) / 1004 := by
  unfold need at h ⊢
  split at h
  · omega
  · rw [if_neg (by assumption)]; omega
set_option maxHeartbeats 1600000 in
set_option maxRecDepth 1000000 in
theorem need_any (w : World) (n : Nat) (hn : n ≤ 9223372036854775807) : Calls Tryz.prog 18 #[.int .i64 (n : Int)] w fun e w' => e = .returned (.int .i64 ((need n : Nat) : Int)) ∧ w' = w := by
  by_cases h : n ≤ 64
  · have h1 : (n : Int) ≤ 64 := by omega
    have e : need n = 0 := by unfold need; rw [if_pos (.inl h)]
    rw [e]
    go_enter Tryz.func18, Tryz.ntmps18
    go_wp2
    go_ret
    exact ⟨rfl, rfl⟩
  · have h1 : ¬ (n : Int) ≤ 64 := by omega
    by_cases h2 : 8192 < n
    · have h3 : (8192 : Int) < (n : Int) := by omega
      have e : need n = 0 := by unfold need; rw [if_pos (.inr h2)]
      rw [e]
      go_enter Tryz.func18, Tryz.ntmps18
      go_wp2
      go_ret
      exact ⟨rfl, rfl⟩
    · have h3 : ¬ (8192 : Int) < (n : Int) := by omega
      obtain ⟨m, hm⟩ : ∃ m, m = need n := ⟨_, rfl⟩
      have hm' := hm
      unfold need at hm'
      rw [if_neg (by omega)] at hm'
      have e : ((n : Int) - 1) / 1004 + 1 = (m : Int) := by omega
      have hmb : m ≤ 9 := by omega
      rw [← hm]
      have HM := hide hm
      clear hm hm'
      go_enter Tryz.func18, Tryz.ntmps18
      go_wp2
      go_ret
      exact ⟨rfl, rfl⟩
set_option maxHeartbeats 1600000 in
set_option maxRecDepth 1000000 in
theorem mayNot_any (w : World) (n : Nat) (hn : n ≤ 4294967295) : Calls Tryz.prog 51 #[.int .u32 (n : Int)] w fun e w' => e = .returned (.bool (!okp n)) ∧ w' = w := by
  unfold okp
  by_cases h : 2 ≤ n
  · have h1 : ¬ (n : Int) < 2 := by omega
    by_cases h2 : n ≤ 16383
    · have h3 : ¬ (16384 : Int) ≤ (n : Int) := by omega
      simp only [h, h2, decide_true, Bool.and_self, Bool.not_true]
      go_enter Tryz.func51, Tryz.ntmps51
      go_wp2
      go_ret
      exact ⟨rfl, rfl⟩
    · have h3 : (16384 : Int) ≤ (n : Int) := by omega
      simp only [h, h2, decide_true, decide_false, Bool.and_false, Bool.not_false]
      go_enter Tryz.func51, Tryz.ntmps51
      go_wp2
      go_ret
      exact ⟨rfl, rfl⟩
  · have h1 : (n : Int) < 2 := by omega
    simp only [h, decide_false, Bool.false_and, Bool.not_false]
    go_enter Tryz.func51, Tryz.ntmps51
    go_wp2
    go_ret
    exact ⟨rfl, rfl⟩
set_option maxHeartbeats 1600000 in
set_option maxRecDepth 1000000 in
theorem indexFunc_any (w : World) (a : Option Addr) (n c : Nat) (zs : List Nat) (hl : zs.length = n) (hn : n ≤ 1000000) (hr : Rw w a zs) (hz : W32 zs) :
    Calls Tryz.prog 63 #[.slice a n c, .func (.func 51) #[] #[]] w fun e w' => ∃ k : Int, e = .returned (.int .i64 k) ∧ -1 ≤ k ∧ k ≤ 1000000 ∧ (decide (0 ≤ k)) = !zs.all okp ∧ w' = w := by
  have HL := hide hl
  have HR := hide hr
  have HZ := hide hz
  clear hl hr hz
  go_enter Tryz.func63, Tryz.ntmps63
  go_wp2
  go_loop [8] (fun i => ∃ k : Nat, k ≤ n ∧ i = .int .i64 k ∧ (zs.take k).all okp = true) (fun i => n - (intOf i).toNat)
  case atStart => exact ⟨0, Nat.zero_le _, rfl, by simp⟩
  case round =>
    obtain ⟨k, hk, rfl, hall⟩ := hrel
    have HA := hide hall
    clear hall
    by_cases hlt : k < n
    · have hlk : k < zs.length := by have := HL.out; omega
      rcases HR.out with h0 | ⟨b, o, rfl, _, hc⟩
      · subst h0; simp at hlk
      have g1 := hc k hlk
      clear hc
      have HC := hide (mayNot_any w (zs.getD k 0) (HZ.out.at k))
      have HT : Hid ((zs.take (k + 1)).all okp = ((zs.take k).all okp && okp (zs.getD k 0))) := by
        rw [Hid, List.take_succ_eq_append_getElem hlk, List.all_append, List.getD_eq_getElem?_getD, List.getElem?_eq_getElem hlk]; simp
      have HBd : Hid (okp (zs.getD k 0) = false → zs.all okp = false) := fun h => by
        rw [Bool.eq_false_iff]
        intro hh
        have := all_at.1 hh k hlk
        rw [h] at this
        cases this
      clear hlk
      generalize zs.getD k 0 = z at *
      by_cases hz : okp z = true
      · rw [hz] at HC
        have HZk := hide hz
        clear hz
        go_wp2_with (go_at_call 51; refine HC.out.mono ?_; rintro e w2 ⟨rfl, hw2⟩; rw [hw2]; clear hw2)
        go_round
        case rel => exact ⟨k + 1, by omega, by go_num, by rw [HT.out, HA.out, HZk.out]; rfl⟩
        case measure => simp [intOf]; omega
      · rw [Bool.not_eq_true] at hz
        have HZk := hide (HBd.out hz)
        rw [hz] at HC
        clear hz
        go_wp2_with (go_at_call 51; refine HC.out.mono ?_; rintro e w2 ⟨rfl, hw2⟩; rw [hw2]; clear hw2)
        go_ret
        exact ⟨_, rfl, by omega, by omega, by rw [HZk.out]; simp, rfl⟩
    · go_wp2
      go_ret
      refine ⟨_, rfl, by omega, by omega, ?_, rfl⟩
      have := HA.out
      rw [List.take_of_length_le (by have := HL.out; omega)] at this
      rw [this]; rfl
set_option maxHeartbeats 1600000 in
set_option maxRecDepth 1000000 in
theorem contains_any (w : World) (a : Option Addr) (n c : Nat) (zs : List Nat) (hl : zs.length = n) (hn : n ≤ 1000000) (hr : Rw w a zs) (hz : W32 zs) :
    Calls Tryz.prog 50 #[.slice a n c, .func (.func 51) #[] #[]] w fun e w' => e = .returned (.bool (!zs.all okp)) ∧ w' = w := by
  have HC := hide (indexFunc_any w a n c zs hl hn hr hz)
  clear hl hr hz
  go_enter Tryz.func50, Tryz.ntmps50
  go_wp2_with (go_at_call 63; refine HC.out.mono ?_; rintro e w2 ⟨k, rfl, h1, h2, h3, h4⟩; have H3 := hide h3; rw [h4]; clear h3 h4)
  go_ret
  exact ⟨by rw [← H3.out]; rfl, rfl⟩
set_option maxHeartbeats 1600000 in
set_option maxRecDepth 1000000 in
theorem firstOf_any (w : World) (a : Option Addr) (n c : Nat) (zs : List Nat) (hl : zs.length = n) (hn : n ≤ 1000000) (hr : Rw w a zs) :
    Calls Tryz.prog 54 #[.slice a n c] w fun e w' => e = .returned (.int .u32 ((zs.getD 0 0 : Nat) : Int)) ∧ w' = w := by
  by_cases h : n = 0
  · subst h
    have e : zs = [] := List.eq_nil_of_length_eq_zero hl
    subst e
    go_enter Tryz.func54, Tryz.ntmps54
    go_wp2
    go_ret
    exact ⟨rfl, rfl⟩
  · have h1 : ((n : Int) == 0) = false := by rw [beq_eq_false_iff_ne]; omega
    have h2 : (0 : Int) < (n : Int) := by omega
    have hlk : 0 < zs.length := by omega
    rcases hr with h0 | ⟨b, o, rfl, _, hc⟩
    · subst h0; simp at hlk
    have g1 : w.cell? ⟨b, o, none⟩ = some (.int .u32 ((zs.getD 0 0 : Nat) : Int)) := hc 0 hlk
    clear hc
    generalize zs.getD 0 0 = z at *
    clear hl hlk
    go_enter Tryz.func54, Tryz.ntmps54
    go_wp2
    go_ret
    exact ⟨rfl, rfl⟩
set_option maxHeartbeats 1600000 in
set_option maxRecDepth 1000000 in
theorem payloadOf_any (w : World) (x : Nat) (hx : x ≤ 4294967295) (a : Option Addr) (n c : Nat) (zs : List Int) (hl : zs.length = n) (hn : n ≤ 1000000) (hna : a = none → n = 0 ∧ c = 0) (hr : Row w a zs) :
    Calls Tryz.prog 53 #[.int .u32 (x : Int), .slice a n c] w fun e w' => ∃ v', e = .returned v' ∧ Own w' v' (le4 x ++ zs) ∧ (∀ k, v'.ownBlock = some k → w.heap.size ≤ k) ∧ Below w.heap.size w w' := by
  obtain ⟨i0, hi, hz0, hz1, hz2⟩ := info_parts infoU8
  obtain ⟨w1, hmk, ho1, hg1⟩ := run_make_own (P := Tryz.prog) w 0 22 5 i0 (.int .u8 0) 1 Tryz.underlying22 hi hz0 hz1 .i64 .i64 (4 + n) (by rw [hz2]; omega) (by unfold maxLen; omega) (Nat.zero_le _)
  rw [show (((4 + n : Nat)) : Int) = 4 + (n : Int) by omega] at hmk
  have HO1 : Hid (Own w1 (.slice (some ⟨w.heap.size, 0, none⟩) 0 (4 + n)) []) := ho1
  have HM1 : Hid (Below w.heap.size w w1) := ⟨hg1.os, hg1.tape, hg1.output, hg1.size, fun k hk => hg1.block k hk (by simp)⟩
  have HL := hide hl
  have HR := hide hr
  have HP := hide (putNumber_any w1 _ [] HO1.out x hx (by simp))
  have HSr : Hid (∀ W, Below w.heap.size w W → Src Tryz.prog 1 22 (.slice a n c) n (zs.map (Value.int .u8)) W) := fun W hW => src_row W a n c zs hl hna (hr.below hW)
  clear ho1 hg1 hl hr hna
  go_enter Tryz.func53, Tryz.ntmps53
  go_wp2_with (first
    | (go_at_call 65; refine HP.out.mono ?_; rintro e w2 ⟨v2, rfl, h1, h2, h3⟩; have hb2 : Below w.heap.size w w2 := HM1.out.trans (h3.below HM1.out.size (fun k hk => (by simp [Value.ownBlock] at hk; omega))); have HB2 := hide hb2; have HS2 := hide (HSr.out w2 hb2); obtain ⟨a2, n2, c2, rfl, hn2⟩ := h1.shape2; have H1 := hide h1; have H2 := hide h2; clear h1 h2 h3 hb2)
    | (at_builtin; refine wpList_append_src (by rfl) (.tmp 10) (.tmp 11) 22 22 (by rfl) i0 Tryz.underlying22 hi hz0 hz1 hz2 (.slice a2 n2 c2) ([] ++ le4 x) (by rfl) H1.out (.slice a n c) n zs (by rfl) HS2.out (by rw [List.nil_append, le4_len]; omega) ?_; intro v' w3 hown3 hg3 hf3; have HO3 := hide hown3; have HG3 := hide hg3; have HF3 := hide hf3; clear hown3 hg3 hf3))
  go_ret
  have hv2 : ∀ k, (Value.slice a2 n2 c2).ownBlock = some k → w.heap.size ≤ k := fun k hk => by
    rcases H2.out with e | ⟨k', e, hk'⟩
    · rw [e] at hk
      have : w.heap.size = k := by simpa [Value.ownBlock] using hk
      omega
    · rw [e] at hk
      cases hk
      exact Nat.le_trans HM1.out.size hk'
  refine ⟨v', rfl, HO3.out, fun k hk => ?_, HB2.out.grown HG3.out HB2.out.size hv2⟩
  rcases HF3.out k hk with h | h
  · exact hv2 k h
  · exact Nat.le_trans HB2.out.size h
end Go.Proofs.YtlmofgfkclfgeaaGreat
/- A page of a chain, as the document has it: Part. -/
namespace Go.Proofs.YtlmofgfkclfgeaaGreat
open Go.RowKit Go.Maps
set_option linter.unusedVariables false
variable {w w' : World}

/-- the first four bytes as a number. -/
def nx4 (pl : List Int) : Nat := (pl.getD 0 0).toNat + 256 * (pl.getD 1 0).toNat + 65536 * (pl.getD 2 0).toNat + 16777216 * (pl.getD 3 0).toNat
/-- is it what a page of a chain must be? -/
def prtOk (pl : List Int) (last : Bool) : Bool := if last then decide (nx4 pl = 0) else decide (2 ≤ nx4 pl ∧ nx4 pl ≤ 16383)
set_option maxHeartbeats 1600000 in
set_option maxRecDepth 1000000 in
theorem part_bad (kind : Nat) (a : Option Addr) (n c : Nat) (last : Bool) (long : Nat) (hn : n ≤ 100000) (hl : long ≤ 100000) (h : ¬ (kind = 3 ∧ n = 4 + long)) :
    Calls Tryz.prog 26 #[.int .u8 (kind : Int), .slice a n c, .bool last, .int .i64 (long : Int)] w fun e w' => e = .returned (.tuple #[.int .u32 0, .slice none 0 0, .bool false]) ∧ w' = w := by
  have wr : IntKind.i64.wrap (4 + (long : Int)) = 4 + (long : Int) := by rw [IntKind.wrap_i64]; omega
  by_cases hk : kind = 3
  · have e1 : ((kind : Int) != 3) = false := by rw [hk]; rfl
    have e2 : ((n : Int) != 4 + (long : Int)) = true := by simp; omega
    clear h hk
    go_enter Tryz.func26, Tryz.ntmps26
    go_wp2
    go_ret3
    exact ⟨rfl, rfl⟩
  · have e1 : ((kind : Int) != 3) = true := by simp; omega
    clear h hk
    go_enter Tryz.func26, Tryz.ntmps26
    go_wp2
    go_ret3
    exact ⟨rfl, rfl⟩
theorem drewN2 (w : World) (a b : Nat) : Below w.heap.size w ((w.drewN a).drewN b) := ⟨rfl, rfl, rfl, Nat.le_refl _, fun _ _ => rfl⟩
set_option maxHeartbeats 1600000 in
set_option maxRecDepth 1000000 in
theorem part_ok (b off c : Nat) (pl : List Int) (last : Bool) (long : Nat) (h1 : 1 ≤ long) (hl : long ≤ 1004) (h : Inn w (some ⟨b, off, none⟩) (4 + long) c pl) :
    Calls Tryz.prog 26 #[.int .u8 3, .slice (some ⟨b, off, none⟩) (4 + long) c, .bool last, .int .i64 (long : Int)] w fun e w' => e = .returned (.tuple #[.int .u32 ((if last then 0 else nx4 pl : Nat) : Int), .slice (some ⟨b, off + 4, none⟩) long (c - 4), .bool (prtOk pl last)]) ∧ Below w.heap.size w w' := by
  have wr : IntKind.i64.wrap (4 + (long : Int)) = 4 + (long : Int) := by rw [IntKind.wrap_i64]; omega
  have hcap := h.cap
  obtain ⟨N, HN⟩ : ∃ N, Hid (N = 4 + long) := ⟨_, rfl⟩
  have hN : (N : Int) = 4 + (long : Int) := by rw [HN.out]; omega
  have e2 : ((N : Int) != 4 + (long : Int)) = false := by rw [hN]; simp
  have hb : ∀ j, 0 ≤ pl.getD j 0 ∧ pl.getD j 0 ≤ 255 := h.byts.at
  have hcell : ∀ j, j < 4 + long → w.cell? ⟨b, off + j, none⟩ = some (.int .u8 (pl.getD j 0)) := fun j hj => by
    rcases h.row with h0 | ⟨b', off', e, _, hc⟩
    · have := h.len; rw [h0] at this; simp at this; omega
    · cases e
      exact hc j (by rw [h.len]; exact hj)
  have c0 := hcell 0 (by omega)
  have c1 := hcell 1 (by omega)
  have c2 := hcell 2 (by omega)
  have c3 := hcell 3 (by omega)
  rw [Nat.add_zero] at c0
  obtain ⟨b0, r0⟩ : ∃ b0 : Nat, pl.getD 0 0 = (b0 : Int) := ⟨(pl.getD 0 0).toNat, by have := hb 0; omega⟩
  obtain ⟨b1, r1⟩ : ∃ b1 : Nat, pl.getD 1 0 = (b1 : Int) := ⟨(pl.getD 1 0).toNat, by have := hb 1; omega⟩
  obtain ⟨b2, r2⟩ : ∃ b2 : Nat, pl.getD 2 0 = (b2 : Int) := ⟨(pl.getD 2 0).toNat, by have := hb 2; omega⟩
  obtain ⟨b3, r3⟩ : ∃ b3 : Nat, pl.getD 3 0 = (b3 : Int) := ⟨(pl.getD 3 0).toNat, by have := hb 3; omega⟩
  rw [r0] at c0
  rw [r1] at c1
  rw [r2] at c2
  rw [r3] at c3
  have k0 : b0 ≤ 255 := by have := hb 0; omega
  have k1 : b1 ≤ 255 := by have := hb 1; omega
  have k2 : b2 ≤ 255 := by have := hb 2; omega
  have k3 : b3 ≤ 255 := by have := hb 3; omega
  have HNx : Hid (nx4 pl = b0 + 256 * b1 + 65536 * b2 + 16777216 * b3) := by rw [Hid]; unfold nx4; rw [r0, r1, r2, r3]; simp
  obtain ⟨NX, HNN⟩ : ∃ NX, Hid (NX = nx4 pl) := ⟨_, rfl⟩
  have HSum : Hid ((b0 : Int) + (b1 : Int) * 256 + (b2 : Int) * 65536 + (b3 : Int) * 16777216 = (NX : Int)) := by rw [Hid, HNN.out, HNx.out]; omega
  have q7 : N - 4 = long := by rw [HN.out]; omega
  unfold prtOk
  rw [← HNN.out, ← HN.out]
  have q1 : (0 : Int) < (N : Int) := by omega
  have q2 : (1 : Int) < (N : Int) := by omega
  have q3 : (2 : Int) < (N : Int) := by omega
  have q4 : (3 : Int) < (N : Int) := by omega
  have q5 : (4 : Int) ≤ (N : Int) := by omega
  have q6 : ¬ c = 4 := by omega
  clear h hb hcell r0 r1 r2 r3
  cases last with
  | true =>
    simp only [if_true]
    by_cases hz : NX = 0
    · have z1 : ((NX : Int) == 0) = true := by rw [hz]; rfl
      rw [decide_eq_true hz]
      clear hz
      go_enter Tryz.func26, Tryz.ntmps26
      go_wp2
      go_quiet (fail)
      go_wp2
      simp only [HSum.out]
      go_quiet (fail)
      go_wp2
      go_ret3
      exact ⟨rfl, drewN2 w _ _⟩
    · have z1 : ((NX : Int) == 0) = false := by simp; omega
      rw [decide_eq_false hz]
      clear hz
      go_enter Tryz.func26, Tryz.ntmps26
      go_wp2
      go_quiet (fail)
      go_wp2
      simp only [HSum.out]
      go_quiet (fail)
      go_wp2
      go_ret3
      exact ⟨rfl, drewN2 w _ _⟩
  | false =>
    simp only [Bool.false_eq_true, if_false]
    by_cases h2 : 2 ≤ NX
    · have z1 : (2 : Int) ≤ (NX : Int) := by omega
      by_cases h3 : NX ≤ 16383
      · have z2 : (NX : Int) ≤ 16383 := by omega
        rw [decide_eq_true (And.intro h2 h3)]
        clear h2 h3
        go_enter Tryz.func26, Tryz.ntmps26
        go_wp2
        go_quiet (fail)
        go_wp2
        simp only [HSum.out]
        go_quiet (fail)
        go_wp2
        go_ret3
        exact ⟨rfl, drewN2 w _ _⟩
      · have z2 : decide ((NX : Int) ≤ 16383) = false := by simp; omega
        rw [decide_eq_false (fun h => h3 h.2)]
        clear h2 h3
        go_enter Tryz.func26, Tryz.ntmps26
        go_wp2
        go_quiet (fail)
        go_wp2
        simp only [HSum.out]
        go_quiet (fail)
        go_wp2
        go_ret3
        exact ⟨rfl, drewN2 w _ _⟩
    · have z1 : decide ((2 : Int) ≤ (NX : Int)) = false := by simp; omega
      rw [decide_eq_false (fun h => h2 h.1)]
      clear h2
      go_enter Tryz.func26, Tryz.ntmps26
      go_wp2
      go_quiet (fail)
      go_wp2
      simp only [HSum.out]
      go_quiet (fail)
      go_wp2
      go_ret3
      exact ⟨rfl, drewN2 w _ _⟩
end Go.Proofs.YtlmofgfkclfgeaaGreat
