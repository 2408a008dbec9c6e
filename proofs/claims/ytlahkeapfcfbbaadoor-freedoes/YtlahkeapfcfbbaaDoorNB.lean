/- A number as four bytes, the lowest first; a payload. -/
import Derived.Test.YtlahkeapfcfbbaaDoorNA
namespace Go.Proofs.YtlahkeapfcfbbaaDoor
open Go.RowKit Go.Maps
set_option linter.unusedVariables false
variable {w w' : World}
/-- a number as four bytes. -/
def le4 (n : Nat) : List Int := [(n : Int) % 256, (n : Int) / 256 % 256, (n : Int) / 65536 % 256, (n : Int) / 16777216]
theorem infoU8 : (Tryd.prog.info? 5).map (fun i => (i.zero, i.size, i.bytes)) = some (some (.int .u8 0), 1, 1) := by kernel_rfl
set_option maxHeartbeats 1600000 in
set_option maxRecDepth 1000000 in
theorem putNumber_any (w : World) (v : Value) (ys : List Int) (hv : Own w v ys) (n : Nat) (hn : n ≤ 4294967295) (hl : ys.length ≤ 1000000) :
    Calls Tryd.prog 69 #[v, .int .u32 (n : Int)] w fun e w' => ∃ v', e = .returned v' ∧ Own w' v' (ys ++ le4 n) ∧ (v'.ownBlock = v.ownBlock ∨ ∃ k, v'.ownBlock = some k ∧ w.heap.size ≤ k) ∧ Mv (fun k => v.ownBlock = some k) w w' := by
  obtain ⟨a, m, c, rfl, hm⟩ := hv.shape2
  have HV := hide hv
  obtain ⟨i0, hi, hz0, hz1, hz2⟩ := info_parts infoU8
  have HL := hide hl
  clear hv hl
  have HNw : Hid (∀ j u, ((le4 n).map (Value.int .u8))[j]? = some u → (w.alloc (.cells #[.int .u8 ((n : Int) % 256), .int .u8 ((n : Int) / 256 % 256), .int .u8 ((n : Int) / 65536 % 256), .int .u8 ((n : Int) / 16777216)] 5)).cell? ((⟨w.heap.size, 0, none⟩ : Addr).add j) = some u) := fun j u hu => by
    rw [Addr.add_lit, cell_of_row _ _ (0 + j) _ 5 (0, 0) (heap_alloc_new w _)]
    simpa [le4] using hu
  have HOne : Hid (∀ u ∈ (le4 n).map (Value.int .u8), u.oneCell' = true) := by
    intro u hu
    obtain ⟨x, _, rfl⟩ := List.mem_map.1 hu
    rfl
  go_enter Tryd.func69, Tryd.ntmps69
  go_wp2_with (at_builtin; refine wpList_append_own_at _ (by rfl) (.tmp 5) (.tmp 17) 81 (by rfl) 0 5 i0 (.int .u8 0) 1 1 Tryd.underlying81 hi hz0 hz1 hz2 rfl (by omega) (.slice a m c) ys.length (ys.map (Value.int .u8)) (by rfl) (World.ownsRow.alloc HV.out _) ⟨w.heap.size, 0, none⟩ 4 4 ((le4 n).map (Value.int .u8)) (by rfl) (by rfl) HNw.out HOne.out (by have := HL.out; unfold maxLen; omega) (by have := HL.out; omega) (Nat.zero_le _) ?_; intro v' w1 h1 h2 h3 h4; have H1 := hide h1; have H2 := hide h2; have H4 := hide h4; clear h1 h2 h3 h4)
  go_ret
  refine ⟨v', rfl, ?_, ?_, ((Mv.refl _ w).alloc _).grown H2.out (fun k hk => .inl hk)⟩
  · have := H1.out
    unfold Own
    rw [List.length_append, List.map_append]
    exact this
  · rcases H4.out with e | e
    · exact .inl e
    · exact .inr ⟨_, e, by simp⟩
theorem le4_len (n : Nat) : (le4 n).length = 4 := rfl
theorem flat4_len : ∀ zs : List Nat, (zs.flatMap le4).length = 4 * zs.length
  | [] => rfl
  | z :: zs => by rw [List.flatMap_cons, List.length_append, flat4_len zs, le4_len, List.length_cons]; omega
set_option maxHeartbeats 1600000 in
set_option maxRecDepth 1000000 in
theorem payloadOf_any (w : World) (x : Nat) (hx : x ≤ 4294967295) (a : Option Addr) (n c : Nat) (zs : List Nat) (hl : zs.length = n) (hn : n ≤ 251) (hr : Rw w a zs) (hz : W32 zs) :
    Calls Tryd.prog 62 #[.int .u32 (x : Int), .slice a n c] w fun e w' => ∃ v', e = .returned v' ∧ Own w' v' (le4 x ++ zs.flatMap le4) ∧ (∀ k, v'.ownBlock = some k → w.heap.size ≤ k) ∧ Below w.heap.size w w' := by
  obtain ⟨i0, hi, hz0, hz1, hz2⟩ := info_parts infoU8
  obtain ⟨w1, hmk, ho1, hg1⟩ := run_make_own (P := Tryd.prog) w 0 81 5 i0 (.int .u8 0) 1 Tryd.underlying81 hi hz0 hz1 .i64 .i64 (4 + 4 * n) (by rw [hz2]; omega) (by unfold maxLen; omega) (Nat.zero_le _)
  rw [show (((4 + 4 * n : Nat)) : Int) = 4 + 4 * (n : Int) by omega] at hmk
  have HO1 : Hid (Own w1 (.slice (some ⟨w.heap.size, 0, none⟩) 0 (4 + 4 * n)) []) := ho1
  have HM1 : Hid (Below w.heap.size w w1) := ⟨hg1.os, hg1.tape, hg1.output, hg1.size, fun k hk => hg1.block k hk (by simp)⟩
  have HL := hide hl
  have HR := hide hr
  have HZ := hide hz
  have HP := hide (putNumber_any w1 _ [] HO1.out x hx (by simp))
  clear ho1 hg1 hl hr hz hi hz0 hz1 hz2
  go_enter Tryd.func62, Tryd.ntmps62
  go_wp2_with (go_at_call 69; refine HP.out.mono ?_; rintro e w2 ⟨v2, rfl, h1, h2, h3⟩; have H1 := hide h1; have H2 := hide h2; have H3 := hide h3; clear h1 h2 h3)
  have HO2 : Hid (∀ k, v2.ownBlock = some k → w.heap.size ≤ k) := fun k hk => by
    rcases H2.out with e | ⟨k', e, hk'⟩
    · rw [e] at hk
      have : w.heap.size = k := by simpa [Value.ownBlock] using hk
      omega
    · rw [e] at hk
      cases hk
      exact Nat.le_trans HM1.out.size hk'
  have HB2 : Hid (Below w.heap.size w w2) := HM1.out.trans (H3.out.below HM1.out.size (fun k hk => by simp [Value.ownBlock] at hk; omega))
  clear hmk
  go_loopw [17, 5] (fun i u wr => ∃ (k : Nat) (v' : Value), k ≤ n ∧ i = .int .i64 k ∧ u = v' ∧ Own wr v' (le4 x ++ (zs.take k).flatMap le4) ∧ (∀ k, v'.ownBlock = some k → w.heap.size ≤ k) ∧ Below w.heap.size w wr) (fun i _ _ => n - (intOf i).toNat)
  case atStart => exact ⟨0, v2, Nat.zero_le _, rfl, rfl, by simpa using H1.out, HO2.out, HB2.out⟩
  case round =>
    obtain ⟨k, v', hk, rfl, rfl, hown, hlow, hbel⟩ := hrel
    have HOw := hide hown
    have HLo := hide hlow
    have HBe := hide hbel
    clear hown hlow hbel
    by_cases hlt : k < n
    · have hlk : k < zs.length := by have := HL.out; omega
      rcases HR.out.below HBe.out with h0 | ⟨b, o, rfl, _, hc⟩
      · subst h0; simp at hlk
      have g1 := hc k hlk
      clear hc
      have HC := hide (putNumber_any wr _ _ HOw.out (zs.getD k 0) (HZ.out.at k) (by rw [List.length_append, le4_len, flat4_len, List.length_take]; omega))
      have ht : (zs.take (k + 1)).flatMap le4 = (zs.take k).flatMap le4 ++ le4 (zs.getD k 0) := by
        rw [List.take_succ_eq_append_getElem hlk, List.flatMap_append, List.getD_eq_getElem?_getD, List.getElem?_eq_getElem hlk]; simp
      have HT := hide ht
      clear ht
      generalize zs.getD k 0 = z at *
      go_wp2_with (go_at_call 69; refine HC.out.mono ?_; rintro e w3 ⟨v3, rfl, h1, h2, h3⟩; have J1 := hide h1; have J2 := hide h2; have J3 := hide h3; clear h1 h2 h3)
      go_roundw
      case rel =>
        refine ⟨k + 1, v3, by omega, by go_num, rfl, by rw [HT.out, ← List.append_assoc]; exact J1.out, fun j hj => ?_, HBe.out.trans (J3.out.below HBe.out.size (fun j hj => HLo.out j hj))⟩
        rcases J2.out with e | ⟨k', e, hk'⟩
        · rw [e] at hj; exact HLo.out j hj
        · rw [e] at hj; cases hj; exact Nat.le_trans HBe.out.size hk'
      case measure => simp [intOf]; omega
    · obtain rfl : k = n := by omega
      go_wp2
      go_ret
      refine ⟨_, rfl, ?_, HLo.out, HBe.out⟩
      have := HOw.out
      rwa [List.take_of_length_le (by have := HL.out; omega)] at this
end Go.Proofs.YtlahkeapfcfbbaaDoor
