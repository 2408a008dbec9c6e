/- SameRows; Need of any number; the document's own Need and put. -/
import Derived.Test.YtjpiacjfmgijfaaOG
import Derived.Deep.RegionHeld3
namespace Go.Proofs.Ytjpiacjfmgijfaa
open Go.RowKit Go.Maps
set_option linter.unusedVariables false
variable {w w' : World}
set_option maxHeartbeats 1600000 in
set_option maxRecDepth 1000000 in
theorem rneed_any (w : World) (n : Nat) (hn : n ≤ 9223372036854775807) : Calls Try.prog 16 #[.int .i64 (n : Int)] w fun e w' => e = .returned (.int .i64 ((need n : Nat) : Int)) ∧ w' = w := by
  by_cases h : n ≤ 64
  · have h1 : (n : Int) < 65 := by omega
    have e : need n = 0 := by unfold need; rw [if_pos (.inl h)]
    rw [e]
    go_enter Try.func16, Try.ntmps16
    go_wp2
    go_ret
    exact ⟨rfl, rfl⟩
  · have h1 : ¬ (n : Int) < 65 := by omega
    by_cases h2 : 8192 < n
    · have h3 : (8192 : Int) < (n : Int) := by omega
      have e : need n = 0 := by unfold need; rw [if_pos (.inr h2)]
      rw [e]
      go_enter Try.func16, Try.ntmps16
      go_wp2
      go_ret
      exact ⟨rfl, rfl⟩
    · have h3 : ¬ (8192 : Int) < (n : Int) := by omega
      obtain ⟨m, hm⟩ : ∃ m, m = need n := ⟨_, rfl⟩
      have hm' := hm
      unfold need at hm'
      rw [if_neg (by omega)] at hm'
      have e : ((n : Int) + 1003) / 1004 = (m : Int) := by omega
      have hmb : m ≤ 9 := by omega
      rw [← hm]
      have HM := hide hm
      clear hm hm'
      go_enter Try.func16, Try.ntmps16
      go_wp2
      go_ret
      exact ⟨rfl, rfl⟩
/-- of any number. -/
def needZ (z : Int) : Nat := need z.toNat
set_option maxHeartbeats 1600000 in
set_option maxRecDepth 1000000 in
theorem need_z (w : World) (z : Int) (h1 : -9223372036854775808 ≤ z) (h2 : z ≤ 9223372036854775807) : Calls Try.prog 15 #[.int .i64 z] w fun e w' => e = .returned (.int .i64 ((needZ z : Nat) : Int)) ∧ w' = w := by
  by_cases h : 0 ≤ z
  · obtain ⟨n, rfl⟩ := Int.eq_ofNat_of_zero_le h
    exact need_any w n (by omega)
  · have e : needZ z = 0 := by unfold needZ need; rw [if_pos (.inl (by omega))]
    have h3 : z ≤ 64 := by omega
    rw [e]
    go_enter Try.func15, Try.ntmps15
    go_wp2
    go_ret
    exact ⟨rfl, rfl⟩
set_option maxHeartbeats 1600000 in
set_option maxRecDepth 1000000 in
theorem rneed_z (w : World) (z : Int) (h1 : -9223372036854775808 ≤ z) (h2 : z ≤ 9223372036854775807) : Calls Try.prog 16 #[.int .i64 z] w fun e w' => e = .returned (.int .i64 ((needZ z : Nat) : Int)) ∧ w' = w := by
  by_cases h : 0 ≤ z
  · obtain ⟨n, rfl⟩ := Int.eq_ofNat_of_zero_le h
    exact rneed_any w n (by omega)
  · have e : needZ z = 0 := by unfold needZ need; rw [if_pos (.inl (by omega))]
    have h3 : z < 65 := by omega
    rw [e]
    go_enter Try.func16, Try.ntmps16
    go_wp2
    go_ret
    exact ⟨rfl, rfl⟩
set_option maxHeartbeats 1600000 in
set_option maxRecDepth 1000000 in
theorem rput_any (w : World) (v : Value) (ys : List Int) (hv : Own w v ys) (n : Nat) (hn : n ≤ 4294967295) (hl : ys.length ≤ 1000000) :
    Calls Try.prog 25 #[v, .int .u32 (n : Int)] w fun e w' => ∃ v', e = .returned v' ∧ Own w' v' (ys ++ le4 n) ∧ (v'.ownBlock = v.ownBlock ∨ ∃ k, v'.ownBlock = some k ∧ w.heap.size ≤ k) ∧ Mv (fun k => v.ownBlock = some k) w w' := by
  obtain ⟨a, m, c, rfl, hm⟩ := hv.shape2
  have HV := hide hv
  obtain ⟨i0, hi, hz0, hz1, hz2⟩ := info_parts infoU8
  have HL := hide hl
  clear hv hl
  have HNw : Hid (∀ j u, ((le4 n).map (Value.int .u8))[j]? = some u → (w.alloc (.cells #[.int .u8 ((n : Int) % 256), .int .u8 ((n : Int) / 256 % 256), .int .u8 ((n : Int) / 65536 % 256), .int .u8 ((n : Int) / 16777216)] 5)).cell? ((⟨w.heap.size, 0, none⟩ : Addr).add j) = some u) := fun j u hu => by
    rw [Addr.add_lit, cell_of_row _ _ (0 + j) _ 5 (0, 0) (heap_alloc_new w _)]
    simpa [le4] using hu
  have HOne : Hid (∀ u ∈ (le4 n).map (Value.int .u8), u.oneCell' = true) := by
    intro u hu
    obtain ⟨x, _, rfl⟩ := List.mem_map.1 hu
    rfl
  go_enter Try.func25, Try.ntmps25
  go_wp2_with (at_builtin; refine wpList_append_own_at _ (by rfl) (.tmp 5) (.tmp 17) 22 (by rfl) 0 5 i0 (.int .u8 0) 1 1 Try.underlying22 hi hz0 hz1 hz2 rfl (by omega) (.slice a m c) ys.length (ys.map (Value.int .u8)) (by rfl) (World.ownsRow.alloc HV.out _) ⟨w.heap.size, 0, none⟩ 4 4 ((le4 n).map (Value.int .u8)) (by rfl) (by rfl) HNw.out HOne.out (by have := HL.out; unfold maxLen; omega) (by have := HL.out; omega) (Nat.zero_le _) ?_; intro v' w1 h1 h2 h3 h4; have H1 := hide h1; have H2 := hide h2; have H4 := hide h4; clear h1 h2 h3 h4)
  go_ret
  refine ⟨v', rfl, ?_, ?_, ((Mv.refl _ w).alloc _).grown H2.out (fun k hk => .inl hk)⟩
  · have := H1.out
    unfold Own
    rw [List.length_append, List.map_append]
    exact this
  · rcases H4.out with e | e
    · exact .inl e
    · exact .inr ⟨_, e, by simp⟩
theorem Ro.el {v : Value} {B m c : Nat} {a : Option Addr} {vs : List Value} {L : Nat → List Int} (h : Ro w v B vs L) (hv : v = .slice a m c) {j : Nat} (hj : j < vs.length) (hb : Below w.heap.size w w') : ∃ g aj cj, a = some ⟨g, 0, none⟩ ∧ w'.cell? ⟨g, j, none⟩ = some (.slice aj (L j).length cj) ∧ Row w' aj (L j) := by
  obtain ⟨g, cap, aj, cj, e, hlt, hc, _, _, hr, _⟩ := h.first hj
  rw [hv] at e
  simp at e
  exact ⟨g, aj, cj, e.1, (hb.cell (p := ⟨g, j, none⟩) hlt).trans hc, hr.below hb⟩
set_option maxHeartbeats 1600000 in
set_option maxRecDepth 1000000 in
theorem samer_eq (w : World) (a b : Option Addr) (m c d : Nat) (va vb : Value) (hva : va = .slice a m c) (hvb : vb = .slice b m d) (Ba Bb : Nat) (vs us : List Value) (hl : vs.length = m) (hl2 : us.length = m) (hm : m ≤ 1000) (L : Nat → List Int) (hL : ∀ j, j < m → (L j).length ≤ 1000000) (h1 : Ro w va Ba vs L) (h2 : Ro w vb Bb us L) :
    Calls Try.prog 14 #[.slice a m c, .slice b m d] w fun e w' => e = .returned (.bool true) ∧ Below w.heap.size w w' := by
  have H1 := hide h1
  have H2 := hide h2
  have HL := hide hl
  have HL2 := hide hl2
  have HLl := hide hL
  have HVa := hide hva
  have HVb := hide hvb
  have hnb : ((m : Int) != (m : Int)) = false := by simp
  clear hl hl2 hL h1 h2 hva hvb
  go_enter Try.func14, Try.ntmps14
  go_wp2
  go_loopw [5] (fun i wr => ∃ k : Nat, k ≤ m ∧ i = .int .i64 k ∧ Below w.heap.size w wr) (fun i _ => m - (intOf i).toNat)
  case atStart => exact ⟨0, Nat.zero_le _, rfl, Below.refl _ _⟩
  case round =>
    obtain ⟨k, hk, rfl, hs⟩ := hrel
    have HS := hide hs
    clear hs
    by_cases hlt : k < m
    · obtain ⟨ga, aj, cj, rfl, c1, r1⟩ := H1.out.el HVa.out (j := k) (by rw [HL.out]; exact hlt) HS.out
      obtain ⟨gb, bj, dj, rfl, c2, r2⟩ := H2.out.el HVb.out (j := k) (by rw [HL2.out]; exact hlt) HS.out
      have hLk := HLl.out k hlt
      have hdb : Below wr.heap.size wr wr.drew := (Below.refl _ _).drew
      have HSm := hide (sameb_any aj bj (L k).length (L k).length cj dj (L k) (L k) wr.drew rfl rfl (by omega) (by omega) (r1.below hdb) (r2.below hdb))
      rw [show sameB (L k) (L k) = true by unfold sameB; simp] at HSm
      have hg1 : ga < wr.heap.size := World.block_lt_of_cell? wr _ c1
      have hg2 : gb < wr.heap.size := World.block_lt_of_cell? wr _ c2
      have HCs : Hid (∀ W, Below wr.drew.heap.size wr.drew W → W.cell? ⟨ga, k, none⟩ = some (.slice aj (L k).length cj) ∧ W.cell? ⟨gb, k, none⟩ = some (.slice bj (L k).length dj)) := fun W hW => ⟨(hW.cell (p := ⟨ga, k, none⟩) hg1).trans c1, (hW.cell (p := ⟨gb, k, none⟩) hg2).trans c2⟩
      clear r1 r2 hdb
      generalize (L k).length = N at *
      have hkm : (k : Int) < (m : Int) := by omega
      go_wp2
      go_region_held3 (fun W => W.cell? ⟨ga, k, none⟩ = some (.slice aj N cj) ∧ W.cell? ⟨gb, k, none⟩ = some (.slice bj N dj)) ((refine ⟨?_, ?_⟩ <;> assumption)) ((first | (go_at_call 23; refine HSm.out.mono ?_; intro r' w3 hh; obtain ⟨rfl, h3⟩ := hh; have H3 := hide h3; clear c1 c2; obtain ⟨c1, c2⟩ := HCs.out w3 h3; clear h3)))
      go_wp2
      go_roundw
      case rel => exact ⟨k + 1, by omega, by go_num, HS.out.trans ((show Below wr.heap.size wr w3 from ⟨H3.out.os, H3.out.tape, H3.out.output, H3.out.size, H3.out.block⟩).mono HS.out.size)⟩
      case measure => simp [intOf]; omega
    · have hkm : ¬ (k : Int) < (m : Int) := by omega
      go_wp2
      go_ret
      exact ⟨rfl, HS.out⟩
end Go.Proofs.Ytjpiacjfmgijfaa
