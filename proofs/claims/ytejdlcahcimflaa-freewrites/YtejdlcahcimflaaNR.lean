/- The document's own Need, wrong, rises, put and get. -/
import Derived.Test.YtejdlcahcimflaaNG
namespace Go.Proofs.Ytejdlcahcimflaa
open Go.RowKit Go.Maps
set_option linter.unusedVariables false
variable {w w' : World}
/-- how many pages so many take. -/
def needZ (z : Int) : Int := if z ≤ 0 then 0 else (z - 1) / 251 + 1
set_option maxHeartbeats 1600000 in
set_option maxRecDepth 1000000 in
theorem need_z (w : World) (z : Int) (h1 : -9223372036854775808 ≤ z) (h2 : z ≤ 9223372036854775807) : Calls Try.prog 16 #[.int .i64 z] w fun e w' => e = .returned (.int .i64 (needZ z)) ∧ w' = w := by
  by_cases h : z ≤ 0
  · have e : needZ z = 0 := by unfold needZ; rw [if_pos h]
    rw [e]
    go_enter Try.func16, Try.ntmps16
    go_wp2
    go_ret
    exact ⟨rfl, rfl⟩
  · obtain ⟨y, hy⟩ : ∃ y, y = needZ z := ⟨_, rfl⟩
    have e : (z - 1) / 251 + 1 = y := by rw [hy]; unfold needZ; rw [if_neg h]
    have hyb : 0 ≤ y ∧ y ≤ 9223372036854775807 := by omega
    rw [← hy]
    have HY := hide hy
    clear hy
    have e2 : (z - 1) / 251 = y - 1 := by omega
    go_enter Try.func16, Try.ntmps16
    go_wp2
    go_ret
    exact ⟨by first | rfl | (congr 2; omega), rfl⟩
set_option maxHeartbeats 1600000 in
set_option maxRecDepth 1000000 in
theorem rneed_z (w : World) (z : Int) (h1 : -9223372036854775808 ≤ z) (h2 : z ≤ 9223372036854775807) : Calls Try.prog 17 #[.int .i64 z] w fun e w' => e = .returned (.int .i64 (needZ z)) ∧ w' = w := by
  by_cases h : z ≤ 0
  · have e : needZ z = 0 := by unfold needZ; rw [if_pos h]
    have h3 : z < 1 := by omega
    rw [e]
    go_enter Try.func17, Try.ntmps17
    go_wp2
    go_ret
    exact ⟨rfl, rfl⟩
  · have h3 : ¬ z < 1 := by omega
    obtain ⟨y, hy⟩ : ∃ y, y = needZ z := ⟨_, rfl⟩
    have e : (z - 1) / 251 + 1 = y := by rw [hy]; unfold needZ; rw [if_neg h]
    have hyb : 0 ≤ y ∧ y ≤ 9223372036854775807 := by omega
    rw [← hy]
    have HY := hide hy
    clear hy
    have e2 : (z - 1) / 251 = y - 1 := by omega
    go_enter Try.func17, Try.ntmps17
    go_wp2
    go_ret
    exact ⟨by first | rfl | (congr 2; omega), rfl⟩
theorem needZ_nat (n : Nat) : needZ (n : Int) = (((n + 250) / 251 : Nat) : Int) := by
  unfold needZ
  by_cases h : n = 0
  · subst h; rfl
  · rw [if_neg (by omega)]; omega
set_option maxHeartbeats 1600000 in
set_option maxRecDepth 1000000 in
theorem rwrong_any (w : World) (n : Nat) (hn : n ≤ 4294967295) : Calls Try.prog 23 #[.int .u32 (n : Int)] w fun e w' => e = .returned (.bool (!okp n)) ∧ w' = w := by
  unfold okp
  by_cases h : 2 ≤ n
  · have h1 : ¬ (n : Int) < 2 := by omega
    by_cases h2 : n ≤ 16383
    · have h3 : ¬ (16383 : Int) < (n : Int) := by omega
      simp only [h, h2, decide_true, Bool.and_self, Bool.not_true]
      go_enter Try.func23, Try.ntmps23
      go_wp2
      go_ret
      exact ⟨rfl, rfl⟩
    · have h3 : (16383 : Int) < (n : Int) := by omega
      simp only [h, h2, decide_true, decide_false, Bool.and_false, Bool.not_false]
      go_enter Try.func23, Try.ntmps23
      go_wp2
      go_ret
      exact ⟨rfl, rfl⟩
  · have h1 : (n : Int) < 2 := by omega
    simp only [h, decide_false, Bool.false_and, Bool.not_false]
    go_enter Try.func23, Try.ntmps23
    go_wp2
    go_ret
    exact ⟨rfl, rfl⟩
set_option maxHeartbeats 1600000 in
set_option maxRecDepth 1000000 in
theorem rput_any (w : World) (v : Value) (ys : List Int) (hv : Own w v ys) (n : Nat) (hn : n ≤ 4294967295) (hl : ys.length ≤ 1000000) :
    Calls Try.prog 24 #[v, .int .u32 (n : Int)] w fun e w' => ∃ v', e = .returned v' ∧ Own w' v' (ys ++ le4 n) ∧ (v'.ownBlock = v.ownBlock ∨ ∃ k, v'.ownBlock = some k ∧ w.heap.size ≤ k) ∧ Mv (fun k => v.ownBlock = some k) w w' := by
  obtain ⟨a, m, c, rfl, hm⟩ := hv.shape2
  have HV := hide hv
  obtain ⟨i0, hi, hz0, hz1, hz2⟩ := info_parts infoU8
  have HL := hide hl
  clear hv hl
  have HNw : Hid (∀ j u, ((le4 n).map (Value.int .u8))[j]? = some u → (w.alloc (.cells #[.int .u8 ((n : Int) % 256), .int .u8 ((n : Int) / 256 % 256), .int .u8 ((n : Int) / 65536 % 256), .int .u8 ((n : Int) / 16777216)] 5)).cell? ((⟨w.heap.size, 0, none⟩ : Addr).add j) = some u) := fun j u hu => by
    rw [Addr.add_lit, cell_of_row _ _ (0 + j) _ 5 (0, 0) (heap_alloc_new w _)]
    simpa [le4] using hu
  have HOne : Hid (∀ u ∈ (le4 n).map (Value.int .u8), u.oneCell' = true) := by
    intro u hu
    obtain ⟨x, _, rfl⟩ := List.mem_map.1 hu
    rfl
  go_enter Try.func24, Try.ntmps24
  go_wp2_with (at_builtin; refine wpList_append_own_at _ (by rfl) (.tmp 5) (.tmp 17) 23 (by rfl) 0 5 i0 (.int .u8 0) 1 1 Try.underlying23 hi hz0 hz1 hz2 rfl (by omega) (.slice a m c) ys.length (ys.map (Value.int .u8)) (by rfl) (World.ownsRow.alloc HV.out _) ⟨w.heap.size, 0, none⟩ 4 4 ((le4 n).map (Value.int .u8)) (by rfl) (by rfl) HNw.out HOne.out (by have := HL.out; unfold maxLen; omega) (by have := HL.out; omega) (Nat.zero_le _) ?_; intro v' w1 h1 h2 h3 h4; have H1 := hide h1; have H2 := hide h2; have H4 := hide h4; clear h1 h2 h3 h4)
  go_ret
  refine ⟨v', rfl, ?_, ?_, ((Mv.refl _ w).alloc _).grown H2.out (fun k hk => .inl hk)⟩
  · have := H1.out
    unfold Own
    rw [List.length_append, List.map_append]
    exact this
  · rcases H4.out with e | e
    · exact .inl e
    · exact .inr ⟨_, e, by simp⟩
set_option maxHeartbeats 1600000 in
set_option maxRecDepth 1000000 in
theorem rget_any (w : World) (p o n c i b0 b1 b2 b3 : Nat) (hn : i + 4 ≤ n) (hnb : n ≤ 1000000) (h0 : b0 < 256) (h1 : b1 < 256) (h2 : b2 < 256) (h3 : b3 < 256)
    (c0 : w.cell? ⟨p, o + i, none⟩ = some (.int .u8 (b0 : Int))) (c1 : w.cell? ⟨p, o + (i + 1), none⟩ = some (.int .u8 (b1 : Int))) (c2 : w.cell? ⟨p, o + (i + 2), none⟩ = some (.int .u8 (b2 : Int))) (c3 : w.cell? ⟨p, o + (i + 3), none⟩ = some (.int .u8 (b3 : Int))) :
    Calls Try.prog 27 #[.slice (some ⟨p, o, none⟩) n c, .int .i64 (i : Int)] w fun e w' => e = .returned (.int .u32 ((b0 + b1 * 256 + b2 * 65536 + b3 * 16777216 : Nat) : Int)) ∧ Same w w' := by
  have i0 : (i : Int) < (n : Int) := by omega
  have i1 : (i : Int) + 1 < (n : Int) := by omega
  have i2 : (i : Int) + 2 < (n : Int) := by omega
  have i3 : (i : Int) + 3 < (n : Int) := by omega
  go_enter Try.func27, Try.ntmps27
  go_wp2
  go_quiet (fail)
  go_wp2
  go_ret
  exact ⟨by first | rfl | (congr 2; omega), (Same.refl w).drewN _⟩
theorem rget_row (a : Option Addr) (n c i x : Nat) (zs R : List Int) (hx : x ≤ 4294967295) (hn : i + 4 ≤ n) (hnb : n ≤ 1000000) (h : Row w a zs) (hl : zs.length = n) (hd : zs.drop i = le4 x ++ R) :
    Calls Try.prog 27 #[.slice a n c, .int .i64 (i : Int)] w fun e w' => e = .returned (.int .u32 (x : Int)) ∧ Same w w' := by
  rcases h with h | ⟨b, o, rfl, hlt, hc⟩
  · rw [h] at hl; simp at hl; omega
  · have h4 : ∀ j v, (le4 x)[j]? = some v → w.cell? ⟨b, o + (i + j), none⟩ = some (.int .u8 v) := fun j v hv => by
      obtain ⟨hj, e⟩ := List.getElem?_eq_some_iff.1 hv
      have hj4 : j < 4 := hj
      have := hc (i + j) (by omega)
      rw [this, List.getD_eq_getElem?_getD]
      have e2 : zs[i + j]? = (zs.drop i)[j]? := by rw [List.getElem?_drop]
      rw [e2, hd, List.getElem?_append_left hj, hv]; rfl
    have e : x % 256 + (x / 256 % 256) * 256 + (x / 65536 % 256) * 65536 + (x / 16777216) * 16777216 = x := by omega
    have k := rget_any w b o n c i (x % 256) (x / 256 % 256) (x / 65536 % 256) (x / 16777216) hn hnb (by omega) (by omega) (by omega) (by omega) (h4 0 _ rfl) (h4 1 _ rfl) (h4 2 _ rfl) (h4 3 _ rfl)
    rw [e] at k
    exact k
set_option maxHeartbeats 1600000 in
set_option maxRecDepth 1000000 in
theorem rrises_any (w : World) (a : Option Addr) (n c : Nat) (zs : List Nat) (hl : zs.length = n) (hn : n ≤ 1000000) (hr : Rw w a zs) (hz : W32 zs) :
    Calls Try.prog 22 #[.slice a n c] w fun e w' => e = .returned (.bool (rise zs && zs.all okp)) ∧ Same w w' := by
  have HL := hide hl
  have HR := hide hr
  have HZ := hide hz
  clear hl hr hz
  go_enter Try.func22, Try.ntmps22
  go_wp2
  go_loopw [3] (fun i wr => ∃ k : Nat, k ≤ n ∧ i = .int .i64 k ∧ (∀ j, j < k → okp (zs.getD j 0) = true) ∧ (∀ j, 0 < j → j < k → zs.getD (j - 1) 0 < zs.getD j 0) ∧ Same w wr) (fun i _ => n - (intOf i).toNat)
  case atStart => exact ⟨0, Nat.zero_le _, rfl, fun j hj => by omega, fun j _ hj => by omega, Same.refl _⟩
  case round =>
    obtain ⟨k, hk, rfl, ho, hs, hsm⟩ := hrel
    have HO := hide ho
    have HS := hide hs
    have HSm := hide hsm
    clear ho hs hsm
    by_cases hlt : k < n
    · have hlk : k < zs.length := by have := HL.out; omega
      have hkn : (k : Int) < (n : Int) := by omega
      have hzk := HZ.out.at k
      rcases HR.out.below HSm.out.below with h0 | ⟨b, o, rfl, _, hcc⟩
      · subst h0; simp at hlk
      have g1 := hcc k hlk
      have HWr := hide (fun W => rwrong_any W (zs.getD k 0) hzk)
      by_cases hy : okp (zs.getD k 0) = true
      · rw [hy] at HWr
        by_cases hk0 : k = 0
        · have hkp : ¬ (0 : Int) < (k : Int) := by omega
          have hkq : ¬ 0 < k := by omega
          have hkr : decide (0 < k) = false := by simp; omega
          have hks : decide ((0 : Int) < (k : Int)) = false := by simp; omega
          have HOn : Hid (∀ j, j < k + 1 → okp (zs.getD j 0) = true) := fun j hj => by
            obtain rfl : j = k := by omega
            exact hy
          have HSn : Hid (∀ j, 0 < j → j < k + 1 → zs.getD (j - 1) 0 < zs.getD j 0) := fun j h1 h2 => by omega
          clear hy hcc hlk
          generalize zs.getD k 0 = y at g1 HWr hzk
          have HK0 := hide hk0
          clear hk0
          go_wp2_with (go_at_call 23; refine (HWr.out _).mono ?_; rintro e w2 ⟨rfl, hw2⟩; rw [hw2]; clear hw2 w2)
          go_quiet (fail)
          go_wp2
          go_roundw
          case rel => exact ⟨k + 1, by omega, by go_num, HOn.out, HSn.out, HSm.out.drewN _⟩
          case measure => simp [intOf]; omega
        · have hkp : (0 : Int) < (k : Int) := by omega
          have hkq : 0 < k := by omega
          have hkr : decide (0 < k) = true := by simp; omega
          have hks : decide ((0 : Int) < (k : Int)) = true := by simp; omega
          have g2 := hcc (k - 1) (by omega)
          have hk1 : ((k : Int) - 1) = ((k - 1 : Nat) : Int) := by omega
          have hk2 : ((k - 1 : Nat) : Int) < (n : Int) := by omega
          have hzp := HZ.out.at (k - 1)
          by_cases hlt2 : zs.getD (k - 1) 0 < zs.getD k 0
          · have hle : ¬ ((zs.getD k 0 : Nat) : Int) ≤ ((zs.getD (k - 1) 0 : Nat) : Int) := by omega
            have HOn : Hid (∀ j, j < k + 1 → okp (zs.getD j 0) = true) := fun j hj => by
              by_cases e : j = k
              · subst e; exact hy
              · exact HO.out j (by omega)
            have HSn : Hid (∀ j, 0 < j → j < k + 1 → zs.getD (j - 1) 0 < zs.getD j 0) := fun j h1 h2 => by
              by_cases e : j = k
              · subst e; exact hlt2
              · exact HS.out j h1 (by omega)
            clear hy hcc hlk hlt2
            generalize zs.getD k 0 = y at g1 HWr hzk hle
            generalize zs.getD (k - 1) 0 = y' at g2 hzp hle
            obtain ⟨k1, hkk⟩ : ∃ k1, k1 = k - 1 := ⟨_, rfl⟩
            rw [← hkk] at g2 hk1 hk2
            have HKK := hide hkk
            clear hkk hk0
            go_wp2_with (first
              | (go_at_call 23; refine (HWr.out _).mono ?_; rintro e w2 ⟨rfl, hw2⟩; rw [hw2]; clear hw2 w2))
            go_quiet (fail)
            go_wp2
            go_roundw
            case rel => exact ⟨k + 1, by omega, by go_num, HOn.out, HSn.out, HSm.out.drewN _⟩
            case measure => simp [intOf]; omega
          · have hle : ((zs.getD k 0 : Nat) : Int) ≤ ((zs.getD (k - 1) 0 : Nat) : Int) := by omega
            have HFl : Hid ((rise zs && zs.all okp) = false) := by
              rw [Hid, Bool.and_eq_false_iff]
              refine .inl (bool_false fun h => ?_)
              have := rise_at.1 h k (by omega) hlk
              omega
            clear hy hcc hlk hlt2
            generalize zs.getD k 0 = y at g1 HWr hzk hle
            generalize zs.getD (k - 1) 0 = y' at g2 hzp hle
            obtain ⟨k1, hkk⟩ : ∃ k1, k1 = k - 1 := ⟨_, rfl⟩
            rw [← hkk] at g2 hk1 hk2
            have HKK := hide hkk
            clear hkk hk0
            go_wp2_with (first
              | (go_at_call 23; refine (HWr.out _).mono ?_; rintro e w2 ⟨rfl, hw2⟩; rw [hw2]; clear hw2 w2))
            go_quiet (fail)
            go_wp2
            go_ret
            exact ⟨by rw [HFl.out]; rfl, HSm.out.drewN _⟩
      · rw [bool_false hy] at HWr
        have HFl : Hid ((rise zs && zs.all okp) = false) := by
          rw [Hid, Bool.and_eq_false_iff]
          exact .inr (bool_false fun h => hy (all_at.1 h k hlk))
        clear hy hcc hlk
        generalize zs.getD k 0 = y at g1 HWr hzk
        go_wp2_with (go_at_call 23; refine (HWr.out _).mono ?_; rintro e w2 ⟨rfl, hw2⟩; rw [hw2]; clear hw2 w2)
        go_quiet (fail)
        go_wp2
        go_ret
        exact ⟨by rw [HFl.out]; rfl, HSm.out.drewN _⟩
    · have hkn : ¬ (k : Int) < (n : Int) := by omega
      obtain rfl : k = n := by omega
      have HTr : Hid ((rise zs && zs.all okp) = true) := by
        rw [Hid, Bool.and_eq_true]
        exact ⟨rise_at.2 (fun i h1 h2 => HS.out i h1 (by have := HL.out; omega)), all_at.2 (fun i hi => HO.out i (by have := HL.out; omega))⟩
      go_wp2
      go_ret
      exact ⟨by rw [HTr.out]; rfl, HSm.out⟩
end Go.Proofs.Ytejdlcahcimflaa
