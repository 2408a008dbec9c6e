/- Whether lists of entries are the same; a leaf of texts. -/
import Derived.Test.YtjojpohnmfkanaaRE
namespace Go.Proofs.Ytjojpohnmfkanaa
open Go.RowKit
set_option linter.unusedVariables false

set_option maxHeartbeats 800000 in
theorem sameb_yes (a b : Option Addr) (n c d : Nat) (xs : List Int) (w : World) (h : Inn w a n c xs) (k : Inn w b n d xs) :
    Calls Try.prog 18 #[.slice a n c, .slice b n d] w fun e w' => e = .returned (.bool true) ∧ Below w.heap.size w w' := by
  have hl := h.len
  have hmx : n ≤ 9223372036854775807 := by have := h.cap; have := h.max; omega
  have HR := hide h.row
  have HR2 := hide k.row
  have HL := hide hl
  clear h k hl
  have hnb : ((n : Int) != (n : Int)) = false := by simp
  go_enter Try.func18, Try.ntmps18
  go_wp2
  go_loopw [5] (fun i wr => ∃ k : Nat, k ≤ n ∧ i = .int .i64 k ∧ Below w.heap.size w wr) (fun i _ => n - (intOf i).toNat)
  case atStart => exact ⟨0, Nat.zero_le _, rfl, Below.refl _ _⟩
  case round =>
    obtain ⟨k, hk, rfl, hbel⟩ := hrel
    have HBel := hide hbel
    clear hbel
    by_cases hlt : k < n
    · have hlk : k < xs.length := by have := HL.out; omega
      rcases HR.out.below HBel.out with h0 | ⟨b1, o1, rfl, _, hc1⟩
      · subst h0; simp at hlk
      rcases HR2.out.below HBel.out with h0 | ⟨b2, o2, rfl, _, hc2⟩
      · subst h0; simp at hlk
      have g1 := hc1 k hlk
      have g2 := hc2 k hlk
      clear hc1 hc2 hlk
      generalize xs.getD k 0 = cc at g1 g2
      have hbn : (cc != cc) = false := by simp
      go_wp2
      go_quiet (fail)
      go_wp2
      go_roundw
      case rel => exact ⟨k + 1, by omega, by go_num, below_drewN HBel.out _⟩
      case measure => simp [intOf]; omega
    · go_wp2
      go_ret
      exact ⟨rfl, HBel.out⟩
set_option maxHeartbeats 3200000 in
set_option maxRecDepth 1000000 in
theorem samee_yes (a b : Option Addr) (n c d : Nat) (xs ys : List En) (w : World) (h : Ens w a n c xs) (k : Ens w b n d ys) (he : ers xs = ers ys) (hn : n ≤ 1000000) :
    Calls Try.prog 28 #[.slice a n c, .slice b n d] w fun e w' => e = .returned (.bool true) ∧ Below w.heap.size w w' := by
  have hnb : ((n : Int) != (n : Int)) = false := by simp
  have HX := hide h
  have HY := hide k
  have HE := hide he
  clear h k he
  go_enter Try.func28, Try.ntmps28
  go_wp2
  go_loopw [5] (fun i wr => ∃ k : Nat, k ≤ n ∧ i = .int .i64 (k : Int) ∧ Below w.heap.size w wr) (fun i _ => n - (intOf i).toNat)
  case atStart => exact ⟨0, Nat.zero_le _, rfl, Below.refl _ _⟩
  case round =>
    obtain ⟨k, hk, rfl, hbl⟩ := hrel
    have HBl := hide hbl
    by_cases hlt : k < n
    · obtain ⟨x, hx, hokx⟩ := (HX.out.below hbl).at hlt
      obtain ⟨y, hy, hoky⟩ := (HY.out.below hbl).at hlt
      have hxy : x.e = y.e := by
        have h1 := ers_at hx
        have h2 := ers_at hy
        rw [HE.out, h2] at h1
        simpa using h1.symm
      obtain ⟨b1, o1, rfl, _, c0, c1, c2, c3⟩ := (HX.out.below hbl).cells hx
      obtain ⟨b2, o2, rfl, _, e0, e1, e2, e3⟩ := (HY.out.below hbl).cells hy
      have kx := hokx.key
      have vx := hokx.val
      have ky := hoky.key
      have vy := hoky.val
      rw [hxy] at c0 c1 c2 c3 kx vx
      have HK1 := hide (sameb_yes x.ka y.ka y.e.key.length x.kc y.kc y.e.key wr.drew (kx.below (Below.refl _ _).drew) (ky.below (Below.refl _ _).drew))
      have HV1 := hide (fun W (hW : Below wr.heap.size wr W) => sameb_yes x.va y.va y.e.val.length x.vc y.vc y.e.val W (vx.below hW) (vy.below hW))
      have HSt : Hid (∀ W, Below wr.heap.size wr W → W.cell? ⟨b1, o1 + k * 4, none⟩ = some (.slice x.ka y.e.key.length x.kc) ∧ W.cell? ⟨b1, o1 + k * 4 + 1, none⟩ = some (.slice x.va y.e.val.length x.vc) ∧ W.cell? ⟨b1, o1 + k * 4 + 2, none⟩ = some (.int .u32 (y.e.page : Int)) ∧ W.cell? ⟨b1, o1 + k * 4 + 3, none⟩ = some (.int .u32 (y.e.size : Int)) ∧ W.cell? ⟨b2, o2 + k * 4, none⟩ = some (.slice y.ka y.e.key.length y.kc) ∧ W.cell? ⟨b2, o2 + k * 4 + 1, none⟩ = some (.slice y.va y.e.val.length y.vc) ∧ W.cell? ⟨b2, o2 + k * 4 + 2, none⟩ = some (.int .u32 (y.e.page : Int)) ∧ W.cell? ⟨b2, o2 + k * 4 + 3, none⟩ = some (.int .u32 (y.e.size : Int))) := hide fun W hW => ⟨one_below1 c0 hW, one_below1 c1 hW, one_below1 c2 hW, one_below1 c3 hW, one_below1 e0 hW, one_below1 e1 hW, one_below1 e2 hW, one_below1 e3 hW⟩
      have p1 : ((y.e.page : Int) != (y.e.page : Int)) = false := by simp
      have p2 : ((y.e.size : Int) != (y.e.size : Int)) = false := by simp
      have i1 : (0 : Int) ≤ (k : Int) := by omega
      have i2 : (k : Int) < (n : Int) := by omega
      clear hx hy hokx hoky hxy kx vx ky vy hbl
      go_wp2
      go_region_held3 (fun W => W.cell? ⟨b1, o1 + k * 4, none⟩ = some (.slice x.ka y.e.key.length x.kc) ∧ W.cell? ⟨b1, o1 + k * 4 + 1, none⟩ = some (.slice x.va y.e.val.length x.vc) ∧ W.cell? ⟨b1, o1 + k * 4 + 2, none⟩ = some (.int .u32 (y.e.page : Int)) ∧ W.cell? ⟨b1, o1 + k * 4 + 3, none⟩ = some (.int .u32 (y.e.size : Int)) ∧ W.cell? ⟨b2, o2 + k * 4, none⟩ = some (.slice y.ka y.e.key.length y.kc) ∧ W.cell? ⟨b2, o2 + k * 4 + 1, none⟩ = some (.slice y.va y.e.val.length y.vc) ∧ W.cell? ⟨b2, o2 + k * 4 + 2, none⟩ = some (.int .u32 (y.e.page : Int)) ∧ W.cell? ⟨b2, o2 + k * 4 + 3, none⟩ = some (.int .u32 (y.e.size : Int))) ((refine ⟨?_, ?_, ?_, ?_, ?_, ?_, ?_, ?_⟩ <;> assumption)) ((first | (go_at_call_of 18 (Value.slice x.ka y.e.key.length x.kc); refine HK1.out.mono ?_; intro r' w3 hh; obtain ⟨rfl, hb3⟩ := hh; have HB3 := hide ((Below.refl wr.heap.size wr).drew.trans hb3); clear hb3 c0 c1 c2 c3 e0 e1 e2 e3; obtain ⟨c0, c1, c2, c3, e0, e1, e2, e3⟩ := HSt.out w3 HB3.out) | (go_at_call_of 18 (Value.slice x.va y.e.val.length x.vc); refine (HV1.out _ HB3.out).mono ?_; intro r' w4 hh; obtain ⟨rfl, hb4⟩ := hh; have HB4 := hide (HB3.out.trans (hb4.mono HB3.out.size)); clear hb4 c0 c1 c2 c3 e0 e1 e2 e3; obtain ⟨c0, c1, c2, c3, e0, e1, e2, e3⟩ := HSt.out w4 HB4.out)))
      go_wp2
      go_roundw
      case rel => exact ⟨k + 1, by omega, by go_num, HBl.out.trans (HB4.out.mono HBl.out.size)⟩
      case measure => simp [intOf]; omega
    · go_wp2
      go_ret
      exact ⟨rfl, HBl.out⟩
set_option maxHeartbeats 1600000 in
set_option maxRecDepth 1000000 in
theorem same_yes (a b : Option Addr) (n c d : Nat) (xs ys : List En) (w : World) (h : Ens w a n c xs) (k : Ens w b n d ys) (he : ers xs = ers ys) (hn : n ≤ 1000000) :
    Calls Try.prog 12 #[.agg #[.bool true, .slice a n c], .agg #[.bool true, .slice b n d]] w fun e w' => e = .returned (.bool true) ∧ Below w.heap.size w w' := by
  obtain ⟨hB, hb0, hb1, hs1⟩ := pair_boxes w (.bool true) (.slice a n c) (.bool true) (.slice b n d)
  obtain ⟨c0, c1, -⟩ := cells_two hb0
  obtain ⟨e0, e1, -⟩ := cells_two hb1
  have HS := hide (samee_yes a b n c d xs ys _ (h.below hB) (k.below hB) he hn)
  have HB := hide hB
  clear h k he hB hb0 hb1
  go_enter Try.func12, Try.ntmps12
  go_wp2_with (go_at_call 28; refine HS.out.mono ?_; rintro e w2 ⟨rfl, hb2⟩)
  go_ret
  exact ⟨rfl, HB.out.trans (hb2.mono HB.out.size)⟩
end Go.Proofs.Ytjojpohnmfkanaa
