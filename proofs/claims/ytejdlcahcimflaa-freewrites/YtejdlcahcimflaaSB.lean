/- SameBytes, SameRows. -/
import Derived.Test.YtejdlcahcimflaaNT
import Derived.Deep.RegionHeld3
namespace Go.Proofs.Ytejdlcahcimflaa
open Go.RowKit Go.Maps
set_option linter.unusedVariables false
variable {w w' : World}
def sameB (xs ys : List Int) : Bool := decide (xs = ys)
theorem sameB_len (xs ys : List Int) (h : xs.length ≠ ys.length) : sameB xs ys = false := by
  unfold sameB; rw [decide_eq_false]; intro e; exact h (by rw [e])
theorem sameB_all (xs ys : List Int) (h : xs.length = ys.length) (h2 : ∀ i, i < xs.length → xs.getD i 0 = ys.getD i 0) : sameB xs ys = true := by
  unfold sameB; rw [decide_eq_true]
  apply List.ext_getElem h
  intro i h3 h4
  have := h2 i h3
  simpa [List.getD_eq_getElem?_getD, h3, h4] using this
theorem sameB_at (xs ys : List Int) (i : Nat) (h : xs.getD i 0 ≠ ys.getD i 0) : sameB xs ys = false := by
  unfold sameB; rw [decide_eq_false]; intro e; exact h (by rw [e])

set_option maxHeartbeats 800000 in
theorem sameb_any (a b : Option Addr) (len len2 cap cap2 : Nat) (xs ys : List Int) (w : World) (hl : xs.length = len) (hl2 : ys.length = len2) (hbig : len ≤ 9223372036854775807) (hbig2 : len2 ≤ 9223372036854775807) (hr : Row w a xs) (hr2 : Row w b ys) :
    Calls Try.prog 33 #[.slice a len cap, .slice b len2 cap2] w fun e w' => e = .returned (.bool (sameB xs ys)) ∧ Below w.heap.size w w' := by
  have HL := hide hl
  have HL2 := hide hl2
  have HR := hide hr
  have HR2 := hide hr2
  clear hl hl2 hr hr2
  by_cases hne : len = len2
  · subst hne
    have hnb : ((len : Int) != (len : Int)) = false := by simp
    go_enter Try.func33, Try.ntmps33
    go_wp2
    go_loopw [5] (fun i wr => ∃ k : Nat, k ≤ len ∧ i = .int .i64 k ∧ (∀ j, j < k → xs.getD j 0 = ys.getD j 0) ∧ Below w.heap.size w wr) (fun i _ => len - (intOf i).toNat)
    case atStart => exact ⟨0, Nat.zero_le _, rfl, fun j hj => by omega, Below.refl _ _⟩
    case round =>
      obtain ⟨k, hk, rfl, hsame, hbel⟩ := hrel
      have HSm := hide hsame
      have HBel := hide hbel
      clear hsame hbel
      by_cases hlt : k < len
      · have hlk : k < xs.length := by have := HL.out; omega
        have hlk2 : k < ys.length := by have := HL2.out; omega
        rcases HR.out.below HBel.out with h0 | ⟨b1, o1, rfl, _, hc1⟩
        · subst h0; simp at hlk
        rcases HR2.out.below HBel.out with h0 | ⟨b2, o2, rfl, _, hc2⟩
        · subst h0; simp at hlk2
        have g1 := hc1 k hlk
        have g2 := hc2 k hlk2
        clear hc1 hc2 hlk hlk2
        by_cases hcc : xs.getD k 0 = ys.getD k 0
        · have HCc := hide hcc
          rw [hcc] at g1
          clear hcc
          generalize ys.getD k 0 = c at g1 g2
          have hbn : (c != c) = false := by simp
          go_wp2
          go_quiet (fail)
          go_wp2
          go_roundw
          case rel => exact ⟨k + 1, by omega, by go_num, fun j hj => by
            by_cases e : j = k
            · subst e; exact HCc.out
            · exact HSm.out j (by omega), below_drewN HBel.out _⟩
          case measure => simp [intOf]; omega
        · have HCc := hide (sameB_at xs ys k hcc)
          have hbn : (xs.getD k 0 != ys.getD k 0) = true := by rw [bne_iff_ne]; exact hcc
          clear hcc
          generalize xs.getD k 0 = c at *
          generalize ys.getD k 0 = d at *
          go_wp2
          go_quiet (fail)
          go_wp2
          go_ret
          exact ⟨by rw [HCc.out]; rfl, below_drewN HBel.out _⟩
      · have HAll := hide (sameB_all xs ys (by rw [HL.out, HL2.out]) (fun i hi => HSm.out i (by have := HL.out; omega)))
        go_wp2
        go_ret
        exact ⟨by rw [HAll.out]; rfl, HBel.out⟩
  · have HS := hide (sameB_len xs ys (by rw [HL.out, HL2.out]; exact hne))
    have hnb : ((len : Int) != (len2 : Int)) = true := by rw [bne_iff_ne]; omega
    go_enter Try.func33, Try.ntmps33
    go_wp2
    go_ret
    exact ⟨by rw [HS.out]; rfl, Below.refl _ _⟩

set_option maxHeartbeats 1600000 in
set_option maxRecDepth 1000000 in
theorem samer_eq (w : World) (a b : Option Addr) (m c d : Nat) (va vb : Value) (hva : va = .slice a m c) (hvb : vb = .slice b m d) (Ba Bb : Nat) (vs us : List Value) (hl : vs.length = m) (hl2 : us.length = m) (hm : m ≤ 1000) (L : Nat → List Int) (hL : ∀ j, j < m → (L j).length ≤ 1000000) (h1 : Rb.Ro w va Ba vs L) (h2 : Rb.Ro w vb Bb us L) :
    Calls Try.prog 14 #[.slice a m c, .slice b m d] w fun e w' => e = .returned (.bool true) ∧ Below w.heap.size w w' := by
  have H1 := hide h1
  have H2 := hide h2
  have HL := hide hl
  have HL2 := hide hl2
  have HLl := hide hL
  have HVa := hide hva
  have HVb := hide hvb
  have hnb : ((m : Int) != (m : Int)) = false := by simp
  clear hl hl2 hL h1 h2 hva hvb
  go_enter Try.func14, Try.ntmps14
  go_wp2
  go_loopw [5] (fun i wr => ∃ k : Nat, k ≤ m ∧ i = .int .i64 k ∧ Below w.heap.size w wr) (fun i _ => m - (intOf i).toNat)
  case atStart => exact ⟨0, Nat.zero_le _, rfl, Below.refl _ _⟩
  case round =>
    obtain ⟨k, hk, rfl, hs⟩ := hrel
    have HS := hide hs
    clear hs
    by_cases hlt : k < m
    · obtain ⟨ga, aj, cj, rfl, c1, r1⟩ := H1.out.el HVa.out (j := k) (by rw [HL.out]; exact hlt) HS.out
      obtain ⟨gb, bj, dj, rfl, c2, r2⟩ := H2.out.el HVb.out (j := k) (by rw [HL2.out]; exact hlt) HS.out
      have hLk := HLl.out k hlt
      have hdb : Below wr.heap.size wr wr.drew := (Below.refl _ _).drew
      have HSm := hide (sameb_any aj bj (L k).length (L k).length cj dj (L k) (L k) wr.drew rfl rfl (by omega) (by omega) (r1.below hdb) (r2.below hdb))
      rw [show sameB (L k) (L k) = true by unfold sameB; simp] at HSm
      have hg1 : ga < wr.heap.size := World.block_lt_of_cell? wr _ c1
      have hg2 : gb < wr.heap.size := World.block_lt_of_cell? wr _ c2
      have HCs : Hid (∀ W, Below wr.drew.heap.size wr.drew W → W.cell? ⟨ga, k, none⟩ = some (.slice aj (L k).length cj) ∧ W.cell? ⟨gb, k, none⟩ = some (.slice bj (L k).length dj)) := fun W hW => ⟨(hW.cell (p := ⟨ga, k, none⟩) hg1).trans c1, (hW.cell (p := ⟨gb, k, none⟩) hg2).trans c2⟩
      clear r1 r2 hdb
      generalize (L k).length = N at *
      have hkm : (k : Int) < (m : Int) := by omega
      go_wp2
      go_region_held3 (fun W => W.cell? ⟨ga, k, none⟩ = some (.slice aj N cj) ∧ W.cell? ⟨gb, k, none⟩ = some (.slice bj N dj)) ((refine ⟨?_, ?_⟩ <;> assumption)) ((first | (go_at_call 33; refine HSm.out.mono ?_; intro r' w3 hh; obtain ⟨rfl, h3⟩ := hh; have H3 := hide h3; clear c1 c2; obtain ⟨c1, c2⟩ := HCs.out w3 h3; clear h3)))
      go_wp2
      go_roundw
      case rel => exact ⟨k + 1, by omega, by go_num, HS.out.trans ((show Below wr.heap.size wr w3 from ⟨H3.out.os, H3.out.tape, H3.out.output, H3.out.size, H3.out.block⟩).mono HS.out.size)⟩
      case measure => simp [intOf]; omega
    · have hkm : ¬ (k : Int) < (m : Int) := by omega
      go_wp2
      go_ret
      exact ⟨rfl, HS.out⟩
end Go.Proofs.Ytejdlcahcimflaa
