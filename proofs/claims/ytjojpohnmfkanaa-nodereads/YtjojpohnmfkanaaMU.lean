/- How much there is in a node. -/
import Derived.Test.YtjojpohnmfkanaaFR
namespace Go.Proofs.Ytjojpohnmfkanaa
open Go.RowKit
set_option linter.unusedVariables false

theorem wts_snoc (xs : List En) (k : Nat) (x : En) (h : xs[k]? = some x) : wts (ers (xs.take (k + 1))) = wts (ers (xs.take k)) + (x.e.key.length + x.e.val.length) := by
  rw [take_at h, ers_app, wts_app]
  simp [ers, wts]
/-- what much answers. -/
def MuchOut (n : Nat) (xs : List En) (w : World) (e : Ending) (w' : World) : Prop := ∃ b, e = .returned (.bool b) ∧ (b = false → n ≤ 500 ∧ wts (ers xs) ≤ 20000) ∧ Below w.heap.size w w'
set_option maxHeartbeats 1600000 in
set_option maxRecDepth 1000000 in
theorem much_any (leaf : Bool) (a : Option Addr) (n c : Nat) (xs : List En) (w : World) (h : Ens w a n c xs) (hs : Szd xs) :
    Calls Try.prog 4 #[.agg #[.bool leaf, .slice a n c]] w fun e w' => MuchOut n xs w e w' := by
  have hb0 := heap_alloc_new w (.cells #[.bool leaf, .slice a n c] 25)
  obtain ⟨n0, n1, -⟩ := cells_two hb0
  have HB0 := hide (below_alloc w (.cells #[.bool leaf, .slice a n c] 25))
  have HBk := hide hb0
  have HE := hide (h.below HB0.out)
  have hn : n ≤ 140737488355328 := by have := hs.1; rwa [h.len] at this
  have HS := hide hs
  clear h hb0 hs
  go_enter Try.func4, Try.ntmps4
  go_wp2
  generalize w.alloc (.cells #[.bool leaf, .slice a n c] 25) = w1 at *
  go_loopw [3, 4] (fun s i wr => ∃ (k r : Nat), k ≤ n ∧ i = .int .i64 (k : Int) ∧ s = .int .i64 (r : Int) ∧ r ≤ 500000000000000 ∧ r = n + wts (ers (xs.take k)) ∧ Below w1.heap.size w1 wr) (fun _ i _ => n - (intOf i).toNat)
  case atStart => exact ⟨0, n, Nat.zero_le _, rfl, rfl, by omega, by simp [ers, wts], Below.refl _ _⟩
  case round =>
    obtain ⟨k, r, hk, rfl, rfl, hr5, hre, hbl⟩ := hrel
    have HRe := hide hre
    have HBl := hide hbl
    obtain ⟨m0, m1, -⟩ := cells_two ((hbl.block _ (lt_of_block HBk.out)).trans HBk.out)
    clear hre
    by_cases hlt : k < n
    · by_cases hr : r ≤ 20000
      · obtain ⟨x, hx, hok⟩ := (HE.out.below hbl).at hlt
        obtain ⟨b, off, rfl, hbs, c0, c1, c2, c3⟩ := (HE.out.below hbl).cells hx
        have hsx := HS.out.2 x (List.mem_of_getElem? hx)
        have HW := hide (wts_snoc xs k x hx)
        have d1 : (k : Int) < (n : Int) := by omega
        have d2 : (r : Int) ≤ 20000 := by omega
        have l1 : x.e.key.length ≤ 140737488355328 := hsx.1
        have l2 : x.e.val.length ≤ 140737488355328 := hsx.2
        clear hx hok hbl hsx
        go_wp2
        go_quiet (fail)
        go_wp2
        go_roundw
        case rel => exact ⟨k + 1, r + (x.e.key.length + x.e.val.length), by omega, by go_num, by go_num, by omega, by rw [HW.out, HRe.out]; omega, below_drewN HBl.out _⟩
        case measure => simp [intOf]; omega
      · have d1 : (k : Int) < (n : Int) := by omega
        have d2 : ¬ (r : Int) ≤ 20000 := by omega
        have d3 : (20000 : Int) < (r : Int) := by omega
        go_wp2
        first
        | (go_ret; exact ⟨true, rfl, fun h => by (cases h), HB0.out.trans (HBl.out.mono HB0.out.size)⟩)
        | (go_quiet (fail); go_wp2; go_ret; exact ⟨true, rfl, fun h => by (cases h), HB0.out.trans ((below_drewN HBl.out _).mono HB0.out.size)⟩)
    · obtain rfl : k = n := by omega
      have HF : Hid (xs.take k = xs) := hide (List.take_of_length_le (by rw [HE.out.len]; exact Nat.le_refl _))
      have d1 : ¬ (k : Int) < (k : Int) := by omega
      by_cases hr : 20000 < r
      · have d3 : (20000 : Int) < (r : Int) := by omega
        go_wp2
        first
        | (go_ret; exact ⟨true, rfl, fun h => by (cases h), HB0.out.trans (HBl.out.mono HB0.out.size)⟩)
        | (go_quiet (fail); go_wp2; go_ret; exact ⟨true, rfl, fun h => by (cases h), HB0.out.trans ((below_drewN HBl.out _).mono HB0.out.size)⟩)
      · have d3 : ¬ (20000 : Int) < (r : Int) := by omega
        have HR : Hid (wts (ers xs) ≤ 20000) := by have := HRe.out; rw [HF.out] at this; rw [Hid]; omega
        by_cases h5 : 500 < k
        · have d4 : (500 : Int) < (k : Int) := by omega
          go_wp2
          first
          | (go_ret; exact ⟨true, rfl, fun h => by (cases h), HB0.out.trans (HBl.out.mono HB0.out.size)⟩)
          | (go_quiet (fail); go_wp2; go_ret; exact ⟨true, rfl, fun h => by (cases h), HB0.out.trans ((below_drewN HBl.out _).mono HB0.out.size)⟩)
        · have d4 : ¬ (500 : Int) < (k : Int) := by omega
          have HK5 : Hid (k ≤ 500) := by rw [Hid]; omega
          go_wp2
          first
          | (go_ret; exact ⟨_, rfl, fun _ => ⟨HK5.out, HR.out⟩, HB0.out.trans (HBl.out.mono HB0.out.size)⟩)
          | (go_quiet (fail); go_wp2; go_ret; exact ⟨_, rfl, fun _ => ⟨HK5.out, HR.out⟩, HB0.out.trans ((below_drewN HBl.out _).mono HB0.out.size)⟩)
end Go.Proofs.Ytjojpohnmfkanaa
