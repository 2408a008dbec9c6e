/- How long an entry is, and a node. -/
import Derived.Test.YtjojpohnmfkanaaE
namespace Go.Proofs.Ytjojpohnmfkanaa
open Go.RowKit
set_option linter.unusedVariables false

set_option maxHeartbeats 800000 in
set_option maxRecDepth 1000000 in
theorem esize_any (leaf : Bool) (x : En) (w : World) (hk : x.e.key.length ≤ 1000000) (hv : x.e.val.length ≤ 1000000) :
    Calls Try.prog 70 #[.bool leaf, .agg #[.slice x.ka x.e.key.length x.kc, .slice x.va x.e.val.length x.vc, .int .u32 (x.e.page : Int), .int .u32 (x.e.size : Int)]] w fun e w' => e = .returned (.int .i64 ((x.e.sz leaf : Nat) : Int)) ∧ Below w.heap.size w w' := by
  obtain ⟨e, ka, kc, va, vc⟩ := x
  obtain ⟨key, val, page, size⟩ := e
  simp only [] at hk hv ⊢
  obtain ⟨b0, b1, b2, b3⟩ := box4 w (.slice ka key.length kc) (.slice va val.length vc) (.int .u32 (page : Int)) (.int .u32 (size : Int)) 68
  have HB := hide (below_alloc w (.cells #[.slice ka key.length kc, .slice va val.length vc, .int .u32 (page : Int), .int .u32 (size : Int)] 68))
  cases leaf with
  | false =>
    go_enter Try.func70, Try.ntmps70
    go_wp2
    go_ret
    exact ⟨by simp [Ee.sz], HB.out⟩
  | true =>
    by_cases hp : page = 0
    · subst hp
      go_enter Try.func70, Try.ntmps70
      go_wp2
      go_ret
      exact ⟨by simp [Ee.sz], HB.out⟩
    · have hpb : ((page : Int) == 0) = false := by simp; omega
      go_enter Try.func70, Try.ntmps70
      go_wp2
      go_ret
      exact ⟨by simp [Ee.sz, hp]; omega, HB.out⟩
end Go.Proofs.Ytjojpohnmfkanaa
/- How long a node is. -/
namespace Go.Proofs.Ytjojpohnmfkanaa
open Go.RowKit
set_option linter.unusedVariables false

theorem esum_snoc (leaf : Bool) (xs : List En) (k : Nat) (x : En) (h : xs[k]? = some x) : esum leaf (ers (xs.take (k + 1))) = esum leaf (ers (xs.take k)) + x.e.sz leaf := by
  rw [take_at h, ers_app, esum_app]
  simp [ers, esum]
theorem esum_take_le (leaf : Bool) (xs : List En) (k : Nat) : esum leaf (ers (xs.take k)) ≤ esum leaf (ers xs) := by
  conv => rhs; rw [← List.take_append_drop k xs, ers_app, esum_app]
  omega
theorem mem_wts {xs : List En} {k : Nat} {x : En} (h : xs[k]? = some x) : x.e.key.length + x.e.val.length ≤ wts (ers xs) := wts_mem (List.mem_map.2 ⟨x, List.mem_of_getElem? h, rfl⟩)
set_option maxHeartbeats 1600000 in
set_option maxRecDepth 1000000 in
theorem size_any (leaf : Bool) (a : Option Addr) (n c : Nat) (xs : List En) (w : World) (h : Ens w a n c xs) (hn : n ≤ 1000000) (hw : wts (ers xs) ≤ 1000000) :
    Calls Try.prog 27 #[.agg #[.bool leaf, .slice a n c]] w fun e w' => e = .returned (.int .i64 ((nsz leaf (ers xs) : Nat) : Int)) ∧ Below w.heap.size w w' := by
  have hb0 := heap_alloc_new w (.cells #[.bool leaf, .slice a n c] 25)
  obtain ⟨n0, n1, -⟩ := cells_two hb0
  have HB0 := hide (below_alloc w (.cells #[.bool leaf, .slice a n c] 25))
  have HS0 : Hid (w.heap.size < (w.alloc (.cells #[.bool leaf, .slice a n c] 25)).heap.size) := by rw [Hid]; simp
  have HE := hide (h.below HB0.out)
  have hsum : esum leaf (ers xs) ≤ 11000000 := by have := esum_le leaf (ers xs); rw [ers_len, h.len] at this; omega
  have HSum := hide hsum
  have HW := hide hw
  clear h hb0 hsum hw
  go_enter Try.func27, Try.ntmps27
  go_wp2
  generalize w.alloc (.cells #[.bool leaf, .slice a n c] 25) = w1 at *
  go_loopw [3, 9] (fun s i wr => ∃ k : Nat, k ≤ n ∧ i = .int .i64 (k : Int) ∧ s = .int .i64 ((2 + esum leaf (ers (xs.take k)) : Nat) : Int) ∧ Below w1.heap.size w1 wr) (fun _ i _ => n - (intOf i).toNat)
  case atStart => exact ⟨0, Nat.zero_le _, rfl, rfl, Below.refl _ _⟩
  case round =>
    obtain ⟨k, hk, rfl, rfl, hbl⟩ := hrel
    have HBl := hide hbl
    by_cases hlt : k < n
    · obtain ⟨x, hx, hok⟩ := (HE.out.below hbl).at hlt
      obtain ⟨b, off, rfl, hbs, c0, c1, c2, c3⟩ := (HE.out.below hbl).cells hx
      have m0 : wr.cell? ⟨w.heap.size, 0, none⟩ = some (.bool leaf) := (hbl.cell (p := ⟨w.heap.size, 0, none⟩) HS0.out).trans n0
      have hl := mem_wts hx
      have HX := hide (fun W => esize_any leaf x W (by have := HW.out; omega) (by have := HW.out; omega))
      have hs1 := esum_snoc leaf xs k x hx
      have hs2 := esum_take_le leaf xs (k + 1)
      have hs3 : esum leaf (ers (xs.take k)) ≤ 11000000 := by have := HSum.out; omega
      have HS1 := hide hs1
      have hz : (x.e.sz leaf : Int) ≤ 11000000 := by have := HSum.out; omega
      have hBn := below_alloc wr (.cells #[.slice x.ka x.e.key.length x.kc, .slice x.va x.e.val.length x.vc, .int .u32 (x.e.page : Int), .int .u32 (x.e.size : Int)] 68)
      have HBn := hide (hbl.trans (hBn.mono hbl.size))
      have m1 := (hBn.cell (p := ⟨w.heap.size, 0, none⟩) (World.block_lt_of_cell? wr _ m0)).trans m0
      clear hs1 hs2 hl hok hbl hx hBn
      generalize esum leaf (ers (xs.take k)) = E at *
      generalize x.e.sz leaf = Z at *
      go_wp2_with (go_at_call 70; refine (HX.out _).mono ?_; rintro e w2 ⟨rfl, hb2⟩)
      go_roundw
      case rel => exact ⟨k + 1, by omega, by go_num, by rw [HS1.out]; simp; omega, HBn.out.trans (hb2.mono HBn.out.size)⟩
      case measure => simp [intOf]; omega
    · obtain rfl : k = n := by omega
      have HF : Hid (xs.take k = xs) := hide (List.take_of_length_le (by rw [HE.out.len]; exact Nat.le_refl _))
      go_wp2
      go_ret
      exact ⟨by rw [HF.out]; rfl, HB0.out.trans (HBl.out.mono HB0.out.size)⟩
end Go.Proofs.Ytjojpohnmfkanaa
