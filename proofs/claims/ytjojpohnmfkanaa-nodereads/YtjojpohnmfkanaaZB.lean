/- The document's own: how long an entry is. -/
import Derived.Test.YtjojpohnmfkanaaSB
namespace Go.Proofs.Ytjojpohnmfkanaa
open Go.RowKit
set_option linter.unusedVariables false

set_option maxHeartbeats 800000 in
set_option maxRecDepth 1000000 in
theorem resize_any (leaf : Bool) (x : En) (w : World) (hk : x.e.key.length ≤ 1000000) (hv : x.e.val.length ≤ 1000000) :
    Calls Try.prog 91 #[.bool leaf, .agg #[.slice x.ka x.e.key.length x.kc, .slice x.va x.e.val.length x.vc, .int .u32 (x.e.page : Int), .int .u32 (x.e.size : Int)]] w fun e w' => e = .returned (.int .i64 ((x.e.sz leaf : Nat) : Int)) ∧ Below w.heap.size w w' := by
  obtain ⟨e, ka, kc, va, vc⟩ := x
  obtain ⟨key, val, page, size⟩ := e
  simp only [] at hk hv ⊢
  obtain ⟨b0, b1, b2, b3⟩ := box4 w (.slice ka key.length kc) (.slice va val.length vc) (.int .u32 (page : Int)) (.int .u32 (size : Int)) 68
  have HB := hide (below_alloc w (.cells #[.slice ka key.length kc, .slice va val.length vc, .int .u32 (page : Int), .int .u32 (size : Int)] 68))
  cases leaf with
  | false =>
    go_enter Try.func91, Try.ntmps91
    go_wp2
    go_ret
    exact ⟨by simp [Ee.sz], HB.out⟩
  | true =>
    by_cases hp : page = 0
    · subst hp
      go_enter Try.func91, Try.ntmps91
      go_wp2
      go_ret
      exact ⟨by simp [Ee.sz], HB.out⟩
    · have hpb : ((page : Int) == 0) = false := by simp; omega
      go_enter Try.func91, Try.ntmps91
      go_wp2
      go_ret
      exact ⟨by simp [Ee.sz, hp], HB.out⟩
end Go.Proofs.Ytjojpohnmfkanaa
/- The document's own: how long a node is. -/
namespace Go.Proofs.Ytjojpohnmfkanaa
open Go.RowKit
set_option linter.unusedVariables false

/-- what a cell holds stays where nothing old turns. -/
theorem cstays {w w' : World} {p : Addr} {v : Value} (h : Below w.heap.size w w') (hc : w.cell? p = some v) : w'.cell? p = some v := (h.cell (World.block_lt_of_cell? w _ hc)).trans hc
set_option maxHeartbeats 1600000 in
set_option maxRecDepth 1000000 in
theorem rsize_any (leaf : Bool) (a : Option Addr) (n c : Nat) (xs : List En) (w : World) (h : Ens w a n c xs) (hn : n ≤ 1000000) (hw : wts (ers xs) ≤ 1000000) :
    Calls Try.prog 75 #[.agg #[.bool leaf, .slice a n c]] w fun e w' => e = .returned (.int .i64 ((nsz leaf (ers xs) : Nat) : Int)) ∧ Below w.heap.size w w' := by
  have hb0 := heap_alloc_new w (.cells #[.bool leaf, .slice a n c] 25)
  obtain ⟨n0, n1, -⟩ := cells_two hb0
  have HB0 := hide (below_alloc w (.cells #[.bool leaf, .slice a n c] 25))
  have HBk := hide hb0
  have HE := hide (h.below HB0.out)
  have hsum : esum leaf (ers xs) ≤ 11000000 := by have := esum_le leaf (ers xs); rw [ers_len, h.len] at this; omega
  have HSum := hide hsum
  have HW := hide hw
  clear h hb0 hsum hw
  go_enter Try.func75, Try.ntmps75
  go_wp2
  generalize w.alloc (.cells #[.bool leaf, .slice a n c] 25) = w1 at *
  go_loopw [3, 4] (fun s i wr => ∃ k : Nat, k ≤ n ∧ i = .int .i64 (k : Int) ∧ s = .int .i64 ((2 + esum leaf (ers (xs.take k)) : Nat) : Int) ∧ Below w1.heap.size w1 wr) (fun _ i _ => n - (intOf i).toNat)
  case atStart => exact ⟨0, Nat.zero_le _, rfl, rfl, Below.refl _ _⟩
  case round =>
    obtain ⟨k, hk, rfl, rfl, hbl⟩ := hrel
    have HBl := hide hbl
    obtain ⟨m0, m1, -⟩ := cells_two ((hbl.block _ (lt_of_block HBk.out)).trans HBk.out)
    by_cases hlt : k < n
    · obtain ⟨x, hx, hok⟩ := (HE.out.below hbl).at hlt
      obtain ⟨b, off, rfl, hbs, c0, c1, c2, c3⟩ := (HE.out.below hbl).cells hx
      have hl := mem_wts hx
      have HX := hide (fun W => resize_any leaf x W (by have := HW.out; omega) (by have := HW.out; omega))
      have hs1 := esum_snoc leaf xs k x hx
      have hs2 := esum_take_le leaf xs (k + 1)
      have hs3 : esum leaf (ers (xs.take k)) ≤ 11000000 := by have := HSum.out; omega
      have HS1 := hide hs1
      have hz : (x.e.sz leaf : Int) ≤ 11000000 := by have := HSum.out; omega
      clear hs1 hs2 hl hok hbl hx
      generalize esum leaf (ers (xs.take k)) = E at *
      generalize x.e.sz leaf = Z at *
      have HSt : Hid (∀ W, Below wr.heap.size wr W → W.cell? ⟨w.heap.size, 0, none⟩ = some (.bool leaf) ∧ W.cell? ⟨w.heap.size, 1, none⟩ = some (.slice (some ⟨b, off, none⟩) n c) ∧ W.cell? ⟨b, off + k * 4, none⟩ = some (.slice x.ka x.e.key.length x.kc) ∧ W.cell? ⟨b, off + k * 4 + 1, none⟩ = some (.slice x.va x.e.val.length x.vc) ∧ W.cell? ⟨b, off + k * 4 + 2, none⟩ = some (.int .u32 (x.e.page : Int)) ∧ W.cell? ⟨b, off + k * 4 + 3, none⟩ = some (.int .u32 (x.e.size : Int))) := hide fun W hb =>
        ⟨cstays hb m0, cstays hb m1, cstays hb c0, cstays hb c1, cstays hb c2, cstays hb c3⟩
      have hwr : IntKind.i64.wrap (2 + (E : Int) + (Z : Int)) = 2 + (E : Int) + (Z : Int) := by rw [IntKind.wrap_i64] <;> omega
      go_wp2
      go_region_held3 (fun W => W.cell? ⟨w.heap.size, 0, none⟩ = some (.bool leaf) ∧ W.cell? ⟨w.heap.size, 1, none⟩ = some (.slice (some ⟨b, off, none⟩) n c) ∧ W.cell? ⟨b, off + k * 4, none⟩ = some (.slice x.ka x.e.key.length x.kc) ∧ W.cell? ⟨b, off + k * 4 + 1, none⟩ = some (.slice x.va x.e.val.length x.vc) ∧ W.cell? ⟨b, off + k * 4 + 2, none⟩ = some (.int .u32 (x.e.page : Int)) ∧ W.cell? ⟨b, off + k * 4 + 3, none⟩ = some (.int .u32 (x.e.size : Int))) ((refine ⟨?_, ?_, ?_, ?_, ?_, ?_⟩ <;> assumption)) ((first | (go_at_call 91; refine (HX.out _).mono ?_; intro r' w2 hh; obtain ⟨rfl, hb2⟩ := hh; have HB2 : Hid (Below wr.heap.size wr w2) := hide ((Below.refl _ _).drew.trans hb2); clear m0 m1 c0 c1 c2 c3 hb2; obtain ⟨m0, m1, c0, c1, c2, c3⟩ := HSt.out w2 HB2.out)))
      go_wp2
      go_roundw
      case rel => exact ⟨k + 1, by omega, by go_num, by rw [HS1.out]; simp; omega, HBl.out.trans (HB2.out.mono HBl.out.size)⟩
      case measure => simp [intOf]; omega
    · obtain rfl : k = n := by omega
      have HF : Hid (xs.take k = xs) := hide (List.take_of_length_le (by rw [HE.out.len]; exact Nat.le_refl _))
      go_wp2
      go_ret
      exact ⟨by rw [HF.out]; rfl, HB0.out.trans (HBl.out.mono HB0.out.size)⟩
end Go.Proofs.Ytjojpohnmfkanaa
