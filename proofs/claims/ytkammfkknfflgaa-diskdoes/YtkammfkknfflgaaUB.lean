/- Ints that are alike; bools: lent, whole, spoilt. -/
import Derived.Test.YtkammfkknfflgaaUA
import Derived.Test.YtkammfkknfflgaaLE
import Derived.Test.YtkammfkknfflgaaAD
namespace Go.Proofs.Ytkammfkknfflgaa
open Go.RowKit
set_option linter.unusedVariables false

theorem below_drewN2 {w w' : World} (h : Below w.heap.size w w') (k : Nat) : Below w.heap.size w (w'.drewN k) := ⟨h.os, h.tape, h.output, h.size, h.block⟩
theorem brow_b {w w' : World} {a : Option Addr} {bs : List Bool} (h : BRow w a bs) (hb : Below w.heap.size w w') : BRow w' a bs := brow_below h hb
set_option maxHeartbeats 800000 in
set_option maxRecDepth 1000000 in
theorem samei_any (a b : Option Addr) (len cap cap2 : Nat) (xs : List Nat) (w : World) (hl : xs.length = len) (hbig : len ≤ 9223372036854775807) (hr : IRow w a xs) (hr2 : IRow w b xs) :
    Calls Try.prog 49 #[.slice a len cap, .slice b len cap2] w fun e w' => e = .returned (.bool true) ∧ Below w.heap.size w w' := by
  have HL := hide hl
  have HR := hide hr
  have HR2 := hide hr2
  clear hl hr hr2
  have hnb : ((len : Int) != (len : Int)) = false := by simp
  go_enter Try.func49, Try.ntmps49
  go_wp2
  go_loopw [5] (fun i wr => ∃ k : Nat, k ≤ len ∧ i = .int .i64 k ∧ Below w.heap.size w wr) (fun i _ => len - (intOf i).toNat)
  case atStart => exact ⟨0, Nat.zero_le _, rfl, Below.refl _ _⟩
  case round =>
    obtain ⟨k, hk, rfl, hbel⟩ := hrel
    have HBel := hide hbel
    clear hbel
    by_cases hlt : k < len
    · have hlk : k < xs.length := by have := HL.out; omega
      rcases HR.out.below HBel.out with h0 | ⟨b1, o1, rfl, _, hc1⟩
      · subst h0; simp at hlk
      rcases HR2.out.below HBel.out with h0 | ⟨b2, o2, rfl, _, hc2⟩
      · subst h0; simp at hlk
      have g1 := hc1 k hlk
      have g2 := hc2 k hlk
      clear hc1 hc2 hlk
      generalize ((xs.getD k 0 : Nat) : Int) = c at g1 g2
      have hbn : (c != c) = false := by simp
      go_wp2
      go_quiet (fail)
      go_wp2
      go_roundw
      case rel => exact ⟨k + 1, by omega, by go_num, below_drewN2 HBel.out _⟩
      case measure => simp [intOf]; omega
    · go_wp2
      go_ret
      exact ⟨rfl, HBel.out⟩
set_option maxHeartbeats 800000 in
set_option maxRecDepth 1000000 in
theorem sameb2_any (a b : Option Addr) (len cap cap2 : Nat) (xs : List Bool) (w : World) (hl : xs.length = len) (hbig : len ≤ 9223372036854775807) (hr : BRow w a xs) (hr2 : BRow w b xs) :
    Calls Try.prog 83 #[.slice a len cap, .slice b len cap2] w fun e w' => e = .returned (.bool true) ∧ Below w.heap.size w w' := by
  have HL := hide hl
  have HR := hide hr
  have HR2 := hide hr2
  clear hl hr hr2
  have hnb : ((len : Int) != (len : Int)) = false := by simp
  go_enter Try.func83, Try.ntmps83
  go_wp2
  go_loopw [5] (fun i wr => ∃ k : Nat, k ≤ len ∧ i = .int .i64 k ∧ Below w.heap.size w wr) (fun i _ => len - (intOf i).toNat)
  case atStart => exact ⟨0, Nat.zero_le _, rfl, Below.refl _ _⟩
  case round =>
    obtain ⟨k, hk, rfl, hbel⟩ := hrel
    have HBel := hide hbel
    clear hbel
    by_cases hlt : k < len
    · have hlk : k < xs.length := by have := HL.out; omega
      rcases brow_b HR.out HBel.out with h0 | ⟨b1, o1, rfl, _, hc1⟩
      · subst h0; simp at hlk
      rcases brow_b HR2.out HBel.out with h0 | ⟨b2, o2, rfl, _, hc2⟩
      · subst h0; simp at hlk
      have g1 := hc1 k hlk
      have g2 := hc2 k hlk
      clear hc1 hc2 hlk
      generalize xs.getD k false = c at g1 g2
      have hbn : (c != c) = false := by simp
      go_wp2
      go_quiet (fail)
      go_wp2
      go_roundw
      case rel => exact ⟨k + 1, by omega, by go_num, below_drewN2 HBel.out _⟩
      case measure => simp [intOf]; omega
    · go_wp2
      go_ret
      exact ⟨rfl, HBel.out⟩

def OwnB (w : World) (v : Value) (bs : List Bool) : Prop := w.ownsRow 0 4 1 v bs.length (bs.map Value.bool)
theorem bools_oneCell (bs : List Bool) : ∀ v ∈ bs.map Value.bool, v.oneCell' = true := by
  intro v hv
  obtain ⟨b, _, rfl⟩ := List.mem_map.1 hv
  rfl
theorem OwnB.of_base {w : World} {base : Nat} {v : Value} {n : Nat} {zs : List Bool} (h : w.ownsRow base 4 1 v n (zs.map Value.bool)) : OwnB w v zs := by
  have e : n = zs.length := by have := h.1; simpa using this.symm
  subst e
  refine ⟨by simp, ?_⟩
  rcases h.2 with h | ⟨g, cap, cur, h1, _, h2⟩
  · exact .inl h
  · exact .inr ⟨g, cap, cur, h1, Nat.zero_le _, h2⟩
theorem OwnB.lt {w : World} {v : Value} {zs : List Bool} (h : OwnB w v zs) {k : Nat} (hk : v.ownBlock = some k) : k < w.heap.size := (World.ownsRow.lt h k hk).2
theorem OwnB.of_block {w w' : World} {v : Value} {zs : List Bool} (h : OwnB w v zs) (hb : ∀ k, v.ownBlock = some k → w'.heap[k]? = w.heap[k]?) : OwnB w' v zs := row_keep h hb
theorem OwnB.brow {w : World} {g n c : Nat} {zs : List Bool} (h : OwnB w (.slice (some ⟨g, 0, none⟩) n c) zs) : BRow w (some ⟨g, 0, none⟩) zs := by
  refine .inr ⟨g, 0, rfl, h.lt rfl, fun i hi => ?_⟩
  have := h.cells (g := g) rfl i (.bool (zs.getD i false)) (by simp [hi])
  rwa [Addr.add_lit] at this
theorem BRow.news {w : World} {a : Option Addr} {zs : List Bool} (h : BRow w a zs) : ∀ ad, a = some ad → ∀ j u, (zs.map Value.bool)[j]? = some u → w.cell? (ad.add j) = some u := by
  intro ad had j u hu
  have hj : j < zs.length := by have := (List.getElem?_eq_some_iff.1 hu).1; simpa using this
  rcases h with rfl | ⟨b, off, rfl, _, hc⟩
  · simp at hj
  · cases had
    rw [Addr.add_lit, hc j hj]
    simp [hj] at hu ⊢
    exact hu
theorem brow_grown {w w' : World} {a : Option Addr} {zs : List Bool} {row : Option Nat} (h : BRow w a zs) (hg : w.grownBy w' row) (hne : ∀ k, row = some k → w.heap.size ≤ k) : BRow w' a zs := by
  rcases h with h | ⟨b, off, rfl, hlt, hc⟩
  · exact .inl h
  · refine .inr ⟨b, off, rfl, Nat.lt_of_lt_of_le hlt hg.size, fun i hi => hg.cell (hc i hi) (fun e => ?_)⟩
    have := hne b e.symm; omega
theorem two_newb (w : World) (x y : Value) : ∀ j u, [x, y][j]? = some u → (w.alloc (.cells #[x, y] 4)).cell? ((⟨w.heap.size, 0, none⟩ : Addr).add j) = some u := by
  intro j u h
  rw [Addr.add_lit, World.cell?_alloc_at _ _ _ _ rfl, Nat.zero_add]
  rw [← h]; simp
theorem infoBool : (Try.prog.info? 4).map (fun i => (i.zero, i.size, i.bytes)) = some (some (.bool false), 1, 1) := by kernel_rfl
set_option maxHeartbeats 800000 in
set_option maxRecDepth 1000000 in
theorem lentb_any (a : Option Addr) (len cap : Nat) (zs : List Bool) (w : World) (hl : zs.length = len) (hbig : len ≤ 100000000) (hn : a = none → len = 0 ∧ cap = 0) (hr : BRow w a zs) :
    Calls Try.prog 44 #[.slice a len cap] w fun e w' => e = .returned (.slice (some ⟨w.heap.size, 0, none⟩) len (len + 2)) ∧ OwnB w' (.slice (some ⟨w.heap.size, 0, none⟩) (len + 2) (len + 2)) (zs ++ [true, false]) ∧ Below w.heap.size w w' := by
  obtain ⟨i0, hi, hz0, hz1, hz2⟩ := info_parts infoBool
  have HL := hide hl
  have HR := hide hr
  have HN := hide hn
  clear hl hr hn
  go_enter Try.func44, Try.ntmps44
  go_wp2_with (at_make; refine wpList_make_own _ rfl _ _ 94 rfl w.heap.size 4 i0 (.bool false) 1 Try.underlying94 hi hz0 hz1 _ _ _ (len + 2) rfl rfl (by omega) ?b2 ?b3 (Nat.le_refl _) ?_)
  case b2 => rw [hz2]; omega
  case b3 => unfold maxLen; omega
  intro w0 hown0 hgrow0
  have hr0 := brow_grown HR.out hgrow0 (by intro k h; cases h)
  have hb0 := (Below.refl w.heap.size w).grown hgrow0 (Nat.le_refl _) (fun k h => by cases h)
  go_wp2_with (first | (at_builtin; refine wpList_append_fits_any _ rfl (.tmp 8) (.tmp 9) 94 rfl w.heap.size 4 i0 1 Try.underlying94 hi hz1 w.heap.size 0 (len + 2) [] rfl hown0 a len cap (zs.map (Value.bool)) rfl (by have := HL.out; simp [this]) HN.out hr0.news (bools_oneCell _) (by omega) ?_; intro w1 hown1 hgrow1; simp only [Nat.zero_add, List.nil_append] at hown1) | (at_builtin; refine wpList_append_fits _ rfl (.tmp 11) (.tmp 12) 94 rfl w.heap.size 4 i0 1 Try.underlying94 hi hz1 w.heap.size len (len + 2) (zs.map (Value.bool)) rfl (hown1.alloc _) ⟨w1.heap.size, 0, none⟩ 2 2 [.bool true, .bool false] rfl rfl (two_newb _ _ _) (bools_oneCell [true, false]) (by omega) ?_; intro w2 hown2 hgrow2))
  have hb1 := hb0.grown hgrow1 hb0.size (fun k hk => by cases hk; exact Nat.le_refl _)
  have hb2 := (hb1.alloc hb1.size (.cells #[.bool true, .bool false] 4)).grown hgrow2 (by have := hb1.size; simp; omega) (fun k hk => by cases hk; exact Nat.le_refl _)
  go_ret
  refine ⟨rfl, OwnB.of_base (base := w.heap.size) (n := len + 2) ?_, hb2⟩
  simpa using hown2

theorem brow_left {w : World} {a : Option Addr} {zs ys : List Bool} (h : BRow w a (zs ++ ys)) : BRow w a zs := by
  rcases h with h | ⟨b, off, rfl, hlt, hc⟩
  · exact .inl (List.append_eq_nil_iff.1 h).1
  · refine .inr ⟨b, off, rfl, hlt, fun i hi => ?_⟩
    have := hc i (by simp; omega)
    rw [this]; simp [List.getElem?_append_left hi]
theorem brow_last {w : World} {g : Nat} {zs : List Bool} (h : BRow w (some ⟨g, 0, none⟩) (zs ++ [true, false])) : w.cell? ⟨g, zs.length, none⟩ = some (.bool true) ∧ w.cell? ⟨g, zs.length + 1, none⟩ = some (.bool false) := by
  rcases h with h | ⟨b, off, e, hlt, hc⟩
  · simp at h
  · cases e
    have h1 := hc zs.length (by simp)
    have h2 := hc (zs.length + 1) (by simp)
    rw [Nat.zero_add] at h1 h2
    rw [h1, h2]
    simp

set_option maxHeartbeats 800000 in
set_option maxRecDepth 1000000 in
theorem wholeb_any (g : Nat) (b : Option Addr) (len cap2 : Nat) (zs : List Bool) (w : World) (hl : zs.length = len) (hbig : len ≤ 100000000) (hr : BRow w (some ⟨g, 0, none⟩) (zs ++ [true, false])) (hr2 : BRow w b zs) :
    Calls Try.prog 46 #[.slice (some ⟨g, 0, none⟩) len (len + 2), .slice b len cap2] w fun e w' => e = .returned (.bool true) ∧ Below w.heap.size w w' := by
  obtain ⟨c1, c2⟩ := brow_last hr
  rw [hl] at c1 c2
  have H := hide (sameb2_any (some ⟨g, 0, none⟩) b len (len + 2) cap2 zs w hl (by omega) (brow_left hr) hr2)
  clear hl hr hr2
  go_enter Try.func46, Try.ntmps46
  go_wp2_with fail
  refine H.out.mono ?_
  rintro e w1 ⟨rfl, hb1⟩
  go_wp2
  go_ret
  exact ⟨rfl, hb1⟩

/-- a block of bytes that is written over. -/
def BlkB (w : World) (g n : Nat) : Prop := ∃ cur, w.heap[g]? = some (.cells cur 4 (0, 0)) ∧ cur.size = n
theorem BlkB.f {w : World} {g n : Nat} (h : BlkB w g n) (i : Nat) : w.frozen? ⟨g, i, none⟩ = false := by obtain ⟨cur, h1, _⟩ := h; simp [World.frozen?, h1]
theorem BlkB.c {w : World} {g n : Nat} (h : BlkB w g n) (i : Nat) (hi : i < n) : ∃ v, w.cell? ⟨g, i, none⟩ = some v := by
  obtain ⟨cur, h1, h2⟩ := h
  exact ⟨cur[i]'(by omega), by simp [World.cell?, h1, h2, hi]⟩
theorem BlkB.set {w : World} {g n : Nat} (h : BlkB w g n) (i : Nat) (v : Value) : BlkB (w.setCell ⟨g, i, none⟩ v) g n := by
  obtain ⟨cur, h1, h2⟩ := h
  exact ⟨_, heap_setCell_same w g i _ 4 _ h1, by simpa using h2⟩
theorem own_blkb {w : World} {g n c : Nat} {zs : List Bool} (h : OwnB w (.slice (some ⟨g, 0, none⟩) n c) zs) : BlkB w g c := by
  rcases h.2 with ⟨e, _⟩ | ⟨g', cap, cur, e, _, hg, _, _, hs, _⟩
  · cases e
  · simp at e
    obtain ⟨rfl, rfl, rfl⟩ := e
    exact ⟨cur, hg, by simpa using hs⟩

set_option maxHeartbeats 800000 in
set_option maxRecDepth 1000000 in
theorem spoilb_any (g len n : Nat) (w : World) (h : BlkB w g n) (hl : len ≤ n) (hn : n ≤ 1000000000) :
    Calls Try.prog 47 #[.slice (some ⟨g, 0, none⟩) len n] w fun e w' => e = .returned (.tuple #[]) ∧ w.grownBy w' (some g) := by
  have H := hide h
  clear h
  go_enter Try.func47, Try.ntmps47
  go_wp2
  go_loopw [3] (fun i wr' => ∃ k : Nat, k ≤ n ∧ i = .int .i64 (k : Int) ∧ BlkB wr' g n ∧ w.grownBy wr' (some g)) (fun i _ => n - (intOf i).toNat)
  case atStart => exact ⟨0, Nat.zero_le _, rfl, H.out, Le.grown_refl _ _⟩
  case round =>
    obtain ⟨k, hk, rfl, hb, hg⟩ := hrel
    have HB := hide hb
    have HG := hide hg
    clear hb hg
    by_cases hlt : k < n
    · obtain ⟨v, hc⟩ := HB.out.c k hlt
      have hf := HB.out.f k
      go_wp2
      go_roundw
      case rel => exact ⟨k + 1, by omega, by go_num, HB.out.set k _, Le.grown_trans HG.out (grown_setCell _ _ _ _)⟩
      case measure => simp [intOf]; omega
    · go_wp2
      go_end0
      exact ⟨rfl, HG.out⟩
end Go.Proofs.Ytkammfkknfflgaa
