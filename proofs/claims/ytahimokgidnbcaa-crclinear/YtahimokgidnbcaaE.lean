/- Contracts of lending bytes, of asking whether two rows of bytes are the same, and whether what was lent is whole. -/
import Derived.Test.YtahimokgidnbcaaB
import Derived.Deep.QuietTactic
import Derived.BigQuiet
import Derived.WalkSmall
namespace Go.Proofs.Ytahimokgidnbcaa
open Go.RowKit
set_option linter.unusedVariables false

theorem Try.info5 : (Try.prog.info? 5).map (fun i => (i.zero, i.size, i.bytes)) = some (some (.int .u8 0), 1, 1) := by kernel_rfl

theorem Row.news {w : World} {a : Option Addr} {zs : List Int} (h : Row w a zs) : ∀ ad, a = some ad → ∀ j u, (zs.map (Value.int .u8))[j]? = some u → w.cell? (ad.add j) = some u := by
  intro ad had j u hu
  have hj : j < zs.length := by have := (List.getElem?_eq_some_iff.1 hu).1; simpa using this
  rcases h with rfl | ⟨b, off, rfl, _, hc⟩
  · simp at hj
  · obtain rfl := Option.some.inj had
    rw [Addr.add_lit, hc j hj]
    rw [← hu]; simp [hj]
theorem Row.grown {w w' : World} {a : Option Addr} {zs : List Int} {row : Option Nat} (h : Row w a zs) (hg : w.grownBy w' row) (hne : ∀ k, row = some k → w.heap.size ≤ k) : Row w' a zs := by
  rcases h with h | ⟨b, off, rfl, hlt, hc⟩
  · exact .inl h
  · refine .inr ⟨b, off, rfl, Nat.lt_of_lt_of_le hlt hg.size, fun i hi => hg.cell (hc i hi) (fun e => ?_)⟩
    have := hne b e.symm; omega
theorem row_of_owns {w : World} {base g n cap : Nat} {zs : List Int} (h : w.ownsRow base 5 1 (.slice (some ⟨g, 0, none⟩) n cap) n (zs.map (Value.int .u8))) : Row w (some ⟨g, 0, none⟩) zs := by
  have hlt := (h.lt g rfl).2
  refine .inr ⟨g, 0, rfl, hlt, fun i hi => ?_⟩
  have := h.cells (g := g) rfl i (.int .u8 (zs.getD i 0)) (by simp [hi])
  rwa [Addr.add_lit] at this

theorem two_new (w : World) (x y : Value) : ∀ j u, [x, y][j]? = some u → (w.alloc (.cells #[x, y] 5)).cell? ((⟨w.heap.size, 0, none⟩ : Addr).add j) = some u := by
  intro j u h
  rw [Addr.add_lit, World.cell?_alloc_at _ _ _ _ rfl, Nat.zero_add]
  rw [← h]; simp

set_option maxHeartbeats 400000 in
theorem lent_any (a : Option Addr) (len cap : Nat) (zs : List Int) (w : World) (hl : zs.length = len) (hbig : len ≤ 100000) (hn : a = none → len = 0 ∧ cap = 0) (hr : Row w a zs) :
    Calls Try.prog 7 #[.slice a len cap] w fun e w' => e = .returned (.slice (some ⟨w.heap.size, 0, none⟩) len (len + 2)) ∧ Row w' (some ⟨w.heap.size, 0, none⟩) (zs ++ [91, 92]) ∧ Below w.heap.size w w' := by
  obtain ⟨i0, hi, hz0, hz1, hz2⟩ := info_parts Try.info5
  have HL := hide hl
  have HR := hide hr
  have HN := hide hn
  clear hl hr hn
  go_enter Try.func7, Try.ntmps7
  go_wp2_with (at_make; refine wpList_make_own _ rfl _ _ 23 rfl w.heap.size 5 i0 (.int .u8 0) 1 Try.underlying23 hi hz0 hz1 _ _ _ (len + 2) rfl rfl (by omega) ?b2 ?b3 (Nat.le_refl _) ?_)
  case b2 => rw [hz2]; omega
  case b3 => unfold maxLen; omega
  intro w0 hown0 hgrow0
  have hr0 := HR.out.grown hgrow0 (by intro k h; cases h)
  have hb0 := (Below.refl w.heap.size w).grown hgrow0 (Nat.le_refl _) (fun k h => by cases h)
  go_wp2_with (first | (at_builtin; refine wpList_append_fits_any _ rfl (.tmp 8) (.tmp 9) 23 rfl w.heap.size 5 i0 1 Try.underlying23 hi hz1 w.heap.size 0 (len + 2) [] rfl hown0 a len cap (zs.map (Value.int .u8)) rfl (by have := HL.out; simp [this]) HN.out hr0.news (ints_oneCell _ _) (by omega) ?_; intro w1 hown1 hgrow1; simp only [Nat.zero_add, List.nil_append] at hown1) | (at_builtin; refine wpList_append_fits _ rfl (.tmp 11) (.tmp 12) 23 rfl w.heap.size 5 i0 1 Try.underlying23 hi hz1 w.heap.size len (len + 2) (zs.map (Value.int .u8)) rfl (hown1.alloc _) ⟨w1.heap.size, 0, none⟩ 2 2 [.int .u8 91, .int .u8 92] rfl rfl (two_new _ _ _) (ints_oneCell .u8 [91, 92]) (by omega) ?_; intro w2 hown2 hgrow2))
  have hb1 := hb0.grown hgrow1 hb0.size (fun k hk => by cases hk; exact Nat.le_refl _)
  have hb2 := (hb1.alloc hb1.size (.cells #[.int .u8 91, .int .u8 92] 5)).grown hgrow2 (by have := hb1.size; simp; omega) (fun k hk => by cases hk; exact Nat.le_refl _)
  go_ret
  refine ⟨rfl, row_of_owns (base := w.heap.size) (n := len + 2) (cap := len + 2) (zs := zs ++ [91, 92]) ?_, hb2⟩
  simpa using hown2

theorem Row.left {w : World} {a : Option Addr} {zs ys : List Int} (h : Row w a (zs ++ ys)) : Row w a zs := by
  rcases h with h | ⟨b, off, rfl, hlt, hc⟩
  · exact .inl (List.append_eq_nil_iff.1 h).1
  · refine .inr ⟨b, off, rfl, hlt, fun i hi => ?_⟩
    have := hc i (by simp; omega)
    rw [this]; simp [List.getElem?_append_left hi]

set_option maxHeartbeats 400000 in
theorem same_any (a b : Option Addr) (len cap cap2 : Nat) (zs : List Int) (w : World) (hl : zs.length = len) (hbig : len ≤ 9223372036854775807) (hr : Row w a zs) (hr2 : Row w b zs) :
    Calls Try.prog 15 #[.slice a len cap, .slice b len cap2] w fun e w' => e = .returned (.bool true) ∧ Below w.heap.size w w' := by
  have HL := hide hl
  have HR := hide hr
  have HR2 := hide hr2
  clear hl hr hr2
  have hne : ((len : Int) != (len : Int)) = false := by simp
  go_enter Try.func15, Try.ntmps15
  go_wp2
  go_loopw [5] (fun i wr => ∃ k : Nat, k ≤ len ∧ i = .int .i64 k ∧ Below w.heap.size w wr) (fun i _ => len - (intOf i).toNat)
  case atStart => exact ⟨0, Nat.zero_le _, rfl, Below.refl _ _⟩
  case round =>
    obtain ⟨k, hk, rfl, hbel⟩ := hrel
    by_cases hlt : k < len
    · have hlk : k < zs.length := by have := HL.out; omega
      rcases HR.out.below hbel with h0 | ⟨b1, o1, rfl, _, hc1⟩
      · subst h0; simp at hlk
      rcases HR2.out.below hbel with h0 | ⟨b2, o2, rfl, _, hc2⟩
      · subst h0; simp at hlk
      have g1 := hc1 k hlk
      have g2 := hc2 k hlk
      generalize zs.getD k 0 = c at *
      clear hc1 hc2
      have hbn : (c != c) = false := by simp
      have HBel := hide hbel
      clear hbel
      go_wp2
      go_quiet (fail)
      go_wp2
      go_roundw
      case rel => exact ⟨k + 1, by omega, by go_num, below_drewN HBel.out _⟩
      case measure => simp [intOf]; omega
    · go_wp2
      go_ret
      exact ⟨rfl, hbel⟩

theorem Row.last {w : World} {g : Nat} {zs : List Int} (h : Row w (some ⟨g, 0, none⟩) (zs ++ [91, 92])) : w.cell? ⟨g, zs.length, none⟩ = some (.int .u8 91) ∧ w.cell? ⟨g, zs.length + 1, none⟩ = some (.int .u8 92) := by
  rcases h with h | ⟨b, off, e, hlt, hc⟩
  · simp at h
  · cases e
    have h1 := hc zs.length (by simp)
    have h2 := hc (zs.length + 1) (by simp)
    rw [Nat.zero_add] at h1 h2
    rw [h1, h2]
    simp

set_option maxHeartbeats 400000 in
theorem whole_any (g : Nat) (b : Option Addr) (len cap2 : Nat) (zs : List Int) (w : World) (hl : zs.length = len) (hbig : len ≤ 100000) (hr : Row w (some ⟨g, 0, none⟩) (zs ++ [91, 92])) (hr2 : Row w b zs) :
    Calls Try.prog 10 #[.slice (some ⟨g, 0, none⟩) len (len + 2), .slice b len cap2] w fun e w' => e = .returned (.bool true) ∧ Below w.heap.size w w' := by
  obtain ⟨c1, c2⟩ := hr.last
  rw [hl] at c1 c2
  have H := hide (same_any (some ⟨g, 0, none⟩) b len (len + 2) cap2 zs w hl (by omega) hr.left hr2)
  clear hl hr hr2
  go_enter Try.func10, Try.ntmps10
  go_wp2_with fail
  refine H.out.mono ?_
  rintro e w1 ⟨rfl, hb1⟩
  go_wp2
  go_ret
  exact ⟨rfl, hb1⟩
end Go.Proofs.Ytahimokgidnbcaa
