/- Contracts of lending bytes, of asking whether what was lent is whole, and of writing over it. -/
import Derived.Test.YtpoanlbjhhlagaaHA
import Derived.Test.YtpoanlbjhhlagaaGE
import Derived.Test.YtpoanlbjhhlagaaLT
namespace Go.Proofs.Ytpoanlbjhhlagaa.Le
open Go.RowKit Go.Proofs.Ytpoanlbjhhlagaa.Bo
set_option linter.unusedVariables false

theorem grown_refl (w : World) (r : Option Nat) : w.grownBy w r := ⟨rfl, rfl, rfl, Nat.le_refl _, fun _ _ _ => rfl⟩
theorem grown_trans {a b c : World} {r : Option Nat} (h : a.grownBy b r) (k : b.grownBy c r) : a.grownBy c r :=
  ⟨k.os.trans h.os, k.tape.trans h.tape, k.output.trans h.output, Nat.le_trans h.size k.size, fun i hi hn => (k.block i (Nat.lt_of_lt_of_le hi h.size) hn).trans (h.block i hi hn)⟩

theorem row_grown {w w' : World} {a : Option Addr} {zs : List Int} {row : Option Nat} (h : Row w a zs) (hg : w.grownBy w' row) (hne : ∀ k, row = some k → w.heap.size ≤ k) : Row w' a zs := by
  rcases h with h | ⟨b, off, rfl, hlt, hc⟩
  · exact .inl h
  · refine .inr ⟨b, off, rfl, Nat.lt_of_lt_of_le hlt hg.size, fun i hi => hg.cell (hc i hi) (fun e => ?_)⟩
    have := hne b e.symm; omega
theorem two_new (w : World) (x y : Value) : ∀ j u, [x, y][j]? = some u → (w.alloc (.cells #[x, y] 5)).cell? ((⟨w.heap.size, 0, none⟩ : Addr).add j) = some u := by
  intro j u h
  rw [Addr.add_lit, World.cell?_alloc_at _ _ _ _ rfl, Nat.zero_add]
  rw [← h]; simp
theorem of_base {w : World} {base : Nat} {v : Value} {n : Nat} {zs : List Int} (h : w.ownsRow base 5 1 v n (zs.map (Value.int .u8))) : Own w v zs := by
  have e : n = zs.length := by have := h.1; simpa using this.symm
  subst e
  refine ⟨by simp, ?_⟩
  rcases h.2 with h | ⟨g, cap, cur, h1, _, h2⟩
  · exact .inl h
  · exact .inr ⟨g, cap, cur, h1, Nat.zero_le _, h2⟩

set_option maxHeartbeats 800000 in
set_option maxRecDepth 1000000 in
theorem lent_any (a : Option Addr) (len cap : Nat) (zs : List Int) (w : World) (hl : zs.length = len) (hbig : len ≤ 140737488351232) (hn : a = none → len = 0 ∧ cap = 0) (hr : Row w a zs) :
    Calls Try.prog 25 #[.slice a len cap] w fun e w' => e = .returned (.slice (some ⟨w.heap.size, 0, none⟩) len (len + 2)) ∧ Own w' (.slice (some ⟨w.heap.size, 0, none⟩) (len + 2) (len + 2)) (zs ++ [91, 92]) ∧ Below w.heap.size w w' := by
  obtain ⟨i0, hi, hz0, hz1, hz2⟩ := info_parts Bo.infoBytes_e
  have HL := hide hl
  have HR := hide hr
  have HN := hide hn
  clear hl hr hn
  go_enter Try.func25, Try.ntmps25
  go_wp2_with (at_make; refine wpList_make_own _ rfl _ _ 33 rfl w.heap.size 5 i0 (.int .u8 0) 1 Try.underlying33 hi hz0 hz1 _ _ _ (len + 2) rfl rfl (by omega) ?b2 ?b3 (Nat.le_refl _) ?_)
  case b2 => rw [hz2]; omega
  case b3 => unfold maxLen; omega
  intro w0 hown0 hgrow0
  have hr0 := row_grown HR.out hgrow0 (by intro k h; cases h)
  have hb0 := (Below.refl w.heap.size w).grown hgrow0 (Nat.le_refl _) (fun k h => by cases h)
  go_wp2_with (first | (at_builtin; refine wpList_append_fits_any _ rfl (.tmp 8) (.tmp 9) 33 rfl w.heap.size 5 i0 1 Try.underlying33 hi hz1 w.heap.size 0 (len + 2) [] rfl hown0 a len cap (zs.map (Value.int .u8)) rfl (by have := HL.out; simp [this]) HN.out hr0.news (ints_oneCell _ _) (by omega) ?_; intro w1 hown1 hgrow1; simp only [Nat.zero_add, List.nil_append] at hown1) | (at_builtin; refine wpList_append_fits _ rfl (.tmp 11) (.tmp 12) 33 rfl w.heap.size 5 i0 1 Try.underlying33 hi hz1 w.heap.size len (len + 2) (zs.map (Value.int .u8)) rfl (hown1.alloc _) ⟨w1.heap.size, 0, none⟩ 2 2 [.int .u8 91, .int .u8 92] rfl rfl (two_new _ _ _) (ints_oneCell .u8 [91, 92]) (by omega) ?_; intro w2 hown2 hgrow2))
  have hb1 := hb0.grown hgrow1 hb0.size (fun k hk => by cases hk; exact Nat.le_refl _)
  have hb2 := (hb1.alloc hb1.size (.cells #[.int .u8 91, .int .u8 92] 5)).grown hgrow2 (by have := hb1.size; simp; omega) (fun k hk => by cases hk; exact Nat.le_refl _)
  go_ret
  refine ⟨rfl, of_base (base := w.heap.size) (n := len + 2) ?_, hb2⟩
  simpa using hown2

theorem row_left {w : World} {a : Option Addr} {zs ys : List Int} (h : Row w a (zs ++ ys)) : Row w a zs := by
  rcases h with h | ⟨b, off, rfl, hlt, hc⟩
  · exact .inl (List.append_eq_nil_iff.1 h).1
  · refine .inr ⟨b, off, rfl, hlt, fun i hi => ?_⟩
    have := hc i (by simp; omega)
    rw [this]; simp [List.getElem?_append_left hi]
theorem row_last {w : World} {g : Nat} {zs : List Int} (h : Row w (some ⟨g, 0, none⟩) (zs ++ [91, 92])) : w.cell? ⟨g, zs.length, none⟩ = some (.int .u8 91) ∧ w.cell? ⟨g, zs.length + 1, none⟩ = some (.int .u8 92) := by
  rcases h with h | ⟨b, off, e, hlt, hc⟩
  · simp at h
  · cases e
    have h1 := hc zs.length (by simp)
    have h2 := hc (zs.length + 1) (by simp)
    rw [Nat.zero_add] at h1 h2
    rw [h1, h2]
    simp

set_option maxHeartbeats 800000 in
set_option maxRecDepth 1000000 in
theorem whole_any (g : Nat) (b : Option Addr) (len cap2 : Nat) (zs : List Int) (w : World) (hbig : len ≤ 140737488351232) (hr : Row w (some ⟨g, 0, none⟩) (zs ++ [91, 92])) (hr2 : Inn w b len cap2 zs) :
    Calls Try.prog 27 #[.slice (some ⟨g, 0, none⟩) len (len + 2), .slice b len cap2] w fun e w' => e = .returned (.bool true) ∧ Below w.heap.size w w' := by
  have hl := hr2.len
  obtain ⟨c1, c2⟩ := row_last hr
  rw [hl] at c1 c2
  have H := hide (sameb_yes (some ⟨g, 0, none⟩) b len (len + 2) cap2 zs w ⟨hl, by omega, by omega, fun e => (by cases e), row_left hr, hr2.byts⟩ hr2)
  clear hl hr hr2
  go_enter Try.func27, Try.ntmps27
  go_wp2_with fail
  refine H.out.mono ?_
  rintro e w1 ⟨rfl, hb1⟩
  go_wp2
  go_ret
  exact ⟨rfl, hb1⟩

/-- a block of bytes that is written over. -/
def Blk (w : World) (g n : Nat) : Prop := ∃ cur, w.heap[g]? = some (.cells cur 5 (0, 0)) ∧ cur.size = n
theorem Blk.f {w : World} {g n : Nat} (h : Blk w g n) (i : Nat) : w.frozen? ⟨g, i, none⟩ = false := by obtain ⟨cur, h1, _⟩ := h; simp [World.frozen?, h1]
theorem Blk.c {w : World} {g n : Nat} (h : Blk w g n) (i : Nat) (hi : i < n) : ∃ v, w.cell? ⟨g, i, none⟩ = some v := by
  obtain ⟨cur, h1, h2⟩ := h
  exact ⟨cur[i]'(by omega), by simp [World.cell?, h1, h2, hi]⟩
theorem Blk.set {w : World} {g n : Nat} (h : Blk w g n) (i : Nat) (v : Value) : Blk (w.setCell ⟨g, i, none⟩ v) g n := by
  obtain ⟨cur, h1, h2⟩ := h
  exact ⟨_, heap_setCell_same w g i _ 5 _ h1, by simpa using h2⟩
theorem own_blk {w : World} {g n c : Nat} {zs : List Int} (h : Own w (.slice (some ⟨g, 0, none⟩) n c) zs) : Blk w g c := by
  rcases h.2 with ⟨e, _⟩ | ⟨g', cap, cur, e, _, hg, _, _, hs, _⟩
  · cases e
  · simp at e
    obtain ⟨rfl, rfl, rfl⟩ := e
    exact ⟨cur, hg, by simpa using hs⟩

set_option maxHeartbeats 800000 in
set_option maxRecDepth 1000000 in
theorem spoil_any (g len n : Nat) (w : World) (h : Blk w g n) (hl : len ≤ n) (hn : n ≤ 1407374883552320) :
    Calls Try.prog 28 #[.slice (some ⟨g, 0, none⟩) len n] w fun e w' => e = .returned (.tuple #[]) ∧ w.grownBy w' (some g) := by
  have H := hide h
  clear h
  go_enter Try.func28, Try.ntmps28
  go_wp2
  go_loopw [3] (fun i wr' => ∃ k : Nat, k ≤ n ∧ i = .int .i64 (k : Int) ∧ Blk wr' g n ∧ w.grownBy wr' (some g)) (fun i _ => n - (intOf i).toNat)
  case atStart => exact ⟨0, Nat.zero_le _, rfl, H.out, grown_refl _ _⟩
  case round =>
    obtain ⟨k, hk, rfl, hb, hg⟩ := hrel
    have HB := hide hb
    have HG := hide hg
    clear hb hg
    by_cases hlt : k < n
    · obtain ⟨v, hc⟩ := HB.out.c k hlt
      have hf := HB.out.f k
      go_wp2
      go_roundw
      case rel => exact ⟨k + 1, by omega, by go_num, HB.out.set k _, grown_trans HG.out (grown_setCell _ _ _ _)⟩
      case measure => simp [intOf]; omega
    · go_wp2
      go_end0
      exact ⟨rfl, HG.out⟩
end Go.Proofs.Ytpoanlbjhhlagaa.Le
