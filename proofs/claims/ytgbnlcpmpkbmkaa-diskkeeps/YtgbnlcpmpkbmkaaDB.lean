/- Contracts: bytes all alike, a countdown, how many pages, has it that page. -/
import Derived.Test.YtgbnlcpmpkbmkaaDA
import Derived.Deep.OwnRows
namespace Go.Proofs.Ytgbnlcpmpkbmkaa
open Go.RowKit Go.Maps
set_option linter.unusedVariables false

theorem Try.info5 : (Try.prog.info? 5).map (fun i => (i.zero, i.size, i.bytes)) = some (some (.int .u8 0), 1, 1) := by kernel_rfl
/-- a block of n bytes, the first k of them c. -/
def Fill (w : World) (g n k : Nat) (c : Int) : Prop := ∃ L : Array Value, w.heap[g]? = some (.cells L 5 (0, 0)) ∧ L.size = n ∧ ∀ i, i < k → L[i]? = some (.int .u8 c)
theorem Fill.f {w : World} {g n k : Nat} {c : Int} (h : Fill w g n k c) (i : Nat) : w.frozen? ⟨g, i, none⟩ = false := by obtain ⟨L, h, _⟩ := h; simp [World.frozen?, h]
theorem Fill.c {w : World} {g n k : Nat} {c : Int} (h : Fill w g n k c) (hk : k < n) : ∃ v, w.cell? ⟨g, k, none⟩ = some v := by
  obtain ⟨L, h, h2, _⟩ := h
  exact ⟨L[k]'(by omega), by simp [World.cell?, h, h2, hk]⟩
theorem Fill.set {w : World} {g n k : Nat} {c : Int} (h : Fill w g n k c) (hk : k < n) : Fill (w.setCell ⟨g, k, none⟩ (.int .u8 c)) g n (k + 1) c := by
  obtain ⟨L, h, h2, h3⟩ := h
  refine ⟨_, heap_setCell_same w g k _ 5 _ h, by simpa using h2, fun i hi => ?_⟩
  rw [Array.getElem?_setIfInBounds]
  by_cases e : k = i
  · rw [if_pos e, if_pos (by omega)]
  · rw [if_neg e]; exact h3 i (by omega)
theorem Fill.row {w : World} {g n : Nat} {c : Int} (h : Fill w g n n c) : Row w (some ⟨g, 0, none⟩) (List.replicate n c) := by
  obtain ⟨L, h, h2, h3⟩ := h
  refine .inr ⟨g, 0, rfl, lt_of_block h, fun i hi => ?_⟩
  rw [List.length_replicate] at hi
  have := h3 i hi
  simp only [World.cell?, h, Nat.zero_add, this]
  simp [hi]

set_option maxHeartbeats 800000 in
set_option maxRecDepth 1000000 in
theorem filled_any (n : Nat) (c : Int) (w : World) (hn : n ≤ 100000) :
    Calls Try.prog 23 #[.int .i64 (n : Int), .int .u8 c] w fun e w' => e = .returned (.slice (some ⟨w.heap.size, 0, none⟩) n n) ∧ Row w' (some ⟨w.heap.size, 0, none⟩) (List.replicate n c) ∧ w.heap.size < w'.heap.size ∧ Below w.heap.size w w' := by
  have hmk := run_make_row' (P := Try.prog) 63 5 (.int .u8 0) 1 Try.underlying63 Try.info5 rfl .i64 .i64 n (by omega) (by omega)
  have HB := hide (below_alloc w (.cells (madeCells #[Value.int .u8 0] n) 5))
  have HF : Hid (Fill (w.alloc (.cells (madeCells #[Value.int .u8 0] n) 5)) w.heap.size n 0 c) :=
    ⟨_, heap_alloc_new w _, size_madeCells _ _, fun i hi => by omega⟩
  go_enter Try.func23, Try.ntmps23
  go_wp2
  go_loopw [6] (fun i wr' => ∃ k : Nat, k ≤ n ∧ i = .int .i64 (k : Int) ∧ Fill wr' w.heap.size n k c ∧ Below w.heap.size w wr') (fun i _ => n - (intOf i).toNat)
  case atStart => exact ⟨0, Nat.zero_le _, rfl, HF.out, HB.out⟩
  case round =>
    obtain ⟨k, hk, rfl, hb, hg⟩ := hrel
    have HB := hide hb
    have HG := hide hg
    clear hb hg
    by_cases hlt : k < n
    · obtain ⟨v, hc⟩ := HB.out.c hlt
      have hf := HB.out.f k
      go_wp2
      go_roundw
      case rel => exact ⟨k + 1, by omega, by go_num, HB.out.set hlt, HG.out.setCell (p := ⟨_, _, none⟩) (Nat.le_refl _) _⟩
      case measure => simp [intOf]; omega
    · have e : k = n := by omega
      subst e
      have HR := hide HB.out.row
      have HL : Hid (w.heap.size < wr.heap.size) := by obtain ⟨L, h, _⟩ := HB.out; exact lt_of_block h
      go_wp2
      go_ret
      exact ⟨rfl, HR.out, HL.out, HG.out⟩

/-- a countdown: does it hit, and what is left of it. -/
def tick (s : Bool) (l : Int) : Bool × Bool × Int := if s = true then (if l = 0 then (true, false, 0) else (false, true, l - 1)) else (false, false, l)
set_option maxHeartbeats 800000 in
set_option maxRecDepth 1000000 in
theorem strikes_any (p o : Nat) (s : Bool) (l : Int) (w : World) (h0 : w.cell? ⟨p, o, none⟩ = some (.bool s)) (h1 : w.cell? ⟨p, o + 1, none⟩ = some (.int .i64 l)) (f0 : w.frozen? ⟨p, o, none⟩ = false) (f1 : w.frozen? ⟨p, o + 1, none⟩ = false) (hl : Cd s l) :
    Calls Try.prog 84 #[.pointer (some ⟨p, o, none⟩)] w fun e w' => e = .returned (.bool (tick s l).1) ∧ w' = (if s = true then (if l = 0 then (w.setCell ⟨p, o, none⟩ (.bool false)).setCell ⟨p, o + 1, none⟩ (.int .i64 0) else w.setCell ⟨p, o + 1, none⟩ (.int .i64 (l - 1))) else w) := by
  obtain ⟨l0, l1⟩ := hl
  unfold tick
  cases s
  · go_enter Try.func84, Try.ntmps84
    go_wp2
    go_ret
    exact ⟨rfl, rfl⟩
  · by_cases h : l = 0
    · subst h
      go_enter Try.func84, Try.ntmps84
      go_wp2
      go_ret
      exact ⟨rfl, rfl⟩
    · have hd : (l == 0) = false := by simp [h]
      have hw : Hid (IntKind.i64.wrap (l - 1) = l - 1) := by rw [Hid, IntKind.wrap_i64]; omega
      have hi := hide h
      clear h
      go_enter Try.func84, Try.ntmps84
      go_wp2
      go_ret
      exact ⟨rfl, rfl⟩
end Go.Proofs.Ytgbnlcpmpkbmkaa
