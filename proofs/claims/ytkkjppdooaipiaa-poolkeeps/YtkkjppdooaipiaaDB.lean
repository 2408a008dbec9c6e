/- Contracts: bytes all alike, a countdown, how many pages, has it that page. -/
import Derived.Test.YtkkjppdooaipiaaDA
import Derived.Deep.OwnRows
namespace Go.Proofs.Ytkkjppdooaipiaa
open Go.RowKit Go.Maps
set_option linter.unusedVariables false

theorem Try.info5 : (Try.prog.info? 5).map (fun i => (i.zero, i.size, i.bytes)) = some (some (.int .u8 0), 1, 1) := by kernel_rfl
/-- a block of n bytes, the first k of them c. -/
def Fill (w : World) (g n k : Nat) (c : Int) : Prop := ∃ L : Array Value, w.heap[g]? = some (.cells L 5 (0, 0)) ∧ L.size = n ∧ ∀ i, i < k → L[i]? = some (.int .u8 c)
theorem Fill.f {w : World} {g n k : Nat} {c : Int} (h : Fill w g n k c) (i : Nat) : w.frozen? ⟨g, i, none⟩ = false := by obtain ⟨L, h, _⟩ := h; simp [World.frozen?, h]
theorem Fill.c {w : World} {g n k : Nat} {c : Int} (h : Fill w g n k c) (hk : k < n) : ∃ v, w.cell? ⟨g, k, none⟩ = some v := by
  obtain ⟨L, h, h2, _⟩ := h
  exact ⟨L[k]'(by omega), by simp [World.cell?, h, h2, hk]⟩
theorem Fill.set {w : World} {g n k : Nat} {c : Int} (h : Fill w g n k c) (hk : k < n) : Fill (w.setCell ⟨g, k, none⟩ (.int .u8 c)) g n (k + 1) c := by
  obtain ⟨L, h, h2, h3⟩ := h
  refine ⟨_, heap_setCell_same w g k _ 5 _ h, by simpa using h2, fun i hi => ?_⟩
  rw [Array.getElem?_setIfInBounds]
  by_cases e : k = i
  · rw [if_pos e, if_pos (by omega)]
  · rw [if_neg e]; exact h3 i (by omega)
theorem Fill.row {w : World} {g n : Nat} {c : Int} (h : Fill w g n n c) : Row w (some ⟨g, 0, none⟩) (List.replicate n c) := by
  obtain ⟨L, h, h2, h3⟩ := h
  refine .inr ⟨g, 0, rfl, lt_of_block h, fun i hi => ?_⟩
  rw [List.length_replicate] at hi
  have := h3 i hi
  simp only [World.cell?, h, Nat.zero_add, this]
  simp [hi]

/-- a countdown: does it hit, and what is left of it. -/
def tick (s : Bool) (l : Int) : Bool × Bool × Int := if s = true then (if l = 0 then (true, false, 0) else (false, true, l - 1)) else (false, false, l)
set_option maxHeartbeats 800000 in
set_option maxRecDepth 1000000 in
theorem strikes_any (p o : Nat) (s : Bool) (l : Int) (w : World) (h0 : w.cell? ⟨p, o, none⟩ = some (.bool s)) (h1 : w.cell? ⟨p, o + 1, none⟩ = some (.int .i64 l)) (f0 : w.frozen? ⟨p, o, none⟩ = false) (f1 : w.frozen? ⟨p, o + 1, none⟩ = false) (hl : Cd s l) :
    Calls Try.prog 54 #[.pointer (some ⟨p, o, none⟩)] w fun e w' => e = .returned (.bool (tick s l).1) ∧ w' = (if s = true then (if l = 0 then (w.setCell ⟨p, o, none⟩ (.bool false)).setCell ⟨p, o + 1, none⟩ (.int .i64 0) else w.setCell ⟨p, o + 1, none⟩ (.int .i64 (l - 1))) else w) := by
  obtain ⟨l0, l1⟩ := hl
  unfold tick
  cases s
  · go_enter Try.func54, Try.ntmps54
    go_wp2
    go_ret
    exact ⟨rfl, rfl⟩
  · by_cases h : l = 0
    · subst h
      go_enter Try.func54, Try.ntmps54
      go_wp2
      go_ret
      exact ⟨rfl, rfl⟩
    · have hd : (l == 0) = false := by simp [h]
      have hw : Hid (IntKind.i64.wrap (l - 1) = l - 1) := by rw [Hid, IntKind.wrap_i64]; omega
      have hi := hide h
      clear h
      go_enter Try.func54, Try.ntmps54
      go_wp2
      go_ret
      exact ⟨rfl, rfl⟩
end Go.Proofs.Ytkkjppdooaipiaa
