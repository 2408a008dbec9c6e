/- SameBytes; what the chapter's examples fix. -/
import Derived.Test.YtpcckaahfaobeaaOE
import Derived.Test.YtpcckaahfaobeaaOF
import Derived.BigQuiet
namespace Go.Proofs.Ytpcckaahfaobeaa
open Go.RowKit Go.Maps
set_option linter.unusedVariables false
variable {w w' : World}
theorem below_drewN {w w' : World} (h : Below w.heap.size w w') (k : Nat) : Below w.heap.size w (w'.drewN k) := ⟨h.os, h.tape, h.output, h.size, h.block⟩
/-- so many noughts. -/
def zer (n : Nat) : Array Value := madeCells #[Value.int .u8 0] n
theorem makeZer (n : Nat) (hn : n ≤ 1000000) (W : World) : (Instr.makeSlice 22 (.int .i64 (n : Int)) (.int .i64 (n : Int))).run Try.prog W = .ok (.slice (some ⟨W.heap.size, 0, none⟩) n n) (W.alloc (.cells (zer n) 5)) := by
  obtain ⟨i0, hi, hz0, hz1, hz2⟩ := info_parts infoU8
  have := run_make (P := Try.prog) W 22 5 i0 _ Try.underlying22 hi hz0 .i64 .i64 (n : Int) (n : Int) (by omega) (by omega) (by rw [hz2]; omega) (by omega)
  rw [hz1] at this
  simp only [Int.toNat_natCast, Value.cells, Nat.mul_one] at this
  exact this
theorem zer_cells (n i : Nat) (hi : i < n) : (zer n)[i]? = some (.int .u8 0) := by
  unfold zer madeCells
  simp [hi, Nat.mod_one]
theorem row_zer (n : Nat) (W : World) : Row (W.alloc (.cells (zer n) 5)) (some ⟨W.heap.size, 0, none⟩) (List.replicate n 0) := by
  refine .inr ⟨_, 0, rfl, lt_of_block (heap_alloc_new W _), fun i hi => ?_⟩
  rw [List.length_replicate] at hi
  rw [cell_of_row _ _ _ _ _ _ (heap_alloc_new W _), Nat.zero_add, zer_cells n i hi]
  simp [List.getD_eq_getElem?_getD, hi]
theorem rw_one (w : World) (x : Nat) : Rw (w.alloc (.cells #[.int .u32 (x : Int)] 34)) (some ⟨w.heap.size, 0, none⟩) [x] := by
  refine .inr ⟨_, 0, rfl, lt_of_block (heap_alloc_new w _), fun i hi => ?_⟩
  obtain rfl : i = 0 := by simp at hi; omega
  rw [cell_of_row _ _ _ _ _ _ (heap_alloc_new w _)]; rfl
theorem Ro.first {v : Value} {B : Nat} {vs : List Value} {L : Nat → List Int} (h : Ro w v B vs L) {j : Nat} (hj : j < vs.length) : ∃ g cap a c, v = .slice (some ⟨g, 0, none⟩) vs.length cap ∧ g < w.heap.size ∧ w.cell? ⟨g, j, none⟩ = some (.slice a (L j).length c) ∧ (L j).length ≤ c ∧ c ≤ maxLen ∧ Row w a (L j) ∧ (a = none → (L j).length = 0 ∧ c = 0) := by
  rcases h.row.2 with ⟨_, h0⟩ | ⟨g, cap, cur, rfl, _, hg, _⟩
  · omega
  · obtain ⟨a, c, e, hc, hcm, hn, hrow, _⟩ := (h.own j hj).shape
    refine ⟨g, cap, a, c, rfl, lt_of_block hg, ?_, hc, hcm, hrow, hn⟩
    have := World.ownsRow.cells h.row (g := g) rfl j (.slice a (L j).length c) (by
      rw [← e, List.getD_eq_getElem?_getD, List.getElem?_eq_getElem hj]; rfl)
    rwa [Addr.add_lit, Nat.zero_add] at this
set_option maxHeartbeats 3200000 in
set_option maxRecDepth 1000000 in
theorem known_any (w : World) : Calls Try.prog 4 #[] w fun e w' => e = .returned (.bool true) ∧ Below w.heap.size w w' := by
  have hmk : (Instr.makeSlice 22 (.int .i64 70) (.int .i64 70)).run Try.prog w = .ok (.slice (some ⟨w.heap.size, 0, none⟩) 70 70) (w.alloc (.cells (zer 70) 5)) := makeZer 70 (by omega) w
  have HEn : Hid (Calls Try.prog 8 #[.slice (some ⟨w.heap.size, 0, none⟩) 70 70, .slice (some ⟨w.heap.size + 1, 0, none⟩) 1 1] ((w.alloc (.cells (zer 70) 5)).alloc (.cells #[.int .u32 4] 34)) fun e w' => ∃ g cap a c, e = .returned (.tuple #[.slice (some ⟨g, 0, none⟩) 1 cap, .int .u16 0]) ∧ w'.cell? ⟨g, 0, none⟩ = some (.slice a 74 c) ∧ Below w.heap.size w w') := by
    have h0 : Row ((w.alloc (.cells (zer 70) 5)).alloc (.cells #[.int .u32 4] 34)) (some ⟨w.heap.size, 0, none⟩) (List.replicate 70 0) := (row_zer 70 w).below (below_alloc _ _)
    have h1 := rw_one (w.alloc (.cells (zer 70) 5)) 4
    rw [World.size_alloc] at h1
    refine (encode_ok _ (some ⟨w.heap.size + 1, 0, none⟩) w.heap.size 0 70 70 1 1 (List.replicate 70 0) [4] (by simp) (by omega) (by omega) h0 rfl (by decide) (by omega) (by omega) h1 (fun z hz => by simp at hz; omega) (by decide)).mono ?_
    rintro e w' ⟨v, vs, rfl, hl, hro, hb⟩
    obtain ⟨g, cap, a, c, rfl, _, hc, _⟩ := hro.first (j := 0) (by omega)
    rw [hl]
    refine ⟨g, cap, a, c, rfl, ?_, ?_⟩
    · rw [hc]
      simp [pay, le4]
    · exact (((Below.refl _ w).alloc (Nat.le_refl _) _).alloc (by simp) _).trans (hb.mono (by simp; omega))
  have HN1 : Hid (∀ W, Calls Try.prog 5 #[.int .i64 64] W fun e w' => e = .returned (.int .i64 0) ∧ w' = W) := fun W => need_any W 64 (by omega)
  go_enter Try.func4, Try.ntmps4
  go_wp2_with (go_at_call 8; refine HEn.out.mono ?_; rintro e w1 ⟨g, cap, a, c, rfl, h1, h2⟩; have H2 := hide h2; clear h2 hmk)
  refine (HN1.out _).mono ?_
  rintro e w2 ⟨rfl, hw2⟩
  rw [hw2]
  clear hw2 w2
  go_wp2
  go_ret
  exact ⟨rfl, H2.out⟩
end Go.Proofs.Ytpcckaahfaobeaa
