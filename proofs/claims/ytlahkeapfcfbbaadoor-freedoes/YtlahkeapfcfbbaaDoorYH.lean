/- The program's Clone: a pile's pages are copied. -/
import Derived.Test.YtlahkeapfcfbbaaDoorYG
import Derived.Test.YtlahkeapfcfbbaaDoorLG
import Derived.Laws.Cover3
namespace Go.Proofs.YtlahkeapfcfbbaaDoor
open Go.RowKit Go.Maps
set_option linter.unusedVariables false
variable {w w' : World} {r : Nat} {v : Value} {xs : List Pg}
theorem uPgs : Tryd.prog.underlying 93 = some (.slice 87) := by kernel_rfl
theorem pgs_nil (a : Option Addr) (n c : Nat) (W : World) : (binOp .eql 93 (.slice a n c) (.slice none 0 0)).run Tryd.prog W = .ok (.bool a.isNone) W := by
  simp only [binOp]
  simp [run_equal_slice_nil W 93 87 a n c Tryd.underlying93]
set_option maxHeartbeats 1600000 in
set_option maxRecDepth 1000000 in
theorem sclone_any (v : Value) (xs : List Pg) (h : w.ownsRow 0 87 2 v xs.length (pflat xs)) (hf : xs.length ≤ 900000) : Calls Tryd.prog 34 #[v] w fun e w' => ∃ v', e = .returned v' ∧ w'.ownsRow 0 87 2 v' xs.length (pflat xs) ∧ (∀ k, v'.ownBlock = some k → w.heap.size ≤ k) ∧ Below w.heap.size w w' := by
  obtain ⟨i0, hi, hz0, hz1, hz2⟩ := info_parts infoPg
  have HH := hide h
  have hnl := pgs_nil
  rcases h.2 with ⟨rfl, h0⟩ | ⟨g, cap, cur, rfl, _, hg, hn, hm, _⟩
  · clear h
    go_enter Tryd.func34, Tryd.ntmps34
    go_wp2
    go_ret
    exact ⟨_, rfl, HH.out, (fun k hk => by cases hk), Below.refl _ _⟩
  · obtain ⟨N, hN⟩ : ∃ N, xs.length = N := ⟨_, rfl⟩
    have HN := hide hN
    simp only [hN] at hf hn
    clear h hN
    have HSr : Hid (Src Tryd.prog 2 93 (.slice (some ⟨g, 0, none⟩) xs.length cap) xs.length (pflat xs) (w.alloc (.cells #[] 87))) := by
      refine hide (Src.ofSlice _ uPgs _ _ _ _ (by rw [pflat_len]) (fun k u hk => ?_) (pflat_cells _))
      have hq := HH.out.cells (g := g) rfl k u hk
      rw [Addr.add_lit] at hq ⊢
      exact ((below_alloc w (.cells #[] 87)).cell (p := ⟨g, 0 + k, none⟩) (lt_of_block hg)).trans hq
    have HO0 : Hid ((w.alloc (.cells #[] 87)).ownsRow 0 87 2 (.slice (some ⟨w.heap.size, 0, none⟩) 0 0) 0 []) :=
      hide ⟨rfl, .inr ⟨w.heap.size, 0, #[], rfl, Nat.zero_le _, heap_alloc_new w _, Nat.le_refl _, Nat.zero_le _, rfl, rfl⟩⟩
    have HB1 : Hid ((0 + xs.length) * i0.bytes ≤ 140737488355328) := by rw [Hid, hz2, HN.out]; omega
    have HB2 : Hid (0 + xs.length ≤ 140737488355328) := by rw [Hid, HN.out]; omega
    go_enter Tryd.func34, Tryd.ntmps34
    go_wp2_with (at_builtin; refine wpList_append_two (by rfl) _ _ 93 93 87 (by rfl) i0 _ uPgs hi hz0 hz1 rfl (.slice (some ⟨w.heap.size, 0, none⟩) 0 0) 0 [] (by rfl) HO0.out _ xs.length _ (by rfl) HSr.out HB1.out HB2.out ?_; intro v1 w1 g1 g2 g3 g4; simp only [Nat.zero_add, List.nil_append] at g1; have G1 := hide g1; have G2 := hide g2; have G3 := hide g3; clear g1 g2 g3 g4)
    go_ret
    have hlow : ∀ k, (Value.slice (some ⟨w.heap.size, 0, none⟩) 0 0).ownBlock = some k → w.heap.size ≤ k := fun k hk => by
      have : w.heap.size = k := by simpa [Value.ownBlock] using hk
      omega
    have hq := row_low (w := w) (Below.refl _ _) (Nat.le_refl _) hlow G2.out G3.out
    exact ⟨_, rfl, G1.out, hq.2, hq.1⟩
end Go.Proofs.YtlahkeapfcfbbaaDoor
