/- A pile: its last page is taken off; its first one; how many are not above a generation. -/
import Derived.Test.YtejdlcahcimflaaPC
namespace Go.Proofs.Ytejdlcahcimflaa
open Go.RowKit Go.Maps
set_option linter.unusedVariables false
variable {w w' : World} {p : Nat} {b : Bool} {v : Value} {xs : List Pg}
set_option maxHeartbeats 1600000 in
set_option maxRecDepth 1000000 in
theorem pop_any {x : Pg} (h : Pl w p b v (xs ++ [x])) (hf : xs.length ≤ 1000000) :
    Calls Try.prog 95 #[.pointer (some ⟨p, 0, none⟩)] w fun e w' => e = .returned (.iface 113 (pgv x)) ∧ ∃ v', Pl w' p b v' xs ∧ v'.ownBlock = v.ownBlock ∧ Mv (fun k => k = p) w w' := by
  obtain ⟨a, c, rfl, hc1, hc2, hg⟩ := h.shape
  obtain ⟨g, rfl, ho, hne, hfz, hcell⟩ := hg (by simp)
  have c0 := h.c0
  have f0 := h.fz 0
  obtain ⟨e1, e2⟩ := hcell xs.length (by simp)
  have ex : pat (xs ++ [x]) xs.length = x := by simp [pat]
  rw [ex] at e1 e2
  have HFin : Hid (∀ W, Mv (fun k => k = p) w W → W.heap[p]? = some (.cells #[.slice (some ⟨g, 0, none⟩) xs.length c, fnv b p] 162 (0, 0)) → Pl W p b (.slice (some ⟨g, 0, none⟩) xs.length c) xs) := by
    intro W hm hb
    refine ⟨hb, ⟨pflat_len xs, ?_⟩, fun e => hne (by simpa [Value.ownBlock] using e)⟩
    rcases h.row.2 with ⟨e, h0⟩ | ⟨g', cap, cur, e, hbb, hh, hn, hm', hs, ht⟩
    · cases e
    · obtain ⟨rfl, rfl⟩ : g = g' ∧ c = cap := by simpa using e
      refine .inr ⟨g, c, cur, rfl, hbb, by rw [hm.block g (lt_of_block hh) hne]; exact hh, by simp at hn; omega, hm', hs, ?_⟩
      have := congrArg (List.take (xs.length * 2)) ht
      rw [List.take_take, pflat_snoc, List.length_append, List.length_singleton, Nat.min_eq_left (by omega), List.take_left' (pflat_len xs)] at this
      exact this
  have hp := h.lt
  have HB := hide h.blk
  have hl : (xs ++ [x]).length = xs.length + 1 := by simp
  rw [hl] at c0 HB hc1
  have hgl : g < w.heap.size := h.vlt ho
  clear hg h hcell ex
  generalize xs.length = n at *
  obtain ⟨x1, x2⟩ := x
  have hw : wrap64 (n : Int) = n := by unfold wrap64; omega
  unfold pgv
  go_enter Try.func95, Try.ntmps95
  go_wp2
  go_ret
  have hm : Mv (fun k => k = p) w ((w.setCell ⟨p, 0, none⟩ (.slice (some ⟨g, 0, none⟩) n c)).alloc (.cells #[.int .u32 x1, .int .u64 x2] 113)) := ((Mv.refl (fun k => k = p) w).setB rfl 0 _).alloc _
  refine ⟨rfl, _, HFin.out _ hm ?_, rfl, hm⟩
  rw [Below.heap_alloc _ _ p (by simpa [World.setCell] using hp), heap_setCell_same w p 0 _ 162 _ HB.out]
  rfl
set_option maxHeartbeats 1600000 in
set_option maxRecDepth 1000000 in
theorem first_any (h : Pl w p b v xs) (h0 : 0 < xs.length) :
    Calls Try.prog 72 #[.pointer (some ⟨p, 0, none⟩)] w fun e w' => e = .returned (pgv (pat xs 0)) ∧ Below w.heap.size w w' := by
  obtain ⟨a, c, rfl, hc1, hc2, hg⟩ := h.shape
  obtain ⟨g, rfl, ho, hne, hfz, hcell⟩ := hg h0
  have c0 := h.c0
  obtain ⟨e1, e2⟩ := hcell 0 h0
  simp only [Nat.zero_mul, Nat.zero_add] at e1 e2
  have hp := h.lt
  have hgl : g < w.heap.size := h.vlt ho
  clear hg hcell hfz ho h
  unfold pgv
  generalize xs.length = n at *
  generalize (pat xs 0).1 = x1 at *
  generalize (pat xs 0).2 = x2 at *
  go_enter Try.func72, Try.ntmps72
  go_wp2
  refine bodyPost_ret (v := .agg #[.int .u32 x1, .int .u64 x2]) ?_ rfl ⟨rfl, below_alloc w _⟩
  exact results_cell_row (p := 2) (ty := 113) rfl _ _ w.heap.size 113 _ (0, 0) _ rfl (heap_alloc_new w _) Try.underlying113 rfl (by kernel_rfl)
end Go.Proofs.Ytejdlcahcimflaa
