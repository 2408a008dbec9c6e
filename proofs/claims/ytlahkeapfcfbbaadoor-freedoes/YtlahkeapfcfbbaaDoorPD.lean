/- A pile: its last page is taken off; its first one; how many are not above a generation. -/
import Derived.Test.YtlahkeapfcfbbaaDoorPC
namespace Go.Proofs.YtlahkeapfcfbbaaDoor
open Go.RowKit Go.Maps
set_option linter.unusedVariables false
variable {w w' : World} {p : Nat} {b : Bool} {v : Value} {xs : List Pg}
set_option maxHeartbeats 1600000 in
set_option maxRecDepth 1000000 in
theorem pop_any {x : Pg} (h : Pl w p b v (xs ++ [x])) (hf : xs.length ≤ 1000000) :
    Calls Tryd.prog 91 #[.pointer (some ⟨p, 0, none⟩)] w fun e w' => e = .returned (.iface 87 (pgv x)) ∧ ∃ v', Pl w' p b v' xs ∧ v'.ownBlock = v.ownBlock ∧ Mv (fun k => k = p) w w' := by
  obtain ⟨a, c, rfl, hc1, hc2, hg⟩ := h.shape
  obtain ⟨g, rfl, ho, hne, hfz, hcell⟩ := hg (by simp)
  have c0 := h.c0
  have f0 := h.fz 0
  obtain ⟨e1, e2⟩ := hcell xs.length (by simp)
  have ex : pat (xs ++ [x]) xs.length = x := by simp [pat]
  rw [ex] at e1 e2
  have HFin : Hid (∀ W, Mv (fun k => k = p) w W → W.heap[p]? = some (.cells #[.slice (some ⟨g, 0, none⟩) xs.length c, fnv b p] 97 (0, 0)) → Pl W p b (.slice (some ⟨g, 0, none⟩) xs.length c) xs) := by
    intro W hm hb
    refine ⟨hb, ⟨pflat_len xs, ?_⟩, fun e => hne (by simpa [Value.ownBlock] using e)⟩
    rcases h.row.2 with ⟨e, h0⟩ | ⟨g', cap, cur, e, hbb, hh, hn, hm', hs, ht⟩
    · cases e
    · obtain ⟨rfl, rfl⟩ : g = g' ∧ c = cap := by simpa using e
      refine .inr ⟨g, c, cur, rfl, hbb, by rw [hm.block g (lt_of_block hh) hne]; exact hh, by simp at hn; omega, hm', hs, ?_⟩
      have := congrArg (List.take (xs.length * 2)) ht
      rw [List.take_take, pflat_snoc, List.length_append, List.length_singleton, Nat.min_eq_left (by omega), List.take_left' (pflat_len xs)] at this
      exact this
  have hp := h.lt
  have HB := hide h.blk
  have hl : (xs ++ [x]).length = xs.length + 1 := by simp
  rw [hl] at c0 HB hc1
  have hgl : g < w.heap.size := h.vlt ho
  clear hg h hcell ex
  generalize xs.length = n at *
  obtain ⟨x1, x2⟩ := x
  have hw : wrap64 (n : Int) = n := by unfold wrap64; omega
  unfold pgv
  go_enter Tryd.func91, Tryd.ntmps91
  go_wp2
  go_ret
  have hm : Mv (fun k => k = p) w ((w.setCell ⟨p, 0, none⟩ (.slice (some ⟨g, 0, none⟩) n c)).alloc (.cells #[.int .u32 x1, .int .u64 x2] 87)) := ((Mv.refl (fun k => k = p) w).setB rfl 0 _).alloc _
  refine ⟨rfl, _, HFin.out _ hm ?_, rfl, hm⟩
  rw [Below.heap_alloc _ _ p (by simpa [World.setCell] using hp), heap_setCell_same w p 0 _ 97 _ HB.out]
  rfl
set_option maxHeartbeats 1600000 in
set_option maxRecDepth 1000000 in
theorem first_any (h : Pl w p b v xs) (h0 : 0 < xs.length) :
    Calls Tryd.prog 65 #[.pointer (some ⟨p, 0, none⟩)] w fun e w' => e = .returned (pgv (pat xs 0)) ∧ Below w.heap.size w w' := by
  obtain ⟨a, c, rfl, hc1, hc2, hg⟩ := h.shape
  obtain ⟨g, rfl, ho, hne, hfz, hcell⟩ := hg h0
  have c0 := h.c0
  obtain ⟨e1, e2⟩ := hcell 0 h0
  simp only [Nat.zero_mul, Nat.zero_add] at e1 e2
  have hp := h.lt
  have hgl : g < w.heap.size := h.vlt ho
  clear hg hcell hfz ho h
  unfold pgv
  generalize xs.length = n at *
  generalize (pat xs 0).1 = x1 at *
  generalize (pat xs 0).2 = x2 at *
  go_enter Tryd.func65, Tryd.ntmps65
  go_wp2
  refine bodyPost_ret (v := .agg #[.int .u32 x1, .int .u64 x2]) ?_ rfl ⟨rfl, below_alloc w _⟩
  exact results_cell_row (p := 2) (ty := 87) rfl _ _ w.heap.size 87 _ (0, 0) _ rfl (heap_alloc_new w _) Tryd.underlying87 rfl (by kernel_rfl)
set_option maxHeartbeats 1600000 in
set_option maxRecDepth 1000000 in
theorem count_any (h : Pl w p b v xs) (hf : xs.length ≤ 1000000) (G : Int) :
    Calls Tryd.prog 33 #[.pointer (some ⟨p, 0, none⟩), .int .u64 G] w fun e w' => e = .returned (.int .i64 ((xs.countP (fun x => decide (x.2 ≤ G)) : Nat) : Int)) ∧ Below w.heap.size w w' := by
  obtain ⟨a, c, rfl, hc1, hc2, hg⟩ := h.shape
  have c0 := h.c0
  have HP := hide h
  have HG := hide hg
  clear hg h
  go_enter Tryd.func33, Tryd.ntmps33
  go_wp2
  go_loopw [13, 5] (fun i m wr => ∃ k : Nat, k ≤ xs.length ∧ i = .int .i64 k ∧ m = .int .i64 (((xs.take k).countP (fun x => decide (x.2 ≤ G)) : Nat) : Int) ∧ Below w.heap.size w wr) (fun i _ _ => xs.length - (intOf i).toNat)
  case atStart => exact ⟨0, Nat.zero_le _, rfl, rfl, Below.refl _ _⟩
  case round =>
    obtain ⟨k, hk, rfl, rfl, hbel⟩ := hrel
    have HB := hide hbel
    clear hbel
    have hcl : (xs.take k).countP (fun x => decide (x.2 ≤ G)) ≤ k := Nat.le_trans (List.countP_le_length) (by simp; omega)
    by_cases hlt : k < xs.length
    · obtain ⟨g, ea, ho, hne, hfz, hcell⟩ := HG.out (by omega)
      obtain ⟨e1, e2⟩ := hcell k hlt
      have hgl : g < w.heap.size := HP.out.vlt ho
      have e1' : wr.cell? ⟨g, k * 2, none⟩ = some (.int .u32 (pat xs k).1) := (HB.out.cell (p := ⟨g, k * 2, none⟩) hgl).trans e1
      have e2' : wr.cell? ⟨g, k * 2 + 1, none⟩ = some (.int .u64 (pat xs k).2) := (HB.out.cell (p := ⟨g, k * 2 + 1, none⟩) hgl).trans e2
      subst ea
      clear hcell hfz ho e1 e2
      have ht : (xs.take (k + 1)).countP (fun x => decide (x.2 ≤ G)) = (xs.take k).countP (fun x => decide (x.2 ≤ G)) + (if (pat xs k).2 ≤ G then 1 else 0) := by
        rw [List.take_succ_eq_append_getElem hlt, List.countP_append, ← pat_lt hlt]
        simp [List.countP_cons]
      have HT := hide ht
      clear ht
      generalize (xs.take k).countP (fun x => decide (x.2 ≤ G)) = m at *
      by_cases hG : (pat xs k).2 ≤ G
      · have hd : decide ((pat xs k).2 ≤ G) = true := decide_eq_true hG
        have HGG := hide hG
        clear hG
        generalize (pat xs k).2 = y2 at *
        generalize (pat xs k).1 = y1 at *
        go_wp2
        go_roundw
        case rel => exact ⟨k + 1, by omega, by go_num, by rw [HT.out, if_pos HGG.out]; go_num, HB.out.alloc HB.out.size _⟩
        case measure => simp [intOf]; omega
      · have hd : decide ((pat xs k).2 ≤ G) = false := decide_eq_false hG
        have HGG := hide hG
        clear hG
        generalize (pat xs k).2 = y2 at *
        generalize (pat xs k).1 = y1 at *
        go_wp2
        go_roundw
        case rel => exact ⟨k + 1, by omega, by go_num, by rw [HT.out, if_neg HGG.out]; rfl, HB.out.alloc HB.out.size _⟩
        case measure => simp [intOf]; omega
    · obtain rfl : k = xs.length := by omega
      rw [List.take_length] at *
      go_wp2
      go_ret
      exact ⟨rfl, HB.out⟩
end Go.Proofs.YtlahkeapfcfbbaaDoor
