/- The document's own list: All. -/
import Derived.Test.YtlahkeapfcfbbaaDoorYF
import Derived.Test.YtlahkeapfcfbbaaDoorGA
import Derived.Test.YtlahkeapfcfbbaaDoorTZ
namespace Go.Proofs.YtlahkeapfcfbbaaDoor
open Go.RowKit Go.Maps
set_option linter.unusedVariables false
variable {w w' : World} {r : Nat} {v : Value} {L : List Pg}
/-- the words of a list. -/
def wds (L : List Pg) : List Value := L.map fun x => Value.int .u32 x.1
theorem wds_len (L : List Pg) : (wds L).length = L.length := by simp [wds]
theorem wds_take {L : List Pg} {i : Nat} (h : i < L.length) : wds (L.take (i + 1)) = wds (L.take i) ++ [.int .u32 (pat L i).1] := by
  rw [List.take_add_one, pat_at h]
  simp [wds]
theorem own_slice1 {W : World} {t : TypeId} {v : Value} {n : Nat} {xs : List Value} (h : W.ownsRow 0 t 1 v n xs) : ∃ a m c, v = .slice a m c := by
  rcases h.2 with ⟨rfl, _⟩ | ⟨g, cap, cur, rfl, _⟩
  · exact ⟨_, _, _, rfl⟩
  · exact ⟨_, _, _, rfl⟩
theorem lt_of_cell {W : World} {g o : Nat} {u : Value} (h : W.cell? ⟨g, o, none⟩ = some u) : g < W.heap.size := by
  by_cases hg : g < W.heap.size
  · exact hg
  · have h0 : W.heap[g]? = none := Array.getElem?_eq_none (by omega)
    simp [World.cell?, h0] at h
theorem row_low {W W' : World} {v v' : Value} {n : Nat} {o : Obj} (hb : Below n w W) (hn : n ≤ W.heap.size) (hl : ∀ k, v.ownBlock = some k → n ≤ k) (g2 : (W.alloc o).grownBy W' v.ownBlock) (g3 : ∀ k, v'.ownBlock = some k → v.ownBlock = some k ∨ (W.alloc o).heap.size ≤ k) : Below n w W' ∧ ∀ k, v'.ownBlock = some k → n ≤ k := by
  have h2 := hb.alloc hn o
  have hs : n ≤ (W.alloc o).heap.size := by simp; omega
  refine ⟨⟨g2.os.trans h2.os, g2.tape.trans h2.tape, g2.output.trans h2.output, Nat.le_trans h2.size g2.size, fun k hk => (g2.block k (by omega) (fun e => by have := hl k e.symm; omega)).trans (h2.block k hk)⟩, fun k hk => ?_⟩
  rcases g3 k hk with h | h
  · exact hl k h
  · omega
set_option maxHeartbeats 1600000 in
set_option maxRecDepth 1000000 in
theorem rall_any (h : Rl w r v L) (hf : L.length ≤ 900000) : Calls Tryd.prog 15 #[.pointer (some ⟨r, 0, none⟩)] w fun e w' => ∃ u, e = .returned u ∧ w'.ownsRow 0 56 1 u L.length (wds L) ∧ (∀ k, u.ownBlock = some k → w.heap.size ≤ k) ∧ Below w.heap.size w w' := by
  obtain ⟨i0, hi, hz0, hz1, hz2⟩ := info_parts infoU32
  have HUL := hide (show Tryd.prog.underlying 65 = some (.slice 56) by kernel_rfl)
  obtain ⟨a, c, e', h1, h2, h3, -, h4⟩ := h.shape
  subst e'
  have c0 := h.c
  have HR := hide h
  obtain ⟨N, hN⟩ : ∃ N, L.length = N := ⟨_, rfl⟩
  simp only [hN] at h1 h3 h4 c0 hf
  have HN := hide hN
  have H4 := hide h4
  have hrl := lt_of_block h.blk
  have HC0 := hide c0
  clear h hN h4 h3 c0
  go_enter Tryd.func15, Tryd.ntmps15
  go_wp2
  go_loopw [3, 4] (fun u y wr => ∃ (i : Nat) (v : Value), i ≤ N ∧ y = .int .i64 (i : Int) ∧ u = v ∧ wr.ownsRow 0 56 1 v (wds (L.take i)).length (wds (L.take i)) ∧ (∀ k, v.ownBlock = some k → w.heap.size ≤ k) ∧ Below w.heap.size w wr) (fun _ y _ => N - (intOf y).toNat)
  case atStart => exact ⟨0, _, Nat.zero_le _, rfl, rfl, World.ownsRow_nil _ _ _ _, (fun k hk => by cases hk), Below.refl _ _⟩
  case round =>
    obtain ⟨i, v, hik, rfl, rfl, hown, hlow, hbel⟩ := hrel
    obtain ⟨xa, xm, xc, rfl⟩ := own_slice1 hown
    have HOw := hide hown
    have HLo := hide hlow
    have HBe := hide hbel
    have c1 : wr.cell? ⟨r, 0, none⟩ = some (.slice a N c) := (hbel.cell (p := ⟨r, 0, none⟩) hrl).trans HC0.out
    clear hown hlow hbel
    by_cases hlt : i < N
    · obtain ⟨g, ea, e1, e2⟩ := H4.out i hlt
      have hgl : g < w.heap.size := lt_of_cell e1
      have e3 : wr.cell? ⟨g, i * 2, none⟩ = some (.int .u32 (pat L i).1) := (HBe.out.cell (p := ⟨g, i * 2, none⟩) hgl).trans e1
      subst ea
      have HW := hide (wds_take (L := L) (i := i) (by rw [HN.out]; exact hlt))
      have hil : (i : Int) < (N : Int) := by omega
      have hll : (wds (L.take i)).length = i := by rw [wds_len, List.length_take]; have := HN.out; omega
      clear e1 e2
      generalize pat L i = x at *
      have HOl : Hid ((wr.alloc (.cells #[.int .u32 x.1] 56)).ownsRow 0 56 1 (.slice xa xm xc) (wds (L.take i)).length (wds (L.take i))) := row_keep HOw.out (fun j hj => Below.heap_alloc _ _ j (World.ownsRow.lt HOw.out j hj).2)
      have HSr := hide (Bo.src_laid (P := Tryd.prog) wr (.int .u32 x.1) HUL.out rfl)
      have HB1 : Hid (((wds (L.take i)).length + 1) * i0.bytes ≤ 140737488355328) := by rw [Hid, hll, hz2]; omega
      have HB2 : Hid ((wds (L.take i)).length + 1 ≤ 140737488355328) := by rw [Hid, hll]; omega
      clear hll
      go_wp2_with (at_builtin; refine Bo.wpList_append_one (by rfl) _ _ 65 65 56 (by rfl) i0 (.int .u32 0) HUL.out hi hz0 hz1 rfl (.slice xa xm xc) _ (by rfl) HOl.out _ 1 [.int .u32 x.1] (by rfl) HSr.out HB1.out HB2.out ?_; intro v' w1 g1 g2 g3 g4; have hq := row_low HBe.out HBe.out.size HLo.out g2 g3; have HQ := hide hq; have HG := hide g1; clear g1 g2 g3 g4 hq)
      go_roundw
      case rel => exact ⟨i + 1, _, by omega, by go_num, rfl, by rw [HW.out]; exact HG.out, HQ.out.2, HQ.out.1⟩
      case measure => simp [intOf]; omega
    · have hil : ¬ (i : Int) < (N : Int) := by omega
      have HE : Hid (L.take i = L) := List.take_of_length_le (by have := HN.out; omega)
      go_wp2
      go_ret
      refine ⟨_, rfl, ?_, HLo.out, HBe.out⟩
      have h9 := HOw.out
      rw [HE.out, wds_len] at h9
      exact h9
end Go.Proofs.YtlahkeapfcfbbaaDoor
