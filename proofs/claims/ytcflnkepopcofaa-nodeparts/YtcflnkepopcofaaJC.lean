/- Halves of a node of fewer than two entries. -/
import Derived.Test.YtcflnkepopcofaaJA
namespace Go.Proofs.Ytcflnkepopcofaa
open Go.RowKit
set_option linter.unusedVariables false

set_option maxHeartbeats 3200000 in
set_option maxRecDepth 1000000 in
theorem halves_short (leaf : Bool) (a : Option Addr) (n c : Nat) (xs : List En) (w : World) (h : Ens w a n c xs) (hn : n < 2) (hw : wts (ers xs) ≤ 1000000) :
    Calls Try.prog 11 #[.agg #[.bool leaf, .slice a n c]] w fun e w' => ∃ (va : Value) (ys : List En), e = .returned (.tuple #[.agg #[.bool leaf, va], .agg #[.bool leaf, .slice none 0 0], .slice none 0 0]) ∧ ers ys = ers xs ∧ Cl w.heap.size w' va ys ∧ Below w.heap.size w w' := by
  obtain ⟨w1, hw1, hB, hb0, hb1, hb2, hs1⟩ := three_boxes w (.bool leaf) (.slice a n c) (.bool false) (.slice none 0 0) (.bool false) (.slice none 0 0)
  have HCn := hide (fun W (hW : Below w1.heap.size w1 W) => cnode_any leaf a n c xs W ((h.below hB).below hW) (by omega) hw)
  have HB := hide hB
  have HB0 := hide hb0
  have HB1 := hide hb1
  have HB2 := hide hb2
  have HS1 := hide hs1
  obtain ⟨c0, c1, -⟩ := cells_two hb0
  have d2 : (n : Int) < 2 := by omega
  have HSt : Hid (∀ W, Below w1.heap.size w1 W → W.cell? ⟨w.heap.size, 0, none⟩ = some (.bool leaf) ∧ W.cell? ⟨w.heap.size, 1, none⟩ = some (.slice a n c) ∧ W.heap[w.heap.size + 1]? = some (.cells #[.bool false, .slice none 0 0] 24 (0, 0)) ∧ W.heap[w.heap.size + 1 + 1]? = some (.cells #[.bool false, .slice none 0 0] 24 (0, 0))) := hide fun W hW =>
    ⟨(cells_two ((hW.block _ (lt_of_block HB0.out)).trans HB0.out)).1, (cells_two ((hW.block _ (lt_of_block HB0.out)).trans HB0.out)).2.1, (hW.block _ (lt_of_block HB1.out)).trans HB1.out, (hW.block _ (lt_of_block HB2.out)).trans HB2.out⟩
  clear h hw hB hb0 hb1 hb2 hs1
  rw [hw1] at c0 c1
  go_enter Try.func11, Try.ntmps11
  go_wp2_with fail
  rw [← hw1] at *
  clear hw1
  have e0 := c0
  have e1 := c1
  have s7 : w.heap.size + 1 + 1 ≠ w.heap.size := by omega
  have s8 : w.heap.size + 1 ≠ w.heap.size := by omega
  clear c0 c1
  have HCn1 := hide (HCn.out w1.drew (Below.refl _ _).drew)
  go_region_held3 (fun W => W.cell? ⟨w.heap.size, 0, none⟩ = some (.bool leaf) ∧ W.cell? ⟨w.heap.size, 1, none⟩ = some (.slice a n c)) (go_keep) ((first | (go_at_call 19; refine HCn1.out.mono ?_; intro r' w5 hh; obtain ⟨va, ys, rfl, her, hcl, hb5⟩ := hh; obtain ⟨a3, c3, rfl, -⟩ := hcl.ens; clear e0 e1; obtain ⟨e0, e1, z1, z2⟩ := HSt.out w5 ((Below.refl _ _).drew.trans hb5); have z3 := (cells_two z1).1; have z4 := (cells_two z1).2.1; have z5 := frozen_blk (j := 0) z1; have z6 := frozen_blk (j := 1) z1; have z7 := (cells_two z2).1; have z8 := (cells_two z2).2.1; have z9 := frozen_blk (j := 0) z2; have z10 := frozen_blk (j := 1) z2; have HZ1 := hide z1; have HZ2 := hide z2; have HEr := hide her; have HCl := hide hcl; have HB5 := hide hb5; clear z1 z2 her hcl hb5)))
  go_wp2
  have hA := two_set (u := .bool leaf) (v := .slice a3 ys.length c3) HZ1.out
  have hA2 : ((w5.setCell ⟨w.heap.size + 1, 0, none⟩ (.bool leaf)).setCell ⟨w.heap.size + 1, 1, none⟩ (.slice a3 ys.length c3)).heap[w.heap.size + 1 + 1]? = some (.cells #[.bool false, .slice none 0 0] 24 (0, 0)) := (two_other (by omega)).trans HZ2.out
  have hC := two_set (u := .bool leaf) (v := .slice none 0 0) hA2
  have hAf := (two_other (u := .bool leaf) (v := .slice none 0 0) (i := 0) (j := 1) (show w.heap.size + 1 ≠ w.heap.size + 1 + 1 by omega)).trans hA
  obtain ⟨y0, y1, -⟩ := cells_two hAf
  obtain ⟨y2, y3, -⟩ := cells_two hC
  have hsz := HS1.out
  have HFin : Hid (∀ k, w.heap.size + 3 ≤ k → ((((w5.setCell ⟨w.heap.size + 1, 0, none⟩ (.bool leaf)).setCell ⟨w.heap.size + 1, 1, none⟩ (.slice a3 ys.length c3)).setCell ⟨w.heap.size + 1 + 1, 0, none⟩ (.bool leaf)).setCell ⟨w.heap.size + 1 + 1, 1, none⟩ (.slice none 0 0)).heap[k]? = w5.heap[k]?) := hide fun k hk => (two_other (by omega)).trans (two_other (by omega))
  have hb15 : Below w1.heap.size w1 w5 := (Below.refl _ _).drew.trans HB5.out
  have HB05 : Hid (Below w.heap.size w w5) := hide (HB.out.trans (hb15.mono HB.out.size))
  have HBf : Hid (Below w.heap.size w ((((w5.setCell ⟨w.heap.size + 1, 0, none⟩ (.bool leaf)).setCell ⟨w.heap.size + 1, 1, none⟩ (.slice a3 ys.length c3)).setCell ⟨w.heap.size + 1 + 1, 0, none⟩ (.bool leaf)).setCell ⟨w.heap.size + 1 + 1, 1, none⟩ (.slice none 0 0))) := hide ((((HB05.out.setCell (p := ⟨w.heap.size + 1, 0, none⟩) (show w.heap.size ≤ w.heap.size + 1 by omega) _).setCell (p := ⟨w.heap.size + 1, 1, none⟩) (show w.heap.size ≤ w.heap.size + 1 by omega) _).setCell (p := ⟨w.heap.size + 1 + 1, 0, none⟩) (show w.heap.size ≤ w.heap.size + 1 + 1 by omega) _).setCell (p := ⟨w.heap.size + 1 + 1, 1, none⟩) (show w.heap.size ≤ w.heap.size + 1 + 1 by omega) _)
  generalize (((w5.setCell ⟨w.heap.size + 1, 0, none⟩ (.bool leaf)).setCell ⟨w.heap.size + 1, 1, none⟩ (.slice a3 ys.length c3)).setCell ⟨w.heap.size + 1 + 1, 0, none⟩ (.bool leaf)).setCell ⟨w.heap.size + 1 + 1, 1, none⟩ (.slice none 0 0) = WF at *
  refine bodyPost_ret (v := .tuple #[.agg #[.bool leaf, .slice a3 ys.length c3], .agg #[.bool leaf, .slice none 0 0], .slice none 0 0]) ?_ rfl ?_
  · simp [results, Try.results11, go_sem, y0, y1, y2, y3]
  · exact ⟨_, ys, rfl, HEr.out, (HCl.out.other (fun k hk => HFin.out k (by simp at hk; omega))).mono (by simp; omega), HBf.out⟩
end Go.Proofs.Ytcflnkepopcofaa
