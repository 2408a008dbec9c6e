/- Copies of nodes; where a node is parted. -/
import Derived.Test.YtcflnkepopcofaaHB
namespace Go.Proofs.Ytcflnkepopcofaa
open Go.RowKit
set_option linter.unusedVariables false

theorem pair_boxes (w : World) (a b c d : Value) : Below w.heap.size w ((w.alloc (.cells #[a, b] 24)).alloc (.cells #[c, d] 24)) ∧ ((w.alloc (.cells #[a, b] 24)).alloc (.cells #[c, d] 24)).heap[w.heap.size]? = some (.cells #[a, b] 24 (0, 0)) ∧ ((w.alloc (.cells #[a, b] 24)).alloc (.cells #[c, d] 24)).heap[w.heap.size + 1]? = some (.cells #[c, d] 24 (0, 0)) ∧ ((w.alloc (.cells #[a, b] 24)).alloc (.cells #[c, d] 24)).heap.size = w.heap.size + 2 := by
  refine ⟨two_alloc _ _, (Below.heap_alloc _ _ _ (by simp)).trans (heap_alloc_new w _), ?_, by simp⟩
  have := heap_alloc_new (w.alloc (.cells #[a, b] 24)) (.cells #[c, d] 24)
  rwa [World.size_alloc] at this
theorem two_set {w : World} {q t : Nat} {a b u v : Value} (h : w.heap[q]? = some (.cells #[a, b] t (0, 0))) : ((w.setCell ⟨q, 0, none⟩ u).setCell ⟨q, 1, none⟩ v).heap[q]? = some (.cells #[u, v] t (0, 0)) := by
  have h1 : (w.setCell ⟨q, 0, none⟩ u).heap[q]? = some (.cells #[u, b] t (0, 0)) := by rw [heap_setCell_same w q 0 _ t _ h]; rfl
  rw [heap_setCell_same _ q 1 _ t _ h1]; rfl
theorem frozen_blk {w : World} {q t j : Nat} {cs : Array Value} (h : w.heap[q]? = some (.cells cs t (0, 0))) : w.frozen? ⟨q, j, none⟩ = false := by simp [World.frozen?, h]
theorem Cl.mono {B C : Nat} {w : World} {v : Value} {ys : List En} (h : Cl C w v ys) (hb : B ≤ C) : Cl B w v ys := by
  refine ⟨⟨h.row.1, ?_⟩, fun y hy => (h.each y hy).mono hb, h.apart⟩
  rcases h.row.2 with h2 | ⟨g, cap, cur, rfl, hg, r⟩
  · exact .inl h2
  · exact .inr ⟨g, cap, cur, rfl, Nat.le_trans hb hg, r⟩
theorem Cl.other {B : Nat} {w w' : World} {v : Value} {ys : List En} (h : Cl B w v ys) (hb : ∀ k, B ≤ k → w'.heap[k]? = w.heap[k]?) : Cl B w' v ys :=
  h.of_block (fun k hk => hb k (h.block hk).1) (fun y hy k hk => hb k ((h.each y hy).ge hk))
set_option maxHeartbeats 3200000 in
set_option maxRecDepth 1000000 in
theorem cnode_any (leaf : Bool) (a : Option Addr) (n c : Nat) (xs : List En) (w : World) (h : Ens w a n c xs) (hn : n ≤ 1000000) (hw : wts (ers xs) ≤ 1000000) :
    Calls Try.prog 19 #[.agg #[.bool leaf, .slice a n c]] w fun e w' => ∃ v ys, e = .returned (.agg #[.bool leaf, v]) ∧ ers ys = ers xs ∧ Cl w.heap.size w' v ys ∧ Below w.heap.size w w' := by
  obtain ⟨hB, hb0, hb1, hs1⟩ := pair_boxes w (.bool leaf) (.slice a n c) (.bool false) (.slice none 0 0)
  obtain ⟨c0, c1, -⟩ := cells_two hb0
  have HC := hide (fun W (hW : Below ((w.alloc (.cells #[.bool leaf, .slice a n c] 24)).alloc (.cells #[.bool false, .slice none 0 0] 24)).heap.size ((w.alloc (.cells #[.bool leaf, .slice a n c] 24)).alloc (.cells #[.bool false, .slice none 0 0] 24)) W) => centries_any a n c xs W ((h.below hB).below hW) hn hw)
  have HB := hide hB
  have HB0 := hide hb0
  have HB1 := hide hb1
  have HS1 := hide hs1
  clear h hB hb0 hb1 hs1
  go_enter Try.func19, Try.ntmps19
  go_wp2
  generalize (w.alloc (.cells #[.bool leaf, .slice a n c] 24)).alloc (.cells #[.bool false, .slice none 0 0] 24) = w1 at *
  go_region_with (first
    | (go_at_call 30; refine (HC.out _ (Below.refl _ _).drew).mono ?_; rintro e w2 ⟨v, ys, rfl, her, hcl, hso, hb2⟩; obtain ⟨a2, c2, rfl, -⟩ := hcl.ens; have HB2 := hide ((Below.refl w1.heap.size w1).drew.trans hb2); have hbz0 := (HB2.out.block _ (lt_of_block HB0.out)).trans HB0.out; have hbz1 := (HB2.out.block _ (lt_of_block HB1.out)).trans HB1.out; obtain ⟨d0, d1, -⟩ := cells_two hbz0; obtain ⟨f0, f1, -⟩ := cells_two hbz1; have g0 := frozen_blk (j := 0) hbz1; have g1 := frozen_blk (j := 1) hbz1; have HBz1 := hide hbz1; have HEr := hide her; have HCl := hide hcl; clear her hcl hso hb2 hbz0 hbz1))
  all_goals
    go_wp2
    have hf := two_set (u := .bool leaf) (v := .slice a2 ys.length c2) HBz1.out
    obtain ⟨q0, q1, -⟩ := cells_two hf
    refine bodyPost_ret (v := .agg #[.bool leaf, .slice a2 ys.length c2]) ?_ rfl ?_
    · simp [results, Try.results19, go_sem, q0, q1]
    · have hcl : Cl (w.heap.size + 2) w2 (.slice a2 ys.length c2) ys := by have := HCl.out; simp only [World.drew] at this; rw [HS1.out] at this; exact this
      exact ⟨_, ys, rfl, HEr.out, (hcl.other (fun k hk => two_other (by omega))).mono (by omega), ((HB.out.trans (HB2.out.mono HB.out.size)).setCell (p := ⟨w.heap.size + 1, 0, none⟩) (show w.heap.size ≤ w.heap.size + 1 by omega) _).setCell (p := ⟨w.heap.size + 1, 1, none⟩) (show w.heap.size ≤ w.heap.size + 1 by omega) _⟩
end Go.Proofs.Ytcflnkepopcofaa
