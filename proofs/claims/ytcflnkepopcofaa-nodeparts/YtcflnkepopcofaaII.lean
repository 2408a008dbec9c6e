/- Drop of a key. -/
import Derived.Test.YtcflnkepopcofaaIH
import Derived.Test.YtcflnkepopcofaaID
namespace Go.Proofs.Ytcflnkepopcofaa
open Go.RowKit
set_option linter.unusedVariables false

set_option maxHeartbeats 3200000 in
set_option maxRecDepth 1000000 in
theorem drop_there (leaf : Bool) (a : Option Addr) (n c : Nat) (xs : List En) (ka : Option Addr) (kn kc : Nat) (key : List Int) (w : World) (h : Ens w a n c xs) (hk : Inn w ka kn kc key) (hn : n ≤ 100000) (hw : wts (ers xs) ≤ 1000000) (hold : ∀ i, At (pge key) xs i → ther xs i key = true) :
    Calls Try.prog 10 #[.agg #[.bool leaf, .slice a n c], .slice ka kn kc] w fun e w' => ∃ i a' c' zs, e = .returned (.tuple #[.agg #[.bool leaf, .slice a' (n - 1) c'], .bool true]) ∧ At (pge key) xs i ∧ i < n ∧ ers zs = (ers xs).eraseIdx i ∧ Ens w' a' (n - 1) c' zs ∧ Below w.heap.size w w' := by
  obtain ⟨hB, hb0, hbr, hs1⟩ := pair_boxes w (.bool leaf) (.slice a n c) (.bool false) (.slice none 0 0)
  obtain ⟨w1, hw1⟩ : ∃ w1, w1 = (w.alloc (.cells #[.bool leaf, .slice a n c] 24)).alloc (.cells #[.bool false, .slice none 0 0] 24) := ⟨_, rfl⟩
  obtain ⟨n0, n1, -⟩ := cells_two hb0
  rw [← hw1] at hB hb0 hbr hs1
  have HB := hide hB
  have HB0 := hide hb0
  have HS1 := hide hs1
  have HR1 := hide hbr
  have HE := hide h
  have HK := hide hk
  have HNw := hide hold
  have HWt := hide hw
  clear h hk hold hw hB hb0 hbr hs1
  go_enter Try.func10, Try.ntmps10
  go_wp2_with fail
  rw [← hw1] at *
  clear hw1
  refine (cnode_cap leaf a n c xs w1 (HE.out.below HB.out) (by omega) HWt.out).mono ?_
  rintro e w2 ⟨g, ys, rfl, her, hcl, hb2⟩
  have HEr := hide her
  have HCl := hide hcl
  have HB2 := hide (HB.out.trans (hb2.mono HB.out.size))
  have HN2 := hide ((hb2.block _ (lt_of_block HB0.out)).trans HB0.out)
  have HR2 := hide ((hb2.block _ (lt_of_block HR1.out)).trans HR1.out)
  have HS2 : Hid (w.heap.size + 2 ≤ w2.heap.size) := hide (by have := hb2.size; have := HS1.out; omega)
  have hb3 := below_alloc w2 (.cells #[.bool leaf, .slice (some ⟨g, 0, none⟩) n n] 24)
  have HO3 := hide (heap_alloc_new w2 (.cells #[.bool leaf, .slice (some ⟨g, 0, none⟩) n n] 24))
  have HN3 := hide ((hb3.block _ (lt_of_block HN2.out)).trans HN2.out)
  have HR3 := hide ((hb3.block _ (lt_of_block HR2.out)).trans HR2.out)
  have HB3 := hide (HB2.out.trans (hb3.mono HB2.out.size))
  have HCl3 := hide (HCl.out.below hb3)
  clear n0 n1 her hcl hb2 hb3
  obtain ⟨n0, n1, -⟩ := cells_two HN3.out
  obtain ⟨o0, o1, -⟩ := cells_two HO3.out
  have HPl := hide (place_any ka kn kc key a n c xs _ (HK.out.below HB3.out) (HE.out.below HB3.out) (by omega))
  go_wp2_with fail
  refine HPl.out.mono ?_
  rintro e w4 ⟨i, rfl, hat, hb4⟩
  have hth := HNw.out i hat
  have hin : i < n := by
    unfold ther at hth
    split at hth
    · rename_i z hz
      have := (List.getElem?_eq_some_iff.1 hz).1
      rw [HE.out.len] at this
      exact this
    · cases hth
  rw [hth]
  have HAt := hide hat
  have HN4 := hide ((hb4.block _ (lt_of_block HN3.out)).trans HN3.out)
  have HR4 := hide ((hb4.block _ (lt_of_block HR3.out)).trans HR3.out)
  have HO4 := hide ((hb4.block _ (lt_of_block HO3.out)).trans HO3.out)
  have HB4 := hide (HB3.out.trans (hb4.mono HB3.out.size))
  have HCl4 := hide (HCl3.out.below hb4)
  clear n0 n1 o0 o1 hat hb4 hth HPl
  obtain ⟨n0, n1, -⟩ := cells_two HN4.out
  obtain ⟨o0, o1, -⟩ := cells_two HO4.out
  have HLy : Hid (ys.length = n) := by
    have h1 := congrArg List.length HEr.out
    rw [ers_len, ers_len, HE.out.len] at h1
    exact h1
  have c4 : IntKind.i64.wrap ((i : Int) + 1) = (i : Int) + 1 := by rw [IntKind.wrap_i64] <;> omega
  have hrow : w4.ownsRow (w1.heap.size + 2) 28 4 (.slice (some ⟨g, 0, none⟩) n n) n (rowc ys) := by
    have := HCl4.out.row
    rw [HLy.out] at this
    exact this
  have HDe := hide (delete_any g n i (w1.heap.size + 2) ys w4 hin (by omega) HLy.out hrow)
  have HGl : Hid (w1.heap.size + 2 ≤ g ∧ g < w4.heap.size) := hide (row_base hrow rfl)
  have hgo : w2.heap.size ≠ g := fun e => by
    obtain ⟨-, -, cur, h1⟩ := HCl4.out.block (k := g) rfl
    rw [← e, HO4.out] at h1
    simp at h1
  clear hrow
  go_wp2_with fail
  refine HDe.out.mono ?_
  rintro e w5 ⟨rfl, hown, hg5⟩
  have HOw := hide hown
  have HG5 : Hid (∀ k, k < w4.heap.size → k ≠ g → w5.heap[k]? = w4.heap[k]?) := hide (fun k hk hne => hg5.block k hk (by simpa using hne))
  have HB5 : Hid (Below w.heap.size w w5) := hide (HB4.out.trans ⟨hg5.os, hg5.tape, hg5.output, hg5.size, fun k hk => hg5.block k (by have := HB4.out.size; omega) (by have := HGl.out.1; have := HS1.out; simp; omega)⟩)
  clear hown hg5 o0 o1
  have ho5 := (HG5.out _ (lt_of_block HO4.out) hgo).trans HO4.out
  obtain ⟨o0, o1, -⟩ := cells_two ho5
  have o2 := frozen_blk (j := 1) ho5
  have HO5 := hide ho5
  clear ho5
  all_goals
    have s2 := HS2.out
    have s1 := HS1.out
    have hg1 := HGl.out
    have s4 : w2.heap.size < w4.heap.size := lt_of_block HO4.out
    have r5 := (HG5.out _ (lt_of_block HR4.out) (by omega)).trans HR4.out
    have hne : w.heap.size + 1 ≠ w2.heap.size := by omega
    have hne' := Ne.symm hne
    have r8 : (w5.setCell ⟨w2.heap.size, 1, none⟩ (.slice (some ⟨g, 0, none⟩) (n - 1) n)).heap[w.heap.size + 1]? = some (.cells #[.bool false, .slice none 0 0] 24 (0, 0)) := (Below.heap_setCell _ _ _ _ hne).trans r5
    have p8 := one_set (v := (.slice (some ⟨g, 0, none⟩) (n - 1) n)) HO5.out
    obtain ⟨e0, e1, -⟩ := cells_two p8
    obtain ⟨f0, f1, -⟩ := cells_two r8
    have f2 := frozen_blk (j := 0) r8
    have f3 := frozen_blk (j := 1) r8
    have HP8 := hide r8
    go_wp2
    have hf := two_set (u := .bool leaf) (v := (.slice (some ⟨g, 0, none⟩) (n - 1) n)) HP8.out
    obtain ⟨q0, q1, -⟩ := cells_two hf
    have hk9 : ∀ k, k ≠ w2.heap.size → k ≠ w.heap.size + 1 → (((w5.setCell ⟨w2.heap.size, 1, none⟩ (.slice (some ⟨g, 0, none⟩) (n - 1) n)).setCell ⟨w.heap.size + 1, 0, none⟩ (.bool leaf)).setCell ⟨w.heap.size + 1, 1, none⟩ (.slice (some ⟨g, 0, none⟩) (n - 1) n)).heap[k]? = w5.heap[k]? := fun k h1 h2 => (two_other h2).trans (Below.heap_setCell _ _ _ _ h1)
    refine bodyPost_ret (v := .tuple #[.agg #[.bool leaf, (.slice (some ⟨g, 0, none⟩) (n - 1) n)], .bool true]) ?_ rfl ?_
    · simp [results, Try.results10, go_sem, q0, q1]
    · refine ⟨i, _, _, ys.eraseIdx i, rfl, HAt.out, hin, ?_, row_ens2 ?_ (row_of_block HOw.out fun k hk => ?_) ?_, ?_⟩
      · have h1 := HEr.out
        rw [← h1]
        simp only [ers, List.eraseIdx_eq_take_drop_succ, List.map_append, List.map_take, List.map_drop]
      · rw [List.length_eraseIdx, HLy.out, if_pos hin]
      · have e : k = g := by simpa [Value.ownBlock] using hk.symm
        rw [e]
        exact hk9 g (Ne.symm hgo) (by omega)
      · intro o ho
        have ho' := List.mem_of_mem_eraseIdx ho
        have hown := HCl4.out.each o ho'
        refine (hown.of_block (w' := (((w5.setCell ⟨w2.heap.size, 1, none⟩ (.slice (some ⟨g, 0, none⟩) (n - 1) n)).setCell ⟨w.heap.size + 1, 0, none⟩ (.bool leaf)).setCell ⟨w.heap.size + 1, 1, none⟩ (.slice (some ⟨g, 0, none⟩) (n - 1) n))) fun k hk => ?_).ok
        obtain ⟨cur, hu⟩ := hown.u8 hk
        have hkb := hown.ge hk
        refine (hk9 k (fun e => ?_) (by omega)).trans (HG5.out k (hown.lt hk) (fun e => ?_))
        · rw [e, HO4.out] at hu
          simp at hu
        · obtain ⟨-, -, cur', hu'⟩ := HCl4.out.block (k := g) rfl
          rw [e] at hu
          exact type_ne hu hu'
      · exact ((HB5.out.setCell (p := ⟨w2.heap.size, 1, none⟩) (show w.heap.size ≤ w2.heap.size by omega) _).setCell (p := ⟨w.heap.size + 1, 0, none⟩) (show w.heap.size ≤ w.heap.size + 1 by omega) _).setCell (p := ⟨w.heap.size + 1, 1, none⟩) (show w.heap.size ≤ w.heap.size + 1 by omega) _
end Go.Proofs.Ytcflnkepopcofaa
