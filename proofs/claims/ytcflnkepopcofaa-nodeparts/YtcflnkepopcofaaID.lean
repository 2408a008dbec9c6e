/- Put of an entry whose key is not there. -/
import Derived.Test.YtcflnkepopcofaaIC
import Derived.Test.YtcflnkepopcofaaFB
import Derived.Test.YtcflnkepopcofaaMU
namespace Go.Proofs.Ytcflnkepopcofaa
open Go.RowKit
set_option linter.unusedVariables false

theorem node_entry3 (w : World) (a b : Value) (x : En) : ∃ w1, w1 = ((w.alloc (.cells #[a, b] 24)).alloc (.cells #[.slice x.ka x.e.key.length x.kc, .slice x.va x.e.val.length x.vc, .int .u32 (x.e.page : Int), .int .u32 (x.e.size : Int)] 28)).alloc (.cells #[.bool false, .slice none 0 0] 24) ∧ Below w.heap.size w w1 ∧ w1.heap[w.heap.size]? = some (.cells #[a, b] 24 (0, 0)) ∧ w1.heap[w.heap.size + 1]? = some (.cells #[.slice x.ka x.e.key.length x.kc, .slice x.va x.e.val.length x.vc, .int .u32 (x.e.page : Int), .int .u32 (x.e.size : Int)] 28 (0, 0)) ∧ w1.heap[w.heap.size + 1 + 1]? = some (.cells #[.bool false, .slice none 0 0] 24 (0, 0)) ∧ w1.heap.size = w.heap.size + 3 := by
  have h1 := heap_alloc_new (w.alloc (.cells #[a, b] 24)) (.cells #[.slice x.ka x.e.key.length x.kc, .slice x.va x.e.val.length x.vc, .int .u32 (x.e.page : Int), .int .u32 (x.e.size : Int)] 28)
  have h2 := heap_alloc_new ((w.alloc (.cells #[a, b] 24)).alloc (.cells #[.slice x.ka x.e.key.length x.kc, .slice x.va x.e.val.length x.vc, .int .u32 (x.e.page : Int), .int .u32 (x.e.size : Int)] 28)) (.cells #[.bool false, .slice none 0 0] 24)
  rw [World.size_alloc] at h1
  rw [World.size_alloc, World.size_alloc] at h2
  exact ⟨_, rfl, (two_alloc _ _).alloc (by simp; omega) _, ((Below.heap_alloc _ _ _ (by simp; omega)).trans (Below.heap_alloc _ _ _ (by simp))).trans (heap_alloc_new w _), (Below.heap_alloc _ _ _ (by simp)).trans h1, h2, by simp⟩
set_option maxHeartbeats 3200000 in
set_option maxRecDepth 1000000 in
theorem put_new (leaf : Bool) (a : Option Addr) (n c : Nat) (xs : List En) (x : En) (w : World) (h : Ens w a n c xs) (hx : x.Ok w) (hn : n ≤ 100000) (hw : wts (ers xs) ≤ 1000000) (hkx : x.e.key.length + x.e.val.length ≤ 1000000) (hnew : ∀ z ∈ xs, z.e.key ≠ x.e.key) :
    Calls Try.prog 7 #[.agg #[.bool leaf, .slice a n c], .agg #[.slice x.ka x.e.key.length x.kc, .slice x.va x.e.val.length x.vc, .int .u32 (x.e.page : Int), .int .u32 (x.e.size : Int)]] w fun e w' => ∃ i a' c' zs, e = .returned (.agg #[.bool leaf, .slice a' (n + 1) c']) ∧ At (pge x.e.key) xs i ∧ ers zs = (ers xs).take i ++ x.e :: (ers xs).drop i ∧ Ens w' a' (n + 1) c' zs ∧ Below w.heap.size w w' := by
  obtain ⟨w1, hw1, hB, hb0, hb1, hbr, hs1⟩ := node_entry3 w (.bool leaf) (.slice a n c) x
  have HB := hide hB
  have HB0 := hide hb0
  have HB1 := hide hb1
  have HS1 := hide hs1
  have HR1 := hide hbr
  have HE := hide h
  have HX := hide hx
  have HNw := hide hnew
  have HWt := hide hw
  obtain ⟨n0, n1, -⟩ := cells_two hb0
  obtain ⟨y0, y1, y2, y3, -⟩ := cells_four hb1
  rw [hw1] at n0 n1 y0 y1 y2 y3
  clear h hx hB hb0 hb1 hbr hs1 hnew hw
  go_enter Try.func7, Try.ntmps7
  go_wp2_with fail
  rw [← hw1] at *
  clear hw1
  refine (cnode_cap leaf a n c xs w1 (HE.out.below HB.out) (by omega) HWt.out).mono ?_
  rintro e w2 ⟨g, ys, rfl, her, hcl, hb2⟩
  have HEr := hide her
  have HCl := hide hcl
  have HB2 := hide (HB.out.trans (hb2.mono HB.out.size))
  have HN2 := hide ((hb2.block _ (lt_of_block HB0.out)).trans HB0.out)
  have HX2 := hide ((hb2.block _ (lt_of_block HB1.out)).trans HB1.out)
  have HR2 := hide ((hb2.block _ (lt_of_block HR1.out)).trans HR1.out)
  have HS2 : Hid (w.heap.size + 3 ≤ w2.heap.size) := hide (by have := hb2.size; have := HS1.out; omega)
  have hb3 := below_alloc w2 (.cells #[.bool leaf, .slice (some ⟨g, 0, none⟩) n n] 24)
  have HO3 := hide (heap_alloc_new w2 (.cells #[.bool leaf, .slice (some ⟨g, 0, none⟩) n n] 24))
  have HN3 := hide ((hb3.block _ (lt_of_block HN2.out)).trans HN2.out)
  have HX3 := hide ((hb3.block _ (lt_of_block HX2.out)).trans HX2.out)
  have HR3 := hide ((hb3.block _ (lt_of_block HR2.out)).trans HR2.out)
  have HB3 := hide (HB2.out.trans (hb3.mono HB2.out.size))
  have HCl3 := hide (HCl.out.below hb3)
  clear n0 n1 y0 y1 y2 y3 her hcl hb2 hb3
  obtain ⟨n0, n1, -⟩ := cells_two HN3.out
  obtain ⟨y0, y1, y2, y3, -⟩ := cells_four HX3.out
  obtain ⟨o0, o1, -⟩ := cells_two HO3.out
  have HPl := hide (place_any x.ka x.e.key.length x.kc x.e.key a n c xs _ (HX.out.below HB3.out).key (HE.out.below HB3.out) (by omega))
  go_wp2_with fail
  refine HPl.out.mono ?_
  rintro e w4 ⟨i, rfl, hat, hb4⟩
  have hth : ther xs i x.e.key = false := by
    unfold ther
    split
    · rename_i z hz
      exact decide_eq_false (HNw.out z (List.mem_of_getElem? hz))
    · rfl
  rw [hth]
  have HAt := hide hat
  have HN4 := hide ((hb4.block _ (lt_of_block HN3.out)).trans HN3.out)
  have HX4 := hide ((hb4.block _ (lt_of_block HX3.out)).trans HX3.out)
  have HR4 := hide ((hb4.block _ (lt_of_block HR3.out)).trans HR3.out)
  have HS4 : Hid (w2.heap.size < w4.heap.size) := hide (lt_of_block ((hb4.block _ (lt_of_block HO3.out)).trans HO3.out))
  have HO4 := hide ((hb4.block _ (lt_of_block HO3.out)).trans HO3.out)
  have HB4 := hide (HB3.out.trans (hb4.mono HB3.out.size))
  have HCl4 := hide (HCl3.out.below hb4)
  clear n0 n1 y0 y1 y2 y3 o0 o1 hat hb4 hth HPl
  obtain ⟨n0, n1, -⟩ := cells_two HN4.out
  obtain ⟨y0, y1, y2, y3, -⟩ := cells_four HX4.out
  obtain ⟨o0, o1, -⟩ := cells_two HO4.out
  have HLy : Hid (ys.length = n) := by
    have h1 := congrArg List.length HEr.out
    rw [ers_len, ers_len, HE.out.len] at h1
    exact h1
  have HIn : Hid (i ≤ n) := by have := HAt.out.1; rw [HE.out.len] at this; exact this
  have HCe := hide (centry_any x w4.drew ((HX.out.below HB4.out).below (Below.refl _ _).drew) (by omega) (by omega))
  go_wp2_with fail
  go_region_with (first
    | (go_at_call 21; refine HCe.out.mono ?_; rintro e w5 ⟨y, rfl, hye, hyo, hb5⟩; simp only [En.v]; have HYe := hide hye; have HYo := hide hyo; have HB5 : Hid (Below w4.heap.size w4 w5) := hide ((Below.refl _ _).drew.trans hb5); clear hye hyo hb5 o0 o1 y0 y1 y2 y3; obtain ⟨y0, y1, y2, y3, -⟩ := cells_four ((HB5.out.block _ (lt_of_block HX4.out)).trans HX4.out); obtain ⟨o0, o1, -⟩ := cells_two ((HB5.out.block _ (lt_of_block HO4.out)).trans HO4.out); have HO5 := hide ((HB5.out.block _ (lt_of_block HO4.out)).trans HO4.out); have HB6 := hide (below_alloc w5 (.cells #[.slice y.ka y.e.key.length y.kc, .slice y.va y.e.val.length y.vc, .int .u32 (y.e.page : Int), .int .u32 (y.e.size : Int)] 28)); have o1' := one_below1 o1 HB6.out)
    | (go_at_call 22; refine (insert_any g w5.heap.size n i ys y (w5.alloc (.cells #[.slice y.ka y.e.key.length y.kc, .slice y.va y.e.val.length y.vc, .int .u32 (y.e.page : Int), .int .u32 (y.e.size : Int)] 28)) HIn.out (by omega) HLy.out (fun j u hu => by have := ((HCl4.out.below HB5.out).below HB6.out).row.cells (g := g) rfl j u hu; rw [Addr.add_lit] at this; simpa using this) (fun j u hu => by have := box_news w5 y j u hu; rw [Addr.add_lit] at this; simpa using this)).mono ?_; rintro e w7 ⟨g', G, rfl, hown, hb7⟩; have HOw := hide hown; have HB7 := hide hb7; have HO7 := hide ((hb7.block _ (by have := lt_of_block HO5.out; simp; omega)).trans ((HB6.out.block _ (lt_of_block HO5.out)).trans HO5.out)); clear hown hb7 o0 o1 o1'; obtain ⟨o0, o1, -⟩ := cells_two HO7.out; have o2 := frozen_blk (j := 1) HO7.out))
  all_goals
    have hs5 : w4.heap.size ≤ w5.heap.size := HB5.out.size
    have hs6 : w5.heap.size + 1 ≤ w7.heap.size := by have := HB7.out.size; simp at this; omega
    have h57 : ∀ k, k < w5.heap.size → w7.heap[k]? = w5.heap[k]? := fun k hk => (HB7.out.block k (by simp; omega)).trans (HB6.out.block k hk)
    have h47 : ∀ k, k < w4.heap.size → w7.heap[k]? = w4.heap[k]? := fun k hk => (h57 k (by omega)).trans (HB5.out.block k hk)
    have r7 := (h47 _ (lt_of_block HR4.out)).trans HR4.out
    have hne : w.heap.size + 1 + 1 ≠ w2.heap.size := by have := HS2.out; omega
    have r8 : (w7.setCell ⟨w2.heap.size, 1, none⟩ (.slice (some ⟨g', 0, none⟩) (n + 1) G)).heap[w.heap.size + 1 + 1]? = some (.cells #[.bool false, .slice none 0 0] 24 (0, 0)) := (Below.heap_setCell _ _ _ _ hne).trans r7
    have p8 := one_set (v := (.slice (some ⟨g', 0, none⟩) (n + 1) G)) HO7.out
    obtain ⟨e0, e1, -⟩ := cells_two p8
    obtain ⟨f0, f1, -⟩ := cells_two r8
    have f2 := frozen_blk (j := 0) r8
    have f3 := frozen_blk (j := 1) r8
    have hne' := Ne.symm hne
    have HH := hide h47
    have HH5 := hide h57
    have HP8 := hide r8
    clear h47 h57
    go_wp2
    have hf := two_set (u := .bool leaf) (v := (.slice (some ⟨g', 0, none⟩) (n + 1) G)) HP8.out
    obtain ⟨q0, q1, -⟩ := cells_two hf
    have hk9 : ∀ k, k ≠ w2.heap.size → k ≠ w.heap.size + 1 + 1 → (((w7.setCell ⟨w2.heap.size, 1, none⟩ (.slice (some ⟨g', 0, none⟩) (n + 1) G)).setCell ⟨w.heap.size + 1 + 1, 0, none⟩ (.bool leaf)).setCell ⟨w.heap.size + 1 + 1, 1, none⟩ (.slice (some ⟨g', 0, none⟩) (n + 1) G)).heap[k]? = w7.heap[k]? := fun k h1 h2 => (two_other h2).trans (Below.heap_setCell _ _ _ _ h1)
    refine bodyPost_ret (v := .agg #[.bool leaf, (.slice (some ⟨g', 0, none⟩) (n + 1) G)]) ?_ rfl ?_
    · simp [results, Try.results7, go_sem, q0, q1]
    · have s2 := HS2.out
      have s4 := HS4.out
      have s1 := HS1.out
      refine ⟨i, _, _, ys.take i ++ y :: ys.drop i, rfl, HAt.out, ?_, row_ens2 ?_ (row_of_block HOw.out fun k hk => hk9 k ?_ ?_) ?_, ?_⟩
      · have h1 := HEr.out
        have h2 := HYe.out
        simp only [ers, List.map_append, List.map_cons, List.map_take, List.map_drop] at h1 ⊢
        rw [h1, h2]
      · have := HLy.out
        have := HIn.out
        simp only [List.length_append, List.length_cons, List.length_take, List.length_drop]
        omega
      · have := (row_base HOw.out hk).1
        simp at this
        omega
      · have := (row_base HOw.out hk).1
        simp at this
        omega
      · have hys : ∀ z ∈ ys, z.Ok (((w7.setCell ⟨w2.heap.size, 1, none⟩ (.slice (some ⟨g', 0, none⟩) (n + 1) G)).setCell ⟨w.heap.size + 1 + 1, 0, none⟩ (.bool leaf)).setCell ⟨w.heap.size + 1 + 1, 1, none⟩ (.slice (some ⟨g', 0, none⟩) (n + 1) G)) := fun z hz => ((HCl4.out.each z hz).of_block (w' := (((w7.setCell ⟨w2.heap.size, 1, none⟩ (.slice (some ⟨g', 0, none⟩) (n + 1) G)).setCell ⟨w.heap.size + 1 + 1, 0, none⟩ (.bool leaf)).setCell ⟨w.heap.size + 1 + 1, 1, none⟩ (.slice (some ⟨g', 0, none⟩) (n + 1) G))) fun k hk => by
          have hl := (HCl4.out.each z hz).lt hk
          have hg := (HCl4.out.each z hz).ge hk
          refine (hk9 k (fun e => ?_) (by omega)).trans (HH.out k hl)
          obtain ⟨cur, hu⟩ := (HCl4.out.each z hz).u8 hk
          rw [e, HO4.out] at hu
          simp at hu).ok
        intro z hz
        rcases List.mem_append.1 hz with hz | hz
        · exact hys z (List.mem_of_mem_take hz)
        · rcases List.mem_cons.1 hz with rfl | hz
          · exact (HYo.out.of_block (w' := (((w7.setCell ⟨w2.heap.size, 1, none⟩ (.slice (some ⟨g', 0, none⟩) (n + 1) G)).setCell ⟨w.heap.size + 1 + 1, 0, none⟩ (.bool leaf)).setCell ⟨w.heap.size + 1 + 1, 1, none⟩ (.slice (some ⟨g', 0, none⟩) (n + 1) G))) fun k hk => by
              have hl := HYo.out.lt hk
              have hg := HYo.out.ge hk
              simp only [World.drew] at hg
              exact (hk9 k (by omega) (by omega)).trans (HH5.out k hl)).ok
          · exact hys z (List.mem_of_mem_drop hz)
      · have hb7 : Below w.heap.size w w7 := ((HB4.out.trans (HB5.out.mono HB4.out.size)).trans (HB6.out.mono (by omega))).trans (HB7.out.mono (by simp; omega))
        exact ((hb7.setCell (p := ⟨w2.heap.size, 1, none⟩) (show w.heap.size ≤ w2.heap.size by omega) _).setCell (p := ⟨w.heap.size + 1 + 1, 0, none⟩) (show w.heap.size ≤ w.heap.size + 1 + 1 by omega) _).setCell (p := ⟨w.heap.size + 1 + 1, 1, none⟩) (show w.heap.size ≤ w.heap.size + 1 + 1 by omega) _
end Go.Proofs.Ytcflnkepopcofaa
