/- Put of an entry whose key is there. -/
import Derived.Test.YtcflnkepopcofaaID
namespace Go.Proofs.Ytcflnkepopcofaa
open Go.RowKit
set_option linter.unusedVariables false

theorem rowc_set (ys : List En) (i : Nat) (y : En) (hi : i < ys.length) : ((((rowc ys).set (i * 4) (.slice y.ka y.e.key.length y.kc)).set (i * 4 + 1) (.slice y.va y.e.val.length y.vc)).set (i * 4 + 2) (.int .u32 (y.e.page : Int))).set (i * 4 + 3) (.int .u32 (y.e.size : Int)) = rowc (ys.set i y) := by
  induction ys generalizing i with
  | nil => simp at hi
  | cons z zs ih =>
    cases i with
    | zero => simp [rowc, En.cells]
    | succ i =>
      have e : (i + 1) * 4 = i * 4 + 4 := by omega
      have h := ih i (by simpa using hi)
      have h1 : rowc (z :: zs) = z.cells ++ rowc zs := by simp [rowc]
      have h2 : rowc ((z :: zs).set (i + 1) y) = z.cells ++ rowc (zs.set i y) := by simp [rowc]
      rw [h1, h2, ← h, e]
      simp [En.cells, Nat.add_right_comm _ 4]
set_option maxHeartbeats 3200000 in
set_option maxRecDepth 1000000 in
theorem put_old (leaf : Bool) (a : Option Addr) (n c : Nat) (xs : List En) (x : En) (w : World) (h : Ens w a n c xs) (hx : x.Ok w) (hn : n ≤ 100000) (hw : wts (ers xs) ≤ 1000000) (hkx : x.e.key.length + x.e.val.length ≤ 1000000) (hold : ∀ i, At (pge x.e.key) xs i → ther xs i x.e.key = true) :
    Calls Try.prog 7 #[.agg #[.bool leaf, .slice a n c], .agg #[.slice x.ka x.e.key.length x.kc, .slice x.va x.e.val.length x.vc, .int .u32 (x.e.page : Int), .int .u32 (x.e.size : Int)]] w fun e w' => ∃ i a' c' zs, e = .returned (.agg #[.bool leaf, .slice a' n c']) ∧ At (pge x.e.key) xs i ∧ i < n ∧ ers zs = (ers xs).set i x.e ∧ Ens w' a' n c' zs ∧ Below w.heap.size w w' := by
  obtain ⟨w1, hw1, hB, hb0, hb1, hbr, hs1⟩ := node_entry3 w (.bool leaf) (.slice a n c) x
  have HB := hide hB
  have HB0 := hide hb0
  have HB1 := hide hb1
  have HS1 := hide hs1
  have HR1 := hide hbr
  have HE := hide h
  have HX := hide hx
  have HNw := hide hold
  have HWt := hide hw
  obtain ⟨n0, n1, -⟩ := cells_two hb0
  obtain ⟨y0, y1, y2, y3, -⟩ := cells_four hb1
  rw [hw1] at n0 n1 y0 y1 y2 y3
  clear h hx hB hb0 hb1 hbr hs1 hold hw
  go_enter Try.func7, Try.ntmps7
  go_wp2_with fail
  rw [← hw1] at *
  clear hw1
  refine (cnode_cap leaf a n c xs w1 (HE.out.below HB.out) (by omega) HWt.out).mono ?_
  rintro e w2 ⟨g, ys, rfl, her, hcl, hb2⟩
  have HEr := hide her
  have HCl := hide hcl
  have HB2 := hide (HB.out.trans (hb2.mono HB.out.size))
  have HN2 := hide ((hb2.block _ (lt_of_block HB0.out)).trans HB0.out)
  have HX2 := hide ((hb2.block _ (lt_of_block HB1.out)).trans HB1.out)
  have HR2 := hide ((hb2.block _ (lt_of_block HR1.out)).trans HR1.out)
  have HS2 : Hid (w.heap.size + 3 ≤ w2.heap.size) := hide (by have := hb2.size; have := HS1.out; omega)
  have hb3 := below_alloc w2 (.cells #[.bool leaf, .slice (some ⟨g, 0, none⟩) n n] 24)
  have HO3 := hide (heap_alloc_new w2 (.cells #[.bool leaf, .slice (some ⟨g, 0, none⟩) n n] 24))
  have HN3 := hide ((hb3.block _ (lt_of_block HN2.out)).trans HN2.out)
  have HX3 := hide ((hb3.block _ (lt_of_block HX2.out)).trans HX2.out)
  have HR3 := hide ((hb3.block _ (lt_of_block HR2.out)).trans HR2.out)
  have HB3 := hide (HB2.out.trans (hb3.mono HB2.out.size))
  have HCl3 := hide (HCl.out.below hb3)
  clear n0 n1 y0 y1 y2 y3 her hcl hb2 hb3
  obtain ⟨n0, n1, -⟩ := cells_two HN3.out
  obtain ⟨y0, y1, y2, y3, -⟩ := cells_four HX3.out
  obtain ⟨o0, o1, -⟩ := cells_two HO3.out
  have HPl := hide (place_any x.ka x.e.key.length x.kc x.e.key a n c xs _ (HX.out.below HB3.out).key (HE.out.below HB3.out) (by omega))
  go_wp2_with fail
  refine HPl.out.mono ?_
  rintro e w4 ⟨i, rfl, hat, hb4⟩
  have hth := HNw.out i hat
  have hin : i < n := by
    unfold ther at hth
    split at hth
    · rename_i z hz
      have := (List.getElem?_eq_some_iff.1 hz).1
      rw [HE.out.len] at this
      exact this
    · cases hth
  rw [hth]
  have HAt := hide hat
  have HN4 := hide ((hb4.block _ (lt_of_block HN3.out)).trans HN3.out)
  have HX4 := hide ((hb4.block _ (lt_of_block HX3.out)).trans HX3.out)
  have HR4 := hide ((hb4.block _ (lt_of_block HR3.out)).trans HR3.out)
  have HS4 : Hid (w2.heap.size < w4.heap.size) := hide (lt_of_block ((hb4.block _ (lt_of_block HO3.out)).trans HO3.out))
  have HO4 := hide ((hb4.block _ (lt_of_block HO3.out)).trans HO3.out)
  have HB4 := hide (HB3.out.trans (hb4.mono HB3.out.size))
  have HCl4 := hide (HCl3.out.below hb4)
  clear n0 n1 y0 y1 y2 y3 o0 o1 hat hb4 hth HPl
  obtain ⟨n0, n1, -⟩ := cells_two HN4.out
  obtain ⟨y0, y1, y2, y3, -⟩ := cells_four HX4.out
  obtain ⟨o0, o1, -⟩ := cells_two HO4.out
  have HLy : Hid (ys.length = n) := by
    have h1 := congrArg List.length HEr.out
    rw [ers_len, ers_len, HE.out.len] at h1
    exact h1
  have HCe := hide (centry_any x w4.drew ((HX.out.below HB4.out).below (Below.refl _ _).drew) (by omega) (by omega))
  have c11 : (0 : Int) ≤ (i : Int) := by omega
  have c12 : (i : Int) < (n : Int) := by omega
  obtain ⟨z, hz⟩ : ∃ z, ys[i]? = some z := ⟨_, List.getElem?_eq_getElem (by rw [HLy.out]; exact hin)⟩
  have HZ := hide hz
  clear hz
  go_wp2_with fail
  go_region_with (first
    | (go_at_call 21; refine HCe.out.mono ?_; rintro e w5 ⟨y, rfl, hye, hyo, hb5⟩; simp only [En.v]; have HYe := hide hye; have HYo := hide hyo; have HB5 : Hid (Below w4.heap.size w4 w5) := hide ((Below.refl _ _).drew.trans hb5); clear hye hyo hb5 o0 o1 y0 y1 y2 y3; obtain ⟨y0, y1, y2, y3, -⟩ := cells_four ((HB5.out.block _ (lt_of_block HX4.out)).trans HX4.out); obtain ⟨o0, o1, -⟩ := cells_two ((HB5.out.block _ (lt_of_block HO4.out)).trans HO4.out); have hrow := (HCl4.out.below HB5.out).row; have k0 := hrow.cells (g := g) rfl _ _ (rowc_at HZ.out (j := 0) rfl); have k1 := hrow.cells (g := g) rfl _ _ (rowc_at HZ.out (j := 1) rfl); have k2 := hrow.cells (g := g) rfl _ _ (rowc_at HZ.out (j := 2) rfl); have k3 := hrow.cells (g := g) rfl _ _ (rowc_at HZ.out (j := 3) rfl); simp only [Addr.add_lit, Nat.zero_add, Nat.add_zero] at k0 k1 k2 k3; obtain ⟨-, -, cur, hcur⟩ := (HCl4.out.below HB5.out).block (k := g) rfl; have j0 := frozen_blk (j := i * 4) hcur; have j1 := frozen_blk (j := i * 4 + 1) hcur; have j2 := frozen_blk (j := i * 4 + 2) hcur; have j3 := frozen_blk (j := i * 4 + 3) hcur; have HRow := hide hrow; have HCur := hide hcur; clear hrow hcur))
  all_goals
    have hs5 : w4.heap.size ≤ w5.heap.size := HB5.out.size
    have s2 := HS2.out
    have s1 := HS1.out
    have s4 := HS4.out
    have hgB : w1.heap.size + 2 ≤ g := ((HCl4.out.below HB5.out).block (k := g) rfl).1
    have ho5 := (HB5.out.block _ (lt_of_block HO4.out)).trans HO4.out
    have hgo : w2.heap.size ≠ g := fun e => by
      have h1 := HCur.out
      rw [← e, ho5] at h1
      simp at h1
    have hoth : ∀ k, k ≠ g → ((((w5.setCell ⟨g, i * 4, none⟩ (.slice y.ka y.e.key.length y.kc)).setCell ⟨g, i * 4 + 1, none⟩ (.slice y.va y.e.val.length y.vc)).setCell ⟨g, i * 4 + 2, none⟩ (.int .u32 (y.e.page : Int))).setCell ⟨g, i * 4 + 3, none⟩ (.int .u32 (y.e.size : Int))).heap[k]? = w5.heap[k]? := fun k hk => (Below.heap_setCell _ _ _ _ hk).trans ((Below.heap_setCell _ _ _ _ hk).trans ((Below.heap_setCell _ _ _ _ hk).trans (Below.heap_setCell _ _ _ _ hk)))
    have hrow := HRow.out
    rw [HLy.out] at hrow
    have hown8 := ((((hrow.stored (i * 4) (.slice y.ka y.e.key.length y.kc)).1.stored (i * 4 + 1) (.slice y.va y.e.val.length y.vc)).1.stored (i * 4 + 2) (.int .u32 (y.e.page : Int))).1.stored (i * 4 + 3) (.int .u32 (y.e.size : Int))).1
    rw [rowc_set ys i y (by rw [HLy.out]; exact hin)] at hown8
    have hb8 : Below w.heap.size w ((((w5.setCell ⟨g, i * 4, none⟩ (.slice y.ka y.e.key.length y.kc)).setCell ⟨g, i * 4 + 1, none⟩ (.slice y.va y.e.val.length y.vc)).setCell ⟨g, i * 4 + 2, none⟩ (.int .u32 (y.e.page : Int))).setCell ⟨g, i * 4 + 3, none⟩ (.int .u32 (y.e.size : Int))) := (((((HB4.out.trans (HB5.out.mono HB4.out.size)).setCell (p := ⟨g, i * 4, none⟩) (show w.heap.size ≤ g by omega) _).setCell (p := ⟨g, i * 4 + 1, none⟩) (show w.heap.size ≤ g by omega) _).setCell (p := ⟨g, i * 4 + 2, none⟩) (show w.heap.size ≤ g by omega) _).setCell (p := ⟨g, i * 4 + 3, none⟩) (show w.heap.size ≤ g by omega) _)
    have HOth := hide hoth
    have HOw := hide hown8
    have HB8 := hide hb8
    clear hoth hown8 hb8 hrow k0 k1 k2 k3 j0 j1 j2 j3 o0 o1 y0 y1 y2 y3 ho5 HRow HCur
    generalize ((((w5.setCell ⟨g, i * 4, none⟩ (.slice y.ka y.e.key.length y.kc)).setCell ⟨g, i * 4 + 1, none⟩ (.slice y.va y.e.val.length y.vc)).setCell ⟨g, i * 4 + 2, none⟩ (.int .u32 (y.e.page : Int))).setCell ⟨g, i * 4 + 3, none⟩ (.int .u32 (y.e.size : Int))) = W8 at *
    have r8 := (HOth.out _ (show w.heap.size + 1 + 1 ≠ g by omega)).trans ((HB5.out.block _ (lt_of_block HR4.out)).trans HR4.out)
    have p8 := (HOth.out _ hgo).trans ((HB5.out.block _ (lt_of_block HO4.out)).trans HO4.out)
    obtain ⟨e0, e1, -⟩ := cells_two p8
    obtain ⟨f0, f1, -⟩ := cells_two r8
    have f2 := frozen_blk (j := 0) r8
    have f3 := frozen_blk (j := 1) r8
    have hne : w.heap.size + 1 + 1 ≠ w2.heap.size := by omega
    have hne' := Ne.symm hne
    have HP8 := hide r8
    go_wp2
    have hf := two_set (u := .bool leaf) (v := (.slice (some ⟨g, 0, none⟩) n n)) HP8.out
    obtain ⟨q0, q1, -⟩ := cells_two hf
    have hk9 : ∀ k, k ≠ w.heap.size + 1 + 1 → ((W8.setCell ⟨w.heap.size + 1 + 1, 0, none⟩ (.bool leaf)).setCell ⟨w.heap.size + 1 + 1, 1, none⟩ (.slice (some ⟨g, 0, none⟩) n n)).heap[k]? = W8.heap[k]? := fun k h2 => two_other h2
    refine bodyPost_ret (v := .agg #[.bool leaf, (.slice (some ⟨g, 0, none⟩) n n)]) ?_ rfl ?_
    · simp [results, Try.results7, go_sem, q0, q1]
    · refine ⟨i, _, _, ys.set i y, rfl, HAt.out, hin, ?_, row_ens2 ?_ (row_of_block HOw.out fun k hk => hk9 k ?_) ?_, ?_⟩
      · have h1 := HEr.out
        have h2 := HYe.out
        simp only [ers, List.map_set] at h1 ⊢
        rw [h1, h2]
      · rw [List.length_set, HLy.out]
      · have := (row_base HOw.out hk).1
        omega
      · have hup : ∀ (o : En) (B : Nat), o.Own B w5 → w.heap.size + 3 ≤ B → o.Ok ((W8.setCell ⟨w.heap.size + 1 + 1, 0, none⟩ (.bool leaf)).setCell ⟨w.heap.size + 1 + 1, 1, none⟩ (.slice (some ⟨g, 0, none⟩) n n)) := fun o B ho hB => (ho.of_block (w' := ((W8.setCell ⟨w.heap.size + 1 + 1, 0, none⟩ (.bool leaf)).setCell ⟨w.heap.size + 1 + 1, 1, none⟩ (.slice (some ⟨g, 0, none⟩) n n))) fun k hk => (hk9 k (by have := ho.ge hk; omega)).trans (HOth.out k (fun e => by
          obtain ⟨cur, hu⟩ := ho.u8 hk
          obtain ⟨-, -, cur', hu'⟩ := (HCl4.out.below HB5.out).block (k := g) rfl
          rw [e] at hu
          exact type_ne hu hu'))).ok
        intro o ho
        rcases List.mem_or_eq_of_mem_set ho with ho | rfl
        · exact hup o _ ((HCl4.out.below HB5.out).each o ho) (by omega)
        · exact hup o _ HYo.out (by simp only [World.drew]; omega)
      · exact (HB8.out.setCell (p := ⟨w.heap.size + 1 + 1, 0, none⟩) (show w.heap.size ≤ w.heap.size + 1 + 1 by omega) _).setCell (p := ⟨w.heap.size + 1 + 1, 1, none⟩) (show w.heap.size ≤ w.heap.size + 1 + 1 by omega) _
end Go.Proofs.Ytcflnkepopcofaa
