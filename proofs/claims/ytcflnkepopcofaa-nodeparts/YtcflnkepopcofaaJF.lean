/- Join of two branches. -/
import Derived.Test.YtcflnkepopcofaaJD
namespace Go.Proofs.Ytcflnkepopcofaa
open Go.RowKit
set_option linter.unusedVariables false

set_option maxHeartbeats 6400000 in
set_option maxRecDepth 1000000 in
theorem join_branch (leaf : Bool) (a : Option Addr) (n c : Nat) (xs : List En) (b : Option Addr) (m d : Nat) (ys : List En) (ka : Option Addr) (kn kc : Nat) (key : List Int) (w : World) (h : Ens w a n c xs) (k : Ens w b m d ys) (hk : Inn w ka kn kc key) (hn : n ≤ 100000) (hm : m ≤ 100000) (hw : wts (ers xs) ≤ 1000000) (hv : wts (ers ys) ≤ 1000000) (hkn : kn ≤ 1000000) (hp : leaf = false ∧ 0 < m) :
    Calls Try.prog 13 #[.agg #[.bool leaf, .slice a n c], .agg #[.bool leaf, .slice b m d], .slice ka kn kc] w fun e w' => ∃ a' c' us, e = .returned (.agg #[.bool leaf, .slice a' (n + m) c']) ∧ ers us = ers xs ++ withKey key (ers ys) ∧ Ens w' a' (n + m) c' us ∧ Below w.heap.size w w' := by
  obtain ⟨w1, hw1, hB, hb0, hb1, hbr, hs1⟩ := three_boxes w (.bool leaf) (.slice a n c) (.bool leaf) (.slice b m d) (.bool false) (.slice none 0 0)
  have HB := hide hB
  have HB0 := hide hb0
  have HB1 := hide hb1
  have HS1 := hide hs1
  have HR1 := hide hbr
  have HE := hide h
  have HF := hide k
  have HKy := hide hk
  have HWt := hide hw
  have HVt := hide hv
  have HP := hide hp
  clear hp
  obtain ⟨n0, n1, -⟩ := cells_two hb0
  obtain ⟨y0, y1, -⟩ := cells_two hb1
  rw [hw1] at n0 n1 y0 y1
  clear h k hk hB hb0 hb1 hbr hs1 hw hv
  go_enter Try.func13, Try.ntmps13
  go_wp2_with fail
  rw [← hw1] at *
  clear hw1
  refine (cnode_cap leaf a n c xs w1 (HE.out.below HB.out) (by omega) HWt.out).mono ?_
  rintro e w2 ⟨g, ps, rfl, her, hcl, hb2⟩
  have HEr := hide her
  have HB2 := hide (HB.out.trans (hb2.mono HB.out.size))
  have HN2 := hide ((hb2.block _ (lt_of_block HB0.out)).trans HB0.out)
  have HX2 := hide ((hb2.block _ (lt_of_block HB1.out)).trans HB1.out)
  have HR2 := hide ((hb2.block _ (lt_of_block HR1.out)).trans HR1.out)
  have HS2 : Hid (w.heap.size + 3 ≤ w2.heap.size) := hide (by have := hb2.size; have := HS1.out; omega)
  have hb3 := below_alloc w2 (.cells #[.bool leaf, .slice (some ⟨g, 0, none⟩) n n] 24)
  have HO3 := hide (heap_alloc_new w2 (.cells #[.bool leaf, .slice (some ⟨g, 0, none⟩) n n] 24))
  have HN3 := hide ((hb3.block _ (lt_of_block HN2.out)).trans HN2.out)
  have HX3 := hide ((hb3.block _ (lt_of_block HX2.out)).trans HX2.out)
  have HR3 := hide ((hb3.block _ (lt_of_block HR2.out)).trans HR2.out)
  have HB3 := hide (HB2.out.trans (hb3.mono HB2.out.size))
  have HCl3 := hide (hcl.below hb3)
  clear n0 n1 y0 y1 her hcl hb2 hb3
  go_wp2_with fail
  obtain ⟨i0, hi, hz0, hz1, hz2⟩ := info_parts Try.infoE
  obtain ⟨W3, hW3⟩ : ∃ W3, W3 = w2.alloc (.cells #[.bool leaf, .slice (some ⟨g, 0, none⟩) n n] 24) := ⟨_, rfl⟩
  rw [← hW3] at HO3 HN3 HX3 HR3 HB3 HCl3 ⊢
  clear hW3
  obtain ⟨q, hq⟩ : ∃ q, q = w2.heap.size := ⟨_, rfl⟩
  rw [← hq] at HO3 ⊢
  have HQ : Hid (w.heap.size + 3 ≤ q) := by rw [hq]; exact HS2.out
  clear hq HN2 HX2 HR2 HB2 HS2
  have HLp : Hid (ps.length = n) := by
    have h1 := congrArg List.length HEr.out
    rw [ers_len, ers_len, HE.out.len] at h1
    exact h1
  have HCb := hide (fun V (hV : Below W3.heap.size W3 V) => centries_any b m d ys V ((HF.out.below HB3.out).below hV) (by omega) HVt.out)
  have HSt : Hid (∀ V, Below W3.heap.size W3 V → V.cell? ⟨q, 1, none⟩ = some (.slice (some ⟨g, 0, none⟩) n n) ∧ V.cell? ⟨w.heap.size + 1, 1, none⟩ = some (.slice b m d)) := hide fun V hV => ⟨(cells_two ((hV.block _ (lt_of_block HO3.out)).trans HO3.out)).2.1, (cells_two ((hV.block _ (lt_of_block HX3.out)).trans HX3.out)).2.1⟩
  refine wp_region_noPanic ?_
  refine wp_region_held_drew (S := (fun V => V.cell? ⟨w.heap.size + 1, 1, none⟩ = some (.slice b m d))) (by kernel_rfl) (HSt.out _ (Below.refl _ _).drew).2 (fun _hS => ?_)
  refine wpAnyH_take (i := 0) (v := ?v0x19) rfl (by kernel_rfl) (by kernel_rfl) (by kernel_rfl) (fun _ _ _ h => h) (Or.inl ⟨by rfl, ?hy0x19⟩) (by assumption) ?rest0x19
  case hy0x19 => (intro w hSw; (try dsimp only at hSw); (first | (go_simp; with_reducible rfl) | go_simp))
  try simp only [Act.put, List.setIfInBounds_toArray]
  refine wpAnyH_take (i := 2) (v := ?v2x20) rfl (by kernel_rfl) (by kernel_rfl) (by kernel_rfl) (fun _ _ _ h => h) (Or.inl ⟨by rfl, ?hy2x20⟩) (by assumption) ?rest2x20
  case hy2x20 => (intro w hSw; (try dsimp only at hSw); (first | (go_simp; with_reducible rfl) | go_simp))
  try simp only [Act.put]
  refine wpAnyH_take (i := 3) (v := ?v3x21) rfl (by kernel_rfl) (by kernel_rfl) (by kernel_rfl) (fun _ _ _ h => h) (Or.inl ⟨by rfl, ?hy3x21⟩) (by assumption) ?rest3x21
  case hy3x21 => (intro w hSw; (try dsimp only at hSw); (first | (go_simp; with_reducible rfl) | go_simp))
  try simp only [Act.put]
  refine wpAnyH_ready (rs := [1, 4]) (by kernel_rfl) (by simp) ?_
  refine AllReadyH.cons rfl (fun K' hK => ?_) (AllReadyH.cons rfl (fun K' hK => ?_) AllReadyH.nil)
  · obtain ⟨q1, -⟩ := HSt.out (W3.drew) ((Below.refl _ _).drew)
    go_simp
    refine hK.out _ _ (by exact (HSt.out _ ((Below.refl _ _).drew)).2) (fun _hS => ?_)
    clear hK K' q1
    try simp only [Act.put, List.setIfInBounds_toArray, List.set_cons_zero, List.set_cons_succ]
    refine wpAnyH_ready (rs := [4]) (by kernel_rfl) (by simp) ?_
    refine AllReadyH.cons rfl (fun K' hK => ?_) AllReadyH.nil
    go_simp
    refine (HCb.out W3.drew (Below.refl _ _).drew).mono ?_
    rintro e w4 ⟨vb, zs, rfl, her2, hcl, hsm, hb4⟩
    have HB4 : Hid (Below W3.heap.size W3 w4) := (Below.refl _ _).drew.trans hb4
    have HFr := hide her2
    have HLz : Hid (zs.length = m) := by
      have h1 := congrArg List.length her2
      rw [ers_len, ers_len, HF.out.len] at h1
      exact h1
    obtain ⟨gb, cb, rfl⟩ : ∃ gb cb, vb = .slice (some ⟨gb, 0, none⟩) m cb := by
      rcases hcl.row.2 with ⟨rfl, _⟩ | ⟨gb, cap, cur, rfl, _⟩
      · simp [Value.ownBlock] at hsm
      · exact ⟨gb, cap, by rw [HLz.out]⟩
    have HCl4 : Hid (Cl W3.heap.size w4 (.slice (some ⟨gb, 0, none⟩) m cb) zs) := hcl
    refine hK.out _ _ (by exact (HSt.out _ HB4.out).2) (fun _hS => ?_)
    clear hK K' her2 hcl hsm hb4
    try simp only [Act.put, List.setIfInBounds_toArray, List.set_cons_zero, List.set_cons_succ]
    refine wpAnyH_ready (rs := [5]) (by kernel_rfl) (by simp) ?_
    refine AllReadyH.cons rfl (fun K' hK => ?_) AllReadyH.nil
    have HRow4 : Hid (w4.ownsRow (w1.heap.size + 2) 28 4 (.slice (some ⟨g, 0, none⟩) n n) n (rowc ps)) := by have h1 := (HCl3.out.below HB4.out).row; rw [HLp.out] at h1; exact h1
    have hs3 := HB3.out.size
    have hs4 := HB4.out.size
    refine step_append_own _ (by rfl) (.tmp 11) (.tmp 14) 22 (by rfl) (w1.heap.size + 2) 28 i0 _ 4 56 Try.underlying22 hi hz0 hz1 hz2 (by rfl) (by omega) (.slice (some ⟨g, 0, none⟩) n n) n (rowc ps) (by rfl) HRow4.out ⟨gb, 0, none⟩ m cb (rowc zs) (by rfl) (by rw [rowc_len, HLz.out]) (fun j u hu => by exact HCl4.out.row.cells (g := gb) rfl j u hu) (rowc_one_cell zs) (by unfold maxLen; omega) (by omega) (by have h1 := HCl3.out.block (k := g) rfl; omega) ?_
    intro v5 w5 hown5 hg5 hne5
    obtain ⟨a5, c5, rfl⟩ : ∃ a5 c5, v5 = .slice a5 (n + m) c5 := by
      rcases hown5.2 with ⟨rfl, h0⟩ | ⟨g5, cap, cur, rfl, _⟩
      · exact ⟨none, 0, by rw [h0]⟩
      · exact ⟨_, cap, rfl⟩
    have hgE : ∃ cur, w4.heap[g]? = some (.cells cur 28 (0, 0)) := by
      obtain ⟨_, _, cur, hc⟩ := (HCl3.out.below HB4.out).block (k := g) rfl
      exact ⟨cur, hc⟩
    obtain ⟨curg, hgE⟩ := hgE
    have hO4 := (HB4.out.block _ (lt_of_block HO3.out)).trans HO3.out
    have hN4 := (HB4.out.block _ (lt_of_block HN3.out)).trans HN3.out
    have hX4 := (HB4.out.block _ (lt_of_block HX3.out)).trans HX3.out
    have hR4 := (HB4.out.block _ (lt_of_block HR3.out)).trans HR3.out
    have hty : ∀ (k : Nat) (cs : Array Value), w4.heap[k]? = some (.cells cs 24 (0, 0)) → w5.heap[k]? = some (.cells cs 24 (0, 0)) := fun k cs hk => (hg5.block k (lt_of_block hk) (fun e => by
      have e2 : k = g := by simpa [Value.ownBlock] using e
      subst e2
      have := blk_type hgE hk
      revert this
      decide)).trans hk
    have HO5 := hide (hty _ _ hO4)
    have HN5 := hide (hty _ _ hN4)
    have HX5 := hide (hty _ _ hX4)
    have HR5 := hide (hty _ _ hR4)
    have HKb5 : Hid (Kb8 w4 w5) := Kb8.grown hg5 hgE (by decide)
    have HB45 : Hid (Below w.heap.size w4 w5) := (Below.refl _ _).grown hg5 (by have := HB3.out.size; omega) (fun k hk => by
      have e2 : k = g := by simpa [Value.ownBlock] using hk.symm
      have := (HCl3.out.block (k := g) rfl).1
      have := HS1.out
      omega)
    have HRow5 := hide hown5
    clear hown5 hg5 hne5 hgE hO4 hN4 hX4 hR4 hty
    refine hK.out _ _ (by exact (cells_two HX5.out).2.1) (fun _hS => ?_)
    clear hK K'
    try simp only [Act.put, List.setIfInBounds_toArray]
    refine wpAnyH_take (i := 6) (v := ?v6x1) rfl (by kernel_rfl) (by kernel_rfl) (by kernel_rfl) (fun _ _ _ h => h) (Or.inl ⟨by rfl, ?hy6x1⟩) (by assumption) ?rest6x1
    case hy6x1 => (intro w hSw; (try dsimp only at hSw); (first | (go_simp; with_reducible rfl) | go_simp))
    try simp only [Act.put]
    have x0 := (cells_two HO5.out).1
    have x1 := (cells_two HO5.out).2.1
    have x2 := frozen_blk (j := 1) HO5.out
    refine wpAnyH_ready (rs := [7]) (by kernel_rfl) (by simp) ?_
    refine AllReadyH.cons rfl (fun K' hK => ?_) AllReadyH.nil
    go_simp
    have hne1 : w.heap.size ≠ q := by have := HQ.out; omega
    have hne2 : w.heap.size + 1 ≠ q := by have := HQ.out; omega
    have hne3 : w.heap.size + 1 + 1 ≠ q := by have := HQ.out; omega
    have HO6 := hide (one_set (v := (.slice a5 (n + m) c5)) HO5.out)
    have HN6 : Hid ((w5.setCell ⟨q, 1, none⟩ (.slice a5 (n + m) c5)).heap[w.heap.size]? = _) := (Below.heap_setCell _ _ _ _ hne1).trans HN5.out
    have HX6 : Hid ((w5.setCell ⟨q, 1, none⟩ (.slice a5 (n + m) c5)).heap[w.heap.size + 1]? = _) := (Below.heap_setCell _ _ _ _ hne2).trans HX5.out
    have HR6 : Hid ((w5.setCell ⟨q, 1, none⟩ (.slice a5 (n + m) c5)).heap[w.heap.size + 1 + 1]? = _) := (Below.heap_setCell _ _ _ _ hne3).trans HR5.out
    have HRow6 : Hid ((w5.setCell ⟨q, 1, none⟩ (.slice a5 (n + m) c5)).ownsRow (w1.heap.size + 2) 28 4 (.slice a5 (n + m) c5) (n + m) (rowc (ps ++ zs))) := by
      rw [rowc_app]
      refine row_of_block HRow5.out fun k hk => Below.heap_setCell _ _ _ _ fun e => ?_
      obtain ⟨cur, hc⟩ : ∃ cur, w5.heap[k]? = some (.cells cur 28 (0, 0)) := by
        rcases HRow5.out.2 with ⟨e, _⟩ | ⟨g5, cap, cur, e, _, hg, _⟩
        · rw [e] at hk; simp [Value.ownBlock] at hk
        · rw [e] at hk; simp [Value.ownBlock] at hk; subst hk; exact ⟨cur, hg⟩
      rw [show k = q from e] at hc
      have := blk_type hc HO5.out
      revert this
      decide
    have HKb6 : Hid (Kb8 w4 (w5.setCell ⟨q, 1, none⟩ (.slice a5 (n + m) c5))) := HKb5.out.trans (Kb8.set HO5.out (by decide) 1 _)
    have HB6 : Hid (Below w.heap.size w (w5.setCell ⟨q, 1, none⟩ (.slice a5 (n + m) c5))) := ((HB3.out.trans (HB4.out.mono HB3.out.size)).trans HB45.out).setCell (p := ⟨q, 1, none⟩) (by have := HQ.out; show w.heap.size ≤ q; omega) _
    refine hK.out _ _ (by exact (cells_two HX6.out).2.1) (fun _hS => ?_)
    clear hK K' x0 x1 x2 _hS
    generalize w5.setCell ⟨q, 1, none⟩ (.slice a5 (n + m) c5) = W6 at *
    try simp only [Act.put, List.setIfInBounds_toArray, List.set_cons_zero, List.set_cons_succ]
    refine wpAnyH_done (by kernel_rfl) ?_ _
    refine NoPanic.normal ?_
    have HPs : Hid (∀ y ∈ ps, y.Own (w1.heap.size + 2) W6) := hide fun y hy => ((HCl3.out.each y hy).below HB4.out).keep HKb6.out
    have HZs : Hid (∀ y ∈ zs, y.Own W3.heap.size W6) := hide fun y hy => (HCl4.out.each y hy).keep HKb6.out
    clear HRow5 HO5 HN5 HX5 HR5 HKb5 HB45 HRow4 hne1 hne2 hne3 HKb6
    obtain ⟨n0, n1, -⟩ := cells_two HN6.out
    obtain ⟨y0, y1, -⟩ := cells_two HX6.out
    obtain ⟨o0, o1, -⟩ := cells_two HO6.out
    obtain ⟨r0, r1, -⟩ := cells_two HR6.out
    have r2 := frozen_blk (j := 0) HR6.out
    have r3 := frozen_blk (j := 1) HR6.out
    have hnq : q ≠ w.heap.size + 1 + 1 := by have := HQ.out; omega
    have hnq' := Ne.symm hnq
    obtain rfl := HP.out.1
    have hm0 := HP.out.2
    have hd0 : (0 : Int) < (m : Int) := by omega
    have hd1 : (n : Int) < (n : Int) + (m : Int) := by omega
    clear HP
    go_wp2
    obtain ⟨g5, rfl, hg5b, curg, hg5c⟩ : ∃ g5, a5 = some ⟨g5, 0, none⟩ ∧ w1.heap.size + 2 ≤ g5 ∧ ∃ cur, W6.heap[g5]? = some (.cells cur 28 (0, 0)) := by
      rcases HRow6.out.2 with ⟨e, h0⟩ | ⟨g5, cap, cur, e, hb, hg, _⟩
      · exfalso; omega
      · exact ⟨g5, by simp at e; exact e.1, hb, cur, hg⟩
    have HG5 := hide hg5c
    have HG5b := hide hg5b
    clear hg5c hg5b
    obtain ⟨z, zt, rfl⟩ : ∃ z zt, zs = z :: zt := by
      cases zs with
      | nil => exfalso; have := HLz.out; simp at this; omega
      | cons z zt => exact ⟨z, zt, rfl⟩
    have HSt6 : Hid (∀ V, Below W6.heap.size W6 V → V.cell? ⟨q, 1, none⟩ = some (.slice (some ⟨g5, 0, none⟩) (n + m) c5) ∧ V.cell? ⟨w.heap.size, 1, none⟩ = some (.slice a n c)) := hide fun V hV => ⟨(cells_two ((hV.block _ (lt_of_block HO6.out)).trans HO6.out)).2.1, (cells_two ((hV.block _ (lt_of_block HN6.out)).trans HN6.out)).2.1⟩
    have HCk := hide (clone_any ka kn kc key W6.drew ((HKy.out.below HB6.out).below (Below.refl _ _).drew) (by omega))
    have i1 : (0 : Int) ≤ (n : Int) := by omega
    clear n0 n1 y0 y1 o0 o1 r0 r1 r2 r3
    refine wp_region_noPanic ?_
    refine wp_region_held_drew (S := (fun V => V.cell? ⟨q, 1, none⟩ = some (.slice (some ⟨g5, 0, none⟩) (n + m) c5) ∧ V.cell? ⟨w.heap.size, 1, none⟩ = some (.slice a n c))) (by kernel_rfl) (HSt6.out _ (Below.refl _ _).drew) (fun _hS => ?_)
    refine wpAnyH_take (i := 0) (v := ?v0x2) rfl (by kernel_rfl) (by kernel_rfl) (by kernel_rfl) (fun _ _ _ h => h) (Or.inl ⟨by rfl, ?hy0x2⟩) (by assumption) ?rest0x2
    case hy0x2 => (intro w hSw; (try dsimp only at hSw); (first | (go_simp; with_reducible rfl) | go_simp))
    try simp only [Act.put, List.setIfInBounds_toArray]
    refine wpAnyH_take (i := 1) (v := ?v1x3) rfl (by kernel_rfl) (by kernel_rfl) (by kernel_rfl) (fun _ _ _ h => h) (Or.inl ⟨by rfl, ?hy1x3⟩) (by assumption) ?rest1x3
    case hy1x3 => (intro w hSw; (try dsimp only at hSw); (first | (go_simp; with_reducible rfl) | go_simp))
    try simp only [Act.put]
    refine wpAnyH_take (i := 2) (v := ?v2x4) rfl (by kernel_rfl) (by kernel_rfl) (by kernel_rfl) (fun _ _ _ h => h) (Or.inl ⟨by rfl, ?hy2x4⟩) (by assumption) ?rest2x4
    case hy2x4 => (intro w hSw; (try dsimp only at hSw); (first | (go_simp; with_reducible rfl) | go_simp))
    try simp only [Act.put]
    refine wpAnyH_take (i := 3) (v := ?v3x5) rfl (by kernel_rfl) (by kernel_rfl) (by kernel_rfl) (fun _ _ _ h => h) (Or.inl ⟨by rfl, ?hy3x5⟩) (by assumption) ?rest3x5
    case hy3x5 => (intro w hSw; (try dsimp only at hSw); (first | (go_simp; with_reducible rfl) | go_simp))
    try simp only [Act.put]
    refine wpAnyH_take (i := 4) (v := ?v4x6) rfl (by kernel_rfl) (by kernel_rfl) (by kernel_rfl) (fun _ _ _ h => h) (Or.inl ⟨by rfl, ?hy4x6⟩) (by assumption) ?rest4x6
    case hy4x6 => (intro w hSw; (try dsimp only at hSw); (first | (go_simp; with_reducible rfl) | go_simp))
    try simp only [Act.put]
    refine wpAnyH_take (i := 5) (v := ?v5x7) rfl (by kernel_rfl) (by kernel_rfl) (by kernel_rfl) (fun _ _ _ h => h) (Or.inl ⟨by rfl, ?hy5x7⟩) (by assumption) ?rest5x7
    case hy5x7 => (intro w hSw; (try dsimp only at hSw); (first | (go_simp; with_reducible rfl) | go_simp))
    try simp only [Act.put]
    refine wpAnyH_ready (rs := [6]) (by kernel_rfl) (by simp) ?_
    refine AllReadyH.cons rfl (fun K' hK => ?_) AllReadyH.nil
    go_simp
    refine HCk.out.mono ?_
    rintro e w8 ⟨vk, rfl, hmk⟩
    obtain ⟨ak, nk, ck, rfl, hnk⟩ := hmk.1.shape2
    have HNk := hide hnk.out
    have HB8 : Hid (Below W6.heap.size W6 w8) := (Below.refl _ _).drew.trans hmk.2.2
    have HOk := hide hmk.1
    refine hK.out _ _ (by exact HSt6.out _ HB8.out) (fun _hS => ?_)
    clear hK K' hmk hnk
    try simp only [Act.put, List.setIfInBounds_toArray, List.set_cons_zero, List.set_cons_succ]
    refine wpAnyH_take (i := 7) (v := ?v7x8) rfl (by kernel_rfl) (by kernel_rfl) (by kernel_rfl) (fun _ _ _ h => h) (Or.inl ⟨by rfl, ?hy7x8⟩) (by assumption) ?rest7x8
    case hy7x8 => (intro w hSw; (try dsimp only at hSw); (first | (go_simp; with_reducible rfl) | go_simp))
    try simp only [Act.put, List.setIfInBounds_toArray]
    refine wpAnyH_take (i := 8) (v := ?v8x9) rfl (by kernel_rfl) (by kernel_rfl) (by kernel_rfl) (fun _ _ _ h => h) (Or.inl ⟨by rfl, ?hy8x9⟩) (by assumption) ?rest8x9
    case hy8x9 => (intro w hSw; (try dsimp only at hSw); (first | (go_simp; with_reducible rfl) | go_simp))
    try simp only [Act.put]
    have HG8 := hide ((HB8.out.block _ (lt_of_block HG5.out)).trans HG5.out)
    have HO8 := hide ((HB8.out.block _ (lt_of_block HO6.out)).trans HO6.out)
    have HN8 := hide ((HB8.out.block _ (lt_of_block HN6.out)).trans HN6.out)
    have HR8 := hide ((HB8.out.block _ (lt_of_block HR6.out)).trans HR6.out)
    have HRow8 : Hid (w8.ownsRow (w1.heap.size + 2) 28 4 (.slice (some ⟨g5, 0, none⟩) (n + m) c5) (n + m) (rowc (ps ++ z :: zt))) := row_of_block HRow6.out fun k hk => by
      have e : k = g5 := by simpa [Value.ownBlock] using hk.symm
      subst e
      exact HB8.out.block _ (lt_of_block HG5.out)
    have hzn : (ps ++ z :: zt)[n]? = some z := by rw [List.getElem?_append_right (by rw [HLp.out]; exact Nat.le_refl _), HLp.out, Nat.sub_self]; rfl
    have x0 : w8.cell? ⟨g5, n * 4, none⟩ = some (.slice z.ka z.e.key.length z.kc) := by
      have h1 := HRow8.out.cells (g := g5) rfl (n * 4 + 0) _ (rowc_at hzn (j := 0) rfl)
      rw [Addr.add_lit, Nat.zero_add] at h1
      exact h1
    have x2 := frozen_blk (j := n * 4) HG8.out
    refine wpAnyH_ready (rs := [9]) (by kernel_rfl) (by simp) ?_
    refine AllReadyH.cons rfl (fun K' hK => ?_) AllReadyH.nil
    go_simp
    have HZn := hide hzn
    clear hzn
    have hnode : ∀ (k : Nat) (cs : Array Value), w8.heap[k]? = some (.cells cs 24 (0, 0)) → (w8.setCell ⟨g5, n * 4, none⟩ (.slice ak nk ck)).heap[k]? = some (.cells cs 24 (0, 0)) := fun k cs hk => (Below.heap_setCell _ _ _ _ (fun e => by
      rw [show k = g5 from e] at hk
      have := blk_type HG8.out hk
      revert this
      decide)).trans hk
    have HO9 := hide (hnode _ _ HO8.out)
    have HN9 := hide (hnode _ _ HN8.out)
    have HR9 := hide (hnode _ _ HR8.out)
    have HKb9 : Hid (Kb8 w8 (w8.setCell ⟨g5, n * 4, none⟩ (.slice ak nk ck))) := Kb8.set HG8.out (by decide) _ _
    have HB9 : Hid (Below w.heap.size w (w8.setCell ⟨g5, n * 4, none⟩ (.slice ak nk ck))) := (HB6.out.trans (HB8.out.mono HB6.out.size)).setCell (p := ⟨g5, n * 4, none⟩) (by have := HG5b.out; have := HS1.out; show w.heap.size ≤ g5; omega) _
    have HRow9 : Hid ((w8.setCell ⟨g5, n * 4, none⟩ (.slice ak nk ck)).ownsRow (w1.heap.size + 2) 28 4 (.slice (some ⟨g5, 0, none⟩) (n + m) c5) (n + m) (rowc (ps ++ z.rekey ak ck key :: zt))) := by
      have h1 := row_set (j := n * 4) HRow8.out (.slice ak nk ck)
      rw [HNk.out, rowc_rekey _ n z HZn.out, List.set_append_right _ _ (by rw [HLp.out]; exact Nat.le_refl _), HLp.out, Nat.sub_self] at h1
      rw [HNk.out]
      exact h1
    refine hK.out _ _ (by exact ⟨(cells_two HO9.out).2.1, (cells_two HN9.out).2.1⟩) (fun _hS => ?_)
    clear hK K' x0 x2 _hS hnode
    have HOk9 : Hid (Own (w8.setCell ⟨g5, n * 4, none⟩ (.slice ak nk ck)) (.slice ak nk ck) key) := own_keep HOk.out HKb9.out
    have HPs9 : Hid (∀ y ∈ ps, y.Own (w1.heap.size + 2) (w8.setCell ⟨g5, n * 4, none⟩ (.slice ak nk ck))) := hide fun y hy => ((HPs.out y hy).below HB8.out).keep HKb9.out
    have HZs9 : Hid (∀ y ∈ z :: zt, y.Own W3.heap.size (w8.setCell ⟨g5, n * 4, none⟩ (.slice ak nk ck))) := hide fun y hy => ((HZs.out y hy).below HB8.out).keep HKb9.out
    generalize w8.setCell ⟨g5, n * 4, none⟩ (.slice ak nk ck) = W9 at HO9 HN9 HR9 HB9 HRow9 HOk9 HPs9 HZs9 ⊢
    try simp only [Act.put, List.setIfInBounds_toArray, List.set_cons_zero, List.set_cons_succ]
    refine wpAnyH_done (by kernel_rfl) ?_ _
    refine NoPanic.normal ?_
    clear HKb9 HPs HZs HOk HRow6 HRow8 HG8 HO8 HN8 HR8 HO6 HN6 HX6 HR6
    obtain ⟨o0, o1, -⟩ := cells_two HO9.out
    obtain ⟨r0, r1, -⟩ := cells_two HR9.out
    have r2 := frozen_blk (j := 0) HR9.out
    have r3 := frozen_blk (j := 1) HR9.out
    go_wp2
    have hf := two_set (u := .bool false) (v := (.slice (some ⟨g5, 0, none⟩) (n + m) c5)) HR9.out
    obtain ⟨z0, z1, -⟩ := cells_two hf
    have HKf : Hid (Kb8 W9 ((W9.setCell ⟨w.heap.size + 1 + 1, 0, none⟩ (.bool false)).setCell ⟨w.heap.size + 1 + 1, 1, none⟩ (.slice (some ⟨g5, 0, none⟩) (n + m) c5))) := by
      have h1 : (W9.setCell ⟨w.heap.size + 1 + 1, 0, none⟩ (.bool false)).heap[w.heap.size + 1 + 1]? = some (.cells #[.bool false, .slice none 0 0] 24 (0, 0)) := by rw [heap_setCell_same W9 _ 0 _ 24 _ HR9.out]; rfl
      exact (Kb8.set HR9.out (by decide) 0 _).trans (Kb8.set h1 (by decide) 1 _)
    have HBf : Hid (Below w.heap.size w ((W9.setCell ⟨w.heap.size + 1 + 1, 0, none⟩ (.bool false)).setCell ⟨w.heap.size + 1 + 1, 1, none⟩ (.slice (some ⟨g5, 0, none⟩) (n + m) c5))) := (HB9.out.setCell (p := ⟨w.heap.size + 1 + 1, 0, none⟩) (show w.heap.size ≤ w.heap.size + 1 + 1 by omega) _).setCell (p := ⟨w.heap.size + 1 + 1, 1, none⟩) (show w.heap.size ≤ w.heap.size + 1 + 1 by omega) _
    have HRf : Hid (((W9.setCell ⟨w.heap.size + 1 + 1, 0, none⟩ (.bool false)).setCell ⟨w.heap.size + 1 + 1, 1, none⟩ (.slice (some ⟨g5, 0, none⟩) (n + m) c5)).ownsRow (w1.heap.size + 2) 28 4 (.slice (some ⟨g5, 0, none⟩) (n + m) c5) (n + m) (rowc (ps ++ z.rekey ak ck key :: zt))) := row_of_block HRow9.out fun k hk => two_other (by have := (row_base HRow9.out hk).1; have := HS1.out; omega)
    refine bodyPost_ret (v := .agg #[.bool false, .slice (some ⟨g5, 0, none⟩) (n + m) c5]) ?_ rfl ?_
    · simp [results, Try.results13, go_sem, z0, z1]
    · refine ⟨(some ⟨g5, 0, none⟩), c5, ps ++ z.rekey ak ck key :: zt, rfl, ?_, row_ens2 (by have h1 := HLz.out; simp at h1; simp [HLp.out]; omega) HRf.out fun y hy => ?_, HBf.out⟩
      · have h1 := HFr.out
        rw [ers_app, HEr.out, ← h1]
        rfl
      · rcases List.mem_append.1 hy with hy | hy
        · exact ((HPs9.out y hy).keep HKf.out).ok
        · rcases List.mem_cons.1 hy with rfl | hy
          · have hz := ((HZs9.out z (List.mem_cons_self ..)).keep HKf.out).ok
            have hk := own_inn (own_keep HOk9.out HKf.out) HKy.out.byts
            rw [HNk.out] at hk
            exact ⟨hk, hz.val, hz.page, hz.size⟩
          · exact ((HZs9.out y (List.mem_cons_of_mem _ hy)).keep HKf.out).ok
  · go_simp
    refine (HCb.out W3.drew (Below.refl _ _).drew).mono ?_
    rintro e w4 ⟨vb, zs, rfl, her2, hcl, hsm, hb4⟩
    have HB4 : Hid (Below W3.heap.size W3 w4) := (Below.refl _ _).drew.trans hb4
    have HFr := hide her2
    have HLz : Hid (zs.length = m) := by
      have h1 := congrArg List.length her2
      rw [ers_len, ers_len, HF.out.len] at h1
      exact h1
    obtain ⟨gb, cb, rfl⟩ : ∃ gb cb, vb = .slice (some ⟨gb, 0, none⟩) m cb := by
      rcases hcl.row.2 with ⟨rfl, _⟩ | ⟨gb, cap, cur, rfl, _⟩
      · simp [Value.ownBlock] at hsm
      · exact ⟨gb, cap, by rw [HLz.out]⟩
    have HCl4 : Hid (Cl W3.heap.size w4 (.slice (some ⟨gb, 0, none⟩) m cb) zs) := hcl
    refine hK.out _ _ (by exact (HSt.out _ HB4.out).2) (fun _hS => ?_)
    clear hK K' her2 hcl hsm hb4
    try simp only [Act.put, List.setIfInBounds_toArray, List.set_cons_zero, List.set_cons_succ]
    refine wpAnyH_ready (rs := [1]) (by kernel_rfl) (by simp) ?_
    refine AllReadyH.cons rfl (fun K' hK => ?_) AllReadyH.nil
    obtain ⟨q1, -⟩ := HSt.out (w4) (HB4.out)
    go_simp
    refine hK.out _ _ (by exact (HSt.out _ (HB4.out)).2) (fun _hS => ?_)
    clear hK K' q1
    try simp only [Act.put, List.setIfInBounds_toArray, List.set_cons_zero, List.set_cons_succ]
    refine wpAnyH_ready (rs := [5]) (by kernel_rfl) (by simp) ?_
    refine AllReadyH.cons rfl (fun K' hK => ?_) AllReadyH.nil
    have HRow4 : Hid (w4.ownsRow (w1.heap.size + 2) 28 4 (.slice (some ⟨g, 0, none⟩) n n) n (rowc ps)) := by have h1 := (HCl3.out.below HB4.out).row; rw [HLp.out] at h1; exact h1
    have hs3 := HB3.out.size
    have hs4 := HB4.out.size
    refine step_append_own _ (by rfl) (.tmp 11) (.tmp 14) 22 (by rfl) (w1.heap.size + 2) 28 i0 _ 4 56 Try.underlying22 hi hz0 hz1 hz2 (by rfl) (by omega) (.slice (some ⟨g, 0, none⟩) n n) n (rowc ps) (by rfl) HRow4.out ⟨gb, 0, none⟩ m cb (rowc zs) (by rfl) (by rw [rowc_len, HLz.out]) (fun j u hu => by exact HCl4.out.row.cells (g := gb) rfl j u hu) (rowc_one_cell zs) (by unfold maxLen; omega) (by omega) (by have h1 := HCl3.out.block (k := g) rfl; omega) ?_
    intro v5 w5 hown5 hg5 hne5
    obtain ⟨a5, c5, rfl⟩ : ∃ a5 c5, v5 = .slice a5 (n + m) c5 := by
      rcases hown5.2 with ⟨rfl, h0⟩ | ⟨g5, cap, cur, rfl, _⟩
      · exact ⟨none, 0, by rw [h0]⟩
      · exact ⟨_, cap, rfl⟩
    have hgE : ∃ cur, w4.heap[g]? = some (.cells cur 28 (0, 0)) := by
      obtain ⟨_, _, cur, hc⟩ := (HCl3.out.below HB4.out).block (k := g) rfl
      exact ⟨cur, hc⟩
    obtain ⟨curg, hgE⟩ := hgE
    have hO4 := (HB4.out.block _ (lt_of_block HO3.out)).trans HO3.out
    have hN4 := (HB4.out.block _ (lt_of_block HN3.out)).trans HN3.out
    have hX4 := (HB4.out.block _ (lt_of_block HX3.out)).trans HX3.out
    have hR4 := (HB4.out.block _ (lt_of_block HR3.out)).trans HR3.out
    have hty : ∀ (k : Nat) (cs : Array Value), w4.heap[k]? = some (.cells cs 24 (0, 0)) → w5.heap[k]? = some (.cells cs 24 (0, 0)) := fun k cs hk => (hg5.block k (lt_of_block hk) (fun e => by
      have e2 : k = g := by simpa [Value.ownBlock] using e
      subst e2
      have := blk_type hgE hk
      revert this
      decide)).trans hk
    have HO5 := hide (hty _ _ hO4)
    have HN5 := hide (hty _ _ hN4)
    have HX5 := hide (hty _ _ hX4)
    have HR5 := hide (hty _ _ hR4)
    have HKb5 : Hid (Kb8 w4 w5) := Kb8.grown hg5 hgE (by decide)
    have HB45 : Hid (Below w.heap.size w4 w5) := (Below.refl _ _).grown hg5 (by have := HB3.out.size; omega) (fun k hk => by
      have e2 : k = g := by simpa [Value.ownBlock] using hk.symm
      have := (HCl3.out.block (k := g) rfl).1
      have := HS1.out
      omega)
    have HRow5 := hide hown5
    clear hown5 hg5 hne5 hgE hO4 hN4 hX4 hR4 hty
    refine hK.out _ _ (by exact (cells_two HX5.out).2.1) (fun _hS => ?_)
    clear hK K'
    try simp only [Act.put, List.setIfInBounds_toArray]
    refine wpAnyH_take (i := 6) (v := ?v6x10) rfl (by kernel_rfl) (by kernel_rfl) (by kernel_rfl) (fun _ _ _ h => h) (Or.inl ⟨by rfl, ?hy6x10⟩) (by assumption) ?rest6x10
    case hy6x10 => (intro w hSw; (try dsimp only at hSw); (first | (go_simp; with_reducible rfl) | go_simp))
    try simp only [Act.put]
    have x0 := (cells_two HO5.out).1
    have x1 := (cells_two HO5.out).2.1
    have x2 := frozen_blk (j := 1) HO5.out
    refine wpAnyH_ready (rs := [7]) (by kernel_rfl) (by simp) ?_
    refine AllReadyH.cons rfl (fun K' hK => ?_) AllReadyH.nil
    go_simp
    have hne1 : w.heap.size ≠ q := by have := HQ.out; omega
    have hne2 : w.heap.size + 1 ≠ q := by have := HQ.out; omega
    have hne3 : w.heap.size + 1 + 1 ≠ q := by have := HQ.out; omega
    have HO6 := hide (one_set (v := (.slice a5 (n + m) c5)) HO5.out)
    have HN6 : Hid ((w5.setCell ⟨q, 1, none⟩ (.slice a5 (n + m) c5)).heap[w.heap.size]? = _) := (Below.heap_setCell _ _ _ _ hne1).trans HN5.out
    have HX6 : Hid ((w5.setCell ⟨q, 1, none⟩ (.slice a5 (n + m) c5)).heap[w.heap.size + 1]? = _) := (Below.heap_setCell _ _ _ _ hne2).trans HX5.out
    have HR6 : Hid ((w5.setCell ⟨q, 1, none⟩ (.slice a5 (n + m) c5)).heap[w.heap.size + 1 + 1]? = _) := (Below.heap_setCell _ _ _ _ hne3).trans HR5.out
    have HRow6 : Hid ((w5.setCell ⟨q, 1, none⟩ (.slice a5 (n + m) c5)).ownsRow (w1.heap.size + 2) 28 4 (.slice a5 (n + m) c5) (n + m) (rowc (ps ++ zs))) := by
      rw [rowc_app]
      refine row_of_block HRow5.out fun k hk => Below.heap_setCell _ _ _ _ fun e => ?_
      obtain ⟨cur, hc⟩ : ∃ cur, w5.heap[k]? = some (.cells cur 28 (0, 0)) := by
        rcases HRow5.out.2 with ⟨e, _⟩ | ⟨g5, cap, cur, e, _, hg, _⟩
        · rw [e] at hk; simp [Value.ownBlock] at hk
        · rw [e] at hk; simp [Value.ownBlock] at hk; subst hk; exact ⟨cur, hg⟩
      rw [show k = q from e] at hc
      have := blk_type hc HO5.out
      revert this
      decide
    have HKb6 : Hid (Kb8 w4 (w5.setCell ⟨q, 1, none⟩ (.slice a5 (n + m) c5))) := HKb5.out.trans (Kb8.set HO5.out (by decide) 1 _)
    have HB6 : Hid (Below w.heap.size w (w5.setCell ⟨q, 1, none⟩ (.slice a5 (n + m) c5))) := ((HB3.out.trans (HB4.out.mono HB3.out.size)).trans HB45.out).setCell (p := ⟨q, 1, none⟩) (by have := HQ.out; show w.heap.size ≤ q; omega) _
    refine hK.out _ _ (by exact (cells_two HX6.out).2.1) (fun _hS => ?_)
    clear hK K' x0 x1 x2 _hS
    generalize w5.setCell ⟨q, 1, none⟩ (.slice a5 (n + m) c5) = W6 at *
    try simp only [Act.put, List.setIfInBounds_toArray, List.set_cons_zero, List.set_cons_succ]
    refine wpAnyH_done (by kernel_rfl) ?_ _
    refine NoPanic.normal ?_
    have HPs : Hid (∀ y ∈ ps, y.Own (w1.heap.size + 2) W6) := hide fun y hy => ((HCl3.out.each y hy).below HB4.out).keep HKb6.out
    have HZs : Hid (∀ y ∈ zs, y.Own W3.heap.size W6) := hide fun y hy => (HCl4.out.each y hy).keep HKb6.out
    clear HRow5 HO5 HN5 HX5 HR5 HKb5 HB45 HRow4 hne1 hne2 hne3 HKb6
    obtain ⟨n0, n1, -⟩ := cells_two HN6.out
    obtain ⟨y0, y1, -⟩ := cells_two HX6.out
    obtain ⟨o0, o1, -⟩ := cells_two HO6.out
    obtain ⟨r0, r1, -⟩ := cells_two HR6.out
    have r2 := frozen_blk (j := 0) HR6.out
    have r3 := frozen_blk (j := 1) HR6.out
    have hnq : q ≠ w.heap.size + 1 + 1 := by have := HQ.out; omega
    have hnq' := Ne.symm hnq
    obtain rfl := HP.out.1
    have hm0 := HP.out.2
    have hd0 : (0 : Int) < (m : Int) := by omega
    have hd1 : (n : Int) < (n : Int) + (m : Int) := by omega
    clear HP
    go_wp2
    obtain ⟨g5, rfl, hg5b, curg, hg5c⟩ : ∃ g5, a5 = some ⟨g5, 0, none⟩ ∧ w1.heap.size + 2 ≤ g5 ∧ ∃ cur, W6.heap[g5]? = some (.cells cur 28 (0, 0)) := by
      rcases HRow6.out.2 with ⟨e, h0⟩ | ⟨g5, cap, cur, e, hb, hg, _⟩
      · exfalso; omega
      · exact ⟨g5, by simp at e; exact e.1, hb, cur, hg⟩
    have HG5 := hide hg5c
    have HG5b := hide hg5b
    clear hg5c hg5b
    obtain ⟨z, zt, rfl⟩ : ∃ z zt, zs = z :: zt := by
      cases zs with
      | nil => exfalso; have := HLz.out; simp at this; omega
      | cons z zt => exact ⟨z, zt, rfl⟩
    have HSt6 : Hid (∀ V, Below W6.heap.size W6 V → V.cell? ⟨q, 1, none⟩ = some (.slice (some ⟨g5, 0, none⟩) (n + m) c5) ∧ V.cell? ⟨w.heap.size, 1, none⟩ = some (.slice a n c)) := hide fun V hV => ⟨(cells_two ((hV.block _ (lt_of_block HO6.out)).trans HO6.out)).2.1, (cells_two ((hV.block _ (lt_of_block HN6.out)).trans HN6.out)).2.1⟩
    have HCk := hide (clone_any ka kn kc key W6.drew ((HKy.out.below HB6.out).below (Below.refl _ _).drew) (by omega))
    have i1 : (0 : Int) ≤ (n : Int) := by omega
    clear n0 n1 y0 y1 o0 o1 r0 r1 r2 r3
    refine wp_region_noPanic ?_
    refine wp_region_held_drew (S := (fun V => V.cell? ⟨q, 1, none⟩ = some (.slice (some ⟨g5, 0, none⟩) (n + m) c5) ∧ V.cell? ⟨w.heap.size, 1, none⟩ = some (.slice a n c))) (by kernel_rfl) (HSt6.out _ (Below.refl _ _).drew) (fun _hS => ?_)
    refine wpAnyH_take (i := 0) (v := ?v0x11) rfl (by kernel_rfl) (by kernel_rfl) (by kernel_rfl) (fun _ _ _ h => h) (Or.inl ⟨by rfl, ?hy0x11⟩) (by assumption) ?rest0x11
    case hy0x11 => (intro w hSw; (try dsimp only at hSw); (first | (go_simp; with_reducible rfl) | go_simp))
    try simp only [Act.put, List.setIfInBounds_toArray]
    refine wpAnyH_take (i := 1) (v := ?v1x12) rfl (by kernel_rfl) (by kernel_rfl) (by kernel_rfl) (fun _ _ _ h => h) (Or.inl ⟨by rfl, ?hy1x12⟩) (by assumption) ?rest1x12
    case hy1x12 => (intro w hSw; (try dsimp only at hSw); (first | (go_simp; with_reducible rfl) | go_simp))
    try simp only [Act.put]
    refine wpAnyH_take (i := 2) (v := ?v2x13) rfl (by kernel_rfl) (by kernel_rfl) (by kernel_rfl) (fun _ _ _ h => h) (Or.inl ⟨by rfl, ?hy2x13⟩) (by assumption) ?rest2x13
    case hy2x13 => (intro w hSw; (try dsimp only at hSw); (first | (go_simp; with_reducible rfl) | go_simp))
    try simp only [Act.put]
    refine wpAnyH_take (i := 3) (v := ?v3x14) rfl (by kernel_rfl) (by kernel_rfl) (by kernel_rfl) (fun _ _ _ h => h) (Or.inl ⟨by rfl, ?hy3x14⟩) (by assumption) ?rest3x14
    case hy3x14 => (intro w hSw; (try dsimp only at hSw); (first | (go_simp; with_reducible rfl) | go_simp))
    try simp only [Act.put]
    refine wpAnyH_take (i := 4) (v := ?v4x15) rfl (by kernel_rfl) (by kernel_rfl) (by kernel_rfl) (fun _ _ _ h => h) (Or.inl ⟨by rfl, ?hy4x15⟩) (by assumption) ?rest4x15
    case hy4x15 => (intro w hSw; (try dsimp only at hSw); (first | (go_simp; with_reducible rfl) | go_simp))
    try simp only [Act.put]
    refine wpAnyH_take (i := 5) (v := ?v5x16) rfl (by kernel_rfl) (by kernel_rfl) (by kernel_rfl) (fun _ _ _ h => h) (Or.inl ⟨by rfl, ?hy5x16⟩) (by assumption) ?rest5x16
    case hy5x16 => (intro w hSw; (try dsimp only at hSw); (first | (go_simp; with_reducible rfl) | go_simp))
    try simp only [Act.put]
    refine wpAnyH_ready (rs := [6]) (by kernel_rfl) (by simp) ?_
    refine AllReadyH.cons rfl (fun K' hK => ?_) AllReadyH.nil
    go_simp
    refine HCk.out.mono ?_
    rintro e w8 ⟨vk, rfl, hmk⟩
    obtain ⟨ak, nk, ck, rfl, hnk⟩ := hmk.1.shape2
    have HNk := hide hnk.out
    have HB8 : Hid (Below W6.heap.size W6 w8) := (Below.refl _ _).drew.trans hmk.2.2
    have HOk := hide hmk.1
    refine hK.out _ _ (by exact HSt6.out _ HB8.out) (fun _hS => ?_)
    clear hK K' hmk hnk
    try simp only [Act.put, List.setIfInBounds_toArray, List.set_cons_zero, List.set_cons_succ]
    refine wpAnyH_take (i := 7) (v := ?v7x17) rfl (by kernel_rfl) (by kernel_rfl) (by kernel_rfl) (fun _ _ _ h => h) (Or.inl ⟨by rfl, ?hy7x17⟩) (by assumption) ?rest7x17
    case hy7x17 => (intro w hSw; (try dsimp only at hSw); (first | (go_simp; with_reducible rfl) | go_simp))
    try simp only [Act.put, List.setIfInBounds_toArray]
    refine wpAnyH_take (i := 8) (v := ?v8x18) rfl (by kernel_rfl) (by kernel_rfl) (by kernel_rfl) (fun _ _ _ h => h) (Or.inl ⟨by rfl, ?hy8x18⟩) (by assumption) ?rest8x18
    case hy8x18 => (intro w hSw; (try dsimp only at hSw); (first | (go_simp; with_reducible rfl) | go_simp))
    try simp only [Act.put]
    have HG8 := hide ((HB8.out.block _ (lt_of_block HG5.out)).trans HG5.out)
    have HO8 := hide ((HB8.out.block _ (lt_of_block HO6.out)).trans HO6.out)
    have HN8 := hide ((HB8.out.block _ (lt_of_block HN6.out)).trans HN6.out)
    have HR8 := hide ((HB8.out.block _ (lt_of_block HR6.out)).trans HR6.out)
    have HRow8 : Hid (w8.ownsRow (w1.heap.size + 2) 28 4 (.slice (some ⟨g5, 0, none⟩) (n + m) c5) (n + m) (rowc (ps ++ z :: zt))) := row_of_block HRow6.out fun k hk => by
      have e : k = g5 := by simpa [Value.ownBlock] using hk.symm
      subst e
      exact HB8.out.block _ (lt_of_block HG5.out)
    have hzn : (ps ++ z :: zt)[n]? = some z := by rw [List.getElem?_append_right (by rw [HLp.out]; exact Nat.le_refl _), HLp.out, Nat.sub_self]; rfl
    have x0 : w8.cell? ⟨g5, n * 4, none⟩ = some (.slice z.ka z.e.key.length z.kc) := by
      have h1 := HRow8.out.cells (g := g5) rfl (n * 4 + 0) _ (rowc_at hzn (j := 0) rfl)
      rw [Addr.add_lit, Nat.zero_add] at h1
      exact h1
    have x2 := frozen_blk (j := n * 4) HG8.out
    refine wpAnyH_ready (rs := [9]) (by kernel_rfl) (by simp) ?_
    refine AllReadyH.cons rfl (fun K' hK => ?_) AllReadyH.nil
    go_simp
    have HZn := hide hzn
    clear hzn
    have hnode : ∀ (k : Nat) (cs : Array Value), w8.heap[k]? = some (.cells cs 24 (0, 0)) → (w8.setCell ⟨g5, n * 4, none⟩ (.slice ak nk ck)).heap[k]? = some (.cells cs 24 (0, 0)) := fun k cs hk => (Below.heap_setCell _ _ _ _ (fun e => by
      rw [show k = g5 from e] at hk
      have := blk_type HG8.out hk
      revert this
      decide)).trans hk
    have HO9 := hide (hnode _ _ HO8.out)
    have HN9 := hide (hnode _ _ HN8.out)
    have HR9 := hide (hnode _ _ HR8.out)
    have HKb9 : Hid (Kb8 w8 (w8.setCell ⟨g5, n * 4, none⟩ (.slice ak nk ck))) := Kb8.set HG8.out (by decide) _ _
    have HB9 : Hid (Below w.heap.size w (w8.setCell ⟨g5, n * 4, none⟩ (.slice ak nk ck))) := (HB6.out.trans (HB8.out.mono HB6.out.size)).setCell (p := ⟨g5, n * 4, none⟩) (by have := HG5b.out; have := HS1.out; show w.heap.size ≤ g5; omega) _
    have HRow9 : Hid ((w8.setCell ⟨g5, n * 4, none⟩ (.slice ak nk ck)).ownsRow (w1.heap.size + 2) 28 4 (.slice (some ⟨g5, 0, none⟩) (n + m) c5) (n + m) (rowc (ps ++ z.rekey ak ck key :: zt))) := by
      have h1 := row_set (j := n * 4) HRow8.out (.slice ak nk ck)
      rw [HNk.out, rowc_rekey _ n z HZn.out, List.set_append_right _ _ (by rw [HLp.out]; exact Nat.le_refl _), HLp.out, Nat.sub_self] at h1
      rw [HNk.out]
      exact h1
    refine hK.out _ _ (by exact ⟨(cells_two HO9.out).2.1, (cells_two HN9.out).2.1⟩) (fun _hS => ?_)
    clear hK K' x0 x2 _hS hnode
    have HOk9 : Hid (Own (w8.setCell ⟨g5, n * 4, none⟩ (.slice ak nk ck)) (.slice ak nk ck) key) := own_keep HOk.out HKb9.out
    have HPs9 : Hid (∀ y ∈ ps, y.Own (w1.heap.size + 2) (w8.setCell ⟨g5, n * 4, none⟩ (.slice ak nk ck))) := hide fun y hy => ((HPs.out y hy).below HB8.out).keep HKb9.out
    have HZs9 : Hid (∀ y ∈ z :: zt, y.Own W3.heap.size (w8.setCell ⟨g5, n * 4, none⟩ (.slice ak nk ck))) := hide fun y hy => ((HZs.out y hy).below HB8.out).keep HKb9.out
    generalize w8.setCell ⟨g5, n * 4, none⟩ (.slice ak nk ck) = W9 at HO9 HN9 HR9 HB9 HRow9 HOk9 HPs9 HZs9 ⊢
    try simp only [Act.put, List.setIfInBounds_toArray, List.set_cons_zero, List.set_cons_succ]
    refine wpAnyH_done (by kernel_rfl) ?_ _
    refine NoPanic.normal ?_
    clear HKb9 HPs HZs HOk HRow6 HRow8 HG8 HO8 HN8 HR8 HO6 HN6 HX6 HR6
    obtain ⟨o0, o1, -⟩ := cells_two HO9.out
    obtain ⟨r0, r1, -⟩ := cells_two HR9.out
    have r2 := frozen_blk (j := 0) HR9.out
    have r3 := frozen_blk (j := 1) HR9.out
    go_wp2
    have hf := two_set (u := .bool false) (v := (.slice (some ⟨g5, 0, none⟩) (n + m) c5)) HR9.out
    obtain ⟨z0, z1, -⟩ := cells_two hf
    have HKf : Hid (Kb8 W9 ((W9.setCell ⟨w.heap.size + 1 + 1, 0, none⟩ (.bool false)).setCell ⟨w.heap.size + 1 + 1, 1, none⟩ (.slice (some ⟨g5, 0, none⟩) (n + m) c5))) := by
      have h1 : (W9.setCell ⟨w.heap.size + 1 + 1, 0, none⟩ (.bool false)).heap[w.heap.size + 1 + 1]? = some (.cells #[.bool false, .slice none 0 0] 24 (0, 0)) := by rw [heap_setCell_same W9 _ 0 _ 24 _ HR9.out]; rfl
      exact (Kb8.set HR9.out (by decide) 0 _).trans (Kb8.set h1 (by decide) 1 _)
    have HBf : Hid (Below w.heap.size w ((W9.setCell ⟨w.heap.size + 1 + 1, 0, none⟩ (.bool false)).setCell ⟨w.heap.size + 1 + 1, 1, none⟩ (.slice (some ⟨g5, 0, none⟩) (n + m) c5))) := (HB9.out.setCell (p := ⟨w.heap.size + 1 + 1, 0, none⟩) (show w.heap.size ≤ w.heap.size + 1 + 1 by omega) _).setCell (p := ⟨w.heap.size + 1 + 1, 1, none⟩) (show w.heap.size ≤ w.heap.size + 1 + 1 by omega) _
    have HRf : Hid (((W9.setCell ⟨w.heap.size + 1 + 1, 0, none⟩ (.bool false)).setCell ⟨w.heap.size + 1 + 1, 1, none⟩ (.slice (some ⟨g5, 0, none⟩) (n + m) c5)).ownsRow (w1.heap.size + 2) 28 4 (.slice (some ⟨g5, 0, none⟩) (n + m) c5) (n + m) (rowc (ps ++ z.rekey ak ck key :: zt))) := row_of_block HRow9.out fun k hk => two_other (by have := (row_base HRow9.out hk).1; have := HS1.out; omega)
    refine bodyPost_ret (v := .agg #[.bool false, .slice (some ⟨g5, 0, none⟩) (n + m) c5]) ?_ rfl ?_
    · simp [results, Try.results13, go_sem, z0, z1]
    · refine ⟨(some ⟨g5, 0, none⟩), c5, ps ++ z.rekey ak ck key :: zt, rfl, ?_, row_ens2 (by have h1 := HLz.out; simp at h1; simp [HLp.out]; omega) HRf.out fun y hy => ?_, HBf.out⟩
      · have h1 := HFr.out
        rw [ers_app, HEr.out, ← h1]
        rfl
      · rcases List.mem_append.1 hy with hy | hy
        · exact ((HPs9.out y hy).keep HKf.out).ok
        · rcases List.mem_cons.1 hy with rfl | hy
          · have hz := ((HZs9.out z (List.mem_cons_self ..)).keep HKf.out).ok
            have hk := own_inn (own_keep HOk9.out HKf.out) HKy.out.byts
            rw [HNk.out] at hk
            exact ⟨hk, hz.val, hz.page, hz.size⟩
          · exact ((HZs9.out y (List.mem_cons_of_mem _ hy)).keep HKf.out).ok
end Go.Proofs.Ytcflnkepopcofaa
