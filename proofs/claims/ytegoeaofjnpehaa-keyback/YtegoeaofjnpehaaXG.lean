/- Split of bytes that begin with a value's. -/
import Derived.Test.YtegoeaofjnpehaaXF
import Derived.Test.YtegoeaofjnpehaaS
namespace Go.Proofs.Ytegoeaofjnpehaa
open Go.RowKit
set_option linter.unusedVariables false

theorem below_grown {w w' : World} (hg : w.grownBy w' (Value.slice none 0 0).ownBlock) : Below w.heap.size w w' := ⟨hg.os, hg.tape, hg.output, hg.size, fun k hk => hg.block k hk (by simp [Value.ownBlock])⟩
set_option maxHeartbeats 3200000 in
set_option maxRecDepth 1000000 in
theorem split_in (b o cap : Nat) (bs rest : List Int) (c : T) (d : Bool) (w : World) (hrow : Row w (some ⟨b, o, none⟩) bs) (hby : Byts bs) (hsm : bs.length ≤ 1000000) (hcap : bs.length ≤ cap) (hE : bs.map (tn (mk d)) = c.enc ++ rest) (hg : c.gk) (hck : ckE c = 0) (hwt : c.wt ≤ 20000) (hsz : c.sz ≤ 512) :
    Calls Try.prog 14 #[.slice (some ⟨b, o, none⟩) bs.length cap, .bool d] w fun e w' => ∃ V a n cp, e = .returned (.tuple #[V, .slice a n cp, .int .u16 0]) ∧ Below w.heap.size w w' ∧ Own w' (.slice a n cp) (bs.drop c.enc.length) ∧ (∀ k, (Value.slice a n cp).ownBlock = some k → w.heap.size ≤ k) ∧ Stays w w' V c := by
  obtain ⟨i0, hi, hz0, hz1, hz2⟩ := info_parts Try.info5
  have hlen : c.enc.length ≤ bs.length := by
    have := congrArg List.length hE
    simp only [List.length_map, List.length_append] at this
    omega
  have hne : 1 ≤ c.enc.length := by obtain ⟨h1, -⟩ := gk_head c hg; rw [h1]; simp
  have HRw := hide hrow
  have HFi := hide (fun W (hb : Below w.heap.size w W) => first_all d (mk d) (some ⟨b, o, none⟩) cap bs rest c W (hrow.below hb) hby hsm (by unfold mk; split <;> omega) hE hg hck hwt hsz (hide (fun W => turning_any d W)))
  clear hrow hE hg hck hwt hsz
  generalize c.enc.length = cn at *
  go_enter Try.func14, Try.ntmps14
  go_wp2_with fail
  have HB0 := hide (Box7.new w (.int .u8 0) (.bool false) (.int .i64 0) (.string ⟨#[]⟩) (.slice none 0 0) (.slice none 0 0) (.slice none 0 0))
  have HF0 := hide ((Fr.refl w).alloc (.cells #[.int .u8 0, .bool false, .int .i64 0, .string ⟨#[]⟩, .slice none 0 0, .slice none 0 0, .slice none 0 0] 41))
  refine (HFi.out _ (below_alloc _ _)).mono ?_
  rintro e W2 ⟨V, rfl, hb2, hs2⟩
  obtain ⟨⟨vk, vbo, vn, vt, vya, vyc, vy, vla, vlc, vl, vfa, vfc, vf⟩, hv0, -⟩ := hs2 W2 (Nat.le_refl _) (fun _ _ _ => rfl)
  simp only [T.val] at hv0
  subst hv0
  have HB2 := hide (HB0.out.below hb2)
  have HF2 := hide (HF0.out.on hb2)
  have HS2 : Hid (Stays (w.alloc (.cells #[.int .u8 0, .bool false, .int .i64 0, .string ⟨#[]⟩, .slice none 0 0, .slice none 0 0, .slice none 0 0] 41)) W2 (.agg #[.int .u8 vk, .bool vbo, .int .i64 vn, .string vt, .slice vya vy.length vyc, .slice vla vl.list.length vlc, .slice vfa vf.list.length vfc]) c) := hs2
  have HBe := hide hb2
  clear hb2 hs2 HB0 HF0
  have HB4 := hide (HB2.out.below (below_alloc W2 (.cells #[.int .u8 vk, .bool vbo, .int .i64 vn, .string vt, .slice vya vy.length vyc, .slice vla vl.list.length vlc, .slice vfa vf.list.length vfc] 41)))
  have HJ4 := hide (Box7.new W2 (.int .u8 vk) (.bool vbo) (.int .i64 vn) (.string vt) (.slice vya vy.length vyc) (.slice vla vl.list.length vlc) (.slice vfa vf.list.length vfc))
  have HF4 := hide (HF2.out.alloc (.cells #[.int .u8 vk, .bool vbo, .int .i64 vn, .string vt, .slice vya vy.length vyc, .slice vla vl.list.length vlc, .slice vfa vf.list.length vfc] 41))
  have H24 := hide (below_alloc W2 (.cells #[.int .u8 vk, .bool vbo, .int .i64 vn, .string vt, .slice vya vy.length vyc, .slice vla vl.list.length vlc, .slice vfa vf.list.length vfc] 41))
  have HSr : Hid (∀ X, Below w.heap.size w X → Src Try.prog 1 25 (.slice (some ⟨b, o + cn, none⟩) (bs.length - cn) (cap - cn)) (bs.length - cn) ((bs.drop cn).map (Value.int .u8)) X) := fun X hX => src_row X _ _ _ _ (by simp) (fun e => by cases e) ((HRw.out.drop cn).below hX)
  have HSn : Hid (∀ X, Src Try.prog 1 25 (.slice (some ⟨b, o, none⟩) 0 0) 0 (([] : List Int).map (Value.int .u8)) X) := fun X => src_row X _ _ _ _ (by simp) (fun e => by cases e) (.inl rfl)
  go_wp2_with fail
  generalize W2.alloc (.cells #[.int .u8 vk, .bool vbo, .int .i64 vn, .string vt, .slice vya vy.length vyc, .slice vla vl.list.length vlc, .slice vfa vf.list.length vfc] 41) = X4 at HB4 HJ4 HF4 H24 ⊢
  have hq1 : w.heap.size < X4.heap.size := HB4.out.lt
  have hq2 : W2.heap.size < X4.heap.size := HJ4.out.lt
  have hq3 : w.heap.size < W2.heap.size := HB2.out.lt
  have BA : Below w.heap.size w X4.drew := HF4.out.drew.below
  have HFs := hide (HF4.out.drew.grown (grown_set7 X4.drew w.heap.size (.int .u8 vk) (.bool vbo) (.int .i64 vn) (.string vt) (.slice vya vy.length vyc) (.slice vla vl.list.length vlc) (.slice vfa vf.list.length vfc)) (fun x e => by cases e; exact Nat.le_refl _))
  have BB := HFs.out.below
  have HGs := hide (grown_set7 X4.drew w.heap.size (.int .u8 vk) (.bool vbo) (.int .i64 vn) (.string vt) (.slice vya vy.length vyc) (.slice vla vl.list.length vlc) (.slice vfa vf.list.length vfc))
  clear HB2 HF2
  obtain ⟨j0, j1, j2, j3, j4, j5, j6⟩ := (HJ4.out.below (Below.refl _ _).drew).cells
  obtain ⟨l0, l1, l2, l3, l4, l5, l6⟩ := (HB4.out.below (Below.refl _ _).drew).cells
  have fr := (HB4.out.below (Below.refl _ _).drew).free
  by_cases hcp : cap = cn
  · obtain rfl : cap = cn := hcp
    have hdn : bs.drop cap = [] := List.drop_eq_nil_of_le hcap
    have hbl : bs.length = cap := by omega
    go_wp2
    go_region_law (refine step_append_src (by rfl) (.const (.slice none 0 0)) (.tmp 23) 25 25 (by rfl) i0 Try.underlying25 hi hz0 hz1 hz2 (.slice none 0 0) [] (by rfl) (Own.nil _) (.slice (some ⟨b, o, none⟩) 0 0) 0 [] (by rfl) (HSn.out _) (by simp) ?_; intro v1 w1 hown1 hg1 hf1; obtain ⟨a1, n1, c1, rfl, HN1⟩ := hown1.shape2; have HO1 := hide hown1; have HG1 := hide (below_grown hg1); have HF1 : Hid (∀ k, (Value.slice a1 n1 c1).ownBlock = some k → X4.heap.size ≤ k) := fun k hk => (hf1 k hk).elim (fun e => by simp [Value.ownBlock] at e) (fun hs => hs); obtain ⟨l0', l1', l2', l3', l4', l5', l6'⟩ := ((HB4.out.below (Below.refl _ _).drew).below HG1.out).cells; have fr' := ((HB4.out.below (Below.refl _ _).drew).below HG1.out).free; obtain ⟨j0', j1', j2', j3', j4', j5', j6'⟩ := ((HJ4.out.below (Below.refl _ _).drew).below HG1.out).cells; clear hown1 hg1 hf1)
    all_goals
      have HBz := hide (((HB4.out.below (Below.refl _ _).drew).below HG1.out).set7 (.int .u8 vk) (.bool vbo) (.int .i64 vn) (.string vt) (.slice vya vy.length vyc) (.slice vla vl.list.length vlc) (.slice vfa vf.list.length vfc))
      have HGz := hide (grown_set7 w1 w.heap.size (.int .u8 vk) (.bool vbo) (.int .i64 vn) (.string vt) (.slice vya vy.length vyc) (.slice vla vl.list.length vlc) (.slice vfa vf.list.length vfc))
      have HFz := hide ((HF4.out.drew.on HG1.out).grown (grown_set7 w1 w.heap.size (.int .u8 vk) (.bool vbo) (.int .i64 vn) (.string vt) (.slice vya vy.length vyc) (.slice vla vl.list.length vlc) (.slice vfa vf.list.length vfc)) (fun x e => by cases e; exact Nat.le_refl _))
      generalize ((((((w1.setCell ⟨w.heap.size, 0, none⟩ (.int .u8 vk)).setCell ⟨w.heap.size, 1, none⟩ (.bool vbo)).setCell ⟨w.heap.size, 2, none⟩ (.int .i64 vn)).setCell ⟨w.heap.size, 3, none⟩ (.string vt)).setCell ⟨w.heap.size, 4, none⟩ (.slice vya vy.length vyc)).setCell ⟨w.heap.size, 5, none⟩ (.slice vla vl.list.length vlc)).setCell ⟨w.heap.size, 6, none⟩ (.slice vfa vf.list.length vfc) = Z at HBz HGz HFz ⊢
      have HOz : Hid (Own Z (.slice a1 n1 c1) []) := HO1.out.of_block (fun k hk => HGz.out.block k (HO1.out.lt hk) (fun e => by simp at e; have := HF1.out k hk; omega))
      have HSz : Hid (Stays w Z (.agg #[.int .u8 vk, .bool vbo, .int .i64 vn, .string vt, .slice vya vy.length vyc, .slice vla vl.list.length vlc, .slice vfa vf.list.length vfc]) c) := stays_wide HS2.out (by simp) (by have h1 := HGz.out.size; have h2 : X4.heap.size ≤ w1.heap.size := HG1.out.size; omega) (fun k h1 h2 => by
        rw [World.size_alloc] at h1
        have h3 : w1.heap[k]? = X4.heap[k]? := HG1.out.block k (by show k < X4.heap.size; omega)
        have h4 : X4.heap.size ≤ w1.heap.size := HG1.out.size
        rw [HGz.out.block k (by omega) (fun e => by simp at e; omega), h3, H24.out.block k h2])
      clear j0 j1 j2 j3 j4 j5 j6 l0 l1 l2 l3 l4 l5 l6 fr l0' l1' l2' l3' l4' l5' l6' fr' j0' j1' j2' j3' j4' j5' j6'
      obtain ⟨z0, z1, z2, z3, z4, z5, z6⟩ := HBz.out.cells
      go_wp2
      refine bodyPost_ret (v := .tuple #[.agg #[.int .u8 vk, .bool vbo, .int .i64 vn, .string vt, .slice vya vy.length vyc, .slice vla vl.list.length vlc, .slice vfa vf.list.length vfc], .slice a1 n1 c1, .int .u16 0]) ?_ rfl ?_
      · simp [results, Try.results14, go_sem, z0, z1, z2, z3, z4, z5, z6]
      · exact ⟨_, _, _, _, rfl, HFz.out.below, by rw [hdn]; exact HOz.out, fun k hk => (by have := HF1.out k hk; omega), HSz.out⟩
  · go_wp2
    go_region_law (refine step_append_src (by rfl) (.const (.slice none 0 0)) (.tmp 23) 25 25 (by rfl) i0 Try.underlying25 hi hz0 hz1 hz2 (.slice none 0 0) [] (by rfl) (Own.nil _) (.slice (some ⟨b, o + cn, none⟩) (bs.length - cn) (cap - cn)) (bs.length - cn) (bs.drop cn) (by rfl) (HSr.out _ BA) (by simp; omega) ?_; intro v1 w1 hown1 hg1 hf1; obtain ⟨a1, n1, c1, rfl, HN1⟩ := hown1.shape2; have HO1 := hide hown1; have HG1 := hide (below_grown hg1); have HF1 : Hid (∀ k, (Value.slice a1 n1 c1).ownBlock = some k → X4.heap.size ≤ k) := fun k hk => (hf1 k hk).elim (fun e => by simp [Value.ownBlock] at e) (fun hs => hs); obtain ⟨l0', l1', l2', l3', l4', l5', l6'⟩ := ((HB4.out.below (Below.refl _ _).drew).below HG1.out).cells; have fr' := ((HB4.out.below (Below.refl _ _).drew).below HG1.out).free; obtain ⟨j0', j1', j2', j3', j4', j5', j6'⟩ := ((HJ4.out.below (Below.refl _ _).drew).below HG1.out).cells; clear hown1 hg1 hf1)
    all_goals
      have HBz := hide (((HB4.out.below (Below.refl _ _).drew).below HG1.out).set7 (.int .u8 vk) (.bool vbo) (.int .i64 vn) (.string vt) (.slice vya vy.length vyc) (.slice vla vl.list.length vlc) (.slice vfa vf.list.length vfc))
      have HGz := hide (grown_set7 w1 w.heap.size (.int .u8 vk) (.bool vbo) (.int .i64 vn) (.string vt) (.slice vya vy.length vyc) (.slice vla vl.list.length vlc) (.slice vfa vf.list.length vfc))
      have HFz := hide ((HF4.out.drew.on HG1.out).grown (grown_set7 w1 w.heap.size (.int .u8 vk) (.bool vbo) (.int .i64 vn) (.string vt) (.slice vya vy.length vyc) (.slice vla vl.list.length vlc) (.slice vfa vf.list.length vfc)) (fun x e => by cases e; exact Nat.le_refl _))
      generalize ((((((w1.setCell ⟨w.heap.size, 0, none⟩ (.int .u8 vk)).setCell ⟨w.heap.size, 1, none⟩ (.bool vbo)).setCell ⟨w.heap.size, 2, none⟩ (.int .i64 vn)).setCell ⟨w.heap.size, 3, none⟩ (.string vt)).setCell ⟨w.heap.size, 4, none⟩ (.slice vya vy.length vyc)).setCell ⟨w.heap.size, 5, none⟩ (.slice vla vl.list.length vlc)).setCell ⟨w.heap.size, 6, none⟩ (.slice vfa vf.list.length vfc) = Z at HBz HGz HFz ⊢
      have HOz : Hid (Own Z (.slice a1 n1 c1) (bs.drop cn)) := HO1.out.of_block (fun k hk => HGz.out.block k (HO1.out.lt hk) (fun e => by simp at e; have := HF1.out k hk; omega))
      have HSz : Hid (Stays w Z (.agg #[.int .u8 vk, .bool vbo, .int .i64 vn, .string vt, .slice vya vy.length vyc, .slice vla vl.list.length vlc, .slice vfa vf.list.length vfc]) c) := stays_wide HS2.out (by simp) (by have h1 := HGz.out.size; have h2 : X4.heap.size ≤ w1.heap.size := HG1.out.size; omega) (fun k h1 h2 => by
        rw [World.size_alloc] at h1
        have h3 : w1.heap[k]? = X4.heap[k]? := HG1.out.block k (by show k < X4.heap.size; omega)
        have h4 : X4.heap.size ≤ w1.heap.size := HG1.out.size
        rw [HGz.out.block k (by omega) (fun e => by simp at e; omega), h3, H24.out.block k h2])
      clear j0 j1 j2 j3 j4 j5 j6 l0 l1 l2 l3 l4 l5 l6 fr l0' l1' l2' l3' l4' l5' l6' fr' j0' j1' j2' j3' j4' j5' j6'
      obtain ⟨z0, z1, z2, z3, z4, z5, z6⟩ := HBz.out.cells
      go_wp2
      refine bodyPost_ret (v := .tuple #[.agg #[.int .u8 vk, .bool vbo, .int .i64 vn, .string vt, .slice vya vy.length vyc, .slice vla vl.list.length vlc, .slice vfa vf.list.length vfc], .slice a1 n1 c1, .int .u16 0]) ?_ rfl ?_
      · simp [results, Try.results14, go_sem, z0, z1, z2, z3, z4, z5, z6]
      · exact ⟨_, _, _, _, rfl, HFz.out.below, HOz.out, fun k hk => (by have := HF1.out k hk; omega), HSz.out⟩
end Go.Proofs.Ytegoeaofjnpehaa
