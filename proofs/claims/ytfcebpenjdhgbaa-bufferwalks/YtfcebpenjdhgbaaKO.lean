/- Of a buffer that is there: the walk. -/
import Derived.Test.YtfcebpenjdhgbaaKN
namespace Go.Proofs.Ytfcebpenjdhgbaa
open Go.RowKit Go.Maps
set_option linter.unusedVariables false

/-- what is turned lies above. -/
theorem mv_low {w w1 w2 : World} {q : Nat} (hm : Mv (fun k => k = q) w1 w2) (hb : Below w.heap.size w w1) (hq : w.heap.size ≤ q) : Below w.heap.size w w2 :=
  ⟨hm.os.trans hb.os, hm.tape.trans hb.tape, hm.output.trans hb.output, Nat.le_trans hb.size hm.size, fun k hk => (hm.block k (Nat.lt_of_lt_of_le hk hb.size) (by omega)).trans (hb.block k hk)⟩
set_option maxHeartbeats 12800000 in
set_option maxRecDepth 1000000 in
theorem known_any (w : World) : Calls Try.prog 7 #[] w fun e w' => e = .returned (.bool true) ∧ Below w.heap.size w w' := by
  have kc := fun (w : World) (C : Array Value) (n c : Nat) => Lib.run_convert_bytes_const (P := Try.prog) w 34 5 C n c Try.underlying34 Try.underlying5
  have kc1 : ∀ (W : World) (b n c : Nat) (C : Array Value), b = W.heap.size → (convert 34 34 (.slice (some ⟨b, 0, none⟩) n c)).run Try.prog (W.alloc (.cells C 5)) = .ok (.slice (some ⟨b, 0, none⟩) n c) (W.alloc (.cells C 5 (C.size, C.size + 1))) := fun W b n c C e => by subst e; exact kc W C n c
  have hmf : ∀ (fn : Fn) (first cap : Array Value) (w : World), (Instr.makeFunc fn first cap).run Try.prog w = .ok (.func fn first cap) w := fun _ _ _ _ => rfl
  go_enter Try.func7, Try.ntmps7
  go_wp2_with fail
  refine (new_any w).mono ?_
  rintro e w1 ⟨rfl, hst1, hb1, hl1⟩
  have HST1 := hide hst1
  have HB1 := hide hb1
  clear hst1 hb1
  go_wp2_with fail
  have hx1 := (c1_below w1 98).trans ((c1_below (c1 w1 98) 49).mono (by rw [c1_size]; omega))
  refine (put_any (HST1.out.below hx1) (some ⟨w1.heap.size, 0, none⟩) (some ⟨w1.heap.size + 1, 0, none⟩) 1 1 1 1 [98] [49] ((inn_const w1 98 (by omega)).below (c1_below _ _)) (by have := inn_const (c1 w1 98) 49 (by omega); rwa [c1_size] at this) (by omega) (by omega) (by omega) (by simp)).mono ?_
  rintro e w2 ⟨rfl, O2, hst2, hgo2⟩
  have HST2 := hide hst2
  have HB2 := hide ((HB1.out.trans (hx1.mono HB1.out.size)).trans ((HST1.out.below hx1).on hgo2))
  clear hst2 hgo2 hx1
  go_wp2_with fail
  have hx2 := c1_below w2 99
  refine (delete_key (HST2.out.below hx2) (some ⟨w2.heap.size, 0, none⟩) 1 1 [99] (inn_const w2 99 (by omega)) (by omega) (by omega) (by have := (put_len [] k1).1; simp at this; unfold k1 at this; omega)).mono ?_
  rintro e w3 ⟨rfl, O3, hst3, hgo3⟩
  have HST3 := hide hst3
  have HB3 := hide ((HB2.out.trans (hx2.mono HB2.out.size)).trans ((HST2.out.below hx2).on hgo3))
  clear hst3 hgo3 hx2
  go_wp2_with fail
  have hx3 := (c1_below w3 97).trans ((c1_below (c1 w3 97) 50).mono (by rw [c1_size]; omega))
  refine (put_any (HST3.out.below hx3) (some ⟨w3.heap.size, 0, none⟩) (some ⟨w3.heap.size + 1, 0, none⟩) 1 1 1 1 [97] [50] ((inn_const w3 97 (by omega)).below (c1_below _ _)) (by have := inn_const (c1 w3 97) 50 (by omega); rwa [c1_size] at this) (by omega) (by omega) (by omega) (by have := (put_len (put [] k1) k2).1; have := (put_len [] k1).1; simp at *; unfold k1 k2 at *; omega)).mono ?_
  rintro e w4 ⟨rfl, O4, hst4, hgo4⟩
  have hst4' : St w4 w.heap.size w.heap.size [k3, k1, k2] 3 ([] ++ [[]] ++ [put [] k1] ++ [put (put [] k1) k2]) O4 := hst4
  have HST4 := hide hst4'
  have HB4 := hide ((HB3.out.trans (hx3.mono HB3.out.size)).trans ((HST3.out.below hx3).on hgo4))
  clear hst4 hgo4 hx3 hst4'
  go_wp2_with fail
  obtain ⟨sv, uv, xs, vs, hh, hbh, hers, hlen, -, -, hris, -⟩ := HST4.out
  obtain ⟨hbl, hbw⟩ := laid3 w4
  have hxl : xs.length = 3 := by have := congrArg List.length hers; rw [ers_len] at this; exact this
  have hw : ∀ x ∈ xs, x.e.key.length ≤ 140737488351232 ∧ x.e.val.length ≤ 140737488351232 := fun x hx => by
    have : x.e ∈ ers xs := List.mem_map.2 ⟨x, hx, rfl⟩
    rw [hers] at this
    simp only [List.mem_cons, List.not_mem_nil, or_false] at this
    rcases this with h | h | h <;> rw [h] <;> decide
  have hus : ∀ x ∈ us3 w4.heap.size, x.e.key.length ≤ 140737488351232 ∧ x.e.val.length ≤ 140737488351232 := fun x hx => by
    simp only [us3, List.mem_cons, List.not_mem_nil, or_false] at hx
    rcases hx with h | h | h <;> rw [h] <;> exact ⟨Nat.le_of_ble_eq_true rfl, Nat.le_of_ble_eq_true rfl⟩
  have hris' : Ris (ers xs) := by rw [hers]; exact hris
  have hc8 := c1_below (CH w4) 98
  have hf8 := (hbh.bf.below hbw).below hc8
  have hq8 : w4.heap.size + 1 + 1 + 1 + 1 + 1 + 1 + 1 < (CH w4).heap.size := lt_of_block hbl.blk
  have hbl8 := hbl.low hc8 hq8 (Nat.le_refl _)
  have HB8 := hide ((HB4.out.trans (hbw.mono HB4.out.size)).trans (hc8.mono (Nat.le_trans HB4.out.size hbw.size)))
  refine (seenU_any hf8 hris' hbl8 (by omega) (some ⟨w4.heap.size + 1 + 1 + 1 + 1 + 1 + 1 + 1 + 1, 0, none⟩) 1 1 [98] false (by have := inn_const (CH w4) 98 (by omega); rwa [CH_size] at this) (by omega) (by omega) (by omega) hw hus (some d3, 0, 98) (by rw [hers]; exact seen1.symm)).mono ?_
  rintro e w5 ⟨y, rfl, hy1, hy2, hyo, hm5, hbl5⟩
  have hf5 := hf8.mvq hbl8.blk hm5
  have HB5 := hide (mv_low hm5 HB8.out (by have := HB4.out.size; omega))
  have HF5 := hide hf5
  have HBL5 := hide hbl5
  have HY5 := hide hyo
  have HY1 := hide hy1
  have Hris := hide hris'
  have HW := hide hw
  have HUS := hide hus
  have HErs := hide hers
  have HLen := hide hlen
  have hq5 : w4.heap.size + 1 + 1 + 1 + 1 + 1 + 1 + 1 < w5.heap.size := lt_of_block hbl5.blk
  have hb45 : w4.heap.size ≤ w5.heap.size := by omega
  have Hwx := hide HB4.out.size
  clear hbl hbw hw hus hris hris' hc8 hf8 hbl8 hy1 hy2 hyo hm5 hbl5 hf5 hbh hers hlen hq8
  go_wp2_with fail
  have hx5 : Below w5.heap.size w5 ((w5.alloc (.cells #[.slice y.ka y.e.key.length y.kc, .slice y.va y.e.val.length y.vc] 40)).alloc (.cells #[.int .u8 100] 5 (1, 2))) := two_alloc _ _
  have hbl6 := HBL5.out.low hx5 hq5 (Nat.le_refl _)
  have hf6 := HF5.out.below hx5
  have hpy : ((w5.alloc (.cells #[.slice y.ka y.e.key.length y.kc, .slice y.va y.e.val.length y.vc] 40)).alloc (.cells #[.int .u8 100] 5 (1, 2))).heap[w5.heap.size]? = some (.cells #[.slice y.ka y.e.key.length y.kc, .slice y.va y.e.val.length y.vc] 40 (0, 0)) := (Below.heap_alloc _ _ _ (by simp)).trans (heap_alloc_new w5 _)
  refine (seenD_any hf6 Hris.out hbl6 (by omega) (some ⟨w5.heap.size + 1, 0, none⟩) 1 1 [100] false (by have := inn_const (w5.alloc (.cells #[.slice y.ka y.e.key.length y.kc, .slice y.va y.e.val.length y.vc] 40)) 100 (by omega); rwa [World.size_alloc] at this) (by omega) (by omega) (by omega) HW.out HUS.out (some k1, 0, 96) (by rw [HErs.out]; exact seen2.symm)).mono ?_
  rintro e w6 ⟨z, rfl, hz1, hz2, hzo, hm6, hbl7⟩
  have hpy6 := (hm6.block _ (lt_of_block hpy) (by omega)).trans hpy
  have hf7 := hf6.mvq hbl6.blk hm6
  have hik := inn_mv hbl6.blk (HY5.out.ok.below hx5).key hm6
  have hb7 := below_alloc w6 (.cells #[.slice z.ka z.e.key.length z.kc, .slice z.va z.e.val.length z.vc] 40)
  have HB7 := hide ((mv_low hm6 (HB5.out.trans (hx5.mono HB5.out.size)) (by have := Hwx.out; omega)).trans (hb7.mono (by have := HB5.out.size; have := hm6.size; simp at this; omega)))
  have hpy7 := (hb7.block _ (lt_of_block hpy6)).trans hpy6
  obtain ⟨p0, p1, -⟩ := cells_two hpy7
  have hf8 := hf7.below hb7
  have hL := len_in hf8
  have hM := mark_in hf8
  have hlen := HLen.out
  rw [hxl] at hL
  rw [hlen] at hM
  have ty := text_inn (hik.below hb7)
  have tz := text_inn (hzo.ok.val.below hb7)
  have ey : y.e.key = [100] := HY1.out
  have ez : z.e.val = [49] := hz2
  have t1 : bk y.e.key = ⟨#[100]⟩ := by rw [ey]; rfl
  have t2 : bk z.e.val = ⟨#[49]⟩ := by rw [ez]; rfl
  have HL := hide hL
  have HM := hide hM
  rw [t1] at ty
  rw [t2] at tz
  have q1 : ((⟨#[100]⟩ : ByteArray).toList == (⟨#[100]⟩ : ByteArray).toList) = true := beq_self_eq_true _
  have q2 : ((⟨#[49]⟩ : ByteArray).toList == (⟨#[49]⟩ : ByteArray).toList) = true := beq_self_eq_true _
  clear hx5 hbl6 hf6 hpy hz1 hz2 hzo hm6 hbl7 hpy6 hf7 hik hb7 hpy7 hf8 hL hM hlen ey ez t1 t2
  go_wp2_with (first | (go_at_call 22; refine HL.out.mono ?_; rintro e w7 ⟨rfl, rfl⟩) | (go_at_call 23; refine HM.out.mono ?_; rintro e w8 ⟨rfl, rfl⟩) | fail)
  go_ret
  exact ⟨rfl, HB7.out⟩
end Go.Proofs.Ytfcebpenjdhgbaa
