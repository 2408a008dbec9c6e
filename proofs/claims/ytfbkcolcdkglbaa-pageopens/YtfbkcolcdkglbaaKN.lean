/- The chapter's examples come out as it has them. -/
import Derived.Test.YtfbkcolcdkglbaaRR
import Derived.Test.YtfbkcolcdkglbaaPP
namespace Go.Proofs.Ytfbkcolcdkglbaa
open Go.RowKit
set_option linter.unusedVariables false

/-- what a call made is bytes like any. -/
theorem Made.inn {w W : World} {a : Option Addr} {n c : Nat} {zs : List Int} (h : Made w (.slice a n c) zs W) (h8 : Byts zs) : Inn W a n c zs ∧ Hid (n = zs.length) := by
  obtain ⟨a', c', e, h1, h2, h3, h4, _⟩ := h.1.shape
  cases e
  exact ⟨⟨rfl, h1, by unfold maxLen at h2; omega, h3, h4, h8⟩, hide rfl⟩
theorem open_inn {w : World} {a : Option Addr} {n c : Nat} {zs : List Int} (number : Nat) (ni : Int) (hni : ni = (number : Int)) (hn : number < 4294967296) (h : Inn w a n c zs) :
    Calls Try.prog 18 #[.int .u32 ni, .slice a n c] w fun e w' => OpOut (Pg.opn number zs) w e w' := by
  subst hni
  exact open_any number a n c zs w hn h.len h.cap h.max h.bare h.row h.byts
theorem inn_nil (w : World) : Inn w none 0 0 [] := ⟨rfl, Nat.le_refl _, by omega, fun _ => ⟨rfl, rfl⟩, .inl rfl, by intro c hc; simp at hc⟩
theorem make23 (n : Nat) (hn : n ≤ 100000) (W : World) : (Instr.makeSlice 23 (.int .i64 (n : Int)) (.int .i64 (n : Int))).run Try.prog W = .ok (.slice (some ⟨W.heap.size, 0, none⟩) n n) (W.alloc (.cells (madeCells #[.int .u8 0] n) 5)) :=
  run_make_row' (P := Try.prog) 23 5 (.int .u8 0) 1 Try.underlying23 Try.info5 rfl .i64 .i64 n (by omega) (by omega) W
theorem inn_made (W : World) (n : Nat) (hn : n ≤ 100000) : Inn (W.alloc (.cells (madeCells #[.int .u8 0] n) 5)) (some ⟨W.heap.size, 0, none⟩) n n (List.replicate n 0) := by
  refine ⟨by simp, Nat.le_refl _, by omega, by (intro h; cases h), .inr ⟨_, _, rfl, by simp, fun i hi => ?_⟩, Pg.b8_rep n⟩
  have hi' : i < n := by simpa using hi
  rw [World.cell?_alloc_at _ _ _ _ rfl]
  simp [madeCells, hi', Nat.mod_one]

set_option maxHeartbeats 6400000 in
set_option maxRecDepth 1000000 in
theorem known_any (w : World) : Calls Try.prog 15 #[] w fun e w' => e = .returned (.bool true) ∧ Below w.heap.size w w' := by
  have kc := fun (w : World) (C : Array Value) (n c : Nat) => Lib.run_convert_bytes_const (P := Try.prog) w 23 5 C n c Try.underlying23 Try.underlying5
  have hmk : ∀ W, (Instr.makeSlice 23 (.int .i64 1024) (.int .i64 1024)).run Try.prog W = .ok (.slice (some ⟨W.heap.size, 0, none⟩) 1024 1024) (W.alloc (.cells (madeCells #[.int .u8 0] 1024) 5)) := fun W => make23 1024 (by omega) W
  have HPut : Hid (∀ W, Calls Try.prog 20 #[.agg #[.int .u64 1, .int .u32 0, .int .u32 0, .int .u32 2, .int .u64 0]] W fun e w' => ∃ v, e = .returned (.tuple #[v, .int .u16 0]) ∧ Made W v Pg.ks w') := hide fun W => put_ok Pg.km W Pg.km_may
  have HB1 : Hid (∀ W a c, Inn W a 128 c Pg.ks → ∀ b, Inn W b 1024 1024 (List.replicate 1024 0) → Calls Try.prog 24 #[.slice b 1024 1024, .slice a 128 c] W fun e w' => e = .returned (.tuple #[.agg #[.int .u64 1, .int .u32 0, .int .u32 0, .int .u32 2, .int .u64 0], .int .u16 0]) ∧ Below W.heap.size W w') := by
    intro W a c h b hb
    have := best_any b a 1024 1024 128 c _ _ W hb h
    rw [bst_known1] at this
    exact this
  have HB2 : Hid (∀ W a c, Inn W a 128 c Pg.ks → Calls Try.prog 24 #[.slice a 128 c, .slice none 0 0] W fun e w' => e = .returned (.tuple #[.agg #[.int .u64 0, .int .u32 0, .int .u32 0, .int .u32 0, .int .u64 0], .int .u16 151]) ∧ Below W.heap.size W w') := by
    intro W a c h
    have := best_any a none 128 c 0 0 _ _ W h (inn_nil W)
    rw [bst_known2] at this
    exact this
  have HO7 : Hid (Pg.opn 7 Pg.kp = some (1, [97, 98])) := hide (Pg.opn_pg 1 7 [97, 98] (by omega) (by omega) (by simp))
  have HO8 : Hid (Pg.opn 8 Pg.kp = none) := hide (Pg.opn_other (by omega) (by omega) (by omega) (by simp) (by omega))
  have HK8 : Hid (Byts Pg.kp) := hide (Pg.pg_b8 1 7 [97, 98] (by unfold Crc.B8; decide))
  have HKl : Hid (Pg.kp.length = 1024) := hide (Pg.pg_length 1 7 [97, 98] (by simp))
  have HS8 : Hid (Byts Pg.ks) := hide (Pg.mt_b8 Pg.km)
  have HSl : Hid (Pg.ks.length = 128) := hide (Pg.mt_length Pg.km)
  have HSe : Hid (∀ W a, Row W a [97, 98] → Calls Try.prog 10 #[.int .u8 1, .int .u32 7, .slice a 2 2] W fun e w' => ∃ v, e = .returned (.tuple #[v, .int .u16 0]) ∧ Made W v Pg.kp w') := by
    intro W a hr
    exact seal_ok 1 7 a 2 2 [97, 98] W (by omega) (by omega) (by omega) rfl (by intro h; subst h; rcases hr with h | ⟨_, _, h, _⟩ <;> cases h) hr (by unfold Byts; decide) (by omega)
  have H14 : Hid (bk (Pg.kp.take 14) = ⟨#[67, 80, 1, 0, 7, 0, 0, 0, 2, 0, 0, 0, 97, 98]⟩) := by rw [Hid, Pg.kp_14]; rfl
  have Hab : Hid (bk [97, 98] = ⟨#[97, 98]⟩) := hide rfl
  generalize Pg.kp = KP at *
  generalize Pg.ks = KS at *
  go_enter Try.func15, Try.ntmps15
  go_wp2_with fail
  refine (HSe.out _ _ (row_new _ _ _ _ rfl)).mono ?_
  rintro e w1 ⟨v1, rfl, hm1⟩
  obtain ⟨a1, n1, c1, rfl, -⟩ := hm1.1.shape2
  obtain ⟨hi1, hn1⟩ := hm1.inn HK8.out
  have hn1 := hn1.out.trans HKl.out
  subst hn1
  have HBa := hide ((below_alloc w _).trans (hm1.2.2.mono (below_alloc w _).size))
  have HI1 := hide hi1
  clear hi1 hm1
  go_wp2_with fail
  refine (open_inn 7 7 rfl (by omega) HI1.out).mono ?_
  rintro e w2 ⟨hy, -⟩
  obtain ⟨v2, rfl, hm2⟩ := hy _ _ HO7.out
  obtain ⟨a2, n2, c2, rfl, -⟩ := hm2.1.shape2
  obtain ⟨hi2, hn2⟩ := hm2.inn (by unfold Byts; decide)
  have hn2 : n2 = 2 := hn2.out
  subst hn2
  have HI1b := hide (HI1.out.below hm2.2.2)
  have HI2 := hide hi2
  have HBb := hide (HBa.out.trans (hm2.2.2.mono HBa.out.size))
  clear hi2 hm2 hy
  go_wp2_with fail
  refine (open_inn 8 8 rfl (by omega) HI1b.out).mono ?_
  rintro e w3 ⟨-, hno⟩
  obtain ⟨rfl, hb3⟩ := hno HO8.out
  have HI1c := hide (HI1b.out.below hb3)
  have HI2b := hide (HI2.out.below hb3)
  have HBc := hide (HBb.out.trans (hb3.mono HBb.out.size))
  clear hb3 hno
  go_wp2_with fail
  refine (HPut.out _).mono ?_
  rintro e w4 ⟨v4, rfl, hm4⟩
  obtain ⟨a4, n4, c4, rfl, -⟩ := hm4.1.shape2
  obtain ⟨hi4, hn4⟩ := hm4.inn HS8.out
  have hn4 := hn4.out.trans HSl.out
  subst hn4
  have HI1d := hide (HI1c.out.below hm4.2.2)
  have HI2c := hide (HI2b.out.below hm4.2.2)
  have HI4 := hide hi4
  have HBd := hide (HBc.out.trans (hm4.2.2.mono HBc.out.size))
  clear hi4 hm4
  go_wp2_with fail
  have ha5 := below_alloc w4 (.cells (madeCells #[.int .u8 0] 1024) 5)
  refine (HB1.out _ _ _ (HI4.out.below ha5) _ (inn_made w4 1024 (by omega))).mono ?_
  rintro e w5 ⟨rfl, hb5⟩
  have hb5 := ha5.trans (hb5.mono ha5.size)
  have HI1e := hide (HI1d.out.below hb5)
  have HI2d := hide (HI2c.out.below hb5)
  have HI4b := hide (HI4.out.below hb5)
  have HBe := hide (HBd.out.trans (hb5.mono HBd.out.size))
  clear hb5 ha5
  go_wp2_with fail
  have ha6 := below_alloc w5 (.cells #[.int .u64 1, .int .u32 0, .int .u32 0, .int .u32 2, .int .u64 0] 64)
  have hblk := heap_alloc_new w5 (.cells #[.int .u64 1, .int .u32 0, .int .u32 0, .int .u32 2, .int .u64 0] 64)
  refine (HB2.out _ _ _ (HI4b.out.below ha6)).mono ?_
  rintro e w6 ⟨rfl, hb6⟩
  have hblk : w6.heap[w5.heap.size]? = some (.cells #[.int .u64 1, .int .u32 0, .int .u32 0, .int .u32 2, .int .u64 0] 64 (0, 0)) := (hb6.block _ (by simp)).trans hblk
  have hb6 := ha6.trans (hb6.mono ha6.size)
  have HI1f := hide (HI1e.out.below hb6)
  have HI2e := hide (HI2d.out.below hb6)
  have HBf := hide (HBe.out.trans (hb6.mono HBe.out.size))
  have ha7 := below_alloc w6 (.cells #[.int .u64 0, .int .u32 0, .int .u32 0, .int .u32 0, .int .u64 0] 64)
  have t1 := run_text (w6.alloc (.cells #[.int .u64 0, .int .u32 0, .int .u32 0, .int .u32 0, .int .u64 0] 64)) a1 14 c1 (KP.take 14) (by rw [List.length_take, HKl.out]; rfl) (by intro h; have := HI1f.out.bare h; omega) ((HI1f.out.row.below ha7).take 14) (HK8.out.take 14)
  have t2 := run_text (w6.alloc (.cells #[.int .u64 0, .int .u32 0, .int .u32 0, .int .u32 0, .int .u64 0] 64)) a2 2 c2 [97, 98] rfl HI2e.out.bare (HI2e.out.row.below ha7) HI2e.out.byts
  rw [H14.out] at t1
  rw [Hab.out] at t2
  have hc1 := HI1f.out.cap
  have hc2 := HI1f.out.max
  have hblk7 := (Below.heap_alloc w6 (.cells #[.int .u64 0, .int .u32 0, .int .u32 0, .int .u32 0, .int .u64 0] 64) _ (lt_of_block hblk)).trans hblk
  obtain ⟨m0, m1, m2, m3, m4⟩ := five hblk7
  have HBg := hide (HBf.out.trans (ha7.mono HBf.out.size))
  clear ha7 hb6 ha6 hblk hblk7 HPut HB1 HB2 HO7 HO8 HSe H14 Hab
  go_wp2
  go_ret
  exact ⟨rfl, HBg.out⟩
end Go.Proofs.Ytfbkcolcdkglbaa
