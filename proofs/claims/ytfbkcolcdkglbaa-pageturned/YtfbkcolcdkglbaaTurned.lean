/- The Go function PageTurned answers true for every kind, numbers, payload, state, place and change that are handed in, and leaves the payload as it was: what was sealed is opened again, by its number alone; with a run of at most 32 bits changed it is none, and neither is a state. No condition. -/
import Derived.Test.YtfbkcolcdkglbaaTB
namespace Go.Proofs.Ytfbkcolcdkglbaa.Turned
open Go.ChangeShapes Go.WideShapes Go.ChangeAt Go.RowKit
set_option linter.unusedVariables false

theorem beq_nat (a b : Nat) : ((a : Int) == (b : Int)) = decide (a = b) := by
  by_cases h : a = b
  · subst h; simp
  · have : ¬ (a : Int) = (b : Int) := by omega
    simp [h, this]
theorem not_of {T : Bool} {E : Nat} (h : T = true ↔ E ≠ 0) : decide (E = 0) = !T := by
  by_cases e : E = 0
  · have : T = false := by cases T <;> simp_all
    rw [this, e]; rfl
  · rw [h.2 e]; simp [e]

set_option maxHeartbeats 3200000 in
set_option maxRecDepth 1000000 in
theorem walk_big (k1 n1 o1 : Nat) (a : Option Addr) (l1 c1 : Nat) (g r f p k : Nat) (at1 : Int) (C : Nat) (w : World) (hl1 : l1 ≤ 9223372036854775807) (h : (20000 : Int) < (l1 : Int)) :
    Calls Try.prog 6 #[.int .u8 (k1 : Int), .int .u32 (n1 : Int), .int .u32 (o1 : Int), .slice a l1 c1, .agg #[.int .u64 (g : Int), .int .u32 (r : Int), .int .u32 (f : Int), .int .u32 (p : Int), .int .u64 (k : Int)], .int .i64 at1, .int .u32 (C : Int)] w fun e w' => e = .returned (.bool true) ∧ Below w.heap.size w w' := by
  have HK := hide (fun W => known_any W)
  go_enter Try.func6, Try.ntmps6
  go_wp2_with fail
  refine (HK.out _).mono ?_
  rintro e w1 ⟨rfl, hb1⟩
  have HB1 := hide ((below_alloc w _).trans (hb1.mono (below_alloc w _).size))
  clear hb1
  go_wp2
  go_ret
  exact ⟨rfl, HB1.out⟩

set_option maxHeartbeats 6400000 in
set_option maxRecDepth 1000000 in
theorem walk_yy (k1 n1 o1 : Nat) (a : Option Addr) (l1 c1 : Nat) (g r f p k : Nat) (at1 : Int) (C : Nat) (xs : List Int) (w : World) (hx : Inn w a l1 c1 xs) (h1 : l1 ≤ 20000) (hn1 : n1 < 4294967296) (ho1 : o1 < 4294967296) (hC : C < 4294967296) (hat : -9223372036854775808 ≤ at1 ∧ at1 ≤ 9223372036854775807)
    (s1 : sOk k1 l1) (hm : (Pg.M.mk g r f p k).May) :
    Calls Try.prog 6 #[.int .u8 (k1 : Int), .int .u32 (n1 : Int), .int .u32 (o1 : Int), .slice a l1 c1, .agg #[.int .u64 (g : Int), .int .u32 (r : Int), .int .u32 (f : Int), .int .u32 (p : Int), .int .u64 (k : Int)], .int .i64 at1, .int .u32 (C : Int)] w fun e w' => e = .returned (.bool true) ∧ Below w.heap.size w w' := by
  have d1 : (l1 : Int) ≤ 20000 := by omega
  have HK := hide (fun W => known_any W)
  have HX := hide hx
  have HS1 := hide s1
  have HAt := hide hat
  have HPut : Hid (∀ W, Calls Try.prog 20 #[.agg #[.int .u64 (g : Int), .int .u32 (r : Int), .int .u32 (f : Int), .int .u32 (p : Int), .int .u64 (k : Int)]] W fun e w' => ∃ v, e = .returned (.tuple #[v, .int .u16 0]) ∧ Made W v (Pg.mt ⟨g, r, f, p, k⟩) w') := hide fun W => put_ok ⟨g, r, f, p, k⟩ W hm
  have HM := hide hm
  have HM8 := hide (Pg.mt_b8 ⟨g, r, f, p, k⟩)
  have HMl := hide (Pg.mt_length ⟨g, r, f, p, k⟩)
  have hxl : xs.length ≤ 1008 := by rw [hx.len]; exact s1.2.2
  have HP8 := hide (Pg.pg_b8 k1 n1 xs hx.byts)
  have HPl := hide (Pg.pg_length k1 n1 xs hxl)
  have HO := hide (Pg.opn_pg k1 n1 xs s1.1 s1.2.1 hxl)
  have HOo : Hid ((Pg.opn o1 (Pg.pg k1 n1 xs)).isSome = decide (o1 = n1)) := by
    by_cases h : o1 = n1
    · subst h; rw [Hid, HO.out]; simp
    · rw [Hid, Pg.opn_other (by have := s1.2.1; omega) hn1 ho1 hxl h]; simp [h]
  have hB2 : ((o1 : Int) == (n1 : Int)) = decide (o1 = n1) := beq_nat o1 n1
  have HTu := hide (fun (ys : List Int) (F E : Nat) (hy : Byts ys) (hyl : ys.length = (Pg.pg k1 n1 xs).length) (hF : F ≤ 8 * (Pg.pg k1 n1 xs).length) (hE : E < 4294967296) (hn : Crc.num ys = Crc.num (Pg.pg k1 n1 xs) ^^^ 2 ^ F * E) => Pg.opn_turned (kind := k1) (number := n1) s1.1 s1.2.1 hxl hx.byts hy hyl hF hE hn)
  have hSm : sameB xs xs = true := by unfold sameB; simp
  have hkk : ((k1 : Int) != (k1 : Int)) = false := by simp
  generalize decide (o1 = n1) = B at *
  have hBB : (B != B) = false := by cases B <;> rfl
  generalize hP : Pg.pg k1 n1 xs = P at *
  have HSe : Hid (∀ W, Inn W a l1 c1 xs → Calls Try.prog 10 #[.int .u8 (k1 : Int), .int .u32 (n1 : Int), .slice a l1 c1] W fun e w' => ∃ v, e = .returned (.tuple #[v, .int .u16 0]) ∧ Made W v P w') := hide fun W h => by
    rw [← hP]; exact seal_yes h s1 hn1
  clear hP hxl
  clear hx s1 hm hat
  go_enter Try.func6, Try.ntmps6
  go_wp2_with fail
  refine (HK.out _).mono ?_
  rintro e w1 ⟨rfl, hb1⟩
  have HZ1 := hide hb1
  have HB1 := hide ((below_alloc w _).trans (hb1.mono (below_alloc w _).size))
  have HX1 := hide (HX.out.below HB1.out)
  clear hb1
  go_wp2_with fail
  refine (HSe.out _ HX1.out).mono ?_
  rintro e w2 ⟨v2, rfl, hm2⟩
  obtain ⟨a2, m2, e2, rfl, -⟩ := hm2.1.shape2
  obtain ⟨hi2, hl2⟩ := hm2.inn HP8.out
  have HP2 := hide hi2
  have HPn : Hid (m2 = 1024) := hide (hl2.out.trans HPl.out)
  have HX2 := hide (HX1.out.below hm2.2.2)
  have HB2 := hide (HB1.out.trans (hm2.2.2.mono HB1.out.size))
  have HZ2 := hide (HZ1.out.trans (hm2.2.2.mono HZ1.out.size))
  clear hm2 hi2 hl2
  have hq := (HZ2.out.block w.heap.size (by simp)).trans (heap_alloc_new w _)
  obtain ⟨y0, y1, y2, y3, y4⟩ := five hq
  clear hq HZ1 HZ2
  go_wp2_with fail
  refine (HPut.out _).mono ?_
  clear y0 y1 y2 y3 y4
  rintro e w3 ⟨v3, rfl, hm3⟩
  obtain ⟨a3, m3, e3, rfl, -⟩ := hm3.1.shape2
  obtain ⟨hi3, hl3⟩ := hm3.inn HM8.out
  have HS3 := hide hi3
  have HSn : Hid (m3 = 128) := hide (hl3.out.trans HMl.out)
  have hb3 := hm3.2.2
  have HP3 := hide (HP2.out.below hb3)
  have HX3 := hide (HX2.out.below hb3)
  have HB3 := hide (HB2.out.trans (hb3.mono HB2.out.size))
  clear hm3 hi3 hl3 hb3
  go_wp2_with fail
  refine (open_inn n1 _ rfl hn1 HP3.out).mono ?_
  rintro e w4 ⟨hyy, -⟩
  obtain ⟨v4, rfl, hm4⟩ := hyy _ _ HO.out
  obtain ⟨a4, m4, e4, rfl, -⟩ := hm4.1.shape2
  obtain ⟨hi4, -⟩ := hm4.inn HX.out.byts
  have HD4 := hide hi4
  have hb4 := hm4.2.2
  have HP4 := hide (HP3.out.below hb4)
  have HX4 := hide (HX3.out.below hb4)
  have HS4 := hide (HS3.out.below hb4)
  have HB4 := hide (HB3.out.trans (hb4.mono HB3.out.size))
  clear hm4 hi4 hyy hb4
  go_wp2_with fail
  refine (open_err o1 ho1 HP4.out B HOo.out).mono ?_
  rintro e w5 ⟨kv5, a5, n5, c5, er5, rfl, her5, hb5⟩
  have HD5 := hide (HD4.out.below hb5)
  have HP5 := hide (HP4.out.below hb5)
  have HX5 := hide (HX4.out.below hb5)
  have HS5 := hide (HS4.out.below hb5)
  have HB5 := hide (HB4.out.trans (hb5.mono HB4.out.size))
  clear hb5
  go_wp2_with fail
  refine (turned_inn HP5.out (by rw [HPn.out]; omega) (by rw [HPn.out]; omega) hC HAt.out).mono ?_
  rintro e w6 ⟨ys, v6, T, F, E, rfl, hm6, hyl, hy8, hF, hE, hnum, hT⟩
  obtain ⟨a6, m6, e6, rfl, -⟩ := hm6.1.shape2
  obtain ⟨hi6, -⟩ := hm6.inn hy8
  have HT6 := hide hi6
  have hb6 := hm6.2.2
  have HD6 := hide (HD5.out.below hb6)
  have HX6 := hide (HX5.out.below hb6)
  have HS6 := hide (HS5.out.below hb6)
  have HB6 := hide (HB5.out.trans (hb6.mono HB5.out.size))
  have HOT : Hid ((Pg.opn n1 ys).isSome = !T) := hide ((HTu.out ys F E hy8 hyl hF hE hnum).trans (not_of hT))
  clear hm6 hi6 hb6 hyl hy8 hF hE hnum hT
  generalize hNT : (!T) = NT at *
  have hNN : (NT != NT) = false := by cases NT <;> rfl
  go_wp2_with fail
  refine (open_err n1 hn1 HT6.out NT HOT.out).mono ?_
  rintro e w7 ⟨kv7, a7, n7, c7, er7, rfl, her7, hb7⟩
  have HD7 := hide (HD6.out.below hb7)
  have HX7 := hide (HX6.out.below hb7)
  have HS7 := hide (HS6.out.below hb7)
  have HB7 := hide (HB6.out.trans (hb7.mono HB6.out.size))
  clear hb7
  go_wp2_with fail
  refine (same_inn HD7.out HX7.out).mono ?_
  rintro e w8 ⟨rfl, hb8⟩
  rw [hSm]
  have HS8 := hide (HS7.out.below hb8)
  have HB8 := hide (HB7.out.trans (hb8.mono HB7.out.size))
  clear hb8
  go_wp2_with fail
  refine (turned_inn HS8.out (by rw [HSn.out]; omega) (by rw [HSn.out]; omega) hC HAt.out).mono ?_
  rintro e w9 ⟨zs, v9, T9, F9, E9, rfl, hm9, hzl, hz8, hF9, hE9, hnum9, hT9⟩
  obtain ⟨a9, m9, e9, rfl, -⟩ := hm9.1.shape2
  obtain ⟨hi9, -⟩ := hm9.inn hz8
  have HT9 := hide hi9
  have HB9 := hide (HB8.out.trans (hm9.2.2.mono HB8.out.size))
  have HG9 : Hid ((Pg.get zs).isSome = !T9) := by
    have h := Pg.get_turned HM.out hz8 hzl hF9 hE9 hnum9
    rw [Hid, ← not_of hT9]
    by_cases e : E9 = 0
    · rw [h.1 e]; simp [e]
    · rw [h.2 e]; simp [e]
  clear hm9 hi9 hzl hz8 hF9 hE9 hnum9 hT9
  generalize hNT9 : (!T9) = NT9 at *
  have hNN9 : (NT9 != NT9) = false := by cases NT9 <;> rfl
  go_wp2_with fail
  refine (get_err HT9.out NT9 HG9.out).mono ?_
  rintro e w10 ⟨m10, er10, rfl, her10, hb10⟩
  have HB10 := hide (HB9.out.trans (hb10.mono HB9.out.size))
  obtain ⟨g10, r10, f10, p10, k10⟩ := m10
  simp only [mv]
  clear hb10
  go_wp2
  go_ret
  exact ⟨rfl, HB10.out.trans ((below_alloc _ _).mono HB10.out.size)⟩

set_option maxHeartbeats 6400000 in
set_option maxRecDepth 1000000 in
theorem walk_yn (k1 n1 o1 : Nat) (a : Option Addr) (l1 c1 : Nat) (g r f p k : Nat) (at1 : Int) (C : Nat) (xs : List Int) (w : World) (hx : Inn w a l1 c1 xs) (h1 : l1 ≤ 20000) (hn1 : n1 < 4294967296) (ho1 : o1 < 4294967296) (hC : C < 4294967296) (hat : -9223372036854775808 ≤ at1 ∧ at1 ≤ 9223372036854775807)
    (s1 : sOk k1 l1) (hm : ¬ (Pg.M.mk g r f p k).May) :
    Calls Try.prog 6 #[.int .u8 (k1 : Int), .int .u32 (n1 : Int), .int .u32 (o1 : Int), .slice a l1 c1, .agg #[.int .u64 (g : Int), .int .u32 (r : Int), .int .u32 (f : Int), .int .u32 (p : Int), .int .u64 (k : Int)], .int .i64 at1, .int .u32 (C : Int)] w fun e w' => e = .returned (.bool true) ∧ Below w.heap.size w w' := by
  have d1 : (l1 : Int) ≤ 20000 := by omega
  have HK := hide (fun W => known_any W)
  have HX := hide hx
  have HS1 := hide s1
  have HAt := hide hat
  have HPut : Hid (∀ W, Calls Try.prog 20 #[.agg #[.int .u64 (g : Int), .int .u32 (r : Int), .int .u32 (f : Int), .int .u32 (p : Int), .int .u64 (k : Int)]] W fun e w' => e = .returned (.tuple #[.slice none 0 0, .int .u16 80]) ∧ Below W.heap.size W w') := hide fun W => put_no ⟨g, r, f, p, k⟩ W hm
  have hxl : xs.length ≤ 1008 := by rw [hx.len]; exact s1.2.2
  have HP8 := hide (Pg.pg_b8 k1 n1 xs hx.byts)
  have HPl := hide (Pg.pg_length k1 n1 xs hxl)
  have HO := hide (Pg.opn_pg k1 n1 xs s1.1 s1.2.1 hxl)
  have HOo : Hid ((Pg.opn o1 (Pg.pg k1 n1 xs)).isSome = decide (o1 = n1)) := by
    by_cases h : o1 = n1
    · subst h; rw [Hid, HO.out]; simp
    · rw [Hid, Pg.opn_other (by have := s1.2.1; omega) hn1 ho1 hxl h]; simp [h]
  have hB2 : ((o1 : Int) == (n1 : Int)) = decide (o1 = n1) := beq_nat o1 n1
  have HTu := hide (fun (ys : List Int) (F E : Nat) (hy : Byts ys) (hyl : ys.length = (Pg.pg k1 n1 xs).length) (hF : F ≤ 8 * (Pg.pg k1 n1 xs).length) (hE : E < 4294967296) (hn : Crc.num ys = Crc.num (Pg.pg k1 n1 xs) ^^^ 2 ^ F * E) => Pg.opn_turned (kind := k1) (number := n1) s1.1 s1.2.1 hxl hx.byts hy hyl hF hE hn)
  have hSm : sameB xs xs = true := by unfold sameB; simp
  have hkk : ((k1 : Int) != (k1 : Int)) = false := by simp
  generalize decide (o1 = n1) = B at *
  have hBB : (B != B) = false := by cases B <;> rfl
  generalize hP : Pg.pg k1 n1 xs = P at *
  have HSe : Hid (∀ W, Inn W a l1 c1 xs → Calls Try.prog 10 #[.int .u8 (k1 : Int), .int .u32 (n1 : Int), .slice a l1 c1] W fun e w' => ∃ v, e = .returned (.tuple #[v, .int .u16 0]) ∧ Made W v P w') := hide fun W h => by
    rw [← hP]; exact seal_yes h s1 hn1
  clear hP hxl
  clear hx s1 hm hat
  go_enter Try.func6, Try.ntmps6
  go_wp2_with fail
  refine (HK.out _).mono ?_
  rintro e w1 ⟨rfl, hb1⟩
  have HZ1 := hide hb1
  have HB1 := hide ((below_alloc w _).trans (hb1.mono (below_alloc w _).size))
  have HX1 := hide (HX.out.below HB1.out)
  clear hb1
  go_wp2_with fail
  refine (HSe.out _ HX1.out).mono ?_
  rintro e w2 ⟨v2, rfl, hm2⟩
  obtain ⟨a2, m2, e2, rfl, -⟩ := hm2.1.shape2
  obtain ⟨hi2, hl2⟩ := hm2.inn HP8.out
  have HP2 := hide hi2
  have HPn : Hid (m2 = 1024) := hide (hl2.out.trans HPl.out)
  have HX2 := hide (HX1.out.below hm2.2.2)
  have HB2 := hide (HB1.out.trans (hm2.2.2.mono HB1.out.size))
  have HZ2 := hide (HZ1.out.trans (hm2.2.2.mono HZ1.out.size))
  clear hm2 hi2 hl2
  have hq := (HZ2.out.block w.heap.size (by simp)).trans (heap_alloc_new w _)
  obtain ⟨y0, y1, y2, y3, y4⟩ := five hq
  clear hq HZ1 HZ2
  go_wp2_with fail
  refine (HPut.out _).mono ?_
  clear y0 y1 y2 y3 y4
  rintro e w3 ⟨rfl, hb3⟩
  have HP3 := hide (HP2.out.below hb3)
  have HX3 := hide (HX2.out.below hb3)
  have HB3 := hide (HB2.out.trans (hb3.mono HB2.out.size))
  clear hb3
  go_wp2_with fail
  refine (open_inn n1 _ rfl hn1 HP3.out).mono ?_
  rintro e w4 ⟨hyy, -⟩
  obtain ⟨v4, rfl, hm4⟩ := hyy _ _ HO.out
  obtain ⟨a4, m4, e4, rfl, -⟩ := hm4.1.shape2
  obtain ⟨hi4, -⟩ := hm4.inn HX.out.byts
  have HD4 := hide hi4
  have hb4 := hm4.2.2
  have HP4 := hide (HP3.out.below hb4)
  have HX4 := hide (HX3.out.below hb4)
  have HB4 := hide (HB3.out.trans (hb4.mono HB3.out.size))
  clear hm4 hi4 hyy hb4
  go_wp2_with fail
  refine (open_err o1 ho1 HP4.out B HOo.out).mono ?_
  rintro e w5 ⟨kv5, a5, n5, c5, er5, rfl, her5, hb5⟩
  have HD5 := hide (HD4.out.below hb5)
  have HP5 := hide (HP4.out.below hb5)
  have HX5 := hide (HX4.out.below hb5)
  have HB5 := hide (HB4.out.trans (hb5.mono HB4.out.size))
  clear hb5
  go_wp2_with fail
  refine (turned_inn HP5.out (by rw [HPn.out]; omega) (by rw [HPn.out]; omega) hC HAt.out).mono ?_
  rintro e w6 ⟨ys, v6, T, F, E, rfl, hm6, hyl, hy8, hF, hE, hnum, hT⟩
  obtain ⟨a6, m6, e6, rfl, -⟩ := hm6.1.shape2
  obtain ⟨hi6, -⟩ := hm6.inn hy8
  have HT6 := hide hi6
  have hb6 := hm6.2.2
  have HD6 := hide (HD5.out.below hb6)
  have HX6 := hide (HX5.out.below hb6)
  have HB6 := hide (HB5.out.trans (hb6.mono HB5.out.size))
  have HOT : Hid ((Pg.opn n1 ys).isSome = !T) := hide ((HTu.out ys F E hy8 hyl hF hE hnum).trans (not_of hT))
  clear hm6 hi6 hb6 hyl hy8 hF hE hnum hT
  generalize hNT : (!T) = NT at *
  have hNN : (NT != NT) = false := by cases NT <;> rfl
  go_wp2_with fail
  refine (open_err n1 hn1 HT6.out NT HOT.out).mono ?_
  rintro e w7 ⟨kv7, a7, n7, c7, er7, rfl, her7, hb7⟩
  have HD7 := hide (HD6.out.below hb7)
  have HX7 := hide (HX6.out.below hb7)
  have HB7 := hide (HB6.out.trans (hb7.mono HB6.out.size))
  clear hb7
  go_wp2_with fail
  refine (same_inn HD7.out HX7.out).mono ?_
  rintro e w8 ⟨rfl, hb8⟩
  rw [hSm]
  have HB8 := hide (HB7.out.trans (hb8.mono HB7.out.size))
  clear hb8
  go_wp2
  go_ret
  exact ⟨rfl, HB8.out⟩

set_option maxHeartbeats 6400000 in
set_option maxRecDepth 1000000 in
theorem walk_ny (k1 n1 o1 : Nat) (a : Option Addr) (l1 c1 : Nat) (g r f p k : Nat) (at1 : Int) (C : Nat) (xs : List Int) (w : World) (hx : Inn w a l1 c1 xs) (h1 : l1 ≤ 20000) (hn1 : n1 < 4294967296) (ho1 : o1 < 4294967296) (hC : C < 4294967296) (hat : -9223372036854775808 ≤ at1 ∧ at1 ≤ 9223372036854775807)
    (s1 : ¬ sOk k1 l1) (hm : (Pg.M.mk g r f p k).May) :
    Calls Try.prog 6 #[.int .u8 (k1 : Int), .int .u32 (n1 : Int), .int .u32 (o1 : Int), .slice a l1 c1, .agg #[.int .u64 (g : Int), .int .u32 (r : Int), .int .u32 (f : Int), .int .u32 (p : Int), .int .u64 (k : Int)], .int .i64 at1, .int .u32 (C : Int)] w fun e w' => e = .returned (.bool true) ∧ Below w.heap.size w w' := by
  have d1 : (l1 : Int) ≤ 20000 := by omega
  have HK := hide (fun W => known_any W)
  have HX := hide hx
  have HS1 := hide s1
  have HAt := hide hat
  have HPut : Hid (∀ W, Calls Try.prog 20 #[.agg #[.int .u64 (g : Int), .int .u32 (r : Int), .int .u32 (f : Int), .int .u32 (p : Int), .int .u64 (k : Int)]] W fun e w' => ∃ v, e = .returned (.tuple #[v, .int .u16 0]) ∧ Made W v (Pg.mt ⟨g, r, f, p, k⟩) w') := hide fun W => put_ok ⟨g, r, f, p, k⟩ W hm
  have HM := hide hm
  have HM8 := hide (Pg.mt_b8 ⟨g, r, f, p, k⟩)
  have HMl := hide (Pg.mt_length ⟨g, r, f, p, k⟩)
  have HSe : Hid (∀ W, Calls Try.prog 10 #[.int .u8 (k1 : Int), .int .u32 (n1 : Int), .slice a l1 c1] W fun e w' => e = .returned (.tuple #[.slice none 0 0, .int .u16 80]) ∧ Below W.heap.size W w') := hide fun W => seal_not s1
  clear hx s1 hm hat
  go_enter Try.func6, Try.ntmps6
  go_wp2_with fail
  refine (HK.out _).mono ?_
  rintro e w1 ⟨rfl, hb1⟩
  have HZ1 := hide hb1
  have HB1 := hide ((below_alloc w _).trans (hb1.mono (below_alloc w _).size))
  have HX1 := hide (HX.out.below HB1.out)
  clear hb1
  go_wp2_with fail
  refine (HSe.out _).mono ?_
  rintro e w2 ⟨rfl, hb2⟩
  have HX2 := hide (HX1.out.below hb2)
  have HB2 := hide (HB1.out.trans (hb2.mono HB1.out.size))
  have HZ2 := hide (HZ1.out.trans (hb2.mono HZ1.out.size))
  clear hb2
  have hq := (HZ2.out.block w.heap.size (by simp)).trans (heap_alloc_new w _)
  obtain ⟨y0, y1, y2, y3, y4⟩ := five hq
  clear hq HZ1 HZ2
  go_wp2_with fail
  refine (HPut.out _).mono ?_
  clear y0 y1 y2 y3 y4
  rintro e w3 ⟨v3, rfl, hm3⟩
  obtain ⟨a3, m3, e3, rfl, -⟩ := hm3.1.shape2
  obtain ⟨hi3, hl3⟩ := hm3.inn HM8.out
  have HS3 := hide hi3
  have HSn : Hid (m3 = 128) := hide (hl3.out.trans HMl.out)
  have hb3 := hm3.2.2
  have HX3 := hide (HX2.out.below hb3)
  have HB3 := hide (HB2.out.trans (hb3.mono HB2.out.size))
  clear hm3 hi3 hl3 hb3
  go_wp2_with fail
  refine (turned_inn HS3.out (by rw [HSn.out]; omega) (by rw [HSn.out]; omega) hC HAt.out).mono ?_
  rintro e w9 ⟨zs, v9, T9, F9, E9, rfl, hm9, hzl, hz8, hF9, hE9, hnum9, hT9⟩
  obtain ⟨a9, m9, e9, rfl, -⟩ := hm9.1.shape2
  obtain ⟨hi9, -⟩ := hm9.inn hz8
  have HT9 := hide hi9
  have HB9 := hide (HB3.out.trans (hm9.2.2.mono HB3.out.size))
  have HG9 : Hid ((Pg.get zs).isSome = !T9) := by
    have h := Pg.get_turned HM.out hz8 hzl hF9 hE9 hnum9
    rw [Hid, ← not_of hT9]
    by_cases e : E9 = 0
    · rw [h.1 e]; simp [e]
    · rw [h.2 e]; simp [e]
  clear hm9 hi9 hzl hz8 hF9 hE9 hnum9 hT9
  generalize hNT9 : (!T9) = NT9 at *
  have hNN9 : (NT9 != NT9) = false := by cases NT9 <;> rfl
  go_wp2_with fail
  refine (get_err HT9.out NT9 HG9.out).mono ?_
  rintro e w10 ⟨m10, er10, rfl, her10, hb10⟩
  have HB10 := hide (HB9.out.trans (hb10.mono HB9.out.size))
  obtain ⟨g10, r10, f10, p10, k10⟩ := m10
  simp only [mv]
  clear hb10
  go_wp2
  go_ret
  exact ⟨rfl, HB10.out.trans ((below_alloc _ _).mono HB10.out.size)⟩

set_option maxHeartbeats 6400000 in
set_option maxRecDepth 1000000 in
theorem walk_nn (k1 n1 o1 : Nat) (a : Option Addr) (l1 c1 : Nat) (g r f p k : Nat) (at1 : Int) (C : Nat) (xs : List Int) (w : World) (hx : Inn w a l1 c1 xs) (h1 : l1 ≤ 20000) (hn1 : n1 < 4294967296) (ho1 : o1 < 4294967296) (hC : C < 4294967296) (hat : -9223372036854775808 ≤ at1 ∧ at1 ≤ 9223372036854775807)
    (s1 : ¬ sOk k1 l1) (hm : ¬ (Pg.M.mk g r f p k).May) :
    Calls Try.prog 6 #[.int .u8 (k1 : Int), .int .u32 (n1 : Int), .int .u32 (o1 : Int), .slice a l1 c1, .agg #[.int .u64 (g : Int), .int .u32 (r : Int), .int .u32 (f : Int), .int .u32 (p : Int), .int .u64 (k : Int)], .int .i64 at1, .int .u32 (C : Int)] w fun e w' => e = .returned (.bool true) ∧ Below w.heap.size w w' := by
  have d1 : (l1 : Int) ≤ 20000 := by omega
  have HK := hide (fun W => known_any W)
  have HX := hide hx
  have HS1 := hide s1
  have HAt := hide hat
  have HPut : Hid (∀ W, Calls Try.prog 20 #[.agg #[.int .u64 (g : Int), .int .u32 (r : Int), .int .u32 (f : Int), .int .u32 (p : Int), .int .u64 (k : Int)]] W fun e w' => e = .returned (.tuple #[.slice none 0 0, .int .u16 80]) ∧ Below W.heap.size W w') := hide fun W => put_no ⟨g, r, f, p, k⟩ W hm
  have HSe : Hid (∀ W, Calls Try.prog 10 #[.int .u8 (k1 : Int), .int .u32 (n1 : Int), .slice a l1 c1] W fun e w' => e = .returned (.tuple #[.slice none 0 0, .int .u16 80]) ∧ Below W.heap.size W w') := hide fun W => seal_not s1
  clear hx s1 hm hat
  go_enter Try.func6, Try.ntmps6
  go_wp2_with fail
  refine (HK.out _).mono ?_
  rintro e w1 ⟨rfl, hb1⟩
  have HZ1 := hide hb1
  have HB1 := hide ((below_alloc w _).trans (hb1.mono (below_alloc w _).size))
  have HX1 := hide (HX.out.below HB1.out)
  clear hb1
  go_wp2_with fail
  refine (HSe.out _).mono ?_
  rintro e w2 ⟨rfl, hb2⟩
  have HX2 := hide (HX1.out.below hb2)
  have HB2 := hide (HB1.out.trans (hb2.mono HB1.out.size))
  have HZ2 := hide (HZ1.out.trans (hb2.mono HZ1.out.size))
  clear hb2
  have hq := (HZ2.out.block w.heap.size (by simp)).trans (heap_alloc_new w _)
  obtain ⟨y0, y1, y2, y3, y4⟩ := five hq
  clear hq HZ1 HZ2
  go_wp2_with fail
  refine (HPut.out _).mono ?_
  clear y0 y1 y2 y3 y4
  rintro e w3 ⟨rfl, hb3⟩
  have HX3 := hide (HX2.out.below hb3)
  have HB3 := hide (HB2.out.trans (hb3.mono HB2.out.size))
  clear hb3
  go_wp2
  go_ret
  exact ⟨rfl, HB3.out⟩

theorem walk (a0 a1 a2 : Int) (a3 : Option Addr) (len3 cap3 : Nat) (z3 : List Int) (m4 : Pg.M) (a5 a6 : Int) (w : World)
    (w0 : (Lit.int .u8 a0).wf = true) (w1 : (Lit.int .u32 a1).wf = true) (w2 : (Lit.int .u32 a2).wf = true) (w3 : IsRow .u8 w a3 len3 cap3 z3) (w4 : m4.Fit) (w5 : (Lit.int .i64 a5).wf = true) (w6 : (Lit.int .u32 a6).wf = true) :
    Calls Try.prog 6 #[.int .u8 a0, .int .u32 a1, .int .u32 a2, .slice a3 len3 cap3, mv m4, .int .i64 a5, .int .u32 a6] w fun e w' => e = .returned (.bool true) ∧ Below w.heap.size w w' := by
  have b0 := bounds_u8 w0
  have b1 := bounds_u32 w1
  have b2 := bounds_u32 w2
  have b5 := bounds_i64 w5
  have b6 := bounds_u32 w6
  obtain ⟨k1, rfl⟩ := Int.eq_ofNat_of_zero_le b0.1
  obtain ⟨n1, rfl⟩ := Int.eq_ofNat_of_zero_le b1.1
  obtain ⟨o1, rfl⟩ := Int.eq_ofNat_of_zero_le b2.1
  obtain ⟨C, rfl⟩ := Int.eq_ofNat_of_zero_le b6.1
  obtain ⟨g, r, f, p, k⟩ := m4
  have hx := isrow_inn w3
  by_cases h1 : len3 ≤ 20000
  · by_cases hs : sOk k1 len3 <;> by_cases hm : (Pg.M.mk g r f p k).May
    · exact walk_yy k1 n1 o1 a3 len3 cap3 g r f p k a5 C _ w hx h1 (by omega) (by omega) (by omega) (by omega) hs hm
    · exact walk_yn k1 n1 o1 a3 len3 cap3 g r f p k a5 C _ w hx h1 (by omega) (by omega) (by omega) (by omega) hs hm
    · exact walk_ny k1 n1 o1 a3 len3 cap3 g r f p k a5 C _ w hx h1 (by omega) (by omega) (by omega) (by omega) hs hm
    · exact walk_nn k1 n1 o1 a3 len3 cap3 g r f p k a5 C _ w hx h1 (by omega) (by omega) (by omega) (by omega) hs hm
  · exact walk_big k1 n1 o1 a3 len3 cap3 g r f p k a5 C w (by have := hx.cap; have := hx.max; omega) (by omega)

set_option maxHeartbeats 1600000 in
set_option maxRecDepth 100000 in
theorem lifted (os : Os) (started : os.Started) (H : Type) (enc : TypeId × Value → H) :
    ReturnsInHanded {} Try.checked os 6 .any (Rows.pageTurnedSpec.pre6 enc Try.prog Try.f6 Rows.pageTurnedRow.domain false) (Rows.pageTurnedSpec.post enc Try.prog Try.f6 false true false false) := by
  refine returnsInHanded_of_change (C := Try.checked) own started (by kernel_rfl) Try.func6
    (ChangeSpec.witness6 (enc := enc) (C := Try.checked) false ⟨#[], #[.int .u8 0, .int .u32 0, .int .u32 0, .slice none 0 0, .agg #[.int .u64 0, .int .u32 0, .int .u32 0, .int .u32 0, .int .u64 0], .int .i64 0, .int .u32 0], []⟩ 8 (by kernel_rfl) (by kernel_rfl) (by kernel_rfl) (by kernel_rfl)) ?_
  intro W base args ds gs before hval0 hW hcnd _
  have hval : ∀ (j : Nat) t v, Try.f6.params[j]? = some t → args[j]? = some v → Value.okWide Try.prog W .any base t v := hval0
  have hW' := hW
  obtain ⟨p, q, hA0, hV, rfl, hfz, hnd⟩ := hW
  have hA : DataW.TrodAll enc Try.prog W 0 (fun _ => true) true Try.f6.params.toList args.toList ds p := hA0
  rw [Try.params6] at hA hval
  obtain ⟨v0, vs0, d0, ds0, p0, q0, hargs, rfl, rfl, h0, r0⟩ := trodAll_cons hA
  obtain ⟨v1, vs1, d1, ds1, p1, q1, rfl, rfl, rfl, h1, r1⟩ := trodAll_cons r0
  obtain ⟨v2, vs2, d2, ds2, p2, q2, rfl, rfl, rfl, h2, r2⟩ := trodAll_cons r1
  obtain ⟨v3, vs3, d3, ds3, p3, q3, rfl, rfl, rfl, h3, r3⟩ := trodAll_cons r2
  obtain ⟨v4, vs4, d4, ds4, p4, q4, rfl, rfl, rfl, h4, r4⟩ := trodAll_cons r3
  obtain ⟨v5, vs5, d5, ds5, p5, q5, rfl, rfl, rfl, h5, r5⟩ := trodAll_cons r4
  obtain ⟨v6, vs6, d6, ds6, p6, q6, rfl, rfl, rfl, h6, r6⟩ := trodAll_cons r5
  obtain ⟨rfl, rfl, rfl⟩ := trodAll_nil r6
  obtain rfl : args = #[v0, v1, v2, v3, v4, v5, v6] := by cases args; simp_all
  obtain ⟨rfl, rfl⟩ := trodVars_none hV
  obtain ⟨a0, rfl, rfl, rfl, w0⟩ := open_int Try.underlying5 (hval 0 5 v0 rfl rfl) h0
  obtain ⟨a1, rfl, rfl, rfl, w1⟩ := open_int Try.underlying22 (hval 1 22 v1 rfl rfl) h1
  obtain ⟨a2, rfl, rfl, rfl, w2⟩ := open_int Try.underlying22 (hval 2 22 v2 rfl rfl) h2
  obtain ⟨a3, len3, cap3, rfl⟩ := okWide_slice Try.underlying23 (hval 3 23 v3 rfl rfl)
  have k3 := h3
  have lt3 : ∀ x ∈ p3, x.block < W.heap.size := by obtain ⟨m, hm⟩ := k3; exact DataW.trod_lt m _ _ _ hm
  obtain ⟨z3, w3⟩ : ∃ zs, IsRow .u8 W a3 len3 cap3 zs := by
    obtain ⟨fuel, hf⟩ := h3
    rcases open_ints Try.underlying23 Try.underlying5 (by kernel_rfl) hf with ⟨hcs, _⟩ | ⟨x, l, c, zs, hcs, _, hl, hm, hz, _, hcell, hwz⟩
    · simp [Value.cells] at hcs
      obtain ⟨rfl, rfl, rfl⟩ := hcs
      exact ⟨[], .inl ⟨rfl, rfl, rfl, rfl⟩⟩
    · simp [Value.cells] at hcs
      obtain ⟨rfl, rfl, rfl⟩ := hcs
      exact ⟨zs, .inr ⟨_, rfl, hl, hm, by simpa using hz, hcell, hwz⟩⟩
  have k4 := h4
  have lt4 : ∀ x ∈ p4, x.block < W.heap.size := by obtain ⟨m, hm⟩ := k4; exact DataW.trod_lt m _ _ _ hm
  obtain ⟨m4, rfl, w4⟩ := open_meta (hval 4 64 v4 rfl rfl) h4
  obtain ⟨a5, rfl, rfl, rfl, w5⟩ := open_int Try.underlying3 (hval 5 3 v5 rfl rfl) h5
  obtain ⟨a6, rfl, rfl, rfl, w6⟩ := open_int Try.underlying22 (hval 6 22 v6 rfl rfl) h6
  clear hA0 hval0
  have hwk := walk a0 a1 a2 a3 len3 cap3 z3 m4 a5 a6 W w0 w1 w2 w3 w4 w5 w6
  refine hwk.mono fun e W' ⟨he, bel⟩ => ?_
  subst he
  exact ⟨_, rfl, _, _, _, [], _, [], hW', trodAll_mk1 (shut_bool Try.underlying4 _), (trodAll_cons_mk (shut_int Try.underlying5 w0) (trodAll_cons_mk (shut_int Try.underlying22 w1) (trodAll_cons_mk (shut_int Try.underlying22 w2) (trodAll_cons_mk (Below.trod laidOut (by kernel_rfl) (of_decide_eq_true (by kernel_rfl)) k3 bel lt3) (trodAll_cons_mk (Below.trod laidOut (by kernel_rfl) (of_decide_eq_true (by kernel_rfl)) k4 bel lt4) (trodAll_cons_mk (shut_int Try.underlying3 w5) (trodAll_cons_mk (shut_int Try.underlying22 w6) trodAll_mk0))))))), rfl, bel.frame _, fun h => by cases h⟩

theorem over : Rows.pageTurnedRow.holds Try.pinned (OpenSpec.ofChange Rows.pageTurnedSpec) :=
  OpenClaim.holds_of_wide 6 Try.f6 rfl rfl rfl rfl rfl rfl rfl ⟨rfl, rfl, rfl, rfl, rfl⟩ rfl rfl rfl rfl rfl (by kernel_rfl) Try.func6 (by kernel_rfl)
    (of_decide_eq_true (by kernel_rfl)) (by unfold Func.isWrapper; first | (rw [if_pos (by decide +kernel)]; kernel_rfl) | (rw [if_neg (by decide +kernel)]; exact ⟨rfl, rfl⟩))
    (fun os started H enc _ => lifted os started H enc)

end Go.Proofs.Ytfbkcolcdkglbaa.Turned
namespace Go.Proofs.Ytfbkcolcdkglbaa
theorem pageTurned_holds : Rows.PageTurnedSaid := Turned.over
#print axioms pageTurned_holds
end Go.Proofs.Ytfbkcolcdkglbaa
