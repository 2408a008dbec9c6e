/- The Go function PoolLast answers true for every size and every list of acts, and leaves them as they were. No condition. -/
import Derived.Test.YtkkjppdooaipiaaLB1
namespace Go.Proofs.Ytkkjppdooaipiaa.Last
open Go.RowKit Go.Maps
set_option linter.unusedVariables false

theorem Fd_base {w w1 w2 : World} {O : Nat → Prop} (hb : Below w.heap.size w w1) (hf : Fd w1.heap.size w1 w2 O) : Fd w.heap.size w w2 O :=
  ⟨hb.trans (hf.below.mono hb.size), Nat.le_trans hb.size hf.size, fun k hk => Nat.le_trans hb.size (hf.own k hk)⟩
theorem zeroA : ∀ w, (zeroValue 37).run Try.prog w = .ok (.agg #[.int .u8 0, .int .u32 0, .int .u8 0, .int .i64 0, .slice none 0 0, .slice none 0 0]) w := (zero_of_info (P := Try.prog) (t := 37) (v := .agg #[.int .u8 0, .int .u32 0, .int .u8 0, .int .i64 0, .slice none 0 0, .slice none 0 0]) (n := 6) (by kernel_rfl)).1
theorem WH.first {w W : World} {OO : Nat → Prop} (h : ∀ k, OO k → k < W.heap.size) (hb : w.heap.size ≤ W.heap.size) : WH w.heap.size ((W.alloc (.cells (wantc fun _ => Option.none) 34)).alloc (.cells (hasc fun _ => Option.none) 4)) OO W.heap.size (W.heap.size + 1) (fun _ => Option.none) := by
  have h1 := heap_alloc_new W (.cells (wantc fun _ => Option.none) 34)
  have s1 : (W.alloc (.cells (wantc fun _ => Option.none) 34)).heap.size = W.heap.size + 1 := by simp
  have h2 := heap_alloc_new (W.alloc (.cells (wantc fun _ => Option.none) 34)) (.cells (hasc fun _ => Option.none) 4)
  rw [s1] at h2
  refine ⟨?_, h2, fun hx => by have := h _ hx; omega, fun hx => by have := h _ hx; omega, hb, by omega⟩
  rw [Below.heap_alloc _ _ _ (by omega)]
  exact h1
theorem two_below (W : World) (o o' : Obj) : Below W.heap.size W ((W.alloc o).alloc o') := (below_alloc W o).trans ((below_alloc (W.alloc o) o').mono (below_alloc W o).size)
set_option maxHeartbeats 25600000 in
set_option maxRecDepth 1000000 in
theorem walk (mo : Nat) (hmo : mo ≤ 255) (a : Option Addr) (n c : Nat) (xs : List Ac) (w : World) (h : Acs w a n c xs) (hs : Sza xs) :
    Calls Try.prog 5 #[.int .u8 (mo : Int), .slice a n c] w fun e w' => e = .returned (.bool true) ∧ Below w.heap.size w w' := by
  have HE := hide h
  have HS := hide hs
  have hza := zeroA
  have hmw := makeW
  have hmh := makeH
  clear h hs
  obtain ⟨most, hmost⟩ : ∃ m, m = mo % 6 + 1 := ⟨_, rfl⟩
  have hm1 : 1 ≤ most := by omega
  have hm6 : most ≤ 6 := by omega
  have hmi : (mo : Int) % 6 + 1 = (most : Int) := by omega
  clear hmost
  go_enter Try.func5, Try.ntmps5
  go_wp2_with fail
  refine (much_any a n c xs w HE.out HS.out).mono ?_
  rintro e w1 ⟨hmu, hb1⟩
  have HB1 := hide hb1
  clear hb1
  rcases hmu with rfl | ⟨rfl, h200⟩
  · go_wp2_with (go_at_call 6; refine (known_any _).mono ?_; rintro e w2 ⟨rfl, hb2⟩; have HB2 := hide (HB1.out.trans (hb2.mono HB1.out.size)); clear hb2)
    go_ret
    exact ⟨rfl, HB2.out⟩
  · go_wp2_with (go_at_call 6; refine (known_any _).mono ?_; rintro e w2 ⟨rfl, hb2⟩; have HB2 := hide (HB1.out.trans (hb2.mono HB1.out.size)); clear hb2)
    refine (new_at 6 6 w2 rfl (by omega) (by omega)).mono ?_
    rintro ed w3 ⟨O3, d, q, rfl, hd3, hf3⟩
    have HF3 := hide (Fd_base HB2.out hf3)
    have HD3 := hide hd3
    clear hd3 hf3
    go_wp2_with fail
    refine (pnew_any most (most : Int) rfl w3 HD3.out hm1 (by omega)).mono ?_
    rintro ed w4 ⟨p, O4, rfl, hp4, hg4⟩
    have HF4 := hide (HF3.out.go hg4)
    have HL5 : Hid (LP ((w4.alloc (.cells (wantc fun _ => Option.none) 34)).alloc (.cells (hasc fun _ => Option.none) 4)) p d q (DS.new (8 * 6)) most [] O4 6 (2 * 0)) := hide ⟨hp4.below (two_below w4 _ _), Live.new 6, Coh.nil⟩
    have HF5 := hide (HF4.out.on (two_below w4 (.cells (wantc fun _ => Option.none) 34) (.cells (hasc fun _ => Option.none) 4)))
    have HH5 := hide (WH.first hp4.lt HF4.out.size)
    clear hp4 hg4 hmi
    go_wp2
    go_loopw [11] (fun i wr => ∃ (k : Nat) (S : DS) (A : List Pge) (OO : Nat → Prop) (C : Cn), k ≤ n ∧ i = .int .i64 (k : Int) ∧ LP wr p d q S most A OO 6 (2 * k) ∧ Fd w.heap.size w wr OO ∧ WH w.heap.size wr OO w4.heap.size (w4.heap.size + 1) C ∧ Dat w S C) (fun i _ => n - (intOf i).toNat)
    case atStart => exact ⟨0, _, _, _, _, Nat.zero_le _, rfl, HL5.out, HF5.out, HH5.out, Dat.new⟩
    case round =>
      obtain ⟨k, S, A, OO, C, hk, rfl, hlp, hfd, hwh, hdat⟩ := hrel
      have HL := hide hlp
      have HF := hide hfd
      have HWH := hide hwh
      have HDt := hide hdat
      clear hlp hfd hwh hdat
      by_cases hlt : k < n
      · obtain ⟨x, b, off, hx, rfl, hbl, hat, hok⟩ := (HE.out.below HF.out.below).at hlt
        obtain ⟨c0, c1, c2, c3, c4, c5⟩ := hat
        have hxk := hok.k
        have hxn := hok.nm
        have hxf := hok.of
        have hxi := hok.n.2
        obtain ⟨xl, HXl⟩ : ∃ l, Hid (l = x.db.length) := ⟨_, rfl⟩
        rw [← HXl.out] at c4
        have HB7 := hide (below_alloc wr (.cells #[.int .u8 (x.k : Int), .int .u32 (x.nm : Int), .int .u8 (x.of : Int), .int .i64 x.n, .slice x.da xl x.dc, .slice x.ka x.kn x.kc] 37))
        have HN7 := hide (heap_alloc_new wr (.cells #[.int .u8 (x.k : Int), .int .u32 (x.nm : Int), .int .u8 (x.of : Int), .int .i64 x.n, .slice x.da xl x.dc, .slice x.ka x.kn x.kc] 37))
        obtain ⟨w7, HW7⟩ : ∃ W, Hid (W = wr.alloc (.cells #[.int .u8 (x.k : Int), .int .u32 (x.nm : Int), .int .u8 (x.of : Int), .int .i64 x.n, .slice x.da xl x.dc, .slice x.ka x.kn x.kc] 37)) := ⟨_, rfl⟩
        rw [← HW7.out] at HB7 HN7
        have HL7 := hide (HL.out.below HB7.out)
        have HF7 := hide (HF.out.on HB7.out)
        have HWH7 := hide (HWH.out.on HB7.out)
        have HBox : Hid (wr.heap.size < w7.heap.size) := lt_of_block HN7.out
        have HDx : Hid (Inn w x.da x.db.length x.dc x.db) := hide (HE.out.each x (List.mem_of_getElem? hx)).data
        clear hx hok
        obtain ⟨m, hm, hnm⟩ : ∃ m : Nat, m < 6 ∧ (x.nm : Int) % 6 = (m : Int) := ⟨x.nm % 6, by omega, by omega⟩
        have hmI : (m : Int) < 6 := by omega
        obtain ⟨kd, hkd, hk9⟩ : ∃ kd : Nat, kd < 9 ∧ (x.k : Int) % 9 = (kd : Int) := ⟨x.k % 9, by omega, by omega⟩
        have hcase : kd = 0 ∨ kd = 1 ∨ kd = 2 ∨ kd = 3 ∨ kd = 4 ∨ kd = 5 ∨ kd = 6 ∨ kd = 7 ∨ kd = 8 := by omega
        rcases hcase with rfl | rfl | rfl | rfl | rfl | rfl | rfl | rfl | rfl
        · have hk0 : (x.k : Int) % 9 = 0 := by omega
          clear hk9
          cases hC : C m with
          | none =>
            go_wp2_with fail
            rw [← HW7.out]
            refine (HL7.out.read (by omega) (by omega) m hm 0 100 [] (HDt.out.none hm hC)).mono ?_
            rintro ed w8 ⟨v8, S8, A8, O8, hp8, hr8, hg8, hres⟩
            have HL8 := hide hp8
            have HF8 := hide (HF7.out.go hg8)
            have HWH8 := hide (HWH7.out.go hg8)
            have HD8 := hide (HDt.out.same hr8)
            have HG8 := hide hg8
            clear hp8 hr8 hg8
            rcases hres with ⟨hs1, hs1', rfl, rfl⟩ | ⟨rfl, hf8⟩
            · go_wp2_with fail
              refine (HL8.out.read (by omega) (by omega) m hm 0 100 [] (HD8.out.none hm hC)).mono ?_
              rintro ed w9 ⟨v9, S9, A9, O9, hp9, hr9, hg9, hres⟩
              rcases hres with ⟨hs2, -, -, -⟩ | ⟨rfl, hf9⟩
              · rw [hs1'] at hs2
                cases hs2
              · have HL9 := hide hp9
                have HF9 := hide (HF8.out.go hg9)
                have HWH9 := hide (HWH8.out.go hg9)
                have HD9 := hide (HD8.out.same hr9)
                have HV9 := hide hf9
                clear hp9 hr9 hg9 hf9
                have r3 := HWH9.out.ch hm
                rw [hC] at r3
                go_wp2
                go_roundw
                case rel => exact ⟨k + 1, _, _, _, _, by omega, by go_num, HL9.out.mono (by omega), HF9.out, HWH9.out, HD9.out⟩
                case measure => simp [intOf]; omega
            · have HV8 := hide hf8
              clear hf8
              have r3 := HWH8.out.ch hm
              rw [hC] at r3
              go_wp2
              go_roundw
              case rel => exact ⟨k + 1, _, _, _, _, by omega, by go_num, HL8.out.mono (by omega), HF8.out, HWH8.out, HD8.out⟩
              case measure => simp [intOf]; omega
          | some ky =>
            obtain ⟨ky, y⟩ := ky
            have HY := hide (HDt.out.some hm hC).2
            go_wp2_with fail
            rw [← HW7.out]
            refine (HL7.out.read (by omega) (by omega) m hm ky 0 y.db (HDt.out.some hm hC).1).mono ?_
            rintro ed w8 ⟨v8, S8, A8, O8, hp8, hr8, hg8, hres⟩
            have HL8 := hide hp8
            have HF8 := hide (HF7.out.go hg8)
            have HWH8 := hide (HWH7.out.go hg8)
            have HD8 := hide (HDt.out.same hr8)
            have HG8 := hide hg8
            clear hp8 hr8 hg8
            rcases hres with ⟨hs1, hs1', rfl, rfl⟩ | ⟨rfl, hf8⟩
            · go_wp2_with fail
              refine (HL8.out.read (by omega) (by omega) m hm ky 0 y.db (HD8.out.some hm hC).1).mono ?_
              rintro ed w9 ⟨v9, S9, A9, O9, hp9, hr9, hg9, hres⟩
              rcases hres with ⟨hs2, -, -, -⟩ | ⟨rfl, hf9⟩
              · rw [hs1'] at hs2
                cases hs2
              · have HL9 := hide hp9
                have HF9 := hide (HF8.out.go hg9)
                have HWH9 := hide (HWH8.out.go hg9)
                have HD9 := hide (HD8.out.same hr9)
                have HV9 := hide hf9
                clear hp9 hr9 hg9 hf9
                have r1 := HWH9.out.cw hm
                have r3 := HWH9.out.ch hm
                rw [hC] at r1 r3
                obtain ⟨a9, c9, e9, k1, k2, k3, k4, -⟩ := HV9.out.1.shape
                subst e9
                have HSm := hide (sameb_any a9 y.da y.db.length y.db.length c9 y.dc y.db y.db w9 rfl rfl (by unfold maxLen at k2; omega) (by unfold maxLen at k2; omega) k4 (HY.out.below HF9.out.below).row)
                rw [show sameB y.db y.db = true by simp [sameB]] at HSm
                obtain ⟨yn, HYn⟩ : ∃ yn, Hid (yn = y.db.length) := ⟨_, rfl⟩
                have r1' : w9.cell? ⟨w4.heap.size, m, none⟩ = some (.slice y.da yn y.dc) := by rw [HYn.out]; exact r1
                rw [← HYn.out] at HSm ⊢
                clear r1 k1 k2 k3 k4
                go_wp2_with fail
                refine HSm.out.mono ?_
                rintro ed w10 ⟨rfl, hb10⟩
                have HL10 := hide (HL9.out.below hb10)
                have HF10 := hide (HF9.out.on hb10)
                have HWH10 := hide (HWH9.out.on hb10)
                clear hb10
                go_wp2
                go_roundw
                case rel => exact ⟨k + 1, _, _, _, _, by omega, by go_num, HL10.out.mono (by omega), HF10.out, HWH10.out, HD9.out⟩
                case measure => simp [intOf]; omega
            · have HV8 := hide hf8
              clear hf8
              have r1 := HWH8.out.cw hm
              have r3 := HWH8.out.ch hm
              rw [hC] at r1 r3
              obtain ⟨a9, c9, e9, k1, k2, k3, k4, -⟩ := HV8.out.1.shape
              subst e9
              have HSm := hide (sameb_any a9 y.da y.db.length y.db.length c9 y.dc y.db y.db w8 rfl rfl (by unfold maxLen at k2; omega) (by unfold maxLen at k2; omega) k4 (HY.out.below HF8.out.below).row)
              rw [show sameB y.db y.db = true by simp [sameB]] at HSm
              obtain ⟨yn, HYn⟩ : ∃ yn, Hid (yn = y.db.length) := ⟨_, rfl⟩
              have r1' : w8.cell? ⟨w4.heap.size, m, none⟩ = some (.slice y.da yn y.dc) := by rw [HYn.out]; exact r1
              rw [← HYn.out] at HSm ⊢
              clear r1 k1 k2 k3 k4
              go_wp2_with fail
              refine HSm.out.mono ?_
              rintro ed w10 ⟨rfl, hb10⟩
              have HL10 := hide (HL8.out.below hb10)
              have HF10 := hide (HF8.out.on hb10)
              have HWH10 := hide (HWH8.out.on hb10)
              clear hb10
              go_wp2
              go_roundw
              case rel => exact ⟨k + 1, _, _, _, _, by omega, by go_num, HL10.out.mono (by omega), HF10.out, HWH10.out, HD8.out⟩
              case measure => simp [intOf]; omega
        · have hk0 : (x.k : Int) % 9 = 1 := by omega
          clear hk9
          cases hC : C m with
          | none =>
            go_wp2_with fail
            rw [← HW7.out]
            refine (HL7.out.read (by omega) (by omega) m hm 0 100 [] (HDt.out.none hm hC)).mono ?_
            rintro ed w8 ⟨v8, S8, A8, O8, hp8, hr8, hg8, hres⟩
            have HL8 := hide hp8
            have HF8 := hide (HF7.out.go hg8)
            have HWH8 := hide (HWH7.out.go hg8)
            have HD8 := hide (HDt.out.same hr8)
            have HG8 := hide hg8
            clear hp8 hr8 hg8
            rcases hres with ⟨hs1, hs1', rfl, rfl⟩ | ⟨rfl, hf8⟩
            · go_wp2_with fail
              refine (HL8.out.read (by omega) (by omega) m hm 0 100 [] (HD8.out.none hm hC)).mono ?_
              rintro ed w9 ⟨v9, S9, A9, O9, hp9, hr9, hg9, hres⟩
              rcases hres with ⟨hs2, -, -, -⟩ | ⟨rfl, hf9⟩
              · rw [hs1'] at hs2
                cases hs2
              · have HL9 := hide hp9
                have HF9 := hide (HF8.out.go hg9)
                have HWH9 := hide (HWH8.out.go hg9)
                have HD9 := hide (HD8.out.same hr9)
                have HV9 := hide hf9
                clear hp9 hr9 hg9 hf9
                have r3 := HWH9.out.ch hm
                rw [hC] at r3
                go_wp2
                go_roundw
                case rel => exact ⟨k + 1, _, _, _, _, by omega, by go_num, HL9.out.mono (by omega), HF9.out, HWH9.out, HD9.out⟩
                case measure => simp [intOf]; omega
            · have HV8 := hide hf8
              clear hf8
              have r3 := HWH8.out.ch hm
              rw [hC] at r3
              go_wp2
              go_roundw
              case rel => exact ⟨k + 1, _, _, _, _, by omega, by go_num, HL8.out.mono (by omega), HF8.out, HWH8.out, HD8.out⟩
              case measure => simp [intOf]; omega
          | some ky =>
            obtain ⟨ky, y⟩ := ky
            have HY := hide (HDt.out.some hm hC).2
            go_wp2_with fail
            rw [← HW7.out]
            refine (HL7.out.read (by omega) (by omega) m hm ky 0 y.db (HDt.out.some hm hC).1).mono ?_
            rintro ed w8 ⟨v8, S8, A8, O8, hp8, hr8, hg8, hres⟩
            have HL8 := hide hp8
            have HF8 := hide (HF7.out.go hg8)
            have HWH8 := hide (HWH7.out.go hg8)
            have HD8 := hide (HDt.out.same hr8)
            have HG8 := hide hg8
            clear hp8 hr8 hg8
            rcases hres with ⟨hs1, hs1', rfl, rfl⟩ | ⟨rfl, hf8⟩
            · go_wp2_with fail
              refine (HL8.out.read (by omega) (by omega) m hm ky 0 y.db (HD8.out.some hm hC).1).mono ?_
              rintro ed w9 ⟨v9, S9, A9, O9, hp9, hr9, hg9, hres⟩
              rcases hres with ⟨hs2, -, -, -⟩ | ⟨rfl, hf9⟩
              · rw [hs1'] at hs2
                cases hs2
              · have HL9 := hide hp9
                have HF9 := hide (HF8.out.go hg9)
                have HWH9 := hide (HWH8.out.go hg9)
                have HD9 := hide (HD8.out.same hr9)
                have HV9 := hide hf9
                clear hp9 hr9 hg9 hf9
                have r1 := HWH9.out.cw hm
                have r3 := HWH9.out.ch hm
                rw [hC] at r1 r3
                obtain ⟨a9, c9, e9, k1, k2, k3, k4, -⟩ := HV9.out.1.shape
                subst e9
                have HSm := hide (sameb_any a9 y.da y.db.length y.db.length c9 y.dc y.db y.db w9 rfl rfl (by unfold maxLen at k2; omega) (by unfold maxLen at k2; omega) k4 (HY.out.below HF9.out.below).row)
                rw [show sameB y.db y.db = true by simp [sameB]] at HSm
                obtain ⟨yn, HYn⟩ : ∃ yn, Hid (yn = y.db.length) := ⟨_, rfl⟩
                have r1' : w9.cell? ⟨w4.heap.size, m, none⟩ = some (.slice y.da yn y.dc) := by rw [HYn.out]; exact r1
                rw [← HYn.out] at HSm ⊢
                clear r1 k1 k2 k3 k4
                go_wp2_with fail
                refine HSm.out.mono ?_
                rintro ed w10 ⟨rfl, hb10⟩
                have HL10 := hide (HL9.out.below hb10)
                have HF10 := hide (HF9.out.on hb10)
                have HWH10 := hide (HWH9.out.on hb10)
                clear hb10
                go_wp2
                go_roundw
                case rel => exact ⟨k + 1, _, _, _, _, by omega, by go_num, HL10.out.mono (by omega), HF10.out, HWH10.out, HD9.out⟩
                case measure => simp [intOf]; omega
            · have HV8 := hide hf8
              clear hf8
              have r1 := HWH8.out.cw hm
              have r3 := HWH8.out.ch hm
              rw [hC] at r1 r3
              obtain ⟨a9, c9, e9, k1, k2, k3, k4, -⟩ := HV8.out.1.shape
              subst e9
              have HSm := hide (sameb_any a9 y.da y.db.length y.db.length c9 y.dc y.db y.db w8 rfl rfl (by unfold maxLen at k2; omega) (by unfold maxLen at k2; omega) k4 (HY.out.below HF8.out.below).row)
              rw [show sameB y.db y.db = true by simp [sameB]] at HSm
              obtain ⟨yn, HYn⟩ : ∃ yn, Hid (yn = y.db.length) := ⟨_, rfl⟩
              have r1' : w8.cell? ⟨w4.heap.size, m, none⟩ = some (.slice y.da yn y.dc) := by rw [HYn.out]; exact r1
              rw [← HYn.out] at HSm ⊢
              clear r1 k1 k2 k3 k4
              go_wp2_with fail
              refine HSm.out.mono ?_
              rintro ed w10 ⟨rfl, hb10⟩
              have HL10 := hide (HL8.out.below hb10)
              have HF10 := hide (HF8.out.on hb10)
              have HWH10 := hide (HWH8.out.on hb10)
              clear hb10
              go_wp2
              go_roundw
              case rel => exact ⟨k + 1, _, _, _, _, by omega, by go_num, HL10.out.mono (by omega), HF10.out, HWH10.out, HD8.out⟩
              case measure => simp [intOf]; omega
        · have hk0 : (x.k : Int) % 9 = 2 := by omega
          clear hk9
          cases hC : C m with
          | none =>
            go_wp2_with fail
            rw [← HW7.out]
            refine (HL7.out.read (by omega) (by omega) m hm 0 100 [] (HDt.out.none hm hC)).mono ?_
            rintro ed w8 ⟨v8, S8, A8, O8, hp8, hr8, hg8, hres⟩
            have HL8 := hide hp8
            have HF8 := hide (HF7.out.go hg8)
            have HWH8 := hide (HWH7.out.go hg8)
            have HD8 := hide (HDt.out.same hr8)
            have HG8 := hide hg8
            clear hp8 hr8 hg8
            rcases hres with ⟨hs1, hs1', rfl, rfl⟩ | ⟨rfl, hf8⟩
            · go_wp2_with fail
              refine (HL8.out.read (by omega) (by omega) m hm 0 100 [] (HD8.out.none hm hC)).mono ?_
              rintro ed w9 ⟨v9, S9, A9, O9, hp9, hr9, hg9, hres⟩
              rcases hres with ⟨hs2, -, -, -⟩ | ⟨rfl, hf9⟩
              · rw [hs1'] at hs2
                cases hs2
              · have HL9 := hide hp9
                have HF9 := hide (HF8.out.go hg9)
                have HWH9 := hide (HWH8.out.go hg9)
                have HD9 := hide (HD8.out.same hr9)
                have HV9 := hide hf9
                clear hp9 hr9 hg9 hf9
                have r3 := HWH9.out.ch hm
                rw [hC] at r3
                go_wp2
                go_roundw
                case rel => exact ⟨k + 1, _, _, _, _, by omega, by go_num, HL9.out.mono (by omega), HF9.out, HWH9.out, HD9.out⟩
                case measure => simp [intOf]; omega
            · have HV8 := hide hf8
              clear hf8
              have r3 := HWH8.out.ch hm
              rw [hC] at r3
              go_wp2
              go_roundw
              case rel => exact ⟨k + 1, _, _, _, _, by omega, by go_num, HL8.out.mono (by omega), HF8.out, HWH8.out, HD8.out⟩
              case measure => simp [intOf]; omega
          | some ky =>
            obtain ⟨ky, y⟩ := ky
            have HY := hide (HDt.out.some hm hC).2
            go_wp2_with fail
            rw [← HW7.out]
            refine (HL7.out.read (by omega) (by omega) m hm ky 0 y.db (HDt.out.some hm hC).1).mono ?_
            rintro ed w8 ⟨v8, S8, A8, O8, hp8, hr8, hg8, hres⟩
            have HL8 := hide hp8
            have HF8 := hide (HF7.out.go hg8)
            have HWH8 := hide (HWH7.out.go hg8)
            have HD8 := hide (HDt.out.same hr8)
            have HG8 := hide hg8
            clear hp8 hr8 hg8
            rcases hres with ⟨hs1, hs1', rfl, rfl⟩ | ⟨rfl, hf8⟩
            · go_wp2_with fail
              refine (HL8.out.read (by omega) (by omega) m hm ky 0 y.db (HD8.out.some hm hC).1).mono ?_
              rintro ed w9 ⟨v9, S9, A9, O9, hp9, hr9, hg9, hres⟩
              rcases hres with ⟨hs2, -, -, -⟩ | ⟨rfl, hf9⟩
              · rw [hs1'] at hs2
                cases hs2
              · have HL9 := hide hp9
                have HF9 := hide (HF8.out.go hg9)
                have HWH9 := hide (HWH8.out.go hg9)
                have HD9 := hide (HD8.out.same hr9)
                have HV9 := hide hf9
                clear hp9 hr9 hg9 hf9
                have r1 := HWH9.out.cw hm
                have r3 := HWH9.out.ch hm
                rw [hC] at r1 r3
                obtain ⟨a9, c9, e9, k1, k2, k3, k4, -⟩ := HV9.out.1.shape
                subst e9
                have HSm := hide (sameb_any a9 y.da y.db.length y.db.length c9 y.dc y.db y.db w9 rfl rfl (by unfold maxLen at k2; omega) (by unfold maxLen at k2; omega) k4 (HY.out.below HF9.out.below).row)
                rw [show sameB y.db y.db = true by simp [sameB]] at HSm
                obtain ⟨yn, HYn⟩ : ∃ yn, Hid (yn = y.db.length) := ⟨_, rfl⟩
                have r1' : w9.cell? ⟨w4.heap.size, m, none⟩ = some (.slice y.da yn y.dc) := by rw [HYn.out]; exact r1
                rw [← HYn.out] at HSm ⊢
                clear r1 k1 k2 k3 k4
                go_wp2_with fail
                refine HSm.out.mono ?_
                rintro ed w10 ⟨rfl, hb10⟩
                have HL10 := hide (HL9.out.below hb10)
                have HF10 := hide (HF9.out.on hb10)
                have HWH10 := hide (HWH9.out.on hb10)
                clear hb10
                go_wp2
                go_roundw
                case rel => exact ⟨k + 1, _, _, _, _, by omega, by go_num, HL10.out.mono (by omega), HF10.out, HWH10.out, HD9.out⟩
                case measure => simp [intOf]; omega
            · have HV8 := hide hf8
              clear hf8
              have r1 := HWH8.out.cw hm
              have r3 := HWH8.out.ch hm
              rw [hC] at r1 r3
              obtain ⟨a9, c9, e9, k1, k2, k3, k4, -⟩ := HV8.out.1.shape
              subst e9
              have HSm := hide (sameb_any a9 y.da y.db.length y.db.length c9 y.dc y.db y.db w8 rfl rfl (by unfold maxLen at k2; omega) (by unfold maxLen at k2; omega) k4 (HY.out.below HF8.out.below).row)
              rw [show sameB y.db y.db = true by simp [sameB]] at HSm
              obtain ⟨yn, HYn⟩ : ∃ yn, Hid (yn = y.db.length) := ⟨_, rfl⟩
              have r1' : w8.cell? ⟨w4.heap.size, m, none⟩ = some (.slice y.da yn y.dc) := by rw [HYn.out]; exact r1
              rw [← HYn.out] at HSm ⊢
              clear r1 k1 k2 k3 k4
              go_wp2_with fail
              refine HSm.out.mono ?_
              rintro ed w10 ⟨rfl, hb10⟩
              have HL10 := hide (HL8.out.below hb10)
              have HF10 := hide (HF8.out.on hb10)
              have HWH10 := hide (HWH8.out.on hb10)
              clear hb10
              go_wp2
              go_roundw
              case rel => exact ⟨k + 1, _, _, _, _, by omega, by go_num, HL10.out.mono (by omega), HF10.out, HWH10.out, HD8.out⟩
              case measure => simp [intOf]; omega
        · have hk0 : (x.k : Int) % 9 = 3 := by omega
          clear hk9
          obtain ⟨kf, hkf1, hkf4, hkf⟩ : ∃ kf : Nat, 1 ≤ kf ∧ kf ≤ 4 ∧ (x.of : Int) % 4 + 1 = (kf : Int) := ⟨x.of % 4 + 1, by omega, by omega, by omega⟩
          have hap : x.db ≠ [] → ∀ ad, x.da = some ad → ¬ OO ad.block := fun hne ad had hx => by
            rcases HDx.out.row with h0 | ⟨b1, off1, e1, hlt1, -⟩
            · exact hne h0
            · rw [e1] at had
              cases had
              have := HF.out.own _ hx
              simp only at this
              omega
          have HWr := hide (HL7.out.write (by omega) (by omega) m kf hm hkf1 hkf4 x.da x.dc x.db (HDx.out.below HF7.out.below) hap xl HXl.out.symm)
          clear hap
          go_wp2_with fail
          rw [← HW7.out]
          refine HWr.out.mono ?_
          rintro ed w8 ⟨E, S8, A8, O8, rfl, hE, hp8, hg8, hres⟩
          have HN8 := hide ((hg8.mv.block _ HBox.out (fun hx => by have := HL.out.pl.lt _ hx; omega)).trans HN7.out)
          have HL8 := hide hp8
          have HF8 := hide (HF7.out.go hg8)
          have HWH8 := hide (HWH7.out.go hg8)
          clear hp8 hg8
          rcases hres with ⟨rfl, hl8, hr8⟩ | ⟨hE0, hr8⟩
          · have HD8 := hide (HDt.out.put (x := x) hr8 ⟨hkf1, hkf4⟩ (by rw [← HXl.out]; exact hl8) HDx.out)
            have q4 : w8.cell? ⟨wr.heap.size, 4, none⟩ = some (.slice x.da xl x.dc) := by have := HN8.out; simp [World.cell?, this]
            have r1 := HWH8.out.cw hm
            have r2 := HWH8.out.fw m
            have r3 := HWH8.out.ch hm
            have r4 := HWH8.out.fh m
            have HL9 : Hid (LP ((w8.setCell ⟨w4.heap.size, m, none⟩ (.slice x.da xl x.dc)).setCell ⟨w4.heap.size + 1, m, none⟩ (.bool true)) p d q S8 most A8 O8 6 (2 * k + 1)) := hide (HL8.out.other (HWH8.out.mv m _ _) (fun j hj hx => by
              rcases hx with rfl | rfl
              · exact HWH8.out.nw hj
              · exact HWH8.out.nh hj))
            have HF9 : Hid (Fd w.heap.size w ((w8.setCell ⟨w4.heap.size, m, none⟩ (.slice x.da xl x.dc)).setCell ⟨w4.heap.size + 1, m, none⟩ (.bool true)) O8) := hide (HF8.out.put HWH8.out m _ _)
            have HWH9 : Hid (WH w.heap.size ((w8.setCell ⟨w4.heap.size, m, none⟩ (.slice x.da xl x.dc)).setCell ⟨w4.heap.size + 1, m, none⟩ (.bool true)) O8 w4.heap.size (w4.heap.size + 1) (updC C m (kf, x))) := by
              have := HWH8.out.put hm (kf, x)
              rw [Hid, HXl.out]
              exact this
            generalize wv' (C m) = vm at r1
            generalize (C m).isSome = bm at r3
            clear hr8
            go_wp2
            go_roundw
            case rel => exact ⟨k + 1, _, _, _, _, by omega, by go_num, HL9.out.mono (by omega), HF9.out, HWH9.out, HD8.out⟩
            case measure => simp [intOf]; omega
          · have HD8 := hide (HDt.out.same hr8)
            have e1 : ¬ (E : Int) = 0 := by omega
            have e2 : ((E : Int) == 0) = false := by simpa using e1
            clear hr8
            go_wp2
            go_roundw
            case rel => exact ⟨k + 1, _, _, _, _, by omega, by go_num, HL8.out.mono (by omega), HF8.out, HWH8.out, HD8.out⟩
            case measure => simp [intOf]; omega
        · have hk0 : (x.k : Int) % 9 = 4 := by omega
          clear hk9
          obtain ⟨kf, hkf1, hkf4, hkf⟩ : ∃ kf : Nat, 1 ≤ kf ∧ kf ≤ 4 ∧ (x.of : Int) % 4 + 1 = (kf : Int) := ⟨x.of % 4 + 1, by omega, by omega, by omega⟩
          have hap : x.db ≠ [] → ∀ ad, x.da = some ad → ¬ OO ad.block := fun hne ad had hx => by
            rcases HDx.out.row with h0 | ⟨b1, off1, e1, hlt1, -⟩
            · exact hne h0
            · rw [e1] at had
              cases had
              have := HF.out.own _ hx
              simp only at this
              omega
          have HWr := hide (HL7.out.write (by omega) (by omega) m kf hm hkf1 hkf4 x.da x.dc x.db (HDx.out.below HF7.out.below) hap xl HXl.out.symm)
          clear hap
          go_wp2_with fail
          rw [← HW7.out]
          refine HWr.out.mono ?_
          rintro ed w8 ⟨E, S8, A8, O8, rfl, hE, hp8, hg8, hres⟩
          have HN8 := hide ((hg8.mv.block _ HBox.out (fun hx => by have := HL.out.pl.lt _ hx; omega)).trans HN7.out)
          have HL8 := hide hp8
          have HF8 := hide (HF7.out.go hg8)
          have HWH8 := hide (HWH7.out.go hg8)
          clear hp8 hg8
          rcases hres with ⟨rfl, hl8, hr8⟩ | ⟨hE0, hr8⟩
          · have HD8 := hide (HDt.out.put (x := x) hr8 ⟨hkf1, hkf4⟩ (by rw [← HXl.out]; exact hl8) HDx.out)
            have q4 : w8.cell? ⟨wr.heap.size, 4, none⟩ = some (.slice x.da xl x.dc) := by have := HN8.out; simp [World.cell?, this]
            have r1 := HWH8.out.cw hm
            have r2 := HWH8.out.fw m
            have r3 := HWH8.out.ch hm
            have r4 := HWH8.out.fh m
            have HL9 : Hid (LP ((w8.setCell ⟨w4.heap.size, m, none⟩ (.slice x.da xl x.dc)).setCell ⟨w4.heap.size + 1, m, none⟩ (.bool true)) p d q S8 most A8 O8 6 (2 * k + 1)) := hide (HL8.out.other (HWH8.out.mv m _ _) (fun j hj hx => by
              rcases hx with rfl | rfl
              · exact HWH8.out.nw hj
              · exact HWH8.out.nh hj))
            have HF9 : Hid (Fd w.heap.size w ((w8.setCell ⟨w4.heap.size, m, none⟩ (.slice x.da xl x.dc)).setCell ⟨w4.heap.size + 1, m, none⟩ (.bool true)) O8) := hide (HF8.out.put HWH8.out m _ _)
            have HWH9 : Hid (WH w.heap.size ((w8.setCell ⟨w4.heap.size, m, none⟩ (.slice x.da xl x.dc)).setCell ⟨w4.heap.size + 1, m, none⟩ (.bool true)) O8 w4.heap.size (w4.heap.size + 1) (updC C m (kf, x))) := by
              have := HWH8.out.put hm (kf, x)
              rw [Hid, HXl.out]
              exact this
            generalize wv' (C m) = vm at r1
            generalize (C m).isSome = bm at r3
            clear hr8
            go_wp2
            go_roundw
            case rel => exact ⟨k + 1, _, _, _, _, by omega, by go_num, HL9.out.mono (by omega), HF9.out, HWH9.out, HD8.out⟩
            case measure => simp [intOf]; omega
          · have HD8 := hide (HDt.out.same hr8)
            have e1 : ¬ (E : Int) = 0 := by omega
            have e2 : ((E : Int) == 0) = false := by simpa using e1
            clear hr8
            go_wp2
            go_roundw
            case rel => exact ⟨k + 1, _, _, _, _, by omega, by go_num, HL8.out.mono (by omega), HF8.out, HWH8.out, HD8.out⟩
            case measure => simp [intOf]; omega
        · have hk0 : (x.k : Int) % 9 = 5 := by omega
          clear hk9
          go_wp2_with fail
          rw [← HW7.out]
          refine (HL7.out.forget m (by omega)).mono ?_
          rintro ed w8 ⟨A8, O8, rfl, hp8, hg8⟩
          have HL8 := hide hp8
          have HF8 := hide (HF7.out.go hg8)
          have HWH8 := hide (HWH7.out.go hg8)
          clear hp8 hg8
          go_wp2
          go_roundw
          case rel => exact ⟨k + 1, _, _, _, _, by omega, by go_num, HL8.out.mono (by omega), HF8.out, HWH8.out, HDt.out⟩
          case measure => simp [intOf]; omega
        · have hk0 : (x.k : Int) % 9 = 6 := by omega
          clear hk9
          cases hC : C m with
          | none =>
            go_wp2_with fail
            rw [← HW7.out]
            refine (HL7.out.read (by omega) (by omega) m hm 0 100 [] (HDt.out.none hm hC)).mono ?_
            rintro ed w8 ⟨v8, S8, A8, O8, hp8, hr8, hg8, hres⟩
            have HL8 := hide hp8
            have HF8 := hide (HF7.out.go hg8)
            have HWH8 := hide (HWH7.out.go hg8)
            have HD8 := hide (HDt.out.same hr8)
            have HG8 := hide hg8
            clear hp8 hr8 hg8
            rcases hres with ⟨hs1, hs1', rfl, rfl⟩ | ⟨rfl, hf8⟩
            · go_wp2_with fail
              refine (HL8.out.read (by omega) (by omega) m hm 0 100 [] (HD8.out.none hm hC)).mono ?_
              rintro ed w9 ⟨v9, S9, A9, O9, hp9, hr9, hg9, hres⟩
              rcases hres with ⟨hs2, -, -, -⟩ | ⟨rfl, hf9⟩
              · rw [hs1'] at hs2
                cases hs2
              · have HL9 := hide hp9
                have HF9 := hide (HF8.out.go hg9)
                have HWH9 := hide (HWH8.out.go hg9)
                have HD9 := hide (HD8.out.same hr9)
                have HV9 := hide hf9
                clear hp9 hr9 hg9 hf9
                have r3 := HWH9.out.ch hm
                rw [hC] at r3
                go_wp2
                go_roundw
                case rel => exact ⟨k + 1, _, _, _, _, by omega, by go_num, HL9.out.mono (by omega), HF9.out, HWH9.out, HD9.out⟩
                case measure => simp [intOf]; omega
            · have HV8 := hide hf8
              clear hf8
              have r3 := HWH8.out.ch hm
              rw [hC] at r3
              go_wp2
              go_roundw
              case rel => exact ⟨k + 1, _, _, _, _, by omega, by go_num, HL8.out.mono (by omega), HF8.out, HWH8.out, HD8.out⟩
              case measure => simp [intOf]; omega
          | some ky =>
            obtain ⟨ky, y⟩ := ky
            have HY := hide (HDt.out.some hm hC).2
            go_wp2_with fail
            rw [← HW7.out]
            refine (HL7.out.read (by omega) (by omega) m hm ky 0 y.db (HDt.out.some hm hC).1).mono ?_
            rintro ed w8 ⟨v8, S8, A8, O8, hp8, hr8, hg8, hres⟩
            have HL8 := hide hp8
            have HF8 := hide (HF7.out.go hg8)
            have HWH8 := hide (HWH7.out.go hg8)
            have HD8 := hide (HDt.out.same hr8)
            have HG8 := hide hg8
            clear hp8 hr8 hg8
            rcases hres with ⟨hs1, hs1', rfl, rfl⟩ | ⟨rfl, hf8⟩
            · go_wp2_with fail
              refine (HL8.out.read (by omega) (by omega) m hm ky 0 y.db (HD8.out.some hm hC).1).mono ?_
              rintro ed w9 ⟨v9, S9, A9, O9, hp9, hr9, hg9, hres⟩
              rcases hres with ⟨hs2, -, -, -⟩ | ⟨rfl, hf9⟩
              · rw [hs1'] at hs2
                cases hs2
              · have HL9 := hide hp9
                have HF9 := hide (HF8.out.go hg9)
                have HWH9 := hide (HWH8.out.go hg9)
                have HD9 := hide (HD8.out.same hr9)
                have HV9 := hide hf9
                clear hp9 hr9 hg9 hf9
                have r1 := HWH9.out.cw hm
                have r3 := HWH9.out.ch hm
                rw [hC] at r1 r3
                obtain ⟨a9, c9, e9, k1, k2, k3, k4, -⟩ := HV9.out.1.shape
                subst e9
                have HSm := hide (sameb_any a9 y.da y.db.length y.db.length c9 y.dc y.db y.db w9 rfl rfl (by unfold maxLen at k2; omega) (by unfold maxLen at k2; omega) k4 (HY.out.below HF9.out.below).row)
                rw [show sameB y.db y.db = true by simp [sameB]] at HSm
                obtain ⟨yn, HYn⟩ : ∃ yn, Hid (yn = y.db.length) := ⟨_, rfl⟩
                have r1' : w9.cell? ⟨w4.heap.size, m, none⟩ = some (.slice y.da yn y.dc) := by rw [HYn.out]; exact r1
                rw [← HYn.out] at HSm ⊢
                clear r1 k1 k2 k3 k4
                go_wp2_with fail
                refine HSm.out.mono ?_
                rintro ed w10 ⟨rfl, hb10⟩
                have HL10 := hide (HL9.out.below hb10)
                have HF10 := hide (HF9.out.on hb10)
                have HWH10 := hide (HWH9.out.on hb10)
                clear hb10
                go_wp2
                go_roundw
                case rel => exact ⟨k + 1, _, _, _, _, by omega, by go_num, HL10.out.mono (by omega), HF10.out, HWH10.out, HD9.out⟩
                case measure => simp [intOf]; omega
            · have HV8 := hide hf8
              clear hf8
              have r1 := HWH8.out.cw hm
              have r3 := HWH8.out.ch hm
              rw [hC] at r1 r3
              obtain ⟨a9, c9, e9, k1, k2, k3, k4, -⟩ := HV8.out.1.shape
              subst e9
              have HSm := hide (sameb_any a9 y.da y.db.length y.db.length c9 y.dc y.db y.db w8 rfl rfl (by unfold maxLen at k2; omega) (by unfold maxLen at k2; omega) k4 (HY.out.below HF8.out.below).row)
              rw [show sameB y.db y.db = true by simp [sameB]] at HSm
              obtain ⟨yn, HYn⟩ : ∃ yn, Hid (yn = y.db.length) := ⟨_, rfl⟩
              have r1' : w8.cell? ⟨w4.heap.size, m, none⟩ = some (.slice y.da yn y.dc) := by rw [HYn.out]; exact r1
              rw [← HYn.out] at HSm ⊢
              clear r1 k1 k2 k3 k4
              go_wp2_with fail
              refine HSm.out.mono ?_
              rintro ed w10 ⟨rfl, hb10⟩
              have HL10 := hide (HL8.out.below hb10)
              have HF10 := hide (HF8.out.on hb10)
              have HWH10 := hide (HWH8.out.on hb10)
              clear hb10
              go_wp2
              go_roundw
              case rel => exact ⟨k + 1, _, _, _, _, by omega, by go_num, HL10.out.mono (by omega), HF10.out, HWH10.out, HD8.out⟩
              case measure => simp [intOf]; omega
        · have hk0 : (x.k : Int) % 9 = 7 := by omega
          clear hk9
          obtain ⟨f, hf, hfi⟩ : ∃ f : Nat, (1 ≤ f ∧ f ≤ 3) ∧ (x.of : Int) % 3 + 1 = (f : Int) := ⟨x.of % 3 + 1, by omega, by omega⟩
          go_wp2_with fail
          rw [← HW7.out]
          refine (HL7.out.fail f hf x.n hxi).mono ?_
          rintro ed w8 ⟨E, S8, O8, rfl, hp8, hr8, hg8⟩
          have HL8 := hide hp8
          have HF8 := hide (HF7.out.go hg8)
          have HWH8 := hide (HWH7.out.go hg8)
          have HD8 := hide (HDt.out.same hr8)
          clear hp8 hr8 hg8
          go_wp2
          go_roundw
          case rel => exact ⟨k + 1, _, _, _, _, by omega, by go_num, HL8.out.mono (by omega), HF8.out, HWH8.out, HD8.out⟩
          case measure => simp [intOf]; omega
        · have hk0 : (x.k : Int) % 9 = 8 := by omega
          clear hk9
          cases hC : C m with
          | none =>
            go_wp2_with fail
            rw [← HW7.out]
            refine (HL7.out.read (by omega) (by omega) m hm 0 100 [] (HDt.out.none hm hC)).mono ?_
            rintro ed w8 ⟨v8, S8, A8, O8, hp8, hr8, hg8, hres⟩
            have HL8 := hide hp8
            have HF8 := hide (HF7.out.go hg8)
            have HWH8 := hide (HWH7.out.go hg8)
            have HD8 := hide (HDt.out.same hr8)
            have HG8 := hide hg8
            clear hp8 hr8 hg8
            rcases hres with ⟨hs1, hs1', rfl, rfl⟩ | ⟨rfl, hf8⟩
            · go_wp2_with fail
              refine (HL8.out.read (by omega) (by omega) m hm 0 100 [] (HD8.out.none hm hC)).mono ?_
              rintro ed w9 ⟨v9, S9, A9, O9, hp9, hr9, hg9, hres⟩
              rcases hres with ⟨hs2, -, -, -⟩ | ⟨rfl, hf9⟩
              · rw [hs1'] at hs2
                cases hs2
              · have HL9 := hide hp9
                have HF9 := hide (HF8.out.go hg9)
                have HWH9 := hide (HWH8.out.go hg9)
                have HD9 := hide (HD8.out.same hr9)
                have HV9 := hide hf9
                clear hp9 hr9 hg9 hf9
                have r3 := HWH9.out.ch hm
                rw [hC] at r3
                go_wp2
                go_roundw
                case rel => exact ⟨k + 1, _, _, _, _, by omega, by go_num, HL9.out.mono (by omega), HF9.out, HWH9.out, HD9.out⟩
                case measure => simp [intOf]; omega
            · have HV8 := hide hf8
              clear hf8
              have r3 := HWH8.out.ch hm
              rw [hC] at r3
              go_wp2
              go_roundw
              case rel => exact ⟨k + 1, _, _, _, _, by omega, by go_num, HL8.out.mono (by omega), HF8.out, HWH8.out, HD8.out⟩
              case measure => simp [intOf]; omega
          | some ky =>
            obtain ⟨ky, y⟩ := ky
            have HY := hide (HDt.out.some hm hC).2
            go_wp2_with fail
            rw [← HW7.out]
            refine (HL7.out.read (by omega) (by omega) m hm ky 0 y.db (HDt.out.some hm hC).1).mono ?_
            rintro ed w8 ⟨v8, S8, A8, O8, hp8, hr8, hg8, hres⟩
            have HL8 := hide hp8
            have HF8 := hide (HF7.out.go hg8)
            have HWH8 := hide (HWH7.out.go hg8)
            have HD8 := hide (HDt.out.same hr8)
            have HG8 := hide hg8
            clear hp8 hr8 hg8
            rcases hres with ⟨hs1, hs1', rfl, rfl⟩ | ⟨rfl, hf8⟩
            · go_wp2_with fail
              refine (HL8.out.read (by omega) (by omega) m hm ky 0 y.db (HD8.out.some hm hC).1).mono ?_
              rintro ed w9 ⟨v9, S9, A9, O9, hp9, hr9, hg9, hres⟩
              rcases hres with ⟨hs2, -, -, -⟩ | ⟨rfl, hf9⟩
              · rw [hs1'] at hs2
                cases hs2
              · have HL9 := hide hp9
                have HF9 := hide (HF8.out.go hg9)
                have HWH9 := hide (HWH8.out.go hg9)
                have HD9 := hide (HD8.out.same hr9)
                have HV9 := hide hf9
                clear hp9 hr9 hg9 hf9
                have r1 := HWH9.out.cw hm
                have r3 := HWH9.out.ch hm
                rw [hC] at r1 r3
                obtain ⟨a9, c9, e9, k1, k2, k3, k4, -⟩ := HV9.out.1.shape
                subst e9
                have HSm := hide (sameb_any a9 y.da y.db.length y.db.length c9 y.dc y.db y.db w9 rfl rfl (by unfold maxLen at k2; omega) (by unfold maxLen at k2; omega) k4 (HY.out.below HF9.out.below).row)
                rw [show sameB y.db y.db = true by simp [sameB]] at HSm
                obtain ⟨yn, HYn⟩ : ∃ yn, Hid (yn = y.db.length) := ⟨_, rfl⟩
                have r1' : w9.cell? ⟨w4.heap.size, m, none⟩ = some (.slice y.da yn y.dc) := by rw [HYn.out]; exact r1
                rw [← HYn.out] at HSm ⊢
                clear r1 k1 k2 k3 k4
                go_wp2_with fail
                refine HSm.out.mono ?_
                rintro ed w10 ⟨rfl, hb10⟩
                have HL10 := hide (HL9.out.below hb10)
                have HF10 := hide (HF9.out.on hb10)
                have HWH10 := hide (HWH9.out.on hb10)
                clear hb10
                go_wp2
                go_roundw
                case rel => exact ⟨k + 1, _, _, _, _, by omega, by go_num, HL10.out.mono (by omega), HF10.out, HWH10.out, HD9.out⟩
                case measure => simp [intOf]; omega
            · have HV8 := hide hf8
              clear hf8
              have r1 := HWH8.out.cw hm
              have r3 := HWH8.out.ch hm
              rw [hC] at r1 r3
              obtain ⟨a9, c9, e9, k1, k2, k3, k4, -⟩ := HV8.out.1.shape
              subst e9
              have HSm := hide (sameb_any a9 y.da y.db.length y.db.length c9 y.dc y.db y.db w8 rfl rfl (by unfold maxLen at k2; omega) (by unfold maxLen at k2; omega) k4 (HY.out.below HF8.out.below).row)
              rw [show sameB y.db y.db = true by simp [sameB]] at HSm
              obtain ⟨yn, HYn⟩ : ∃ yn, Hid (yn = y.db.length) := ⟨_, rfl⟩
              have r1' : w8.cell? ⟨w4.heap.size, m, none⟩ = some (.slice y.da yn y.dc) := by rw [HYn.out]; exact r1
              rw [← HYn.out] at HSm ⊢
              clear r1 k1 k2 k3 k4
              go_wp2_with fail
              refine HSm.out.mono ?_
              rintro ed w10 ⟨rfl, hb10⟩
              have HL10 := hide (HL8.out.below hb10)
              have HF10 := hide (HF8.out.on hb10)
              have HWH10 := hide (HWH8.out.on hb10)
              clear hb10
              go_wp2
              go_roundw
              case rel => exact ⟨k + 1, _, _, _, _, by omega, by go_num, HL10.out.mono (by omega), HF10.out, HWH10.out, HD8.out⟩
              case measure => simp [intOf]; omega
      · have HKn : Hid (k = n) := by rw [Hid]; omega
        have hkn : ¬ (k : Int) < (n : Int) := by omega
        go_wp2
        go_loopw [17] (fun i wr => ∃ (j : Nat) (S : DS) (A : List Pge) (OO : Nat → Prop), j ≤ 1 ∧ i = .int .i64 (j : Int) ∧ (j = 1 → S.s3 = false) ∧ LP wr p d q S most A OO 6 (2 * n + j) ∧ Fd w.heap.size w wr OO ∧ WH w.heap.size wr OO w4.heap.size (w4.heap.size + 1) C ∧ Dat w S C) (fun i _ => 2 - (intOf i).toNat)
        case atStart => exact ⟨0, _, _, _, by omega, rfl, fun h => by omega, HL.out.mono (by have := HKn.out; omega), HF.out, HWH.out, HDt.out⟩
        case round =>
          obtain ⟨j, S0, A0, O0, hj, rfl, hs3, hlp, hfd, hwh, hdat⟩ := hrel
          have HL0 := hide hlp
          have HF0 := hide hfd
          have HWH0 := hide hwh
          have HD0 := hide hdat
          have HS3 := hide hs3
          have hj5 : (j : Int) < 5 := by omega
          have hj2 : ¬ (2 : Int) < (j : Int) := by omega
          clear hlp hfd hwh hdat hs3
          go_wp2_with fail
          refine (HL0.out.sync (by omega)).mono ?_
          rintro ed w5 ⟨E, S5, O5, rfl, hE, hp5, hr5, hg5, hres⟩
          have HL5' := hide hp5
          have HF5' := hide (HF0.out.go hg5)
          have HWH5 := hide (HWH0.out.go hg5)
          have HD5 := hide (HD0.out.same hr5)
          clear hp5 hr5 hg5
          rcases hres with ⟨rfl, hws⟩ | ⟨hE0, hs, hs'⟩
          · have HWs := hide hws
            clear hws
            go_wp2_with fail
            refine (HL5'.out.cut HWs.out).mono ?_
            rintro ed w6 ⟨rfl, O6, OO6, hd6, hcm6, hr6, hg6, hsub6⟩
            have HD6 := hide hd6
            have HCm := hide hcm6
            have HDt6 := hide (HD5.out.same hr6)
            have HF6 : Hid (Fd w.heap.size w w6 O6) := hide ⟨(HF5'.out.go hg6).below, (HF5'.out.go hg6).size, fun g hg => (HF5'.out.go hg6).own g (hsub6 g hg)⟩
            have HWH6 : Hid (WH w.heap.size w6 O6 w4.heap.size (w4.heap.size + 1) C) := hide ((HWH5.out.go hg6).less hsub6)
            clear hd6 hcm6 hr6 hg6 hsub6
            go_wp2_with fail
            refine (pnew_any 2 2 rfl w6 HD6.out (by omega) (by omega)).mono ?_
            rintro ed w7 ⟨p2, O7, rfl, hp7, hg7⟩
            have HC7 : Hid (CP w7 p2 d q (S5.cut []) 2 [] O7 6 (2 * n + 3 + 0)) := hide ⟨hp7, HCm.out.mono (by omega), Coh.nil⟩
            have HF7 := hide (HF6.out.go hg7)
            have HWH7 := hide (HWH6.out.go hg7)
            clear hp7 hg7
            go_wp2
            go_loopw [20] (fun i wr => ∃ (l : Nat) (S : DS) (A : List Pge) (OO : Nat → Prop), l ≤ 6 ∧ i = .int .i64 (l : Int) ∧ CP wr p2 d q S 2 A OO 6 (2 * n + 3 + l) ∧ Fd w.heap.size w wr OO ∧ WH w.heap.size wr OO w4.heap.size (w4.heap.size + 1) C ∧ Dat w S C) (fun i _ => 6 - (intOf i).toNat)
            case atStart => exact ⟨0, _, _, _, by omega, rfl, HC7.out, HF7.out, HWH7.out, HDt6.out⟩
            case round =>
              obtain ⟨m, S1, A1, O1, hm6', rfl, hcp, hfd, hwh, hdat⟩ := hrel
              have HC1 := hide hcp
              have HF1 := hide hfd
              have HWH1 := hide hwh
              have HD1 := hide hdat
              clear hcp hfd hwh hdat
              by_cases hm : m < 6
              · have hmI : (m : Int) < 6 := by omega
                cases hC : C m with
                | none =>
                  go_wp2_with fail
                  refine (HC1.out.read (by omega) (by omega) m (by omega) 0 100 [] (HD1.out.none hm hC)).mono ?_
                  rintro ed w8 ⟨v8, S8, A8, O8, rfl, hf8, hp8, hr8, hg8⟩
                  have HC8 := hide hp8
                  have HF8 := hide (HF1.out.go hg8)
                  have HWH8 := hide (HWH1.out.go hg8)
                  have HD8 := hide (HD1.out.same hr8)
                  have r3 := HWH8.out.ch hm
                  rw [hC] at r3
                  clear hf8 hp8 hr8 hg8
                  go_wp2
                  go_roundw
                  case rel => exact ⟨m + 1, _, _, _, by omega, by go_num, HC8.out.mono (by omega), HF8.out, HWH8.out, HD8.out⟩
                  case measure => simp [intOf]; omega
                | some ky =>
                  obtain ⟨ky, y⟩ := ky
                  have HY := hide (HD1.out.some hm hC).2
                  go_wp2_with fail
                  refine (HC1.out.read (by omega) (by omega) m (by omega) ky 0 y.db (HD1.out.some hm hC).1).mono ?_
                  rintro ed w8 ⟨v8, S8, A8, O8, rfl, hf8, hp8, hr8, hg8⟩
                  have HC8 := hide hp8
                  have HF8 := hide (HF1.out.go hg8)
                  have HWH8 := hide (HWH1.out.go hg8)
                  have HD8 := hide (HD1.out.same hr8)
                  have r1 := HWH8.out.cw hm
                  have r3 := HWH8.out.ch hm
                  rw [hC] at r1 r3
                  obtain ⟨a9, c9, e9, k1, k2, k3, k4, -⟩ := hf8.1.shape
                  subst e9
                  have HSm := hide (sameb_any a9 y.da y.db.length y.db.length c9 y.dc y.db y.db w8 rfl rfl (by unfold maxLen at k2; omega) (by unfold maxLen at k2; omega) k4 (HY.out.below HF8.out.below).row)
                  rw [show sameB y.db y.db = true by simp [sameB]] at HSm
                  obtain ⟨yn, HYn⟩ : ∃ yn, Hid (yn = y.db.length) := ⟨_, rfl⟩
                  have r1' : w8.cell? ⟨w4.heap.size, m, none⟩ = some (.slice y.da yn y.dc) := by rw [HYn.out]; exact r1
                  rw [← HYn.out] at HSm ⊢
                  clear r1 k1 k2 k3 k4 hf8 hp8 hr8 hg8
                  go_wp2_with fail
                  refine HSm.out.mono ?_
                  rintro ed w10 ⟨rfl, hb10⟩
                  have HC10 := hide (HC8.out.below hb10)
                  have HF10 := hide (HF8.out.on hb10)
                  have HWH10 := hide (HWH8.out.on hb10)
                  clear hb10
                  go_wp2
                  go_roundw
                  case rel => exact ⟨m + 1, _, _, _, by omega, by go_num, HC10.out.mono (by omega), HF10.out, HWH10.out, HD8.out⟩
                  case measure => simp [intOf]; omega
              · have hmn : ¬ (m : Int) < 6 := by omega
                go_wp2
                go_ret
                exact ⟨rfl, HF1.out.below⟩
          · have e1 : ¬ (E : Int) = 0 := by omega
            have e2 : ((E : Int) == 0) = false := by simpa using e1
            have hj0 : j = 0 := by
              by_cases h1 : j = 1
              · have := HS3.out h1
                rw [this] at hs
                cases hs
              · omega
            have HJ0 := hide hj0
            have HSf := hide hs'
            clear hj0 hs hs'
            go_wp2
            go_roundw
            case rel => exact ⟨j + 1, _, _, _, by have := HJ0.out; omega, by go_num, fun _ => HSf.out, HL5'.out.mono (by omega), HF5'.out, HWH5.out, HD5.out⟩
            case measure => have := HJ0.out; simp [intOf]; omega
end Go.Proofs.Ytkkjppdooaipiaa.Last
