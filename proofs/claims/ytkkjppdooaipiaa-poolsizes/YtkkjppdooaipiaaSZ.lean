/- The Go function PoolSizes answers true for every number of pages, every two sizes and every list of acts, and leaves them as they were. No condition. -/
import Derived.Test.YtkkjppdooaipiaaPS1
import Derived.Deep.RegionHeld3
namespace Go.Proofs.Ytkkjppdooaipiaa.Sizes
open Go.RowKit Go.Maps
set_option linter.unusedVariables false

theorem Fd_base {w w1 w2 : World} {O : Nat → Prop} (hb : Below w.heap.size w w1) (hf : Fd w1.heap.size w1 w2 O) : Fd w.heap.size w w2 O :=
  ⟨hb.trans (hf.below.mono hb.size), Nat.le_trans hb.size hf.size, fun k hk => Nat.le_trans hb.size (hf.own k hk)⟩
theorem zeroA : ∀ w, (zeroValue 37).run Try.prog w = .ok (.agg #[.int .u8 0, .int .u32 0, .int .u8 0, .int .i64 0, .slice none 0 0, .slice none 0 0]) w := (zero_of_info (P := Try.prog) (t := 37) (v := .agg #[.int .u8 0, .int .u32 0, .int .u8 0, .int .i64 0, .slice none 0 0, .slice none 0 0]) (n := 6) (by kernel_rfl)).1
/-- an act's box. -/
def actc (x : Ac) : Array Value := #[.int .u8 (x.k : Int), .int .u32 (x.nm : Int), .int .u8 (x.of : Int), .int .i64 x.n, .slice x.da x.db.length x.dc, .slice x.ka x.kn x.kc]
theorem rs_three (pages n : Nat) (zs : List Int) : ∃ K E pl, rs pages n zs = (K, E, pl) ∧ E ≤ 100 := by
  unfold rs
  split
  · split
    · exact ⟨_, _, _, rfl, by omega⟩
    · exact ⟨_, _, _, rfl, by omega⟩
  · exact ⟨_, _, _, rfl, by omega⟩
theorem rs_rd {pages n : Nat} {S S' : DS} (h : ∀ j, j < pages → rd S (8 * j) 8 = rd S' (8 * j) 8) : rs pages n (rd S (8 * n) 8) = rs pages n (rd S' (8 * n) 8) := by
  unfold rs
  by_cases hn : n < pages
  · rw [if_pos hn, if_pos hn, h n hn]
  · rw [if_neg hn, if_neg hn]
theorem we_le (pages n k len : Nat) : we pages n k len ≤ 100 := by
  unfold we
  split
  · split <;> omega
  · omega
set_option maxHeartbeats 12800000 in
set_option maxRecDepth 1000000 in
theorem walk (pg : Int) (hpg : -9223372036854775808 ≤ pg ∧ pg ≤ 9223372036854775807) (o1 o2 : Nat) (ho1 : o1 ≤ 255) (ho2 : o2 ≤ 255) (a : Option Addr) (n c : Nat) (xs : List Ac) (w : World) (h : Acs w a n c xs) (hs : Sza xs) :
    Calls Try.prog 3 #[.int .i64 pg, .int .u8 (o1 : Int), .int .u8 (o2 : Int), .slice a n c] w fun e w' => e = .returned (.bool true) ∧ Below w.heap.size w w' := by
  have HE := hide h
  have HS := hide hs
  have hza := zeroA
  clear h hs
  by_cases hp60 : 60 < pg
  · go_enter Try.func3, Try.ntmps3
    go_wp2_with (go_at_call 6; refine (known_any _).mono ?_; rintro e w1 ⟨rfl, hb1⟩; have HB1 := hide hb1; clear hb1)
    go_ret
    exact ⟨rfl, HB1.out⟩
  · by_cases hp1 : pg < 1
    · go_enter Try.func3, Try.ntmps3
      go_wp2_with (go_at_call 6; refine (known_any _).mono ?_; rintro e w1 ⟨rfl, hb1⟩; have HB1 := hide hb1; clear hb1)
      go_ret
      exact ⟨rfl, HB1.out⟩
    · obtain ⟨pages, rfl⟩ : ∃ k : Nat, pg = (k : Int) := ⟨pg.toNat, by omega⟩
      go_enter Try.func3, Try.ntmps3
      go_wp2_with (go_at_call 6; refine (known_any _).mono ?_; rintro e w1 ⟨rfl, hb1⟩; have HB1 := hide hb1; clear hb1)
      refine (much_any a n c xs w1 (HE.out.below HB1.out) HS.out).mono ?_
      rintro e w2 ⟨hmu, hb2⟩
      have HB2 := hide (HB1.out.trans (hb2.mono HB1.out.size))
      clear hb2
      rcases hmu with rfl | ⟨rfl, h200⟩
      · go_wp2
        go_ret
        exact ⟨rfl, HB2.out⟩
      · go_wp2_with fail
        refine (new_at pages (pages : Int) w2 rfl (by omega) (by omega)).mono ?_
        rintro ed w3 ⟨O3, d1, q1, rfl, hd3, hf3⟩
        have HF3 := hide (Fd_base HB2.out hf3)
        have HD3 := hide hd3
        clear hd3 hf3
        go_wp2_with fail
        refine (new_at pages (pages : Int) w3 rfl (by omega) (by omega)).mono ?_
        rintro ed w4 ⟨O4, d2, q2, rfl, hd4, hf4⟩
        have HD3' := hide (HD3.out.below hf4.below)
        have HF4 : Hid (Fd w.heap.size w w4 O3) := hide (HF3.out.on hf4.below)
        have HF4' : Hid (Fd w.heap.size w w4 O4) := hide ⟨HF4.out.below, HF4.out.size, fun k hk => Nat.le_trans HF3.out.size (hf4.own k hk)⟩
        have HA4 : Hid (∀ k, O3 k → ¬ O4 k) := hide fun k hk hx => by have h1 := HD3.out.lt k hk; have h2 := hf4.own k hx; omega
        have HD4 := hide hd4
        clear hd4 hf4
        go_wp2_with fail
        refine (CP.new (pages := pages) O3 (o1 + 1) ((o1 : Int) + 1) rfl w4 HD3'.out (by omega) (by omega)).mono ?_
        rintro ed w5 ⟨p1, O5, rfl, hp5, hg5⟩
        have HD5 := hide (HD4.out.other hg5.mv fun k hk hx => HA4.out k hx hk)
        have HP5 := hide hp5
        have HF5 := hide (HF4.out.go hg5)
        have HA5 : Hid (∀ k, O5 k → ¬ O4 k) := hide fun k hk hx => (hg5.own k hk).elim (fun y => HA4.out k y hx) (fun y => by have := HD4.out.lt k hx; omega)
        have HF5' : Hid (Fd w.heap.size w w5 O4) := hide ⟨HF5.out.below, HF5.out.size, HF4'.out.own⟩
        clear hp5 hg5
        go_wp2_with fail
        refine (CP.new (pages := pages) O4 (o2 + 1) ((o2 : Int) + 1) rfl w5 HD5.out (by omega) (by omega)).mono ?_
        rintro ed w6 ⟨p2, O6, rfl, hp6, hg6⟩
        have HT6 : Hid (T2 w.heap.size w w6 p1 d1 q1 (DS.new (8 * pages)) (o1 + 1) [] O5 p2 d2 q2 (DS.new (8 * pages)) (o2 + 1) [] O6 pages 0) := hide
          ⟨HP5.out.other hg6.mv fun k hk hx => HA5.out k hk hx, hp6, fun k hk hx => (hg6.own k hx).elim (fun y => HA5.out k hk y) (fun y => by have := HP5.out.pl.lt k hk; omega), ⟨(HF5'.out.go hg6).below, (HF5'.out.go hg6).size, HF5.out.own⟩, HF5'.out.go hg6⟩
        clear hp6 hg6
        have f1 : ¬ (60 : Int) < (pages : Int) := by omega
        go_wp2
        go_loopw [17] (fun i wr => ∃ (k : Nat) (S : DS) (A : List Pge) (O : Nat → Prop) (S' : DS) (A' : List Pge) (O' : Nat → Prop), k ≤ n ∧ i = .int .i64 (k : Int) ∧ T2 w.heap.size w wr p1 d1 q1 S (o1 + 1) A O p2 d2 q2 S' (o2 + 1) A' O' pages (2 * k) ∧ ∀ j, j < pages → rd S (8 * j) 8 = rd S' (8 * j) 8) (fun i _ => n - (intOf i).toNat)
        case atStart => exact ⟨0, _, _, _, _, _, _, Nat.zero_le _, rfl, HT6.out, fun _ _ => rfl⟩
        case round =>
          obtain ⟨k, S, A, O, S', A', O', hk, rfl, ht2, heq⟩ := hrel
          have HT := hide ht2
          have HQ := hide heq
          clear ht2 heq
          by_cases hlt : k < n
          · obtain ⟨x, b, off, hx, rfl, hbl, hat, hok⟩ := (HE.out.below HT.out.fa.below).at hlt
            obtain ⟨c0, c1, c2, c3, c4, c5⟩ := hat
            have hxk := hok.k
            have hxn := hok.nm
            have hxf := hok.of
            obtain ⟨xl, HXl⟩ : ∃ l, Hid (l = x.db.length) := ⟨_, rfl⟩
            rw [← HXl.out] at c4
            have HB7 := hide (below_alloc wr (.cells #[.int .u8 (x.k : Int), .int .u32 (x.nm : Int), .int .u8 (x.of : Int), .int .i64 x.n, .slice x.da xl x.dc, .slice x.ka x.kn x.kc] 37))
            have HN7 := hide (heap_alloc_new wr (.cells #[.int .u8 (x.k : Int), .int .u32 (x.nm : Int), .int .u8 (x.of : Int), .int .i64 x.n, .slice x.da xl x.dc, .slice x.ka x.kn x.kc] 37))
            obtain ⟨w7, HW7⟩ : ∃ W, Hid (W = wr.alloc (.cells #[.int .u8 (x.k : Int), .int .u32 (x.nm : Int), .int .u8 (x.of : Int), .int .i64 x.n, .slice x.da xl x.dc, .slice x.ka x.kn x.kc] 37)) := ⟨_, rfl⟩
            rw [← HW7.out] at HB7 HN7
            have HT7 := hide (HT.out.on HB7.out)
            have hc7 : ∀ j v, (#[Value.int .u8 (x.k : Int), .int .u32 (x.nm : Int), .int .u8 (x.of : Int), .int .i64 x.n, .slice x.da xl x.dc, .slice x.ka x.kn x.kc] : Array Value)[j]? = some v → ∀ W, Below w7.heap.size w7 W → W.cell? ⟨wr.heap.size, j, none⟩ = some v := fun j v hv W hW => by
              have h1 := (hW.block _ (lt_of_block HN7.out)).trans HN7.out
              simp [World.cell?, h1, hv]
            have HC7 := hide hc7
            have HDat : Hid (Inn w x.da x.db.length x.dc x.db) := hide (HE.out.each x (List.mem_of_getElem? hx)).data
            have HBox : Hid (wr.heap.size < w7.heap.size) := lt_of_block HN7.out
            clear hx hok hc7
            obtain ⟨kd, hkd, hk9⟩ : ∃ kd : Nat, kd < 9 ∧ (x.k : Int) % 9 = (kd : Int) := ⟨x.k % 9, by omega, by omega⟩
            have hcase : kd = 0 ∨ kd = 1 ∨ kd = 2 ∨ kd = 3 ∨ kd = 4 ∨ kd = 5 ∨ kd = 6 ∨ kd = 7 ∨ kd = 8 := by omega
            rcases hcase with rfl | rfl | rfl | rfl | rfl | rfl | rfl | rfl | rfl
            · have hk0 : (x.k : Int) % 9 = 0 := by omega
              clear hk9
              go_wp2_with fail
              rw [← HW7.out]
              obtain ⟨K, E, pl, hrs, hE⟩ := rs_three pages x.nm (rd S (8 * x.nm) 8)
              refine (HT7.out.a.read (by omega) (by omega) x.nm hxn K E pl hrs).mono ?_
              rintro ed w8 ⟨v8, S8, A8, O8, rfl, hf8, hp8, hr8, hg8⟩
              have HT8 := hide (HT7.out.one hp8 hg8 (by omega))
              have HN8 := hide ((hg8.mv.block _ HBox.out (fun hx => by have := HT.out.a.pl.lt _ hx; omega)).trans HN7.out)
              have q1 : w8.cell? ⟨wr.heap.size, 1, none⟩ = some (.int .u32 (x.nm : Int)) := by have := HN8.out; simp [World.cell?, this]
              have HR8 := hide hr8
              have HV8 := hide hf8
              obtain ⟨a8, n8, c8, rfl, hn8⟩ := hf8.1.shape2
              have HN8' := hn8
              clear hf8 hp8 hr8 hg8 hn8
              go_wp2_with fail
              refine (HT8.out.b.read (by omega) (by omega) x.nm hxn K E pl ((rs_rd HQ.out).symm.trans hrs)).mono ?_
              rintro ed w9 ⟨v9, S9, A9, O9, rfl, hf9, hp9, hr9, hg9⟩
              have HT9 := hide (HT8.out.two hp9 hg9 (by omega))
              have HQ9 : Hid (∀ j, j < pages → rd S8 (8 * j) 8 = rd S9 (8 * j) 8) := hide fun j hj => by rw [HR8.out j hj, hr9 j hj]; exact HQ.out j hj
              have hown8 := HV8.out.1.of_block fun g hg => hg9.mv.block g (HV8.out.1.lt hg) (fun hx => by have h1 := HT7.out.b.pl.lt g hx; have h2 := (HV8.out.2 g hg).1; omega)
              obtain ⟨a9, n9, c9, rfl, hn9⟩ := hf9.1.shape2
              obtain ⟨a8', c8', e8, g1, g2, g3, g4, -⟩ := hown8.shape
              obtain ⟨a9', c9', e9, k1, k2, k3, k4, -⟩ := hf9.1.shape
              cases e8
              cases e9
              have HSm := hide (sameb_any a8 a9 pl.length pl.length c8 c9 pl pl w9 rfl rfl (by unfold maxLen at g2; omega) (by unfold maxLen at g2; omega) g4 k4)
              rw [show sameB pl pl = true by simp [sameB]] at HSm
              obtain ⟨pn, HPn⟩ : ∃ pn, Hid (pn = pl.length) := ⟨_, rfl⟩
              rw [← HPn.out] at HSm ⊢
              clear hf9 hp9 hr9 hg9 hn9 hown8 g1 g2 g3 g4 k1 k2 k3 k4 q1
              go_wp2_with fail
              refine HSm.out.mono ?_
              rintro ed w10 ⟨rfl, hb10⟩
              have HT10 := hide (HT9.out.on hb10)
              clear hb10
              go_wp2_with fail
              refine (HT10.out.a.len).mono ?_
              rintro ed w11 ⟨l1, rfl, hl1, hb11⟩
              have HT11 := hide (HT10.out.on hb11)
              have f2 : ¬ ((o1 : Int) + 1) < (l1 : Int) := by omega
              clear hb11
              go_wp2_with fail
              refine (HT11.out.b.len).mono ?_
              rintro ed w12 ⟨l2, rfl, hl2, hb12⟩
              have HT12 := hide ((HT11.out.on hb12).mono (show 2 * k + 1 + 1 ≤ 2 * (k + 1) by omega))
              have f3 : ¬ ((o2 : Int) + 1) < (l2 : Int) := by omega
              clear hb12
              go_wp2
              go_roundw
              case rel => exact ⟨k + 1, _, _, _, _, _, _, by omega, by go_num, HT12.out, HQ9.out⟩
              case measure => simp [intOf]; omega
            · have hk0 : (x.k : Int) % 9 = 1 := by omega
              clear hk9
              go_wp2_with fail
              rw [← HW7.out]
              obtain ⟨K, E, pl, hrs, hE⟩ := rs_three pages x.nm (rd S (8 * x.nm) 8)
              refine (HT7.out.a.read (by omega) (by omega) x.nm hxn K E pl hrs).mono ?_
              rintro ed w8 ⟨v8, S8, A8, O8, rfl, hf8, hp8, hr8, hg8⟩
              have HT8 := hide (HT7.out.one hp8 hg8 (by omega))
              have HN8 := hide ((hg8.mv.block _ HBox.out (fun hx => by have := HT.out.a.pl.lt _ hx; omega)).trans HN7.out)
              have q1 : w8.cell? ⟨wr.heap.size, 1, none⟩ = some (.int .u32 (x.nm : Int)) := by have := HN8.out; simp [World.cell?, this]
              have HR8 := hide hr8
              have HV8 := hide hf8
              obtain ⟨a8, n8, c8, rfl, hn8⟩ := hf8.1.shape2
              have HN8' := hn8
              clear hf8 hp8 hr8 hg8 hn8
              go_wp2_with fail
              refine (HT8.out.b.read (by omega) (by omega) x.nm hxn K E pl ((rs_rd HQ.out).symm.trans hrs)).mono ?_
              rintro ed w9 ⟨v9, S9, A9, O9, rfl, hf9, hp9, hr9, hg9⟩
              have HT9 := hide (HT8.out.two hp9 hg9 (by omega))
              have HQ9 : Hid (∀ j, j < pages → rd S8 (8 * j) 8 = rd S9 (8 * j) 8) := hide fun j hj => by rw [HR8.out j hj, hr9 j hj]; exact HQ.out j hj
              have hown8 := HV8.out.1.of_block fun g hg => hg9.mv.block g (HV8.out.1.lt hg) (fun hx => by have h1 := HT7.out.b.pl.lt g hx; have h2 := (HV8.out.2 g hg).1; omega)
              obtain ⟨a9, n9, c9, rfl, hn9⟩ := hf9.1.shape2
              obtain ⟨a8', c8', e8, g1, g2, g3, g4, -⟩ := hown8.shape
              obtain ⟨a9', c9', e9, k1, k2, k3, k4, -⟩ := hf9.1.shape
              cases e8
              cases e9
              have HSm := hide (sameb_any a8 a9 pl.length pl.length c8 c9 pl pl w9 rfl rfl (by unfold maxLen at g2; omega) (by unfold maxLen at g2; omega) g4 k4)
              rw [show sameB pl pl = true by simp [sameB]] at HSm
              obtain ⟨pn, HPn⟩ : ∃ pn, Hid (pn = pl.length) := ⟨_, rfl⟩
              rw [← HPn.out] at HSm ⊢
              clear hf9 hp9 hr9 hg9 hn9 hown8 g1 g2 g3 g4 k1 k2 k3 k4 q1
              go_wp2_with fail
              refine HSm.out.mono ?_
              rintro ed w10 ⟨rfl, hb10⟩
              have HT10 := hide (HT9.out.on hb10)
              clear hb10
              go_wp2_with fail
              refine (HT10.out.a.len).mono ?_
              rintro ed w11 ⟨l1, rfl, hl1, hb11⟩
              have HT11 := hide (HT10.out.on hb11)
              have f2 : ¬ ((o1 : Int) + 1) < (l1 : Int) := by omega
              clear hb11
              go_wp2_with fail
              refine (HT11.out.b.len).mono ?_
              rintro ed w12 ⟨l2, rfl, hl2, hb12⟩
              have HT12 := hide ((HT11.out.on hb12).mono (show 2 * k + 1 + 1 ≤ 2 * (k + 1) by omega))
              have f3 : ¬ ((o2 : Int) + 1) < (l2 : Int) := by omega
              clear hb12
              go_wp2
              go_roundw
              case rel => exact ⟨k + 1, _, _, _, _, _, _, by omega, by go_num, HT12.out, HQ9.out⟩
              case measure => simp [intOf]; omega
            · have hk0 : (x.k : Int) % 9 = 2 := by omega
              clear hk9
              go_wp2_with fail
              rw [← HW7.out]
              obtain ⟨K, E, pl, hrs, hE⟩ := rs_three pages x.nm (rd S (8 * x.nm) 8)
              refine (HT7.out.a.read (by omega) (by omega) x.nm hxn K E pl hrs).mono ?_
              rintro ed w8 ⟨v8, S8, A8, O8, rfl, hf8, hp8, hr8, hg8⟩
              have HT8 := hide (HT7.out.one hp8 hg8 (by omega))
              have HN8 := hide ((hg8.mv.block _ HBox.out (fun hx => by have := HT.out.a.pl.lt _ hx; omega)).trans HN7.out)
              have q1 : w8.cell? ⟨wr.heap.size, 1, none⟩ = some (.int .u32 (x.nm : Int)) := by have := HN8.out; simp [World.cell?, this]
              have HR8 := hide hr8
              have HV8 := hide hf8
              obtain ⟨a8, n8, c8, rfl, hn8⟩ := hf8.1.shape2
              have HN8' := hn8
              clear hf8 hp8 hr8 hg8 hn8
              go_wp2_with fail
              refine (HT8.out.b.read (by omega) (by omega) x.nm hxn K E pl ((rs_rd HQ.out).symm.trans hrs)).mono ?_
              rintro ed w9 ⟨v9, S9, A9, O9, rfl, hf9, hp9, hr9, hg9⟩
              have HT9 := hide (HT8.out.two hp9 hg9 (by omega))
              have HQ9 : Hid (∀ j, j < pages → rd S8 (8 * j) 8 = rd S9 (8 * j) 8) := hide fun j hj => by rw [HR8.out j hj, hr9 j hj]; exact HQ.out j hj
              have hown8 := HV8.out.1.of_block fun g hg => hg9.mv.block g (HV8.out.1.lt hg) (fun hx => by have h1 := HT7.out.b.pl.lt g hx; have h2 := (HV8.out.2 g hg).1; omega)
              obtain ⟨a9, n9, c9, rfl, hn9⟩ := hf9.1.shape2
              obtain ⟨a8', c8', e8, g1, g2, g3, g4, -⟩ := hown8.shape
              obtain ⟨a9', c9', e9, k1, k2, k3, k4, -⟩ := hf9.1.shape
              cases e8
              cases e9
              have HSm := hide (sameb_any a8 a9 pl.length pl.length c8 c9 pl pl w9 rfl rfl (by unfold maxLen at g2; omega) (by unfold maxLen at g2; omega) g4 k4)
              rw [show sameB pl pl = true by simp [sameB]] at HSm
              obtain ⟨pn, HPn⟩ : ∃ pn, Hid (pn = pl.length) := ⟨_, rfl⟩
              rw [← HPn.out] at HSm ⊢
              clear hf9 hp9 hr9 hg9 hn9 hown8 g1 g2 g3 g4 k1 k2 k3 k4 q1
              go_wp2_with fail
              refine HSm.out.mono ?_
              rintro ed w10 ⟨rfl, hb10⟩
              have HT10 := hide (HT9.out.on hb10)
              clear hb10
              go_wp2_with fail
              refine (HT10.out.a.len).mono ?_
              rintro ed w11 ⟨l1, rfl, hl1, hb11⟩
              have HT11 := hide (HT10.out.on hb11)
              have f2 : ¬ ((o1 : Int) + 1) < (l1 : Int) := by omega
              clear hb11
              go_wp2_with fail
              refine (HT11.out.b.len).mono ?_
              rintro ed w12 ⟨l2, rfl, hl2, hb12⟩
              have HT12 := hide ((HT11.out.on hb12).mono (show 2 * k + 1 + 1 ≤ 2 * (k + 1) by omega))
              have f3 : ¬ ((o2 : Int) + 1) < (l2 : Int) := by omega
              clear hb12
              go_wp2
              go_roundw
              case rel => exact ⟨k + 1, _, _, _, _, _, _, by omega, by go_num, HT12.out, HQ9.out⟩
              case measure => simp [intOf]; omega
            · have hk0 : (x.k : Int) % 9 = 3 := by omega
              clear hk9
              have q1 := HC7.out 1 _ rfl w7 (Below.refl _ _)
              have q2 := HC7.out 2 _ rfl w7 (Below.refl _ _)
              have q4 := HC7.out 4 _ rfl w7 (Below.refl _ _)
              have HI7 : Hid (∀ W, Below w.heap.size w W → Inn W x.da x.db.length x.dc x.db) := hide fun W hW => HDat.out.below hW
              have hap : ∀ P : Nat → Prop, (∀ g, P g → w.heap.size ≤ g) → x.db ≠ [] → ∀ ad, x.da = some ad → ¬ P ad.block := fun P hP hne ad had hx => by
                rcases HDat.out.row with h0 | ⟨b1, off1, e1, hlt1, -⟩
                · exact hne h0
                · rw [e1] at had
                  cases had
                  have := hP _ hx
                  simp only at this
                  omega
              have HAp := hide hap
              have HT7d := hide (HT7.out.on (Below.refl _ _).drew)
              have HW1 := hide (HT7d.out.a.write (by omega) (by omega) x.nm x.of hxn x.da x.dc x.db (HI7.out _ HT7d.out.fa.below) (HAp.out _ HT7d.out.fa.own) xl HXl.out.symm)
              have hwe := we_le pages x.nm x.of xl
              obtain ⟨E, HEw⟩ : ∃ E, Hid (E = we pages x.nm x.of xl) := ⟨_, rfl⟩
              rw [← HEw.out] at HW1 hwe
              have M1 : Hid True := trivial
              clear hap
              go_wp2
              rw [← HW7.out]
              go_region_held3 (fun W => W.cell? ⟨wr.heap.size, 1, none⟩ = some (.int .u32 (x.nm : Int)) ∧ W.cell? ⟨wr.heap.size, 2, none⟩ = some (.int .u8 (x.of : Int)) ∧ W.cell? ⟨wr.heap.size, 4, none⟩ = some (.slice x.da xl x.dc)) ((first | (refine ⟨?_, ?_, ?_⟩ <;> assumption) | exact ⟨HC7.out 1 _ rfl _ (Below.refl _ _).drew, HC7.out 2 _ rfl _ (Below.refl _ _).drew, HC7.out 4 _ rfl _ (Below.refl _ _).drew⟩)) ((first
                | (go_at_call 12; have m1 := M1; clear M1 m1; refine HW1.out.mono ?_; intro r' w8 hh; obtain ⟨S8, A8, O8, rfl, hp8, hr8, hg8⟩ := hh; have HT8 := hide (HT7d.out.one hp8 hg8 (by omega)); have HN8 := hide ((hg8.mv.block _ HBox.out (fun hx => by have := HT.out.a.pl.lt _ hx; omega)).trans HN7.out); have HR8 := hide hr8; have HT8g : Hid (w7.heap.size ≤ w8.heap.size) := hide (hg8.mv.size); clear q1 q2 q4 hp8 hr8 hg8; have q1 : w8.cell? ⟨wr.heap.size, 1, none⟩ = some (.int .u32 (x.nm : Int)) := (by have := HN8.out; simp [World.cell?, this]); have q2 : w8.cell? ⟨wr.heap.size, 2, none⟩ = some (.int .u8 (x.of : Int)) := (by have := HN8.out; simp [World.cell?, this]); have q4 : w8.cell? ⟨wr.heap.size, 4, none⟩ = some (.slice x.da xl x.dc) := (by have := HN8.out; simp [World.cell?, this]); have HW2 := hide (HT8.out.b.write (by omega) (by omega) x.nm x.of hxn x.da x.dc x.db (HI7.out _ HT8.out.fa.below) (HAp.out _ HT8.out.fb.own) xl HXl.out.symm); rw [← HEw.out] at HW2; have M2 : Hid True := trivial)
                | (go_at_call 12; have m2 := M2; clear M2 m2; refine HW2.out.mono ?_; intro r' w9 hh; obtain ⟨S9, A9, O9, rfl, hp9, hr9, hg9⟩ := hh; have HT9 := hide (HT8.out.two hp9 hg9 (by omega)); have HN9 := hide ((hg9.mv.block _ (Nat.lt_of_lt_of_le HBox.out (HT8g.out)) (fun hx => by have := HT.out.b.pl.lt _ hx; omega)).trans HN8.out); have HQ9 : Hid (∀ j, j < pages → rd S8 (8 * j) 8 = rd S9 (8 * j) 8) := hide (fun j hj => by rw [HR8.out j hj, hr9 j hj, HQ.out j hj]); clear q1 q2 q4 hp9 hr9 hg9; have q1 : w9.cell? ⟨wr.heap.size, 1, none⟩ = some (.int .u32 (x.nm : Int)) := (by have := HN9.out; simp [World.cell?, this]); have q2 : w9.cell? ⟨wr.heap.size, 2, none⟩ = some (.int .u8 (x.of : Int)) := (by have := HN9.out; simp [World.cell?, this]); have q4 : w9.cell? ⟨wr.heap.size, 4, none⟩ = some (.slice x.da xl x.dc) := (by have := HN9.out; simp [World.cell?, this]))))
              go_wp2_with fail
              refine (HT9.out.a.len).mono ?_
              rintro ed w11 ⟨l1, rfl, hl1, hb11⟩
              have HT11 := hide (HT9.out.on hb11)
              have f2 : ¬ ((o1 : Int) + 1) < (l1 : Int) := by omega
              clear hb11
              go_wp2_with fail
              refine (HT11.out.b.len).mono ?_
              rintro ed w12 ⟨l2, rfl, hl2, hb12⟩
              have HT12 := hide ((HT11.out.on hb12).mono (show 2 * k + 1 + 1 ≤ 2 * (k + 1) by omega))
              have f3 : ¬ ((o2 : Int) + 1) < (l2 : Int) := by omega
              clear hb12
              go_wp2
              go_roundw
              case rel => exact ⟨k + 1, _, _, _, _, _, _, by omega, by go_num, HT12.out, HQ9.out⟩
              case measure => simp [intOf]; omega
            · have hk0 : (x.k : Int) % 9 = 4 := by omega
              clear hk9
              have q1 := HC7.out 1 _ rfl w7 (Below.refl _ _)
              have q2 := HC7.out 2 _ rfl w7 (Below.refl _ _)
              have q4 := HC7.out 4 _ rfl w7 (Below.refl _ _)
              have HI7 : Hid (∀ W, Below w.heap.size w W → Inn W x.da x.db.length x.dc x.db) := hide fun W hW => HDat.out.below hW
              have hap : ∀ P : Nat → Prop, (∀ g, P g → w.heap.size ≤ g) → x.db ≠ [] → ∀ ad, x.da = some ad → ¬ P ad.block := fun P hP hne ad had hx => by
                rcases HDat.out.row with h0 | ⟨b1, off1, e1, hlt1, -⟩
                · exact hne h0
                · rw [e1] at had
                  cases had
                  have := hP _ hx
                  simp only at this
                  omega
              have HAp := hide hap
              have HT7d := hide (HT7.out.on (Below.refl _ _).drew)
              have HW1 := hide (HT7d.out.a.write (by omega) (by omega) x.nm x.of hxn x.da x.dc x.db (HI7.out _ HT7d.out.fa.below) (HAp.out _ HT7d.out.fa.own) xl HXl.out.symm)
              have hwe := we_le pages x.nm x.of xl
              obtain ⟨E, HEw⟩ : ∃ E, Hid (E = we pages x.nm x.of xl) := ⟨_, rfl⟩
              rw [← HEw.out] at HW1 hwe
              have M1 : Hid True := trivial
              clear hap
              go_wp2
              rw [← HW7.out]
              go_region_held3 (fun W => W.cell? ⟨wr.heap.size, 1, none⟩ = some (.int .u32 (x.nm : Int)) ∧ W.cell? ⟨wr.heap.size, 2, none⟩ = some (.int .u8 (x.of : Int)) ∧ W.cell? ⟨wr.heap.size, 4, none⟩ = some (.slice x.da xl x.dc)) ((first | (refine ⟨?_, ?_, ?_⟩ <;> assumption) | exact ⟨HC7.out 1 _ rfl _ (Below.refl _ _).drew, HC7.out 2 _ rfl _ (Below.refl _ _).drew, HC7.out 4 _ rfl _ (Below.refl _ _).drew⟩)) ((first
                | (go_at_call 12; have m1 := M1; clear M1 m1; refine HW1.out.mono ?_; intro r' w8 hh; obtain ⟨S8, A8, O8, rfl, hp8, hr8, hg8⟩ := hh; have HT8 := hide (HT7d.out.one hp8 hg8 (by omega)); have HN8 := hide ((hg8.mv.block _ HBox.out (fun hx => by have := HT.out.a.pl.lt _ hx; omega)).trans HN7.out); have HR8 := hide hr8; have HT8g : Hid (w7.heap.size ≤ w8.heap.size) := hide (hg8.mv.size); clear q1 q2 q4 hp8 hr8 hg8; have q1 : w8.cell? ⟨wr.heap.size, 1, none⟩ = some (.int .u32 (x.nm : Int)) := (by have := HN8.out; simp [World.cell?, this]); have q2 : w8.cell? ⟨wr.heap.size, 2, none⟩ = some (.int .u8 (x.of : Int)) := (by have := HN8.out; simp [World.cell?, this]); have q4 : w8.cell? ⟨wr.heap.size, 4, none⟩ = some (.slice x.da xl x.dc) := (by have := HN8.out; simp [World.cell?, this]); have HW2 := hide (HT8.out.b.write (by omega) (by omega) x.nm x.of hxn x.da x.dc x.db (HI7.out _ HT8.out.fa.below) (HAp.out _ HT8.out.fb.own) xl HXl.out.symm); rw [← HEw.out] at HW2; have M2 : Hid True := trivial)
                | (go_at_call 12; have m2 := M2; clear M2 m2; refine HW2.out.mono ?_; intro r' w9 hh; obtain ⟨S9, A9, O9, rfl, hp9, hr9, hg9⟩ := hh; have HT9 := hide (HT8.out.two hp9 hg9 (by omega)); have HN9 := hide ((hg9.mv.block _ (Nat.lt_of_lt_of_le HBox.out (HT8g.out)) (fun hx => by have := HT.out.b.pl.lt _ hx; omega)).trans HN8.out); have HQ9 : Hid (∀ j, j < pages → rd S8 (8 * j) 8 = rd S9 (8 * j) 8) := hide (fun j hj => by rw [HR8.out j hj, hr9 j hj, HQ.out j hj]); clear q1 q2 q4 hp9 hr9 hg9; have q1 : w9.cell? ⟨wr.heap.size, 1, none⟩ = some (.int .u32 (x.nm : Int)) := (by have := HN9.out; simp [World.cell?, this]); have q2 : w9.cell? ⟨wr.heap.size, 2, none⟩ = some (.int .u8 (x.of : Int)) := (by have := HN9.out; simp [World.cell?, this]); have q4 : w9.cell? ⟨wr.heap.size, 4, none⟩ = some (.slice x.da xl x.dc) := (by have := HN9.out; simp [World.cell?, this]))))
              go_wp2_with fail
              refine (HT9.out.a.len).mono ?_
              rintro ed w11 ⟨l1, rfl, hl1, hb11⟩
              have HT11 := hide (HT9.out.on hb11)
              have f2 : ¬ ((o1 : Int) + 1) < (l1 : Int) := by omega
              clear hb11
              go_wp2_with fail
              refine (HT11.out.b.len).mono ?_
              rintro ed w12 ⟨l2, rfl, hl2, hb12⟩
              have HT12 := hide ((HT11.out.on hb12).mono (show 2 * k + 1 + 1 ≤ 2 * (k + 1) by omega))
              have f3 : ¬ ((o2 : Int) + 1) < (l2 : Int) := by omega
              clear hb12
              go_wp2
              go_roundw
              case rel => exact ⟨k + 1, _, _, _, _, _, _, by omega, by go_num, HT12.out, HQ9.out⟩
              case measure => simp [intOf]; omega
            · have hk0 : (x.k : Int) % 9 = 5 := by omega
              clear hk9
              go_wp2_with fail
              rw [← HW7.out]
              refine (HT7.out.a.forget x.nm hxn).mono ?_
              rintro ed w8 ⟨A8, O8, rfl, hp8, hg8⟩
              have HT8 := hide (HT7.out.one hp8 hg8 (Nat.le_refl _))
              clear hp8 hg8
              go_wp2_with fail
              refine (HT8.out.a.len).mono ?_
              rintro ed w11 ⟨l1, rfl, hl1, hb11⟩
              have HT11 := hide (HT8.out.on hb11)
              have f2 : ¬ ((o1 : Int) + 1) < (l1 : Int) := by omega
              clear hb11
              go_wp2_with fail
              refine (HT11.out.b.len).mono ?_
              rintro ed w12 ⟨l2, rfl, hl2, hb12⟩
              have HT12 := hide ((HT11.out.on hb12).mono (show 2 * k ≤ 2 * (k + 1) by omega))
              have f3 : ¬ ((o2 : Int) + 1) < (l2 : Int) := by omega
              clear hb12
              go_wp2
              go_roundw
              case rel => exact ⟨k + 1, _, _, _, _, _, _, by omega, by go_num, HT12.out, HQ.out⟩
              case measure => simp [intOf]; omega
            · have hk0 : (x.k : Int) % 9 = 6 := by omega
              clear hk9
              go_wp2_with fail
              rw [← HW7.out]
              refine (HT7.out.a.sync (by omega)).mono ?_
              rintro ed w8 ⟨S8, O8, rfl, hp8, hr8, hg8⟩
              have HT8 := hide (HT7.out.one hp8 hg8 (by omega))
              have HR8 := hide hr8
              clear hp8 hr8 hg8
              go_wp2_with fail
              refine (HT8.out.b.sync (by omega)).mono ?_
              rintro ed w9 ⟨S9, O9, rfl, hp9, hr9, hg9⟩
              have HT9 := hide (HT8.out.two hp9 hg9 (by omega))
              have HQ9 : Hid (∀ j, j < pages → rd S8 (8 * j) 8 = rd S9 (8 * j) 8) := hide fun j hj => by rw [HR8.out j hj, hr9 j hj]; exact HQ.out j hj
              clear hp9 hr9 hg9
              go_wp2_with fail
              refine (HT9.out.a.len).mono ?_
              rintro ed w11 ⟨l1, rfl, hl1, hb11⟩
              have HT11 := hide (HT9.out.on hb11)
              have f2 : ¬ ((o1 : Int) + 1) < (l1 : Int) := by omega
              clear hb11
              go_wp2_with fail
              refine (HT11.out.b.len).mono ?_
              rintro ed w12 ⟨l2, rfl, hl2, hb12⟩
              have HT12 := hide ((HT11.out.on hb12).mono (show 2 * k + 1 + 1 ≤ 2 * (k + 1) by omega))
              have f3 : ¬ ((o2 : Int) + 1) < (l2 : Int) := by omega
              clear hb12
              go_wp2
              go_roundw
              case rel => exact ⟨k + 1, _, _, _, _, _, _, by omega, by go_num, HT12.out, HQ9.out⟩
              case measure => simp [intOf]; omega
            · have hk0 : (x.k : Int) % 9 = 7 := by omega
              clear hk9
              go_wp2_with fail
              rw [← HW7.out]
              refine (HT7.out.a.len).mono ?_
              rintro ed w11 ⟨l1, rfl, hl1, hb11⟩
              have HT11 := hide (HT7.out.on hb11)
              have f2 : ¬ ((o1 : Int) + 1) < (l1 : Int) := by omega
              clear hb11
              go_wp2_with fail
              refine (HT11.out.b.len).mono ?_
              rintro ed w12 ⟨l2, rfl, hl2, hb12⟩
              have HT12 := hide ((HT11.out.on hb12).mono (show 2 * k ≤ 2 * (k + 1) by omega))
              have f3 : ¬ ((o2 : Int) + 1) < (l2 : Int) := by omega
              clear hb12
              go_wp2
              go_roundw
              case rel => exact ⟨k + 1, _, _, _, _, _, _, by omega, by go_num, HT12.out, HQ.out⟩
              case measure => simp [intOf]; omega
            · have hk0 : (x.k : Int) % 9 = 8 := by omega
              clear hk9
              go_wp2_with fail
              rw [← HW7.out]
              refine (HT7.out.a.len).mono ?_
              rintro ed w11 ⟨l1, rfl, hl1, hb11⟩
              have HT11 := hide (HT7.out.on hb11)
              have f2 : ¬ ((o1 : Int) + 1) < (l1 : Int) := by omega
              clear hb11
              go_wp2_with fail
              refine (HT11.out.b.len).mono ?_
              rintro ed w12 ⟨l2, rfl, hl2, hb12⟩
              have HT12 := hide ((HT11.out.on hb12).mono (show 2 * k ≤ 2 * (k + 1) by omega))
              have f3 : ¬ ((o2 : Int) + 1) < (l2 : Int) := by omega
              clear hb12
              go_wp2
              go_roundw
              case rel => exact ⟨k + 1, _, _, _, _, _, _, by omega, by go_num, HT12.out, HQ.out⟩
              case measure => simp [intOf]; omega
          · obtain rfl : k = n := by omega
            go_wp2
            go_ret
            exact ⟨rfl, HT.out.fa.below⟩
end Go.Proofs.Ytkkjppdooaipiaa.Sizes
