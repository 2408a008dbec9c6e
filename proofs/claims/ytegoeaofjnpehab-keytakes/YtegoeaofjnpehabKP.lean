/- The walk through KeyTakes. -/
import Derived.Test.YtegoeaofjnpehabKO
import Derived.Test.YtegoeaofjnpehabRM
import Derived.Test.YtegoeaofjnpehabT
import Derived.Deep.RegionHeld3
namespace Go.Proofs.Ytegoeaofjnpehab
open Go.RowKit
set_option linter.unusedVariables false

theorem own_n {w : World} {a : Option Addr} {n c : Nat} {zs : List Int} (h : Own w (.slice a n c) zs) : zs.length = n ∧ (a = none → n = 0 ∧ c = 0) := by
  obtain ⟨a', c', e, _, _, hn, _⟩ := h.shape
  cases e
  exact ⟨rfl, hn⟩
set_option maxHeartbeats 12800000 in
set_option maxRecDepth 1000000 in
theorem walk_nil (ba : Option Addr) (bc : Nat) (ys : List Int) (da : Option Addr) (dc : Nat) (w : World) (Q : Prop) (hlen : ys.length ≤ 20000)
    (HDec : Hid (Calls Try.prog 6 #[.slice ba ys.length bc, .slice da 0 dc] w fun e w' => ((∃ V, e = .returned (.tuple #[V, .int .u16 0, .int .i64 0]) ∧ (ys.length ≠ 0 → Q) ∧ EncK ys V da dc 0 w') ∨ (∃ at' : Int, e = .returned (.tuple #[.slice none 0 0, .int .u16 40, .int .i64 at']))) ∧ Below w.heap.size w w'))
    (HSpl : Hid (∀ W, Below w.heap.size w W → Calls Try.prog 7 #[.slice ba ys.length bc, .bool false] W fun e w' => ((∃ (v : T) (zs rs : List Int) (ra : Option Addr) (rc : Nat), e = .returned (.tuple #[v.val, .slice ra rs.length rc, .int .u16 0]) ∧ ys = zs ++ rs ∧ Own w' (.slice ra rs.length rc) rs ∧ OneK zs false v.val w' ∧ ChkK v.val w') ∨ (e = .returned (.tuple #[.agg #[.int .u8 0, .bool false, .int .i64 0, .string ⟨#[]⟩, .slice none 0 0, .slice none 0 0, .slice none 0 0], .slice none 0 0, .int .u16 40]) ∧ ¬ Q)) ∧ Below W.heap.size W w'))
    (HRow : Hid (∀ W, Below w.heap.size w W → Row W ba ys)) :
    Calls Try.prog 3 #[.slice ba ys.length bc, .slice da 0 dc] w fun e w' => e = .returned (.bool true) ∧ Below w.heap.size w w' := by
  obtain ⟨i0, hi, hz0, hz1, hz2⟩ := info_parts Try.info5
  have HF0 := hide (Fr.refl w)
  have hmil : ys.length ≤ 1000000 := by omega
  have hyd : decide ((20000 : Int) < (ys.length : Int)) = false := by simp; omega
  go_enter Try.func3, Try.ntmps3
  go_wp2_with fail
  refine HDec.out.mono ?_
  rintro e W1 ⟨(⟨V, rfl, hbeg, hek⟩ | ⟨at', rfl⟩), hb1⟩
  · have HF1 := hide (HF0.out.on hb1)
    clear hb1 HF0
    have HEk := hide hek
    have HBg := hide hbeg
    clear hek hbeg
    go_wp2_with fail
    refine (HSpl.out W1 HF1.out.below).mono ?_
    rintro e W2 ⟨(⟨v, zs, rs, ra, rc, rfl, hE, hown, hone, hchk⟩ | ⟨rfl, hnq⟩), hb2⟩
    · cases v with
      | mk vk vbo vn vt vya vyc vy vla vlc vl vfa vfc vf =>
      simp only [T.val] at hone hchk ⊢
      have HF2 := hide (HF1.out.on hb2)
      have HF4 := hide (HF2.out.alloc (.cells #[.int .u8 vk, .bool vbo, .int .i64 vn, .string vt, .slice vya vy.length vyc, .slice vla vl.list.length vlc, .slice vfa vf.list.length vfc] 32))
      have HB4 := hide (Box7.new W2 (.int .u8 vk) (.bool vbo) (.int .i64 vn) (.string vt) (.slice vya vy.length vyc) (.slice vla vl.list.length vlc) (.slice vfa vf.list.length vfc))
      have H24 := hide (below_alloc W2 (.cells #[.int .u8 vk, .bool vbo, .int .i64 vn, .string vt, .slice vya vy.length vyc, .slice vla vl.list.length vlc, .slice vfa vf.list.length vfc] 32))
      have H14 := hide (hb2.trans ((below_alloc W2 (.cells #[.int .u8 vk, .bool vbo, .int .i64 vn, .string vt, .slice vya vy.length vyc, .slice vla vl.list.length vlc, .slice vfa vf.list.length vfc] 32)).mono hb2.size))
      have HOne := hide hone
      have HChk := hide hchk
      have hL := congrArg List.length hE
      have HE := hide hE
      rw [List.length_append] at hL
      have HL := hide hL
      have HNr := hide (own_n hown).2
      have HRr0 := hide hown.row
      have H2r := hide hb2
      clear hone hchk hown hE hL
      clear hb2 HF1
      go_wp2_with fail
      generalize hX4 : W2.alloc (.cells #[.int .u8 vk, .bool vbo, .int .i64 vn, .string vt, .slice vya vy.length vyc, .slice vla vl.list.length vlc, .slice vfa vf.list.length vfc] 32) = X4 at HF4 HB4 H24 H14 ⊢
      clear hX4
      generalize hxb : W2.heap.size = xb at HB4 ⊢
      have HX4 := hide (Fr.refl X4)
      have HRr : Hid (∀ W, Fr X4.heap.size X4 W → Row W ra rs) := fun W hW => HRr0.out.below (H24.out.trans (hW.below.mono H24.out.size))
      have HS : Hid (∀ W, Fr X4.heap.size X4 W → W.cell? ⟨xb, 0, none⟩ = some (.int .u8 vk) ∧ W.cell? ⟨xb, 1, none⟩ = some (.bool vbo) ∧ W.cell? ⟨xb, 2, none⟩ = some (.int .i64 vn) ∧ W.cell? ⟨xb, 3, none⟩ = some (.string vt) ∧ W.cell? ⟨xb, 4, none⟩ = some (.slice vya vy.length vyc) ∧ W.cell? ⟨xb, 5, none⟩ = some (.slice vla vl.list.length vlc) ∧ W.cell? ⟨xb, 6, none⟩ = some (.slice vfa vf.list.length vfc)) := fun W hW => (HB4.out.below hW.below).cells
      have Hx4 : Hid (w.heap.size ≤ X4.heap.size) := HF4.out.size
      refine (known_any _).mono ?_
      rintro e W3 ⟨rfl, hb3⟩
      have HF5 := hide (HF4.out.on hb3)
      have HX5 := hide (HX4.out.on hb3)
      clear hb3
      go_wp2_with fail
      refine (HEk.out _ (H14.out.trans (HX5.out.below.mono H14.out.size))).mono ?_
      rintro e W5 ⟨a5, c5, n5, g5, rfl, hb5, (⟨rfl, rfl, hr5⟩ | ⟨rfl, h160⟩)⟩
      · have HF6' := hide (HF5.out.on hb5)
        have HX6' := hide (HX5.out.on hb5)
        have HR5 := hide hr5
        clear hb5 hr5
        go_wp2_with fail
        refine (same_gen a5 ba ys.length ys.length c5 bc ys ys W5 rfl rfl hmil hmil HR5.out (HRow.out W5 HF6'.out.below)).mono ?_
        rintro e W5' ⟨rfl, hb6'⟩
        have HFc := hide (HF6'.out.on hb6')
        have HXc := hide (HX6'.out.on hb6')
        clear hb6' HF6' HX6' HR5 HF5 HX5
        have hss0 : sameB ys ys = true := by simp [sameB]
        rw [hss0]
        clear hss0
        obtain ⟨y0, y1, y2, y3, y4, y5, y6⟩ := HS.out _ HXc.out
        go_wp2_with fail
        refine wp_region_noPanic ?_
        refine wp_region_held_drew (S := (fun W => W.cell? ⟨xb, 0, none⟩ = some (.int .u8 vk) ∧ W.cell? ⟨xb, 1, none⟩ = some (.bool vbo) ∧ W.cell? ⟨xb, 2, none⟩ = some (.int .i64 vn) ∧ W.cell? ⟨xb, 3, none⟩ = some (.string vt) ∧ W.cell? ⟨xb, 4, none⟩ = some (.slice vya vy.length vyc) ∧ W.cell? ⟨xb, 5, none⟩ = some (.slice vla vl.list.length vlc) ∧ W.cell? ⟨xb, 6, none⟩ = some (.slice vfa vf.list.length vfc))) (by kernel_rfl) (HS.out _ HXc.out.drew) (fun _hS => ?_)
        refine wpAnyH_take (i := 0) (oi := { dst := some 95, op := Op.load 32 (Operand.tmp 8), type := 32, pos := "law.go:200", after := #[], guard := none }) (v := ?v0x101) rfl (by kernel_rfl) (by kernel_rfl) (by kernel_rfl) (fun _ _ _ h => h) (Or.inl ⟨by rfl, ?hy0x101⟩) (by assumption) ?rest0x101
        case hy0x101 => (intro w hSw; (try dsimp only at hSw); (first | (go_simp; with_reducible rfl) | go_simp))
        try simp only [Act.put, List.setIfInBounds_toArray, List.set_cons_zero, List.set_cons_succ]
        refine wpAnyH_take (i := 1) (oi := { dst := some 96, op := Op.move (Operand.tmp 1), type := 23, pos := "law.go:200", after := #[], guard := none }) (v := ?v1x102) rfl (by kernel_rfl) (by kernel_rfl) (by kernel_rfl) (fun _ _ _ h => h) (Or.inl ⟨by rfl, ?hy1x102⟩) (by assumption) ?rest1x102
        case hy1x102 => (intro w hSw; (try dsimp only at hSw); (first | (go_simp; with_reducible rfl) | go_simp))
        try simp only [Act.put, List.setIfInBounds_toArray, List.set_cons_zero, List.set_cons_succ]
        refine wpAnyH_take (i := 2) (oi := { dst := some 97, op := Op.call { callee := Callee.builtin Builtin.len, args := #[Operand.tmp 96], argTypes := #[23] }, type := 3, pos := "law.go:200", after := #[{ on := 1, ground := Ground.data }], guard := none }) (v := ?v2x103) rfl (by kernel_rfl) (by kernel_rfl) (by kernel_rfl) (fun _ _ _ h => h) (Or.inl ⟨by rfl, ?hy2x103⟩) (by assumption) ?rest2x103
        case hy2x103 => (intro w hSw; (try dsimp only at hSw); (first | (go_simp; with_reducible rfl) | go_simp))
        try simp only [Act.put, List.setIfInBounds_toArray, List.set_cons_zero, List.set_cons_succ]
        refine wpAnyH_take (i := 3) (oi := { dst := some 98, op := Op.binOp BinOp.gtr 3 (Operand.tmp 97) (Operand.const (Value.int IntKind.i64 0)) 3, type := 4, pos := "law.go:200", after := #[{ on := 2, ground := Ground.data }], guard := none }) (v := ?v3x104) rfl (by kernel_rfl) (by kernel_rfl) (by kernel_rfl) (fun _ _ _ h => h) (Or.inl ⟨by rfl, ?hy3x104⟩) (by assumption) ?rest3x104
        case hy3x104 => (intro w hSw; (try dsimp only at hSw); (first | (go_simp; with_reducible rfl) | go_simp))
        try simp only [Act.put, List.setIfInBounds_toArray, List.set_cons_zero, List.set_cons_succ]
        refine wpAnyH_take (i := 4) (oi := { dst := some 99, op := Op.move (Operand.tmp 98), type := 4, pos := "law.go:200", after := #[{ on := 3, ground := Ground.data }], guard := none }) (v := ?v4x105) rfl (by kernel_rfl) (by kernel_rfl) (by kernel_rfl) (fun _ _ _ h => h) (Or.inl ⟨by rfl, ?hy4x105⟩) (by assumption) ?rest4x105
        case hy4x105 => (intro w hSw; (try dsimp only at hSw); (first | (go_simp; with_reducible rfl) | go_simp))
        try simp only [Act.put, List.setIfInBounds_toArray, List.set_cons_zero, List.set_cons_succ]
        refine wpAnyH_take (i := 5) (oi := { dst := some 100, op := Op.move (Operand.tmp 1), type := 23, pos := "law.go:200", after := #[{ on := 4, ground := Ground.guard }], guard := some (4, true) }) (v := undef) rfl (by kernel_rfl) (by kernel_rfl) (by kernel_rfl) (fun _ _ _ h => h) (Or.inr ⟨by rfl, rfl⟩) (by assumption) ?rest5x106
        try simp only [Act.put, List.setIfInBounds_toArray, List.set_cons_zero, List.set_cons_succ]
        refine wpAnyH_take (i := 6) (oi := { dst := some 101, op := Op.indexAddr 23 (Operand.tmp 100) (Operand.const (Value.int IntKind.i64 0)), type := 0, pos := "law.go:200", after := #[{ on := 5, ground := Ground.data }, { on := 4, ground := Ground.guard }], guard := some (4, true) }) (v := undef) rfl (by kernel_rfl) (by kernel_rfl) (by kernel_rfl) (fun _ _ _ h => h) (Or.inr ⟨by rfl, rfl⟩) (by assumption) ?rest6x107
        try simp only [Act.put, List.setIfInBounds_toArray, List.set_cons_zero, List.set_cons_succ]
        refine wpAnyH_take (i := 7) (oi := { dst := some 102, op := Op.load 4 (Operand.tmp 101), type := 4, pos := "law.go:200", after := #[{ on := 6, ground := Ground.data }, { on := 4, ground := Ground.guard }], guard := some (4, true) }) (v := undef) rfl (by kernel_rfl) (by kernel_rfl) (by kernel_rfl) (fun _ _ _ h => h) (Or.inr ⟨by rfl, rfl⟩) (by assumption) ?rest7x108
        try simp only [Act.put, List.setIfInBounds_toArray, List.set_cons_zero, List.set_cons_succ]
        refine wpAnyH_take (i := 8) (oi := { dst := some 103, op := Op.pick (Operand.tmp 99) (Operand.tmp 102) (Operand.const (Value.bool false)), type := 4, pos := "law.go:200", after := #[{ on := 4, ground := Ground.data }, { on := 7, ground := Ground.data }], guard := none }) (v := ?v8x109) rfl (by kernel_rfl) (by kernel_rfl) (by kernel_rfl) (fun _ _ _ h => h) (Or.inl ⟨by rfl, ?hy8x109⟩) (by assumption) ?rest8x109
        case hy8x109 => (intro w hSw; (try dsimp only at hSw); (first | (go_simp; with_reducible rfl) | go_simp))
        try simp only [Act.put, List.setIfInBounds_toArray, List.set_cons_zero, List.set_cons_succ]
        refine wpAnyH_ready (rs := [9]) (by kernel_rfl) (by simp) ?_
        refine AllReadyH.cons (o := { dst := some 104, op := Op.call { callee := Callee.value (Operand.func 12), args := #[Operand.tmp 95, Operand.tmp 103], argTypes := #[32, 4] }, type := 36, pos := "law.go:200", after := #[{ on := 0, ground := Ground.data }, { on := 8, ground := Ground.data }, { on := 4, ground := Ground.chain }], guard := none }) rfl (fun K hK => ?_) (AllReadyH.nil)
        go_simp
        go_at_call 12
        refine (HOne.out _ (H24.out.trans (HXc.out.drew.below.mono H24.out.size))).mono ?_
        rintro e V6 ⟨a6, n6, q6, g6, rfl, hb6, hc6⟩
        have HF6 := hide (HFc.out.drew.on hb6)
        have HX6 := hide (HXc.out.drew.on hb6)
        have HC6 : Hid ((g6 = 0 ∧ n6 = zs.length ∧ Own V6 (.slice a6 n6 q6) zs ∧ (∀ k, (Value.slice a6 n6 q6).ownBlock = some k → X4.heap.size ≤ k)) ∨ (g6 = 42 ∧ 160 < zs.length ∧ a6 = none ∧ n6 = 0 ∧ q6 = 0)) := (by rcases hc6 with ⟨h1, h2, h3, h4⟩ | h; exact .inl ⟨h1, h2, h3, fun k hk => Nat.le_trans HXc.out.drew.size (h4 k hk)⟩; exact .inr h)
        clear hb6 hc6
        go_simp
        refine hK.out _ _ ?_ (fun _hS => ?_)
        · exact HS.out _ HX6.out
        clear hK K
        try simp only [Act.put, List.setIfInBounds_toArray, List.set_cons_zero, List.set_cons_succ]
        refine wpAnyH_take (i := 10) (oi := { dst := some 94, op := Op.move (Operand.tmp 104), type := 36, pos := "law.go:200", after := #[{ on := 9, ground := Ground.data }], guard := none }) (v := ?v10x110) rfl (by kernel_rfl) (by kernel_rfl) (by kernel_rfl) (fun _ _ _ h => h) (Or.inl ⟨by rfl, ?hy10x110⟩) (by assumption) ?rest10x110
        case hy10x110 => (intro w hSw; (try dsimp only at hSw); (first | (go_simp; with_reducible rfl) | go_simp))
        try simp only [Act.put, List.setIfInBounds_toArray, List.set_cons_zero, List.set_cons_succ]
        refine wpAnyH_take (i := 11) (oi := { dst := some 105, op := Op.extract (Operand.tmp 94) 0, type := 22, pos := "law.go:200", after := #[{ on := 10, ground := Ground.data }], guard := none }) (v := ?v11x111) rfl (by kernel_rfl) (by kernel_rfl) (by kernel_rfl) (fun _ _ _ h => h) (Or.inl ⟨by rfl, ?hy11x111⟩) (by assumption) ?rest11x111
        case hy11x111 => (intro w hSw; (try dsimp only at hSw); (first | (go_simp; with_reducible rfl) | go_simp))
        try simp only [Act.put, List.setIfInBounds_toArray, List.set_cons_zero, List.set_cons_succ]
        refine wpAnyH_take (i := 12) (oi := { dst := some 106, op := Op.extract (Operand.tmp 94) 1, type := 26, pos := "law.go:200", after := #[{ on := 10, ground := Ground.data }, { on := 13, ground := Ground.gcOnly Departure.lateStores }], guard := none }) (v := ?v12x112) rfl (by kernel_rfl) (by kernel_rfl) (by kernel_rfl) (fun _ _ _ h => h) (Or.inl ⟨by rfl, ?hy12x112⟩) (by assumption) ?rest12x112
        case hy12x112 => (intro w hSw; (try dsimp only at hSw); (first | (go_simp; with_reducible rfl) | go_simp))
        try simp only [Act.put, List.setIfInBounds_toArray, List.set_cons_zero, List.set_cons_succ]
        refine wpAnyH_ready (rs := [13]) (by kernel_rfl) (by simp) ?_
        refine AllReadyH.cons (o := { dst := some 13, op := Op.assign (Operand.tmp 105), type := 22, pos := "law.go:200", after := #[{ on := 11, ground := Ground.data }, { on := 9, ground := Ground.chain }, { on := 0, ground := Ground.phase }, { on := 1, ground := Ground.phase }, { on := 2, ground := Ground.phase }, { on := 3, ground := Ground.phase }, { on := 4, ground := Ground.phase }, { on := 5, ground := Ground.phase }, { on := 6, ground := Ground.phase }, { on := 7, ground := Ground.phase }, { on := 8, ground := Ground.phase }, { on := 9, ground := Ground.phase }, { on := 10, ground := Ground.phase }, { on := 11, ground := Ground.phase }, { on := 12, ground := Ground.textOnly Departure.lateStores }], guard := none }) rfl (fun K hK => ?_) (AllReadyH.nil)
        go_simp
        refine hK.out _ _ ?_ (fun _hS => ?_)
        · exact HS.out _ HX6.out
        clear hK K
        try simp only [Act.put, List.setIfInBounds_toArray, List.set_cons_zero, List.set_cons_succ]
        refine wpAnyH_ready (rs := [14]) (by kernel_rfl) (by simp) ?_
        refine AllReadyH.cons (o := { dst := some 14, op := Op.assign (Operand.tmp 106), type := 26, pos := "law.go:200", after := #[{ on := 12, ground := Ground.data }, { on := 13, ground := Ground.chain }, { on := 0, ground := Ground.phase }, { on := 1, ground := Ground.phase }, { on := 2, ground := Ground.phase }, { on := 3, ground := Ground.phase }, { on := 4, ground := Ground.phase }, { on := 5, ground := Ground.phase }, { on := 6, ground := Ground.phase }, { on := 7, ground := Ground.phase }, { on := 8, ground := Ground.phase }, { on := 9, ground := Ground.phase }, { on := 10, ground := Ground.phase }, { on := 11, ground := Ground.phase }, { on := 12, ground := Ground.phase }, { on := 13, ground := Ground.phase }], guard := none }) rfl (fun K hK => ?_) (AllReadyH.nil)
        go_simp
        refine hK.out _ _ ?_ (fun _hS => ?_)
        · exact HS.out _ HX6.out
        clear hK K
        try simp only [Act.put, List.setIfInBounds_toArray, List.set_cons_zero, List.set_cons_succ]
        refine wpAnyH_done (by kernel_rfl) ?_ _
        refine NoPanic.normal ?_
        obtain ⟨y0, y1, y2, y3, y4, y5, y6⟩ := HS.out _ HX6.out
        rcases HC6.out with ⟨rfl, rfl, hown6, hk6⟩ | ⟨rfl, h160, rfl, rfl, rfl⟩
        · have HSr := hide (src_row V6 ra rs.length rc rs rfl HNr.out (HRr.out V6 HX6.out))
          have hzy : zs.length + rs.length ≤ 140737488355328 := by have := HL.out; omega
          have HO6 := hide hown6
          have HN6 : Hid (∀ k, (Value.slice a6 zs.length q6).ownBlock = some k → X4.heap.size ≤ k) := (fun k hk => hk6 k hk)
          go_wp2_with (at_builtin; refine wpList_append_src (by rfl) (.tmp 107) (.tmp 108) 22 22 (by rfl) i0 Try.underlying22 hi hz0 hz1 hz2 (.slice a6 zs.length q6) zs (by rfl) HO6.out (.slice ra rs.length rc) rs.length rs (by rfl) HSr.out hzy ?_; intro v7 W7 hown7 hg7 hf7; have HO7 := hide hown7; have HF7 := hide (HF6.out.grown hg7 (fun k hk => Nat.le_trans Hx4.out (HN6.out k hk))); have HX7 := hide (HX6.out.grown hg7 HN6.out); clear hown7 hg7 hf7 y0 y1 y2 y3 y4 y5 y6; obtain ⟨y0, y1, y2, y3, y4, y5, y6⟩ := HS.out _ HX7.out; obtain ⟨a7, c7, rfl, hle7, _, _, hrow7, _⟩ := HO7.out.shape; rw [← HE.out] at hrow7; have HR7 := hide hrow7; clear hrow7 hle7; simp only [← HE.out])
          refine (HChk.out _ (H24.out.trans (HX7.out.below.mono H24.out.size))).mono ?_
          rintro e W8 ⟨rfl, hb8⟩
          have HF8 := hide (HF7.out.on hb8)
          have HX8 := hide (HX7.out.on hb8)
          have HR8 := hide (HR7.out.below hb8)
          clear hb8
          go_wp2_with fail
          refine (same_gen a7 ba ys.length ys.length c7 bc ys ys W8 rfl rfl hmil hmil HR8.out (HRow.out W8 HF8.out.below)).mono ?_
          rintro e W9 ⟨rfl, hb9⟩
          have HF9 := hide (HF8.out.on hb9)
          clear hb9
          have hss : sameB ys ys = true := by simp [sameB]
          rw [hss]
          go_wp2
          go_ret
          exact ⟨rfl, HF9.out.below⟩
        · have HSr := hide (src_row V6 ra rs.length rc rs rfl HNr.out (HRr.out V6 HX6.out))
          have hzy : ([] : List Int).length + rs.length ≤ 140737488355328 := by have := HL.out; simp; omega
          have HO6 := hide (Own.nil V6)
          have HN6 : Hid (∀ k, (Value.slice none 0 0).ownBlock = some k → X4.heap.size ≤ k) := (fun k hk => by cases hk)
          go_wp2_with (at_builtin; refine wpList_append_src (by rfl) (.tmp 107) (.tmp 108) 22 22 (by rfl) i0 Try.underlying22 hi hz0 hz1 hz2 (.slice none 0 0) [] (by rfl) HO6.out (.slice ra rs.length rc) rs.length rs (by rfl) HSr.out hzy ?_; intro v7 W7 hown7 hg7 hf7; have HO7 := hide hown7; have HF7 := hide (HF6.out.grown hg7 (fun k hk => Nat.le_trans Hx4.out (HN6.out k hk))); have HX7 := hide (HX6.out.grown hg7 HN6.out); clear hown7 hg7 hf7 y0 y1 y2 y3 y4 y5 y6; obtain ⟨y0, y1, y2, y3, y4, y5, y6⟩ := HS.out _ HX7.out; obtain ⟨a7, c7, rfl, hle7, _, _, hrow7, _⟩ := HO7.out.shape; clear hrow7 hle7)
          have hy160 : decide ((160 : Int) < (ys.length : Int)) = true := by have := HL.out; simp; omega
          refine (HChk.out _ (H24.out.trans (HX7.out.below.mono H24.out.size))).mono ?_
          rintro e W8 ⟨rfl, hb8⟩
          have HF8 := hide (HF7.out.on hb8)
          have HX8 := hide (HX7.out.on hb8)
          clear hb8
          go_wp2
          go_ret
          exact ⟨rfl, HF8.out.below⟩
      · have HFc := hide (HF5.out.on hb5)
        have HXc := hide (HX5.out.on hb5)
        have hd160 : decide ((ys.length : Int) ≤ 160) = false := by simp; omega
        clear hb5 HF5 HX5 h160
        obtain ⟨y0, y1, y2, y3, y4, y5, y6⟩ := HS.out _ HXc.out
        go_wp2_with fail
        refine wp_region_noPanic ?_
        refine wp_region_held_drew (S := (fun W => W.cell? ⟨xb, 0, none⟩ = some (.int .u8 vk) ∧ W.cell? ⟨xb, 1, none⟩ = some (.bool vbo) ∧ W.cell? ⟨xb, 2, none⟩ = some (.int .i64 vn) ∧ W.cell? ⟨xb, 3, none⟩ = some (.string vt) ∧ W.cell? ⟨xb, 4, none⟩ = some (.slice vya vy.length vyc) ∧ W.cell? ⟨xb, 5, none⟩ = some (.slice vla vl.list.length vlc) ∧ W.cell? ⟨xb, 6, none⟩ = some (.slice vfa vf.list.length vfc))) (by kernel_rfl) (HS.out _ HXc.out.drew) (fun _hS => ?_)
        refine wpAnyH_take (i := 0) (oi := { dst := some 95, op := Op.load 32 (Operand.tmp 8), type := 32, pos := "law.go:200", after := #[], guard := none }) (v := ?v0x201) rfl (by kernel_rfl) (by kernel_rfl) (by kernel_rfl) (fun _ _ _ h => h) (Or.inl ⟨by rfl, ?hy0x201⟩) (by assumption) ?rest0x201
        case hy0x201 => (intro w hSw; (try dsimp only at hSw); (first | (go_simp; with_reducible rfl) | go_simp))
        try simp only [Act.put, List.setIfInBounds_toArray, List.set_cons_zero, List.set_cons_succ]
        refine wpAnyH_take (i := 1) (oi := { dst := some 96, op := Op.move (Operand.tmp 1), type := 23, pos := "law.go:200", after := #[], guard := none }) (v := ?v1x202) rfl (by kernel_rfl) (by kernel_rfl) (by kernel_rfl) (fun _ _ _ h => h) (Or.inl ⟨by rfl, ?hy1x202⟩) (by assumption) ?rest1x202
        case hy1x202 => (intro w hSw; (try dsimp only at hSw); (first | (go_simp; with_reducible rfl) | go_simp))
        try simp only [Act.put, List.setIfInBounds_toArray, List.set_cons_zero, List.set_cons_succ]
        refine wpAnyH_take (i := 2) (oi := { dst := some 97, op := Op.call { callee := Callee.builtin Builtin.len, args := #[Operand.tmp 96], argTypes := #[23] }, type := 3, pos := "law.go:200", after := #[{ on := 1, ground := Ground.data }], guard := none }) (v := ?v2x203) rfl (by kernel_rfl) (by kernel_rfl) (by kernel_rfl) (fun _ _ _ h => h) (Or.inl ⟨by rfl, ?hy2x203⟩) (by assumption) ?rest2x203
        case hy2x203 => (intro w hSw; (try dsimp only at hSw); (first | (go_simp; with_reducible rfl) | go_simp))
        try simp only [Act.put, List.setIfInBounds_toArray, List.set_cons_zero, List.set_cons_succ]
        refine wpAnyH_take (i := 3) (oi := { dst := some 98, op := Op.binOp BinOp.gtr 3 (Operand.tmp 97) (Operand.const (Value.int IntKind.i64 0)) 3, type := 4, pos := "law.go:200", after := #[{ on := 2, ground := Ground.data }], guard := none }) (v := ?v3x204) rfl (by kernel_rfl) (by kernel_rfl) (by kernel_rfl) (fun _ _ _ h => h) (Or.inl ⟨by rfl, ?hy3x204⟩) (by assumption) ?rest3x204
        case hy3x204 => (intro w hSw; (try dsimp only at hSw); (first | (go_simp; with_reducible rfl) | go_simp))
        try simp only [Act.put, List.setIfInBounds_toArray, List.set_cons_zero, List.set_cons_succ]
        refine wpAnyH_take (i := 4) (oi := { dst := some 99, op := Op.move (Operand.tmp 98), type := 4, pos := "law.go:200", after := #[{ on := 3, ground := Ground.data }], guard := none }) (v := ?v4x205) rfl (by kernel_rfl) (by kernel_rfl) (by kernel_rfl) (fun _ _ _ h => h) (Or.inl ⟨by rfl, ?hy4x205⟩) (by assumption) ?rest4x205
        case hy4x205 => (intro w hSw; (try dsimp only at hSw); (first | (go_simp; with_reducible rfl) | go_simp))
        try simp only [Act.put, List.setIfInBounds_toArray, List.set_cons_zero, List.set_cons_succ]
        refine wpAnyH_take (i := 5) (oi := { dst := some 100, op := Op.move (Operand.tmp 1), type := 23, pos := "law.go:200", after := #[{ on := 4, ground := Ground.guard }], guard := some (4, true) }) (v := undef) rfl (by kernel_rfl) (by kernel_rfl) (by kernel_rfl) (fun _ _ _ h => h) (Or.inr ⟨by rfl, rfl⟩) (by assumption) ?rest5x206
        try simp only [Act.put, List.setIfInBounds_toArray, List.set_cons_zero, List.set_cons_succ]
        refine wpAnyH_take (i := 6) (oi := { dst := some 101, op := Op.indexAddr 23 (Operand.tmp 100) (Operand.const (Value.int IntKind.i64 0)), type := 0, pos := "law.go:200", after := #[{ on := 5, ground := Ground.data }, { on := 4, ground := Ground.guard }], guard := some (4, true) }) (v := undef) rfl (by kernel_rfl) (by kernel_rfl) (by kernel_rfl) (fun _ _ _ h => h) (Or.inr ⟨by rfl, rfl⟩) (by assumption) ?rest6x207
        try simp only [Act.put, List.setIfInBounds_toArray, List.set_cons_zero, List.set_cons_succ]
        refine wpAnyH_take (i := 7) (oi := { dst := some 102, op := Op.load 4 (Operand.tmp 101), type := 4, pos := "law.go:200", after := #[{ on := 6, ground := Ground.data }, { on := 4, ground := Ground.guard }], guard := some (4, true) }) (v := undef) rfl (by kernel_rfl) (by kernel_rfl) (by kernel_rfl) (fun _ _ _ h => h) (Or.inr ⟨by rfl, rfl⟩) (by assumption) ?rest7x208
        try simp only [Act.put, List.setIfInBounds_toArray, List.set_cons_zero, List.set_cons_succ]
        refine wpAnyH_take (i := 8) (oi := { dst := some 103, op := Op.pick (Operand.tmp 99) (Operand.tmp 102) (Operand.const (Value.bool false)), type := 4, pos := "law.go:200", after := #[{ on := 4, ground := Ground.data }, { on := 7, ground := Ground.data }], guard := none }) (v := ?v8x209) rfl (by kernel_rfl) (by kernel_rfl) (by kernel_rfl) (fun _ _ _ h => h) (Or.inl ⟨by rfl, ?hy8x209⟩) (by assumption) ?rest8x209
        case hy8x209 => (intro w hSw; (try dsimp only at hSw); (first | (go_simp; with_reducible rfl) | go_simp))
        try simp only [Act.put, List.setIfInBounds_toArray, List.set_cons_zero, List.set_cons_succ]
        refine wpAnyH_ready (rs := [9]) (by kernel_rfl) (by simp) ?_
        refine AllReadyH.cons (o := { dst := some 104, op := Op.call { callee := Callee.value (Operand.func 12), args := #[Operand.tmp 95, Operand.tmp 103], argTypes := #[32, 4] }, type := 36, pos := "law.go:200", after := #[{ on := 0, ground := Ground.data }, { on := 8, ground := Ground.data }, { on := 4, ground := Ground.chain }], guard := none }) rfl (fun K hK => ?_) (AllReadyH.nil)
        go_simp
        go_at_call 12
        refine (HOne.out _ (H24.out.trans (HXc.out.drew.below.mono H24.out.size))).mono ?_
        rintro e V6 ⟨a6, n6, q6, g6, rfl, hb6, hc6⟩
        have HF6 := hide (HFc.out.drew.on hb6)
        have HX6 := hide (HXc.out.drew.on hb6)
        have HC6 : Hid ((g6 = 0 ∧ n6 = zs.length ∧ Own V6 (.slice a6 n6 q6) zs ∧ (∀ k, (Value.slice a6 n6 q6).ownBlock = some k → X4.heap.size ≤ k)) ∨ (g6 = 42 ∧ 160 < zs.length ∧ a6 = none ∧ n6 = 0 ∧ q6 = 0)) := (by rcases hc6 with ⟨h1, h2, h3, h4⟩ | h; exact .inl ⟨h1, h2, h3, fun k hk => Nat.le_trans HXc.out.drew.size (h4 k hk)⟩; exact .inr h)
        clear hb6 hc6
        go_simp
        refine hK.out _ _ ?_ (fun _hS => ?_)
        · exact HS.out _ HX6.out
        clear hK K
        try simp only [Act.put, List.setIfInBounds_toArray, List.set_cons_zero, List.set_cons_succ]
        refine wpAnyH_take (i := 10) (oi := { dst := some 94, op := Op.move (Operand.tmp 104), type := 36, pos := "law.go:200", after := #[{ on := 9, ground := Ground.data }], guard := none }) (v := ?v10x210) rfl (by kernel_rfl) (by kernel_rfl) (by kernel_rfl) (fun _ _ _ h => h) (Or.inl ⟨by rfl, ?hy10x210⟩) (by assumption) ?rest10x210
        case hy10x210 => (intro w hSw; (try dsimp only at hSw); (first | (go_simp; with_reducible rfl) | go_simp))
        try simp only [Act.put, List.setIfInBounds_toArray, List.set_cons_zero, List.set_cons_succ]
        refine wpAnyH_take (i := 11) (oi := { dst := some 105, op := Op.extract (Operand.tmp 94) 0, type := 22, pos := "law.go:200", after := #[{ on := 10, ground := Ground.data }], guard := none }) (v := ?v11x211) rfl (by kernel_rfl) (by kernel_rfl) (by kernel_rfl) (fun _ _ _ h => h) (Or.inl ⟨by rfl, ?hy11x211⟩) (by assumption) ?rest11x211
        case hy11x211 => (intro w hSw; (try dsimp only at hSw); (first | (go_simp; with_reducible rfl) | go_simp))
        try simp only [Act.put, List.setIfInBounds_toArray, List.set_cons_zero, List.set_cons_succ]
        refine wpAnyH_take (i := 12) (oi := { dst := some 106, op := Op.extract (Operand.tmp 94) 1, type := 26, pos := "law.go:200", after := #[{ on := 10, ground := Ground.data }, { on := 13, ground := Ground.gcOnly Departure.lateStores }], guard := none }) (v := ?v12x212) rfl (by kernel_rfl) (by kernel_rfl) (by kernel_rfl) (fun _ _ _ h => h) (Or.inl ⟨by rfl, ?hy12x212⟩) (by assumption) ?rest12x212
        case hy12x212 => (intro w hSw; (try dsimp only at hSw); (first | (go_simp; with_reducible rfl) | go_simp))
        try simp only [Act.put, List.setIfInBounds_toArray, List.set_cons_zero, List.set_cons_succ]
        refine wpAnyH_ready (rs := [13]) (by kernel_rfl) (by simp) ?_
        refine AllReadyH.cons (o := { dst := some 13, op := Op.assign (Operand.tmp 105), type := 22, pos := "law.go:200", after := #[{ on := 11, ground := Ground.data }, { on := 9, ground := Ground.chain }, { on := 0, ground := Ground.phase }, { on := 1, ground := Ground.phase }, { on := 2, ground := Ground.phase }, { on := 3, ground := Ground.phase }, { on := 4, ground := Ground.phase }, { on := 5, ground := Ground.phase }, { on := 6, ground := Ground.phase }, { on := 7, ground := Ground.phase }, { on := 8, ground := Ground.phase }, { on := 9, ground := Ground.phase }, { on := 10, ground := Ground.phase }, { on := 11, ground := Ground.phase }, { on := 12, ground := Ground.textOnly Departure.lateStores }], guard := none }) rfl (fun K hK => ?_) (AllReadyH.nil)
        go_simp
        refine hK.out _ _ ?_ (fun _hS => ?_)
        · exact HS.out _ HX6.out
        clear hK K
        try simp only [Act.put, List.setIfInBounds_toArray, List.set_cons_zero, List.set_cons_succ]
        refine wpAnyH_ready (rs := [14]) (by kernel_rfl) (by simp) ?_
        refine AllReadyH.cons (o := { dst := some 14, op := Op.assign (Operand.tmp 106), type := 26, pos := "law.go:200", after := #[{ on := 12, ground := Ground.data }, { on := 13, ground := Ground.chain }, { on := 0, ground := Ground.phase }, { on := 1, ground := Ground.phase }, { on := 2, ground := Ground.phase }, { on := 3, ground := Ground.phase }, { on := 4, ground := Ground.phase }, { on := 5, ground := Ground.phase }, { on := 6, ground := Ground.phase }, { on := 7, ground := Ground.phase }, { on := 8, ground := Ground.phase }, { on := 9, ground := Ground.phase }, { on := 10, ground := Ground.phase }, { on := 11, ground := Ground.phase }, { on := 12, ground := Ground.phase }, { on := 13, ground := Ground.phase }], guard := none }) rfl (fun K hK => ?_) (AllReadyH.nil)
        go_simp
        refine hK.out _ _ ?_ (fun _hS => ?_)
        · exact HS.out _ HX6.out
        clear hK K
        try simp only [Act.put, List.setIfInBounds_toArray, List.set_cons_zero, List.set_cons_succ]
        refine wpAnyH_done (by kernel_rfl) ?_ _
        refine NoPanic.normal ?_
        obtain ⟨y0, y1, y2, y3, y4, y5, y6⟩ := HS.out _ HX6.out
        rcases HC6.out with ⟨rfl, rfl, hown6, hk6⟩ | ⟨rfl, h160, rfl, rfl, rfl⟩
        · have HSr := hide (src_row V6 ra rs.length rc rs rfl HNr.out (HRr.out V6 HX6.out))
          have hzy : zs.length + rs.length ≤ 140737488355328 := by have := HL.out; omega
          have HO6 := hide hown6
          have HN6 : Hid (∀ k, (Value.slice a6 zs.length q6).ownBlock = some k → X4.heap.size ≤ k) := (fun k hk => hk6 k hk)
          go_wp2_with (at_builtin; refine wpList_append_src (by rfl) (.tmp 107) (.tmp 108) 22 22 (by rfl) i0 Try.underlying22 hi hz0 hz1 hz2 (.slice a6 zs.length q6) zs (by rfl) HO6.out (.slice ra rs.length rc) rs.length rs (by rfl) HSr.out hzy ?_; intro v7 W7 hown7 hg7 hf7; have HO7 := hide hown7; have HF7 := hide (HF6.out.grown hg7 (fun k hk => Nat.le_trans Hx4.out (HN6.out k hk))); have HX7 := hide (HX6.out.grown hg7 HN6.out); clear hown7 hg7 hf7 y0 y1 y2 y3 y4 y5 y6; obtain ⟨y0, y1, y2, y3, y4, y5, y6⟩ := HS.out _ HX7.out; obtain ⟨a7, c7, rfl, hle7, _, _, hrow7, _⟩ := HO7.out.shape; rw [← HE.out] at hrow7; have HR7 := hide hrow7; clear hrow7 hle7; simp only [← HE.out])
          refine (HChk.out _ (H24.out.trans (HX7.out.below.mono H24.out.size))).mono ?_
          rintro e W8 ⟨rfl, hb8⟩
          have HF8 := hide (HF7.out.on hb8)
          have HX8 := hide (HX7.out.on hb8)
          have HR8 := hide (HR7.out.below hb8)
          clear hb8
          go_wp2_with fail
          refine (same_gen a7 ba ys.length ys.length c7 bc ys ys W8 rfl rfl hmil hmil HR8.out (HRow.out W8 HF8.out.below)).mono ?_
          rintro e W9 ⟨rfl, hb9⟩
          have HF9 := hide (HF8.out.on hb9)
          clear hb9
          have hss : sameB ys ys = true := by simp [sameB]
          rw [hss]
          go_wp2
          go_ret
          exact ⟨rfl, HF9.out.below⟩
        · have HSr := hide (src_row V6 ra rs.length rc rs rfl HNr.out (HRr.out V6 HX6.out))
          have hzy : ([] : List Int).length + rs.length ≤ 140737488355328 := by have := HL.out; simp; omega
          have HO6 := hide (Own.nil V6)
          have HN6 : Hid (∀ k, (Value.slice none 0 0).ownBlock = some k → X4.heap.size ≤ k) := (fun k hk => by cases hk)
          go_wp2_with (at_builtin; refine wpList_append_src (by rfl) (.tmp 107) (.tmp 108) 22 22 (by rfl) i0 Try.underlying22 hi hz0 hz1 hz2 (.slice none 0 0) [] (by rfl) HO6.out (.slice ra rs.length rc) rs.length rs (by rfl) HSr.out hzy ?_; intro v7 W7 hown7 hg7 hf7; have HO7 := hide hown7; have HF7 := hide (HF6.out.grown hg7 (fun k hk => Nat.le_trans Hx4.out (HN6.out k hk))); have HX7 := hide (HX6.out.grown hg7 HN6.out); clear hown7 hg7 hf7 y0 y1 y2 y3 y4 y5 y6; obtain ⟨y0, y1, y2, y3, y4, y5, y6⟩ := HS.out _ HX7.out; obtain ⟨a7, c7, rfl, hle7, _, _, hrow7, _⟩ := HO7.out.shape; clear hrow7 hle7)
          have hy160 : decide ((160 : Int) < (ys.length : Int)) = true := by have := HL.out; simp; omega
          refine (HChk.out _ (H24.out.trans (HX7.out.below.mono H24.out.size))).mono ?_
          rintro e W8 ⟨rfl, hb8⟩
          have HF8 := hide (HF7.out.on hb8)
          have HX8 := hide (HX7.out.on hb8)
          clear hb8
          go_wp2
          go_ret
          exact ⟨rfl, HF8.out.below⟩
    · have HF2 := hide (HF1.out.on hb2)
      have HF4 := hide (HF2.out.alloc (.cells #[.int .u8 0, .bool false, .int .i64 0, .string ⟨#[]⟩, .slice none 0 0, .slice none 0 0, .slice none 0 0] 32))
      have HB4 := hide (Box7.new W2 (.int .u8 0) (.bool false) (.int .i64 0) (.string ⟨#[]⟩) (.slice none 0 0) (.slice none 0 0) (.slice none 0 0))
      have H24 := hide (below_alloc W2 (.cells #[.int .u8 0, .bool false, .int .i64 0, .string ⟨#[]⟩, .slice none 0 0, .slice none 0 0, .slice none 0 0] 32))
      have H14 := hide (hb2.trans ((below_alloc W2 (.cells #[.int .u8 0, .bool false, .int .i64 0, .string ⟨#[]⟩, .slice none 0 0, .slice none 0 0, .slice none 0 0] 32)).mono hb2.size))
      clear hb2 HF1
      go_wp2_with fail
      generalize hX4 : W2.alloc (.cells #[.int .u8 0, .bool false, .int .i64 0, .string ⟨#[]⟩, .slice none 0 0, .slice none 0 0, .slice none 0 0] 32) = X4 at HF4 HB4 H24 H14 ⊢
      clear hX4
      generalize hxb : W2.heap.size = xb at HB4 ⊢
      have HX4 := hide (Fr.refl X4)
      have HS : Hid (∀ W, Fr X4.heap.size X4 W → W.cell? ⟨xb, 0, none⟩ = some (.int .u8 0) ∧ W.cell? ⟨xb, 1, none⟩ = some (.bool false) ∧ W.cell? ⟨xb, 2, none⟩ = some (.int .i64 0) ∧ W.cell? ⟨xb, 3, none⟩ = some (.string ⟨#[]⟩) ∧ W.cell? ⟨xb, 4, none⟩ = some (.slice none 0 0) ∧ W.cell? ⟨xb, 5, none⟩ = some (.slice none 0 0) ∧ W.cell? ⟨xb, 6, none⟩ = some (.slice none 0 0)) := fun W hW => (HB4.out.below hW.below).cells
      have Hx4 : Hid (w.heap.size ≤ X4.heap.size) := HF4.out.size
      refine (known_any _).mono ?_
      rintro e W3 ⟨rfl, hb3⟩
      have HF5 := hide (HF4.out.on hb3)
      have HX5 := hide (HX4.out.on hb3)
      clear hb3
      have hy0 : ys.length = 0 := Decidable.byContradiction fun h => hnq (HBg.out h)
      have HY0 := hide hy0
      clear hy0
      go_wp2_with fail
      refine (HEk.out _ (H14.out.trans (HX5.out.below.mono H14.out.size))).mono ?_
      rintro e W5 ⟨a5, c5, n5, g5, rfl, hb5, (⟨rfl, rfl, hr5⟩ | ⟨rfl, h160⟩)⟩
      · have HF6' := hide (HF5.out.on hb5)
        have HX6' := hide (HX5.out.on hb5)
        have HR5 := hide hr5
        clear hb5 hr5
        go_wp2_with fail
        refine (same_gen a5 ba ys.length ys.length c5 bc ys ys W5 rfl rfl hmil hmil HR5.out (HRow.out W5 HF6'.out.below)).mono ?_
        rintro e W5' ⟨rfl, hb6'⟩
        have HFc := hide (HF6'.out.on hb6')
        have HXc := hide (HX6'.out.on hb6')
        clear hb6' HF6' HX6' HR5 HF5 HX5
        have hss0 : sameB ys ys = true := by simp [sameB]
        rw [hss0]
        clear hss0
        obtain ⟨y0, y1, y2, y3, y4, y5, y6⟩ := HS.out _ HXc.out
        go_wp2_with fail
        refine (samev_leaf 0 0 ⟨#[]⟩ _).mono ?_
        rintro e W6 ⟨rfl, hb6⟩
        have HF6 := hide (HFc.out.on hb6)
        clear hb6
        have hyz : ((ys.length : Int) == 0) = true := by rw [HY0.out]; rfl
        go_wp2
        go_ret
        exact ⟨rfl, HF6.out.below⟩
      · rw [HY0.out] at h160
        exact absurd h160 (by decide)
  · have HF1 := hide (HF0.out.on hb1)
    clear hb1 HF0
    go_wp2_with fail
    refine (HSpl.out W1 HF1.out.below).mono ?_
    rintro e W2 ⟨(⟨v, zs, rs, ra, rc, rfl, hE, hown, hone, hchk⟩ | ⟨rfl, hnq⟩), hb2⟩
    · cases v with
      | mk vk vbo vn vt vya vyc vy vla vlc vl vfa vfc vf =>
      simp only [T.val] at hone hchk ⊢
      have HF2 := hide (HF1.out.on hb2)
      have HF4 := hide (HF2.out.alloc (.cells #[.int .u8 vk, .bool vbo, .int .i64 vn, .string vt, .slice vya vy.length vyc, .slice vla vl.list.length vlc, .slice vfa vf.list.length vfc] 32))
      have HB4 := hide (Box7.new W2 (.int .u8 vk) (.bool vbo) (.int .i64 vn) (.string vt) (.slice vya vy.length vyc) (.slice vla vl.list.length vlc) (.slice vfa vf.list.length vfc))
      have H24 := hide (below_alloc W2 (.cells #[.int .u8 vk, .bool vbo, .int .i64 vn, .string vt, .slice vya vy.length vyc, .slice vla vl.list.length vlc, .slice vfa vf.list.length vfc] 32))
      have H14 := hide (hb2.trans ((below_alloc W2 (.cells #[.int .u8 vk, .bool vbo, .int .i64 vn, .string vt, .slice vya vy.length vyc, .slice vla vl.list.length vlc, .slice vfa vf.list.length vfc] 32)).mono hb2.size))
      have HOne := hide hone
      have HChk := hide hchk
      have hL := congrArg List.length hE
      have HE := hide hE
      rw [List.length_append] at hL
      have HL := hide hL
      have HNr := hide (own_n hown).2
      have HRr0 := hide hown.row
      have H2r := hide hb2
      clear hone hchk hown hE hL
      clear hb2 HF1
      go_wp2_with fail
      generalize hX4 : W2.alloc (.cells #[.int .u8 vk, .bool vbo, .int .i64 vn, .string vt, .slice vya vy.length vyc, .slice vla vl.list.length vlc, .slice vfa vf.list.length vfc] 32) = X4 at HF4 HB4 H24 H14 ⊢
      clear hX4
      generalize hxb : W2.heap.size = xb at HB4 ⊢
      have HX4 := hide (Fr.refl X4)
      have HRr : Hid (∀ W, Fr X4.heap.size X4 W → Row W ra rs) := fun W hW => HRr0.out.below (H24.out.trans (hW.below.mono H24.out.size))
      have HS : Hid (∀ W, Fr X4.heap.size X4 W → W.cell? ⟨xb, 0, none⟩ = some (.int .u8 vk) ∧ W.cell? ⟨xb, 1, none⟩ = some (.bool vbo) ∧ W.cell? ⟨xb, 2, none⟩ = some (.int .i64 vn) ∧ W.cell? ⟨xb, 3, none⟩ = some (.string vt) ∧ W.cell? ⟨xb, 4, none⟩ = some (.slice vya vy.length vyc) ∧ W.cell? ⟨xb, 5, none⟩ = some (.slice vla vl.list.length vlc) ∧ W.cell? ⟨xb, 6, none⟩ = some (.slice vfa vf.list.length vfc)) := fun W hW => (HB4.out.below hW.below).cells
      have Hx4 : Hid (w.heap.size ≤ X4.heap.size) := HF4.out.size
      refine (known_any _).mono ?_
      rintro e W3 ⟨rfl, hb3⟩
      have HF5 := hide (HF4.out.on hb3)
      have HX5 := hide (HX4.out.on hb3)
      clear hb3
      have HFc := hide HF5.out
      have HXc := hide HX5.out
      clear HF5 HX5
      obtain ⟨y0, y1, y2, y3, y4, y5, y6⟩ := HS.out _ HXc.out
      go_wp2_with fail
      refine wp_region_noPanic ?_
      refine wp_region_held_drew (S := (fun W => W.cell? ⟨xb, 0, none⟩ = some (.int .u8 vk) ∧ W.cell? ⟨xb, 1, none⟩ = some (.bool vbo) ∧ W.cell? ⟨xb, 2, none⟩ = some (.int .i64 vn) ∧ W.cell? ⟨xb, 3, none⟩ = some (.string vt) ∧ W.cell? ⟨xb, 4, none⟩ = some (.slice vya vy.length vyc) ∧ W.cell? ⟨xb, 5, none⟩ = some (.slice vla vl.list.length vlc) ∧ W.cell? ⟨xb, 6, none⟩ = some (.slice vfa vf.list.length vfc))) (by kernel_rfl) (HS.out _ HXc.out.drew) (fun _hS => ?_)
      refine wpAnyH_take (i := 0) (oi := { dst := some 95, op := Op.load 32 (Operand.tmp 8), type := 32, pos := "law.go:200", after := #[], guard := none }) (v := ?v0x301) rfl (by kernel_rfl) (by kernel_rfl) (by kernel_rfl) (fun _ _ _ h => h) (Or.inl ⟨by rfl, ?hy0x301⟩) (by assumption) ?rest0x301
      case hy0x301 => (intro w hSw; (try dsimp only at hSw); (first | (go_simp; with_reducible rfl) | go_simp))
      try simp only [Act.put, List.setIfInBounds_toArray, List.set_cons_zero, List.set_cons_succ]
      refine wpAnyH_take (i := 1) (oi := { dst := some 96, op := Op.move (Operand.tmp 1), type := 23, pos := "law.go:200", after := #[], guard := none }) (v := ?v1x302) rfl (by kernel_rfl) (by kernel_rfl) (by kernel_rfl) (fun _ _ _ h => h) (Or.inl ⟨by rfl, ?hy1x302⟩) (by assumption) ?rest1x302
      case hy1x302 => (intro w hSw; (try dsimp only at hSw); (first | (go_simp; with_reducible rfl) | go_simp))
      try simp only [Act.put, List.setIfInBounds_toArray, List.set_cons_zero, List.set_cons_succ]
      refine wpAnyH_take (i := 2) (oi := { dst := some 97, op := Op.call { callee := Callee.builtin Builtin.len, args := #[Operand.tmp 96], argTypes := #[23] }, type := 3, pos := "law.go:200", after := #[{ on := 1, ground := Ground.data }], guard := none }) (v := ?v2x303) rfl (by kernel_rfl) (by kernel_rfl) (by kernel_rfl) (fun _ _ _ h => h) (Or.inl ⟨by rfl, ?hy2x303⟩) (by assumption) ?rest2x303
      case hy2x303 => (intro w hSw; (try dsimp only at hSw); (first | (go_simp; with_reducible rfl) | go_simp))
      try simp only [Act.put, List.setIfInBounds_toArray, List.set_cons_zero, List.set_cons_succ]
      refine wpAnyH_take (i := 3) (oi := { dst := some 98, op := Op.binOp BinOp.gtr 3 (Operand.tmp 97) (Operand.const (Value.int IntKind.i64 0)) 3, type := 4, pos := "law.go:200", after := #[{ on := 2, ground := Ground.data }], guard := none }) (v := ?v3x304) rfl (by kernel_rfl) (by kernel_rfl) (by kernel_rfl) (fun _ _ _ h => h) (Or.inl ⟨by rfl, ?hy3x304⟩) (by assumption) ?rest3x304
      case hy3x304 => (intro w hSw; (try dsimp only at hSw); (first | (go_simp; with_reducible rfl) | go_simp))
      try simp only [Act.put, List.setIfInBounds_toArray, List.set_cons_zero, List.set_cons_succ]
      refine wpAnyH_take (i := 4) (oi := { dst := some 99, op := Op.move (Operand.tmp 98), type := 4, pos := "law.go:200", after := #[{ on := 3, ground := Ground.data }], guard := none }) (v := ?v4x305) rfl (by kernel_rfl) (by kernel_rfl) (by kernel_rfl) (fun _ _ _ h => h) (Or.inl ⟨by rfl, ?hy4x305⟩) (by assumption) ?rest4x305
      case hy4x305 => (intro w hSw; (try dsimp only at hSw); (first | (go_simp; with_reducible rfl) | go_simp))
      try simp only [Act.put, List.setIfInBounds_toArray, List.set_cons_zero, List.set_cons_succ]
      refine wpAnyH_take (i := 5) (oi := { dst := some 100, op := Op.move (Operand.tmp 1), type := 23, pos := "law.go:200", after := #[{ on := 4, ground := Ground.guard }], guard := some (4, true) }) (v := undef) rfl (by kernel_rfl) (by kernel_rfl) (by kernel_rfl) (fun _ _ _ h => h) (Or.inr ⟨by rfl, rfl⟩) (by assumption) ?rest5x306
      try simp only [Act.put, List.setIfInBounds_toArray, List.set_cons_zero, List.set_cons_succ]
      refine wpAnyH_take (i := 6) (oi := { dst := some 101, op := Op.indexAddr 23 (Operand.tmp 100) (Operand.const (Value.int IntKind.i64 0)), type := 0, pos := "law.go:200", after := #[{ on := 5, ground := Ground.data }, { on := 4, ground := Ground.guard }], guard := some (4, true) }) (v := undef) rfl (by kernel_rfl) (by kernel_rfl) (by kernel_rfl) (fun _ _ _ h => h) (Or.inr ⟨by rfl, rfl⟩) (by assumption) ?rest6x307
      try simp only [Act.put, List.setIfInBounds_toArray, List.set_cons_zero, List.set_cons_succ]
      refine wpAnyH_take (i := 7) (oi := { dst := some 102, op := Op.load 4 (Operand.tmp 101), type := 4, pos := "law.go:200", after := #[{ on := 6, ground := Ground.data }, { on := 4, ground := Ground.guard }], guard := some (4, true) }) (v := undef) rfl (by kernel_rfl) (by kernel_rfl) (by kernel_rfl) (fun _ _ _ h => h) (Or.inr ⟨by rfl, rfl⟩) (by assumption) ?rest7x308
      try simp only [Act.put, List.setIfInBounds_toArray, List.set_cons_zero, List.set_cons_succ]
      refine wpAnyH_take (i := 8) (oi := { dst := some 103, op := Op.pick (Operand.tmp 99) (Operand.tmp 102) (Operand.const (Value.bool false)), type := 4, pos := "law.go:200", after := #[{ on := 4, ground := Ground.data }, { on := 7, ground := Ground.data }], guard := none }) (v := ?v8x309) rfl (by kernel_rfl) (by kernel_rfl) (by kernel_rfl) (fun _ _ _ h => h) (Or.inl ⟨by rfl, ?hy8x309⟩) (by assumption) ?rest8x309
      case hy8x309 => (intro w hSw; (try dsimp only at hSw); (first | (go_simp; with_reducible rfl) | go_simp))
      try simp only [Act.put, List.setIfInBounds_toArray, List.set_cons_zero, List.set_cons_succ]
      refine wpAnyH_ready (rs := [9]) (by kernel_rfl) (by simp) ?_
      refine AllReadyH.cons (o := { dst := some 104, op := Op.call { callee := Callee.value (Operand.func 12), args := #[Operand.tmp 95, Operand.tmp 103], argTypes := #[32, 4] }, type := 36, pos := "law.go:200", after := #[{ on := 0, ground := Ground.data }, { on := 8, ground := Ground.data }, { on := 4, ground := Ground.chain }], guard := none }) rfl (fun K hK => ?_) (AllReadyH.nil)
      go_simp
      go_at_call 12
      refine (HOne.out _ (H24.out.trans (HXc.out.drew.below.mono H24.out.size))).mono ?_
      rintro e V6 ⟨a6, n6, q6, g6, rfl, hb6, hc6⟩
      have HF6 := hide (HFc.out.drew.on hb6)
      have HX6 := hide (HXc.out.drew.on hb6)
      have HC6 : Hid ((g6 = 0 ∧ n6 = zs.length ∧ Own V6 (.slice a6 n6 q6) zs ∧ (∀ k, (Value.slice a6 n6 q6).ownBlock = some k → X4.heap.size ≤ k)) ∨ (g6 = 42 ∧ 160 < zs.length ∧ a6 = none ∧ n6 = 0 ∧ q6 = 0)) := (by rcases hc6 with ⟨h1, h2, h3, h4⟩ | h; exact .inl ⟨h1, h2, h3, fun k hk => Nat.le_trans HXc.out.drew.size (h4 k hk)⟩; exact .inr h)
      clear hb6 hc6
      go_simp
      refine hK.out _ _ ?_ (fun _hS => ?_)
      · exact HS.out _ HX6.out
      clear hK K
      try simp only [Act.put, List.setIfInBounds_toArray, List.set_cons_zero, List.set_cons_succ]
      refine wpAnyH_take (i := 10) (oi := { dst := some 94, op := Op.move (Operand.tmp 104), type := 36, pos := "law.go:200", after := #[{ on := 9, ground := Ground.data }], guard := none }) (v := ?v10x310) rfl (by kernel_rfl) (by kernel_rfl) (by kernel_rfl) (fun _ _ _ h => h) (Or.inl ⟨by rfl, ?hy10x310⟩) (by assumption) ?rest10x310
      case hy10x310 => (intro w hSw; (try dsimp only at hSw); (first | (go_simp; with_reducible rfl) | go_simp))
      try simp only [Act.put, List.setIfInBounds_toArray, List.set_cons_zero, List.set_cons_succ]
      refine wpAnyH_take (i := 11) (oi := { dst := some 105, op := Op.extract (Operand.tmp 94) 0, type := 22, pos := "law.go:200", after := #[{ on := 10, ground := Ground.data }], guard := none }) (v := ?v11x311) rfl (by kernel_rfl) (by kernel_rfl) (by kernel_rfl) (fun _ _ _ h => h) (Or.inl ⟨by rfl, ?hy11x311⟩) (by assumption) ?rest11x311
      case hy11x311 => (intro w hSw; (try dsimp only at hSw); (first | (go_simp; with_reducible rfl) | go_simp))
      try simp only [Act.put, List.setIfInBounds_toArray, List.set_cons_zero, List.set_cons_succ]
      refine wpAnyH_take (i := 12) (oi := { dst := some 106, op := Op.extract (Operand.tmp 94) 1, type := 26, pos := "law.go:200", after := #[{ on := 10, ground := Ground.data }, { on := 13, ground := Ground.gcOnly Departure.lateStores }], guard := none }) (v := ?v12x312) rfl (by kernel_rfl) (by kernel_rfl) (by kernel_rfl) (fun _ _ _ h => h) (Or.inl ⟨by rfl, ?hy12x312⟩) (by assumption) ?rest12x312
      case hy12x312 => (intro w hSw; (try dsimp only at hSw); (first | (go_simp; with_reducible rfl) | go_simp))
      try simp only [Act.put, List.setIfInBounds_toArray, List.set_cons_zero, List.set_cons_succ]
      refine wpAnyH_ready (rs := [13]) (by kernel_rfl) (by simp) ?_
      refine AllReadyH.cons (o := { dst := some 13, op := Op.assign (Operand.tmp 105), type := 22, pos := "law.go:200", after := #[{ on := 11, ground := Ground.data }, { on := 9, ground := Ground.chain }, { on := 0, ground := Ground.phase }, { on := 1, ground := Ground.phase }, { on := 2, ground := Ground.phase }, { on := 3, ground := Ground.phase }, { on := 4, ground := Ground.phase }, { on := 5, ground := Ground.phase }, { on := 6, ground := Ground.phase }, { on := 7, ground := Ground.phase }, { on := 8, ground := Ground.phase }, { on := 9, ground := Ground.phase }, { on := 10, ground := Ground.phase }, { on := 11, ground := Ground.phase }, { on := 12, ground := Ground.textOnly Departure.lateStores }], guard := none }) rfl (fun K hK => ?_) (AllReadyH.nil)
      go_simp
      refine hK.out _ _ ?_ (fun _hS => ?_)
      · exact HS.out _ HX6.out
      clear hK K
      try simp only [Act.put, List.setIfInBounds_toArray, List.set_cons_zero, List.set_cons_succ]
      refine wpAnyH_ready (rs := [14]) (by kernel_rfl) (by simp) ?_
      refine AllReadyH.cons (o := { dst := some 14, op := Op.assign (Operand.tmp 106), type := 26, pos := "law.go:200", after := #[{ on := 12, ground := Ground.data }, { on := 13, ground := Ground.chain }, { on := 0, ground := Ground.phase }, { on := 1, ground := Ground.phase }, { on := 2, ground := Ground.phase }, { on := 3, ground := Ground.phase }, { on := 4, ground := Ground.phase }, { on := 5, ground := Ground.phase }, { on := 6, ground := Ground.phase }, { on := 7, ground := Ground.phase }, { on := 8, ground := Ground.phase }, { on := 9, ground := Ground.phase }, { on := 10, ground := Ground.phase }, { on := 11, ground := Ground.phase }, { on := 12, ground := Ground.phase }, { on := 13, ground := Ground.phase }], guard := none }) rfl (fun K hK => ?_) (AllReadyH.nil)
      go_simp
      refine hK.out _ _ ?_ (fun _hS => ?_)
      · exact HS.out _ HX6.out
      clear hK K
      try simp only [Act.put, List.setIfInBounds_toArray, List.set_cons_zero, List.set_cons_succ]
      refine wpAnyH_done (by kernel_rfl) ?_ _
      refine NoPanic.normal ?_
      obtain ⟨y0, y1, y2, y3, y4, y5, y6⟩ := HS.out _ HX6.out
      rcases HC6.out with ⟨rfl, rfl, hown6, hk6⟩ | ⟨rfl, h160, rfl, rfl, rfl⟩
      · have HSr := hide (src_row V6 ra rs.length rc rs rfl HNr.out (HRr.out V6 HX6.out))
        have hzy : zs.length + rs.length ≤ 140737488355328 := by have := HL.out; omega
        have HO6 := hide hown6
        have HN6 : Hid (∀ k, (Value.slice a6 zs.length q6).ownBlock = some k → X4.heap.size ≤ k) := (fun k hk => hk6 k hk)
        go_wp2_with (at_builtin; refine wpList_append_src (by rfl) (.tmp 107) (.tmp 108) 22 22 (by rfl) i0 Try.underlying22 hi hz0 hz1 hz2 (.slice a6 zs.length q6) zs (by rfl) HO6.out (.slice ra rs.length rc) rs.length rs (by rfl) HSr.out hzy ?_; intro v7 W7 hown7 hg7 hf7; have HO7 := hide hown7; have HF7 := hide (HF6.out.grown hg7 (fun k hk => Nat.le_trans Hx4.out (HN6.out k hk))); have HX7 := hide (HX6.out.grown hg7 HN6.out); clear hown7 hg7 hf7 y0 y1 y2 y3 y4 y5 y6; obtain ⟨y0, y1, y2, y3, y4, y5, y6⟩ := HS.out _ HX7.out; obtain ⟨a7, c7, rfl, hle7, _, _, hrow7, _⟩ := HO7.out.shape; rw [← HE.out] at hrow7; have HR7 := hide hrow7; clear hrow7 hle7; simp only [← HE.out])
        refine (HChk.out _ (H24.out.trans (HX7.out.below.mono H24.out.size))).mono ?_
        rintro e W8 ⟨rfl, hb8⟩
        have HF8 := hide (HF7.out.on hb8)
        have HX8 := hide (HX7.out.on hb8)
        have HR8 := hide (HR7.out.below hb8)
        clear hb8
        go_wp2_with fail
        refine (same_gen a7 ba ys.length ys.length c7 bc ys ys W8 rfl rfl hmil hmil HR8.out (HRow.out W8 HF8.out.below)).mono ?_
        rintro e W9 ⟨rfl, hb9⟩
        have HF9 := hide (HF8.out.on hb9)
        clear hb9
        have hss : sameB ys ys = true := by simp [sameB]
        rw [hss]
        go_wp2
        go_ret
        exact ⟨rfl, HF9.out.below⟩
      · have HSr := hide (src_row V6 ra rs.length rc rs rfl HNr.out (HRr.out V6 HX6.out))
        have hzy : ([] : List Int).length + rs.length ≤ 140737488355328 := by have := HL.out; simp; omega
        have HO6 := hide (Own.nil V6)
        have HN6 : Hid (∀ k, (Value.slice none 0 0).ownBlock = some k → X4.heap.size ≤ k) := (fun k hk => by cases hk)
        go_wp2_with (at_builtin; refine wpList_append_src (by rfl) (.tmp 107) (.tmp 108) 22 22 (by rfl) i0 Try.underlying22 hi hz0 hz1 hz2 (.slice none 0 0) [] (by rfl) HO6.out (.slice ra rs.length rc) rs.length rs (by rfl) HSr.out hzy ?_; intro v7 W7 hown7 hg7 hf7; have HO7 := hide hown7; have HF7 := hide (HF6.out.grown hg7 (fun k hk => Nat.le_trans Hx4.out (HN6.out k hk))); have HX7 := hide (HX6.out.grown hg7 HN6.out); clear hown7 hg7 hf7 y0 y1 y2 y3 y4 y5 y6; obtain ⟨y0, y1, y2, y3, y4, y5, y6⟩ := HS.out _ HX7.out; obtain ⟨a7, c7, rfl, hle7, _, _, hrow7, _⟩ := HO7.out.shape; clear hrow7 hle7)
        have hy160 : decide ((160 : Int) < (ys.length : Int)) = true := by have := HL.out; simp; omega
        refine (HChk.out _ (H24.out.trans (HX7.out.below.mono H24.out.size))).mono ?_
        rintro e W8 ⟨rfl, hb8⟩
        have HF8 := hide (HF7.out.on hb8)
        have HX8 := hide (HX7.out.on hb8)
        clear hb8
        go_wp2
        go_ret
        exact ⟨rfl, HF8.out.below⟩
    · have HF2 := hide (HF1.out.on hb2)
      have HF4 := hide (HF2.out.alloc (.cells #[.int .u8 0, .bool false, .int .i64 0, .string ⟨#[]⟩, .slice none 0 0, .slice none 0 0, .slice none 0 0] 32))
      have HB4 := hide (Box7.new W2 (.int .u8 0) (.bool false) (.int .i64 0) (.string ⟨#[]⟩) (.slice none 0 0) (.slice none 0 0) (.slice none 0 0))
      have H24 := hide (below_alloc W2 (.cells #[.int .u8 0, .bool false, .int .i64 0, .string ⟨#[]⟩, .slice none 0 0, .slice none 0 0, .slice none 0 0] 32))
      have H14 := hide (hb2.trans ((below_alloc W2 (.cells #[.int .u8 0, .bool false, .int .i64 0, .string ⟨#[]⟩, .slice none 0 0, .slice none 0 0, .slice none 0 0] 32)).mono hb2.size))
      clear hb2 HF1
      go_wp2_with fail
      generalize hX4 : W2.alloc (.cells #[.int .u8 0, .bool false, .int .i64 0, .string ⟨#[]⟩, .slice none 0 0, .slice none 0 0, .slice none 0 0] 32) = X4 at HF4 HB4 H24 H14 ⊢
      clear hX4
      generalize hxb : W2.heap.size = xb at HB4 ⊢
      have HX4 := hide (Fr.refl X4)
      have HS : Hid (∀ W, Fr X4.heap.size X4 W → W.cell? ⟨xb, 0, none⟩ = some (.int .u8 0) ∧ W.cell? ⟨xb, 1, none⟩ = some (.bool false) ∧ W.cell? ⟨xb, 2, none⟩ = some (.int .i64 0) ∧ W.cell? ⟨xb, 3, none⟩ = some (.string ⟨#[]⟩) ∧ W.cell? ⟨xb, 4, none⟩ = some (.slice none 0 0) ∧ W.cell? ⟨xb, 5, none⟩ = some (.slice none 0 0) ∧ W.cell? ⟨xb, 6, none⟩ = some (.slice none 0 0)) := fun W hW => (HB4.out.below hW.below).cells
      have Hx4 : Hid (w.heap.size ≤ X4.heap.size) := HF4.out.size
      refine (known_any _).mono ?_
      rintro e W3 ⟨rfl, hb3⟩
      have HF5 := hide (HF4.out.on hb3)
      have HX5 := hide (HX4.out.on hb3)
      clear hb3
      have HFc := hide HF5.out
      have HXc := hide HX5.out
      clear HF5 HX5
      obtain ⟨y0, y1, y2, y3, y4, y5, y6⟩ := HS.out _ HXc.out
      go_wp2_with fail
      refine (samev_leaf 0 0 ⟨#[]⟩ _).mono ?_
      rintro e W6 ⟨rfl, hb6⟩
      have HF6 := hide (HFc.out.on hb6)
      clear hb6
      go_wp2
      go_ret
      exact ⟨rfl, HF6.out.below⟩
set_option maxHeartbeats 12800000 in
set_option maxRecDepth 1000000 in
theorem walk_cons (ba : Option Addr) (bc : Nat) (ys : List Int) (bd od dc dn : Nat) (d : Bool) (w : World) (Q : Prop) (hlen : ys.length ≤ 20000) (hdn : 0 < dn) (hdn2 : dn ≤ 20000) (HCell : Hid (∀ W, Below w.heap.size w W → W.cell? ⟨bd, od, none⟩ = some (.bool d)))
    (HDec : Hid (Calls Try.prog 6 #[.slice ba ys.length bc, .slice (some ⟨bd, od, none⟩) dn dc] w fun e w' => ((∃ V, e = .returned (.tuple #[V, .int .u16 0, .int .i64 0]) ∧ (ys.length ≠ 0 → Q) ∧ EncK ys V (some ⟨bd, od, none⟩) dc dn w') ∨ (∃ at' : Int, e = .returned (.tuple #[.slice none 0 0, .int .u16 40, .int .i64 at']))) ∧ Below w.heap.size w w'))
    (HSpl : Hid (∀ W, Below w.heap.size w W → Calls Try.prog 7 #[.slice ba ys.length bc, .bool d] W fun e w' => ((∃ (v : T) (zs rs : List Int) (ra : Option Addr) (rc : Nat), e = .returned (.tuple #[v.val, .slice ra rs.length rc, .int .u16 0]) ∧ ys = zs ++ rs ∧ Own w' (.slice ra rs.length rc) rs ∧ OneK zs d v.val w' ∧ ChkK v.val w') ∨ (e = .returned (.tuple #[.agg #[.int .u8 0, .bool false, .int .i64 0, .string ⟨#[]⟩, .slice none 0 0, .slice none 0 0, .slice none 0 0], .slice none 0 0, .int .u16 40]) ∧ ¬ Q)) ∧ Below W.heap.size W w'))
    (HRow : Hid (∀ W, Below w.heap.size w W → Row W ba ys)) :
    Calls Try.prog 3 #[.slice ba ys.length bc, .slice (some ⟨bd, od, none⟩) dn dc] w fun e w' => e = .returned (.bool true) ∧ Below w.heap.size w w' := by
  obtain ⟨i0, hi, hz0, hz1, hz2⟩ := info_parts Try.info5
  have HF0 := hide (Fr.refl w)
  have hmil : ys.length ≤ 1000000 := by omega
  have hyd : decide ((20000 : Int) < (ys.length : Int)) = false := by simp; omega
  have hdd : decide ((20000 : Int) < (dn : Int)) = false := by simp; omega
  have hdp : decide ((0 : Int) < (dn : Int)) = true := by simp; omega
  go_enter Try.func3, Try.ntmps3
  go_wp2_with fail
  refine HDec.out.mono ?_
  rintro e W1 ⟨(⟨V, rfl, hbeg, hek⟩ | ⟨at', rfl⟩), hb1⟩
  · have HF1 := hide (HF0.out.on hb1)
    clear hb1 HF0
    have HEk := hide hek
    have HBg := hide hbeg
    clear hek hbeg
    have g0 := HCell.out _ HF1.out.below
    go_wp2_with fail
    refine (HSpl.out W1 HF1.out.below).mono ?_
    rintro e W2 ⟨(⟨v, zs, rs, ra, rc, rfl, hE, hown, hone, hchk⟩ | ⟨rfl, hnq⟩), hb2⟩
    · cases v with
      | mk vk vbo vn vt vya vyc vy vla vlc vl vfa vfc vf =>
      simp only [T.val] at hone hchk ⊢
      have HF2 := hide (HF1.out.on hb2)
      have HF4 := hide (HF2.out.alloc (.cells #[.int .u8 vk, .bool vbo, .int .i64 vn, .string vt, .slice vya vy.length vyc, .slice vla vl.list.length vlc, .slice vfa vf.list.length vfc] 32))
      have HB4 := hide (Box7.new W2 (.int .u8 vk) (.bool vbo) (.int .i64 vn) (.string vt) (.slice vya vy.length vyc) (.slice vla vl.list.length vlc) (.slice vfa vf.list.length vfc))
      have H24 := hide (below_alloc W2 (.cells #[.int .u8 vk, .bool vbo, .int .i64 vn, .string vt, .slice vya vy.length vyc, .slice vla vl.list.length vlc, .slice vfa vf.list.length vfc] 32))
      have H14 := hide (hb2.trans ((below_alloc W2 (.cells #[.int .u8 vk, .bool vbo, .int .i64 vn, .string vt, .slice vya vy.length vyc, .slice vla vl.list.length vlc, .slice vfa vf.list.length vfc] 32)).mono hb2.size))
      have HOne := hide hone
      have HChk := hide hchk
      have hL := congrArg List.length hE
      have HE := hide hE
      rw [List.length_append] at hL
      have HL := hide hL
      have HNr := hide (own_n hown).2
      have HRr0 := hide hown.row
      have H2r := hide hb2
      clear hone hchk hown hE hL
      clear hb2 HF1
      go_wp2_with fail
      generalize hX4 : W2.alloc (.cells #[.int .u8 vk, .bool vbo, .int .i64 vn, .string vt, .slice vya vy.length vyc, .slice vla vl.list.length vlc, .slice vfa vf.list.length vfc] 32) = X4 at HF4 HB4 H24 H14 ⊢
      clear hX4
      generalize hxb : W2.heap.size = xb at HB4 ⊢
      have HX4 := hide (Fr.refl X4)
      have HRr : Hid (∀ W, Fr X4.heap.size X4 W → Row W ra rs) := fun W hW => HRr0.out.below (H24.out.trans (hW.below.mono H24.out.size))
      have HS : Hid (∀ W, Fr X4.heap.size X4 W → W.cell? ⟨xb, 0, none⟩ = some (.int .u8 vk) ∧ W.cell? ⟨xb, 1, none⟩ = some (.bool vbo) ∧ W.cell? ⟨xb, 2, none⟩ = some (.int .i64 vn) ∧ W.cell? ⟨xb, 3, none⟩ = some (.string vt) ∧ W.cell? ⟨xb, 4, none⟩ = some (.slice vya vy.length vyc) ∧ W.cell? ⟨xb, 5, none⟩ = some (.slice vla vl.list.length vlc) ∧ W.cell? ⟨xb, 6, none⟩ = some (.slice vfa vf.list.length vfc) ∧ W.cell? ⟨bd, od, none⟩ = some (.bool d)) := fun W hW => by
        obtain ⟨y0, y1, y2, y3, y4, y5, y6⟩ := (HB4.out.below hW.below).cells
        exact ⟨y0, y1, y2, y3, y4, y5, y6, HCell.out W (HF4.out.below.trans (hW.below.mono HF4.out.size))⟩
      have Hx4 : Hid (w.heap.size ≤ X4.heap.size) := HF4.out.size
      refine (known_any _).mono ?_
      rintro e W3 ⟨rfl, hb3⟩
      have HF5 := hide (HF4.out.on hb3)
      have HX5 := hide (HX4.out.on hb3)
      clear hb3
      go_wp2_with fail
      refine (HEk.out _ (H14.out.trans (HX5.out.below.mono H14.out.size))).mono ?_
      rintro e W5 ⟨a5, c5, n5, g5, rfl, hb5, (⟨rfl, rfl, hr5⟩ | ⟨rfl, h160⟩)⟩
      · have HF6' := hide (HF5.out.on hb5)
        have HX6' := hide (HX5.out.on hb5)
        have HR5 := hide hr5
        clear hb5 hr5
        go_wp2_with fail
        refine (same_gen a5 ba ys.length ys.length c5 bc ys ys W5 rfl rfl hmil hmil HR5.out (HRow.out W5 HF6'.out.below)).mono ?_
        rintro e W5' ⟨rfl, hb6'⟩
        have HFc := hide (HF6'.out.on hb6')
        have HXc := hide (HX6'.out.on hb6')
        clear hb6' HF6' HX6' HR5 HF5 HX5
        have hss0 : sameB ys ys = true := by simp [sameB]
        rw [hss0]
        clear hss0
        obtain ⟨y0, y1, y2, y3, y4, y5, y6, y7⟩ := HS.out _ HXc.out
        go_wp2_with fail
        refine wp_region_noPanic ?_
        refine wp_region_held_drew (S := (fun W => W.cell? ⟨xb, 0, none⟩ = some (.int .u8 vk) ∧ W.cell? ⟨xb, 1, none⟩ = some (.bool vbo) ∧ W.cell? ⟨xb, 2, none⟩ = some (.int .i64 vn) ∧ W.cell? ⟨xb, 3, none⟩ = some (.string vt) ∧ W.cell? ⟨xb, 4, none⟩ = some (.slice vya vy.length vyc) ∧ W.cell? ⟨xb, 5, none⟩ = some (.slice vla vl.list.length vlc) ∧ W.cell? ⟨xb, 6, none⟩ = some (.slice vfa vf.list.length vfc) ∧ W.cell? ⟨bd, od, none⟩ = some (.bool d))) (by kernel_rfl) (HS.out _ HXc.out.drew) (fun _hS => ?_)
        refine wpAnyH_take (i := 0) (oi := { dst := some 95, op := Op.load 32 (Operand.tmp 8), type := 32, pos := "law.go:200", after := #[], guard := none }) (v := ?v0x401) rfl (by kernel_rfl) (by kernel_rfl) (by kernel_rfl) (fun _ _ _ h => h) (Or.inl ⟨by rfl, ?hy0x401⟩) (by assumption) ?rest0x401
        case hy0x401 => (intro w hSw; (try dsimp only at hSw); (first | (go_simp; with_reducible rfl) | go_simp))
        try simp only [Act.put, List.setIfInBounds_toArray, List.set_cons_zero, List.set_cons_succ]
        refine wpAnyH_take (i := 1) (oi := { dst := some 96, op := Op.move (Operand.tmp 1), type := 23, pos := "law.go:200", after := #[], guard := none }) (v := ?v1x402) rfl (by kernel_rfl) (by kernel_rfl) (by kernel_rfl) (fun _ _ _ h => h) (Or.inl ⟨by rfl, ?hy1x402⟩) (by assumption) ?rest1x402
        case hy1x402 => (intro w hSw; (try dsimp only at hSw); (first | (go_simp; with_reducible rfl) | go_simp))
        try simp only [Act.put, List.setIfInBounds_toArray, List.set_cons_zero, List.set_cons_succ]
        refine wpAnyH_take (i := 2) (oi := { dst := some 97, op := Op.call { callee := Callee.builtin Builtin.len, args := #[Operand.tmp 96], argTypes := #[23] }, type := 3, pos := "law.go:200", after := #[{ on := 1, ground := Ground.data }], guard := none }) (v := ?v2x403) rfl (by kernel_rfl) (by kernel_rfl) (by kernel_rfl) (fun _ _ _ h => h) (Or.inl ⟨by rfl, ?hy2x403⟩) (by assumption) ?rest2x403
        case hy2x403 => (intro w hSw; (try dsimp only at hSw); (first | (go_simp; with_reducible rfl) | go_simp))
        try simp only [Act.put, List.setIfInBounds_toArray, List.set_cons_zero, List.set_cons_succ]
        refine wpAnyH_take (i := 3) (oi := { dst := some 98, op := Op.binOp BinOp.gtr 3 (Operand.tmp 97) (Operand.const (Value.int IntKind.i64 0)) 3, type := 4, pos := "law.go:200", after := #[{ on := 2, ground := Ground.data }], guard := none }) (v := ?v3x404) rfl (by kernel_rfl) (by kernel_rfl) (by kernel_rfl) (fun _ _ _ h => h) (Or.inl ⟨by rfl, ?hy3x404⟩) (by assumption) ?rest3x404
        case hy3x404 => (intro w hSw; (try dsimp only at hSw); (first | (go_simp; with_reducible rfl) | go_simp))
        try simp only [Act.put, List.setIfInBounds_toArray, List.set_cons_zero, List.set_cons_succ]
        refine wpAnyH_take (i := 4) (oi := { dst := some 99, op := Op.move (Operand.tmp 98), type := 4, pos := "law.go:200", after := #[{ on := 3, ground := Ground.data }], guard := none }) (v := ?v4x405) rfl (by kernel_rfl) (by kernel_rfl) (by kernel_rfl) (fun _ _ _ h => h) (Or.inl ⟨by rfl, ?hy4x405⟩) (by assumption) ?rest4x405
        case hy4x405 => (intro w hSw; (try dsimp only at hSw); (first | (go_simp; with_reducible rfl) | go_simp))
        try simp only [Act.put, List.setIfInBounds_toArray, List.set_cons_zero, List.set_cons_succ]
        refine wpAnyH_take (i := 5) (oi := { dst := some 100, op := Op.move (Operand.tmp 1), type := 23, pos := "law.go:200", after := #[{ on := 4, ground := Ground.guard }], guard := some (4, true) }) (v := ?v5x406) rfl (by kernel_rfl) (by kernel_rfl) (by kernel_rfl) (fun _ _ _ h => h) (Or.inl ⟨by rfl, ?hy5x406⟩) (by assumption) ?rest5x406
        case hy5x406 => (intro w hSw; (try dsimp only at hSw); (first | (go_simp; with_reducible rfl) | go_simp))
        try simp only [Act.put, List.setIfInBounds_toArray, List.set_cons_zero, List.set_cons_succ]
        refine wpAnyH_take (i := 6) (oi := { dst := some 101, op := Op.indexAddr 23 (Operand.tmp 100) (Operand.const (Value.int IntKind.i64 0)), type := 0, pos := "law.go:200", after := #[{ on := 5, ground := Ground.data }, { on := 4, ground := Ground.guard }], guard := some (4, true) }) (v := ?v6x407) rfl (by kernel_rfl) (by kernel_rfl) (by kernel_rfl) (fun _ _ _ h => h) (Or.inl ⟨by rfl, ?hy6x407⟩) (by assumption) ?rest6x407
        case hy6x407 => (intro w hSw; (try dsimp only at hSw); (first | (go_simp; with_reducible rfl) | go_simp))
        try simp only [Act.put, List.setIfInBounds_toArray, List.set_cons_zero, List.set_cons_succ]
        refine wpAnyH_take (i := 7) (oi := { dst := some 102, op := Op.load 4 (Operand.tmp 101), type := 4, pos := "law.go:200", after := #[{ on := 6, ground := Ground.data }, { on := 4, ground := Ground.guard }], guard := some (4, true) }) (v := ?v7x408) rfl (by kernel_rfl) (by kernel_rfl) (by kernel_rfl) (fun _ _ _ h => h) (Or.inl ⟨by rfl, ?hy7x408⟩) (by assumption) ?rest7x408
        case hy7x408 => (intro w hSw; (try dsimp only at hSw); (first | (go_simp; with_reducible rfl) | go_simp))
        try simp only [Act.put, List.setIfInBounds_toArray, List.set_cons_zero, List.set_cons_succ]
        refine wpAnyH_take (i := 8) (oi := { dst := some 103, op := Op.pick (Operand.tmp 99) (Operand.tmp 102) (Operand.const (Value.bool false)), type := 4, pos := "law.go:200", after := #[{ on := 4, ground := Ground.data }, { on := 7, ground := Ground.data }], guard := none }) (v := ?v8x409) rfl (by kernel_rfl) (by kernel_rfl) (by kernel_rfl) (fun _ _ _ h => h) (Or.inl ⟨by rfl, ?hy8x409⟩) (by assumption) ?rest8x409
        case hy8x409 => (intro w hSw; (try dsimp only at hSw); (first | (go_simp; with_reducible rfl) | go_simp))
        try simp only [Act.put, List.setIfInBounds_toArray, List.set_cons_zero, List.set_cons_succ]
        refine wpAnyH_ready (rs := [9]) (by kernel_rfl) (by simp) ?_
        refine AllReadyH.cons (o := { dst := some 104, op := Op.call { callee := Callee.value (Operand.func 12), args := #[Operand.tmp 95, Operand.tmp 103], argTypes := #[32, 4] }, type := 36, pos := "law.go:200", after := #[{ on := 0, ground := Ground.data }, { on := 8, ground := Ground.data }, { on := 4, ground := Ground.chain }], guard := none }) rfl (fun K hK => ?_) (AllReadyH.nil)
        go_simp
        go_at_call 12
        refine (HOne.out _ (H24.out.trans (HXc.out.drew.below.mono H24.out.size))).mono ?_
        rintro e V6 ⟨a6, n6, q6, g6, rfl, hb6, hc6⟩
        have HF6 := hide (HFc.out.drew.on hb6)
        have HX6 := hide (HXc.out.drew.on hb6)
        have HC6 : Hid ((g6 = 0 ∧ n6 = zs.length ∧ Own V6 (.slice a6 n6 q6) zs ∧ (∀ k, (Value.slice a6 n6 q6).ownBlock = some k → X4.heap.size ≤ k)) ∨ (g6 = 42 ∧ 160 < zs.length ∧ a6 = none ∧ n6 = 0 ∧ q6 = 0)) := (by rcases hc6 with ⟨h1, h2, h3, h4⟩ | h; exact .inl ⟨h1, h2, h3, fun k hk => Nat.le_trans HXc.out.drew.size (h4 k hk)⟩; exact .inr h)
        clear hb6 hc6
        go_simp
        refine hK.out _ _ ?_ (fun _hS => ?_)
        · exact HS.out _ HX6.out
        clear hK K
        try simp only [Act.put, List.setIfInBounds_toArray, List.set_cons_zero, List.set_cons_succ]
        refine wpAnyH_take (i := 10) (oi := { dst := some 94, op := Op.move (Operand.tmp 104), type := 36, pos := "law.go:200", after := #[{ on := 9, ground := Ground.data }], guard := none }) (v := ?v10x410) rfl (by kernel_rfl) (by kernel_rfl) (by kernel_rfl) (fun _ _ _ h => h) (Or.inl ⟨by rfl, ?hy10x410⟩) (by assumption) ?rest10x410
        case hy10x410 => (intro w hSw; (try dsimp only at hSw); (first | (go_simp; with_reducible rfl) | go_simp))
        try simp only [Act.put, List.setIfInBounds_toArray, List.set_cons_zero, List.set_cons_succ]
        refine wpAnyH_take (i := 11) (oi := { dst := some 105, op := Op.extract (Operand.tmp 94) 0, type := 22, pos := "law.go:200", after := #[{ on := 10, ground := Ground.data }], guard := none }) (v := ?v11x411) rfl (by kernel_rfl) (by kernel_rfl) (by kernel_rfl) (fun _ _ _ h => h) (Or.inl ⟨by rfl, ?hy11x411⟩) (by assumption) ?rest11x411
        case hy11x411 => (intro w hSw; (try dsimp only at hSw); (first | (go_simp; with_reducible rfl) | go_simp))
        try simp only [Act.put, List.setIfInBounds_toArray, List.set_cons_zero, List.set_cons_succ]
        refine wpAnyH_take (i := 12) (oi := { dst := some 106, op := Op.extract (Operand.tmp 94) 1, type := 26, pos := "law.go:200", after := #[{ on := 10, ground := Ground.data }, { on := 13, ground := Ground.gcOnly Departure.lateStores }], guard := none }) (v := ?v12x412) rfl (by kernel_rfl) (by kernel_rfl) (by kernel_rfl) (fun _ _ _ h => h) (Or.inl ⟨by rfl, ?hy12x412⟩) (by assumption) ?rest12x412
        case hy12x412 => (intro w hSw; (try dsimp only at hSw); (first | (go_simp; with_reducible rfl) | go_simp))
        try simp only [Act.put, List.setIfInBounds_toArray, List.set_cons_zero, List.set_cons_succ]
        refine wpAnyH_ready (rs := [13]) (by kernel_rfl) (by simp) ?_
        refine AllReadyH.cons (o := { dst := some 13, op := Op.assign (Operand.tmp 105), type := 22, pos := "law.go:200", after := #[{ on := 11, ground := Ground.data }, { on := 9, ground := Ground.chain }, { on := 0, ground := Ground.phase }, { on := 1, ground := Ground.phase }, { on := 2, ground := Ground.phase }, { on := 3, ground := Ground.phase }, { on := 4, ground := Ground.phase }, { on := 5, ground := Ground.phase }, { on := 6, ground := Ground.phase }, { on := 7, ground := Ground.phase }, { on := 8, ground := Ground.phase }, { on := 9, ground := Ground.phase }, { on := 10, ground := Ground.phase }, { on := 11, ground := Ground.phase }, { on := 12, ground := Ground.textOnly Departure.lateStores }], guard := none }) rfl (fun K hK => ?_) (AllReadyH.nil)
        go_simp
        refine hK.out _ _ ?_ (fun _hS => ?_)
        · exact HS.out _ HX6.out
        clear hK K
        try simp only [Act.put, List.setIfInBounds_toArray, List.set_cons_zero, List.set_cons_succ]
        refine wpAnyH_ready (rs := [14]) (by kernel_rfl) (by simp) ?_
        refine AllReadyH.cons (o := { dst := some 14, op := Op.assign (Operand.tmp 106), type := 26, pos := "law.go:200", after := #[{ on := 12, ground := Ground.data }, { on := 13, ground := Ground.chain }, { on := 0, ground := Ground.phase }, { on := 1, ground := Ground.phase }, { on := 2, ground := Ground.phase }, { on := 3, ground := Ground.phase }, { on := 4, ground := Ground.phase }, { on := 5, ground := Ground.phase }, { on := 6, ground := Ground.phase }, { on := 7, ground := Ground.phase }, { on := 8, ground := Ground.phase }, { on := 9, ground := Ground.phase }, { on := 10, ground := Ground.phase }, { on := 11, ground := Ground.phase }, { on := 12, ground := Ground.phase }, { on := 13, ground := Ground.phase }], guard := none }) rfl (fun K hK => ?_) (AllReadyH.nil)
        go_simp
        refine hK.out _ _ ?_ (fun _hS => ?_)
        · exact HS.out _ HX6.out
        clear hK K
        try simp only [Act.put, List.setIfInBounds_toArray, List.set_cons_zero, List.set_cons_succ]
        refine wpAnyH_done (by kernel_rfl) ?_ _
        refine NoPanic.normal ?_
        obtain ⟨y0, y1, y2, y3, y4, y5, y6, y7⟩ := HS.out _ HX6.out
        rcases HC6.out with ⟨rfl, rfl, hown6, hk6⟩ | ⟨rfl, h160, rfl, rfl, rfl⟩
        · have HSr := hide (src_row V6 ra rs.length rc rs rfl HNr.out (HRr.out V6 HX6.out))
          have hzy : zs.length + rs.length ≤ 140737488355328 := by have := HL.out; omega
          have HO6 := hide hown6
          have HN6 : Hid (∀ k, (Value.slice a6 zs.length q6).ownBlock = some k → X4.heap.size ≤ k) := (fun k hk => hk6 k hk)
          go_wp2_with (at_builtin; refine wpList_append_src (by rfl) (.tmp 107) (.tmp 108) 22 22 (by rfl) i0 Try.underlying22 hi hz0 hz1 hz2 (.slice a6 zs.length q6) zs (by rfl) HO6.out (.slice ra rs.length rc) rs.length rs (by rfl) HSr.out hzy ?_; intro v7 W7 hown7 hg7 hf7; have HO7 := hide hown7; have HF7 := hide (HF6.out.grown hg7 (fun k hk => Nat.le_trans Hx4.out (HN6.out k hk))); have HX7 := hide (HX6.out.grown hg7 HN6.out); clear hown7 hg7 hf7 y0 y1 y2 y3 y4 y5 y6 y7; obtain ⟨y0, y1, y2, y3, y4, y5, y6, y7⟩ := HS.out _ HX7.out; obtain ⟨a7, c7, rfl, hle7, _, _, hrow7, _⟩ := HO7.out.shape; rw [← HE.out] at hrow7; have HR7 := hide hrow7; clear hrow7 hle7; simp only [← HE.out])
          refine (HChk.out _ (H24.out.trans (HX7.out.below.mono H24.out.size))).mono ?_
          rintro e W8 ⟨rfl, hb8⟩
          have HF8 := hide (HF7.out.on hb8)
          have HX8 := hide (HX7.out.on hb8)
          have HR8 := hide (HR7.out.below hb8)
          clear hb8
          go_wp2_with fail
          refine (same_gen a7 ba ys.length ys.length c7 bc ys ys W8 rfl rfl hmil hmil HR8.out (HRow.out W8 HF8.out.below)).mono ?_
          rintro e W9 ⟨rfl, hb9⟩
          have HF9 := hide (HF8.out.on hb9)
          clear hb9
          have hss : sameB ys ys = true := by simp [sameB]
          rw [hss]
          go_wp2
          go_ret
          exact ⟨rfl, HF9.out.below⟩
        · have HSr := hide (src_row V6 ra rs.length rc rs rfl HNr.out (HRr.out V6 HX6.out))
          have hzy : ([] : List Int).length + rs.length ≤ 140737488355328 := by have := HL.out; simp; omega
          have HO6 := hide (Own.nil V6)
          have HN6 : Hid (∀ k, (Value.slice none 0 0).ownBlock = some k → X4.heap.size ≤ k) := (fun k hk => by cases hk)
          go_wp2_with (at_builtin; refine wpList_append_src (by rfl) (.tmp 107) (.tmp 108) 22 22 (by rfl) i0 Try.underlying22 hi hz0 hz1 hz2 (.slice none 0 0) [] (by rfl) HO6.out (.slice ra rs.length rc) rs.length rs (by rfl) HSr.out hzy ?_; intro v7 W7 hown7 hg7 hf7; have HO7 := hide hown7; have HF7 := hide (HF6.out.grown hg7 (fun k hk => Nat.le_trans Hx4.out (HN6.out k hk))); have HX7 := hide (HX6.out.grown hg7 HN6.out); clear hown7 hg7 hf7 y0 y1 y2 y3 y4 y5 y6 y7; obtain ⟨y0, y1, y2, y3, y4, y5, y6, y7⟩ := HS.out _ HX7.out; obtain ⟨a7, c7, rfl, hle7, _, _, hrow7, _⟩ := HO7.out.shape; clear hrow7 hle7)
          have hy160 : decide ((160 : Int) < (ys.length : Int)) = true := by have := HL.out; simp; omega
          refine (HChk.out _ (H24.out.trans (HX7.out.below.mono H24.out.size))).mono ?_
          rintro e W8 ⟨rfl, hb8⟩
          have HF8 := hide (HF7.out.on hb8)
          have HX8 := hide (HX7.out.on hb8)
          clear hb8
          go_wp2
          go_ret
          exact ⟨rfl, HF8.out.below⟩
      · have HFc := hide (HF5.out.on hb5)
        have HXc := hide (HX5.out.on hb5)
        have hd160 : decide ((ys.length : Int) ≤ 160) = false := by simp; omega
        clear hb5 HF5 HX5 h160
        obtain ⟨y0, y1, y2, y3, y4, y5, y6, y7⟩ := HS.out _ HXc.out
        go_wp2_with fail
        refine wp_region_noPanic ?_
        refine wp_region_held_drew (S := (fun W => W.cell? ⟨xb, 0, none⟩ = some (.int .u8 vk) ∧ W.cell? ⟨xb, 1, none⟩ = some (.bool vbo) ∧ W.cell? ⟨xb, 2, none⟩ = some (.int .i64 vn) ∧ W.cell? ⟨xb, 3, none⟩ = some (.string vt) ∧ W.cell? ⟨xb, 4, none⟩ = some (.slice vya vy.length vyc) ∧ W.cell? ⟨xb, 5, none⟩ = some (.slice vla vl.list.length vlc) ∧ W.cell? ⟨xb, 6, none⟩ = some (.slice vfa vf.list.length vfc) ∧ W.cell? ⟨bd, od, none⟩ = some (.bool d))) (by kernel_rfl) (HS.out _ HXc.out.drew) (fun _hS => ?_)
        refine wpAnyH_take (i := 0) (oi := { dst := some 95, op := Op.load 32 (Operand.tmp 8), type := 32, pos := "law.go:200", after := #[], guard := none }) (v := ?v0x501) rfl (by kernel_rfl) (by kernel_rfl) (by kernel_rfl) (fun _ _ _ h => h) (Or.inl ⟨by rfl, ?hy0x501⟩) (by assumption) ?rest0x501
        case hy0x501 => (intro w hSw; (try dsimp only at hSw); (first | (go_simp; with_reducible rfl) | go_simp))
        try simp only [Act.put, List.setIfInBounds_toArray, List.set_cons_zero, List.set_cons_succ]
        refine wpAnyH_take (i := 1) (oi := { dst := some 96, op := Op.move (Operand.tmp 1), type := 23, pos := "law.go:200", after := #[], guard := none }) (v := ?v1x502) rfl (by kernel_rfl) (by kernel_rfl) (by kernel_rfl) (fun _ _ _ h => h) (Or.inl ⟨by rfl, ?hy1x502⟩) (by assumption) ?rest1x502
        case hy1x502 => (intro w hSw; (try dsimp only at hSw); (first | (go_simp; with_reducible rfl) | go_simp))
        try simp only [Act.put, List.setIfInBounds_toArray, List.set_cons_zero, List.set_cons_succ]
        refine wpAnyH_take (i := 2) (oi := { dst := some 97, op := Op.call { callee := Callee.builtin Builtin.len, args := #[Operand.tmp 96], argTypes := #[23] }, type := 3, pos := "law.go:200", after := #[{ on := 1, ground := Ground.data }], guard := none }) (v := ?v2x503) rfl (by kernel_rfl) (by kernel_rfl) (by kernel_rfl) (fun _ _ _ h => h) (Or.inl ⟨by rfl, ?hy2x503⟩) (by assumption) ?rest2x503
        case hy2x503 => (intro w hSw; (try dsimp only at hSw); (first | (go_simp; with_reducible rfl) | go_simp))
        try simp only [Act.put, List.setIfInBounds_toArray, List.set_cons_zero, List.set_cons_succ]
        refine wpAnyH_take (i := 3) (oi := { dst := some 98, op := Op.binOp BinOp.gtr 3 (Operand.tmp 97) (Operand.const (Value.int IntKind.i64 0)) 3, type := 4, pos := "law.go:200", after := #[{ on := 2, ground := Ground.data }], guard := none }) (v := ?v3x504) rfl (by kernel_rfl) (by kernel_rfl) (by kernel_rfl) (fun _ _ _ h => h) (Or.inl ⟨by rfl, ?hy3x504⟩) (by assumption) ?rest3x504
        case hy3x504 => (intro w hSw; (try dsimp only at hSw); (first | (go_simp; with_reducible rfl) | go_simp))
        try simp only [Act.put, List.setIfInBounds_toArray, List.set_cons_zero, List.set_cons_succ]
        refine wpAnyH_take (i := 4) (oi := { dst := some 99, op := Op.move (Operand.tmp 98), type := 4, pos := "law.go:200", after := #[{ on := 3, ground := Ground.data }], guard := none }) (v := ?v4x505) rfl (by kernel_rfl) (by kernel_rfl) (by kernel_rfl) (fun _ _ _ h => h) (Or.inl ⟨by rfl, ?hy4x505⟩) (by assumption) ?rest4x505
        case hy4x505 => (intro w hSw; (try dsimp only at hSw); (first | (go_simp; with_reducible rfl) | go_simp))
        try simp only [Act.put, List.setIfInBounds_toArray, List.set_cons_zero, List.set_cons_succ]
        refine wpAnyH_take (i := 5) (oi := { dst := some 100, op := Op.move (Operand.tmp 1), type := 23, pos := "law.go:200", after := #[{ on := 4, ground := Ground.guard }], guard := some (4, true) }) (v := ?v5x506) rfl (by kernel_rfl) (by kernel_rfl) (by kernel_rfl) (fun _ _ _ h => h) (Or.inl ⟨by rfl, ?hy5x506⟩) (by assumption) ?rest5x506
        case hy5x506 => (intro w hSw; (try dsimp only at hSw); (first | (go_simp; with_reducible rfl) | go_simp))
        try simp only [Act.put, List.setIfInBounds_toArray, List.set_cons_zero, List.set_cons_succ]
        refine wpAnyH_take (i := 6) (oi := { dst := some 101, op := Op.indexAddr 23 (Operand.tmp 100) (Operand.const (Value.int IntKind.i64 0)), type := 0, pos := "law.go:200", after := #[{ on := 5, ground := Ground.data }, { on := 4, ground := Ground.guard }], guard := some (4, true) }) (v := ?v6x507) rfl (by kernel_rfl) (by kernel_rfl) (by kernel_rfl) (fun _ _ _ h => h) (Or.inl ⟨by rfl, ?hy6x507⟩) (by assumption) ?rest6x507
        case hy6x507 => (intro w hSw; (try dsimp only at hSw); (first | (go_simp; with_reducible rfl) | go_simp))
        try simp only [Act.put, List.setIfInBounds_toArray, List.set_cons_zero, List.set_cons_succ]
        refine wpAnyH_take (i := 7) (oi := { dst := some 102, op := Op.load 4 (Operand.tmp 101), type := 4, pos := "law.go:200", after := #[{ on := 6, ground := Ground.data }, { on := 4, ground := Ground.guard }], guard := some (4, true) }) (v := ?v7x508) rfl (by kernel_rfl) (by kernel_rfl) (by kernel_rfl) (fun _ _ _ h => h) (Or.inl ⟨by rfl, ?hy7x508⟩) (by assumption) ?rest7x508
        case hy7x508 => (intro w hSw; (try dsimp only at hSw); (first | (go_simp; with_reducible rfl) | go_simp))
        try simp only [Act.put, List.setIfInBounds_toArray, List.set_cons_zero, List.set_cons_succ]
        refine wpAnyH_take (i := 8) (oi := { dst := some 103, op := Op.pick (Operand.tmp 99) (Operand.tmp 102) (Operand.const (Value.bool false)), type := 4, pos := "law.go:200", after := #[{ on := 4, ground := Ground.data }, { on := 7, ground := Ground.data }], guard := none }) (v := ?v8x509) rfl (by kernel_rfl) (by kernel_rfl) (by kernel_rfl) (fun _ _ _ h => h) (Or.inl ⟨by rfl, ?hy8x509⟩) (by assumption) ?rest8x509
        case hy8x509 => (intro w hSw; (try dsimp only at hSw); (first | (go_simp; with_reducible rfl) | go_simp))
        try simp only [Act.put, List.setIfInBounds_toArray, List.set_cons_zero, List.set_cons_succ]
        refine wpAnyH_ready (rs := [9]) (by kernel_rfl) (by simp) ?_
        refine AllReadyH.cons (o := { dst := some 104, op := Op.call { callee := Callee.value (Operand.func 12), args := #[Operand.tmp 95, Operand.tmp 103], argTypes := #[32, 4] }, type := 36, pos := "law.go:200", after := #[{ on := 0, ground := Ground.data }, { on := 8, ground := Ground.data }, { on := 4, ground := Ground.chain }], guard := none }) rfl (fun K hK => ?_) (AllReadyH.nil)
        go_simp
        go_at_call 12
        refine (HOne.out _ (H24.out.trans (HXc.out.drew.below.mono H24.out.size))).mono ?_
        rintro e V6 ⟨a6, n6, q6, g6, rfl, hb6, hc6⟩
        have HF6 := hide (HFc.out.drew.on hb6)
        have HX6 := hide (HXc.out.drew.on hb6)
        have HC6 : Hid ((g6 = 0 ∧ n6 = zs.length ∧ Own V6 (.slice a6 n6 q6) zs ∧ (∀ k, (Value.slice a6 n6 q6).ownBlock = some k → X4.heap.size ≤ k)) ∨ (g6 = 42 ∧ 160 < zs.length ∧ a6 = none ∧ n6 = 0 ∧ q6 = 0)) := (by rcases hc6 with ⟨h1, h2, h3, h4⟩ | h; exact .inl ⟨h1, h2, h3, fun k hk => Nat.le_trans HXc.out.drew.size (h4 k hk)⟩; exact .inr h)
        clear hb6 hc6
        go_simp
        refine hK.out _ _ ?_ (fun _hS => ?_)
        · exact HS.out _ HX6.out
        clear hK K
        try simp only [Act.put, List.setIfInBounds_toArray, List.set_cons_zero, List.set_cons_succ]
        refine wpAnyH_take (i := 10) (oi := { dst := some 94, op := Op.move (Operand.tmp 104), type := 36, pos := "law.go:200", after := #[{ on := 9, ground := Ground.data }], guard := none }) (v := ?v10x510) rfl (by kernel_rfl) (by kernel_rfl) (by kernel_rfl) (fun _ _ _ h => h) (Or.inl ⟨by rfl, ?hy10x510⟩) (by assumption) ?rest10x510
        case hy10x510 => (intro w hSw; (try dsimp only at hSw); (first | (go_simp; with_reducible rfl) | go_simp))
        try simp only [Act.put, List.setIfInBounds_toArray, List.set_cons_zero, List.set_cons_succ]
        refine wpAnyH_take (i := 11) (oi := { dst := some 105, op := Op.extract (Operand.tmp 94) 0, type := 22, pos := "law.go:200", after := #[{ on := 10, ground := Ground.data }], guard := none }) (v := ?v11x511) rfl (by kernel_rfl) (by kernel_rfl) (by kernel_rfl) (fun _ _ _ h => h) (Or.inl ⟨by rfl, ?hy11x511⟩) (by assumption) ?rest11x511
        case hy11x511 => (intro w hSw; (try dsimp only at hSw); (first | (go_simp; with_reducible rfl) | go_simp))
        try simp only [Act.put, List.setIfInBounds_toArray, List.set_cons_zero, List.set_cons_succ]
        refine wpAnyH_take (i := 12) (oi := { dst := some 106, op := Op.extract (Operand.tmp 94) 1, type := 26, pos := "law.go:200", after := #[{ on := 10, ground := Ground.data }, { on := 13, ground := Ground.gcOnly Departure.lateStores }], guard := none }) (v := ?v12x512) rfl (by kernel_rfl) (by kernel_rfl) (by kernel_rfl) (fun _ _ _ h => h) (Or.inl ⟨by rfl, ?hy12x512⟩) (by assumption) ?rest12x512
        case hy12x512 => (intro w hSw; (try dsimp only at hSw); (first | (go_simp; with_reducible rfl) | go_simp))
        try simp only [Act.put, List.setIfInBounds_toArray, List.set_cons_zero, List.set_cons_succ]
        refine wpAnyH_ready (rs := [13]) (by kernel_rfl) (by simp) ?_
        refine AllReadyH.cons (o := { dst := some 13, op := Op.assign (Operand.tmp 105), type := 22, pos := "law.go:200", after := #[{ on := 11, ground := Ground.data }, { on := 9, ground := Ground.chain }, { on := 0, ground := Ground.phase }, { on := 1, ground := Ground.phase }, { on := 2, ground := Ground.phase }, { on := 3, ground := Ground.phase }, { on := 4, ground := Ground.phase }, { on := 5, ground := Ground.phase }, { on := 6, ground := Ground.phase }, { on := 7, ground := Ground.phase }, { on := 8, ground := Ground.phase }, { on := 9, ground := Ground.phase }, { on := 10, ground := Ground.phase }, { on := 11, ground := Ground.phase }, { on := 12, ground := Ground.textOnly Departure.lateStores }], guard := none }) rfl (fun K hK => ?_) (AllReadyH.nil)
        go_simp
        refine hK.out _ _ ?_ (fun _hS => ?_)
        · exact HS.out _ HX6.out
        clear hK K
        try simp only [Act.put, List.setIfInBounds_toArray, List.set_cons_zero, List.set_cons_succ]
        refine wpAnyH_ready (rs := [14]) (by kernel_rfl) (by simp) ?_
        refine AllReadyH.cons (o := { dst := some 14, op := Op.assign (Operand.tmp 106), type := 26, pos := "law.go:200", after := #[{ on := 12, ground := Ground.data }, { on := 13, ground := Ground.chain }, { on := 0, ground := Ground.phase }, { on := 1, ground := Ground.phase }, { on := 2, ground := Ground.phase }, { on := 3, ground := Ground.phase }, { on := 4, ground := Ground.phase }, { on := 5, ground := Ground.phase }, { on := 6, ground := Ground.phase }, { on := 7, ground := Ground.phase }, { on := 8, ground := Ground.phase }, { on := 9, ground := Ground.phase }, { on := 10, ground := Ground.phase }, { on := 11, ground := Ground.phase }, { on := 12, ground := Ground.phase }, { on := 13, ground := Ground.phase }], guard := none }) rfl (fun K hK => ?_) (AllReadyH.nil)
        go_simp
        refine hK.out _ _ ?_ (fun _hS => ?_)
        · exact HS.out _ HX6.out
        clear hK K
        try simp only [Act.put, List.setIfInBounds_toArray, List.set_cons_zero, List.set_cons_succ]
        refine wpAnyH_done (by kernel_rfl) ?_ _
        refine NoPanic.normal ?_
        obtain ⟨y0, y1, y2, y3, y4, y5, y6, y7⟩ := HS.out _ HX6.out
        rcases HC6.out with ⟨rfl, rfl, hown6, hk6⟩ | ⟨rfl, h160, rfl, rfl, rfl⟩
        · have HSr := hide (src_row V6 ra rs.length rc rs rfl HNr.out (HRr.out V6 HX6.out))
          have hzy : zs.length + rs.length ≤ 140737488355328 := by have := HL.out; omega
          have HO6 := hide hown6
          have HN6 : Hid (∀ k, (Value.slice a6 zs.length q6).ownBlock = some k → X4.heap.size ≤ k) := (fun k hk => hk6 k hk)
          go_wp2_with (at_builtin; refine wpList_append_src (by rfl) (.tmp 107) (.tmp 108) 22 22 (by rfl) i0 Try.underlying22 hi hz0 hz1 hz2 (.slice a6 zs.length q6) zs (by rfl) HO6.out (.slice ra rs.length rc) rs.length rs (by rfl) HSr.out hzy ?_; intro v7 W7 hown7 hg7 hf7; have HO7 := hide hown7; have HF7 := hide (HF6.out.grown hg7 (fun k hk => Nat.le_trans Hx4.out (HN6.out k hk))); have HX7 := hide (HX6.out.grown hg7 HN6.out); clear hown7 hg7 hf7 y0 y1 y2 y3 y4 y5 y6 y7; obtain ⟨y0, y1, y2, y3, y4, y5, y6, y7⟩ := HS.out _ HX7.out; obtain ⟨a7, c7, rfl, hle7, _, _, hrow7, _⟩ := HO7.out.shape; rw [← HE.out] at hrow7; have HR7 := hide hrow7; clear hrow7 hle7; simp only [← HE.out])
          refine (HChk.out _ (H24.out.trans (HX7.out.below.mono H24.out.size))).mono ?_
          rintro e W8 ⟨rfl, hb8⟩
          have HF8 := hide (HF7.out.on hb8)
          have HX8 := hide (HX7.out.on hb8)
          have HR8 := hide (HR7.out.below hb8)
          clear hb8
          go_wp2_with fail
          refine (same_gen a7 ba ys.length ys.length c7 bc ys ys W8 rfl rfl hmil hmil HR8.out (HRow.out W8 HF8.out.below)).mono ?_
          rintro e W9 ⟨rfl, hb9⟩
          have HF9 := hide (HF8.out.on hb9)
          clear hb9
          have hss : sameB ys ys = true := by simp [sameB]
          rw [hss]
          go_wp2
          go_ret
          exact ⟨rfl, HF9.out.below⟩
        · have HSr := hide (src_row V6 ra rs.length rc rs rfl HNr.out (HRr.out V6 HX6.out))
          have hzy : ([] : List Int).length + rs.length ≤ 140737488355328 := by have := HL.out; simp; omega
          have HO6 := hide (Own.nil V6)
          have HN6 : Hid (∀ k, (Value.slice none 0 0).ownBlock = some k → X4.heap.size ≤ k) := (fun k hk => by cases hk)
          go_wp2_with (at_builtin; refine wpList_append_src (by rfl) (.tmp 107) (.tmp 108) 22 22 (by rfl) i0 Try.underlying22 hi hz0 hz1 hz2 (.slice none 0 0) [] (by rfl) HO6.out (.slice ra rs.length rc) rs.length rs (by rfl) HSr.out hzy ?_; intro v7 W7 hown7 hg7 hf7; have HO7 := hide hown7; have HF7 := hide (HF6.out.grown hg7 (fun k hk => Nat.le_trans Hx4.out (HN6.out k hk))); have HX7 := hide (HX6.out.grown hg7 HN6.out); clear hown7 hg7 hf7 y0 y1 y2 y3 y4 y5 y6 y7; obtain ⟨y0, y1, y2, y3, y4, y5, y6, y7⟩ := HS.out _ HX7.out; obtain ⟨a7, c7, rfl, hle7, _, _, hrow7, _⟩ := HO7.out.shape; clear hrow7 hle7)
          have hy160 : decide ((160 : Int) < (ys.length : Int)) = true := by have := HL.out; simp; omega
          refine (HChk.out _ (H24.out.trans (HX7.out.below.mono H24.out.size))).mono ?_
          rintro e W8 ⟨rfl, hb8⟩
          have HF8 := hide (HF7.out.on hb8)
          have HX8 := hide (HX7.out.on hb8)
          clear hb8
          go_wp2
          go_ret
          exact ⟨rfl, HF8.out.below⟩
    · have HF2 := hide (HF1.out.on hb2)
      have HF4 := hide (HF2.out.alloc (.cells #[.int .u8 0, .bool false, .int .i64 0, .string ⟨#[]⟩, .slice none 0 0, .slice none 0 0, .slice none 0 0] 32))
      have HB4 := hide (Box7.new W2 (.int .u8 0) (.bool false) (.int .i64 0) (.string ⟨#[]⟩) (.slice none 0 0) (.slice none 0 0) (.slice none 0 0))
      have H24 := hide (below_alloc W2 (.cells #[.int .u8 0, .bool false, .int .i64 0, .string ⟨#[]⟩, .slice none 0 0, .slice none 0 0, .slice none 0 0] 32))
      have H14 := hide (hb2.trans ((below_alloc W2 (.cells #[.int .u8 0, .bool false, .int .i64 0, .string ⟨#[]⟩, .slice none 0 0, .slice none 0 0, .slice none 0 0] 32)).mono hb2.size))
      clear hb2 HF1
      go_wp2_with fail
      generalize hX4 : W2.alloc (.cells #[.int .u8 0, .bool false, .int .i64 0, .string ⟨#[]⟩, .slice none 0 0, .slice none 0 0, .slice none 0 0] 32) = X4 at HF4 HB4 H24 H14 ⊢
      clear hX4
      generalize hxb : W2.heap.size = xb at HB4 ⊢
      have HX4 := hide (Fr.refl X4)
      have HS : Hid (∀ W, Fr X4.heap.size X4 W → W.cell? ⟨xb, 0, none⟩ = some (.int .u8 0) ∧ W.cell? ⟨xb, 1, none⟩ = some (.bool false) ∧ W.cell? ⟨xb, 2, none⟩ = some (.int .i64 0) ∧ W.cell? ⟨xb, 3, none⟩ = some (.string ⟨#[]⟩) ∧ W.cell? ⟨xb, 4, none⟩ = some (.slice none 0 0) ∧ W.cell? ⟨xb, 5, none⟩ = some (.slice none 0 0) ∧ W.cell? ⟨xb, 6, none⟩ = some (.slice none 0 0)) := fun W hW => (HB4.out.below hW.below).cells
      have Hx4 : Hid (w.heap.size ≤ X4.heap.size) := HF4.out.size
      refine (known_any _).mono ?_
      rintro e W3 ⟨rfl, hb3⟩
      have HF5 := hide (HF4.out.on hb3)
      have HX5 := hide (HX4.out.on hb3)
      clear hb3
      have hy0 : ys.length = 0 := Decidable.byContradiction fun h => hnq (HBg.out h)
      have HY0 := hide hy0
      clear hy0
      go_wp2_with fail
      refine (HEk.out _ (H14.out.trans (HX5.out.below.mono H14.out.size))).mono ?_
      rintro e W5 ⟨a5, c5, n5, g5, rfl, hb5, (⟨rfl, rfl, hr5⟩ | ⟨rfl, h160⟩)⟩
      · have HF6' := hide (HF5.out.on hb5)
        have HX6' := hide (HX5.out.on hb5)
        have HR5 := hide hr5
        clear hb5 hr5
        go_wp2_with fail
        refine (same_gen a5 ba ys.length ys.length c5 bc ys ys W5 rfl rfl hmil hmil HR5.out (HRow.out W5 HF6'.out.below)).mono ?_
        rintro e W5' ⟨rfl, hb6'⟩
        have HFc := hide (HF6'.out.on hb6')
        have HXc := hide (HX6'.out.on hb6')
        clear hb6' HF6' HX6' HR5 HF5 HX5
        have hss0 : sameB ys ys = true := by simp [sameB]
        rw [hss0]
        clear hss0
        obtain ⟨y0, y1, y2, y3, y4, y5, y6⟩ := HS.out _ HXc.out
        go_wp2_with fail
        refine (samev_leaf 0 0 ⟨#[]⟩ _).mono ?_
        rintro e W6 ⟨rfl, hb6⟩
        have HF6 := hide (HFc.out.on hb6)
        clear hb6
        have hyz : ((ys.length : Int) == 0) = true := by rw [HY0.out]; rfl
        go_wp2
        go_ret
        exact ⟨rfl, HF6.out.below⟩
      · rw [HY0.out] at h160
        exact absurd h160 (by decide)
  · have HF1 := hide (HF0.out.on hb1)
    clear hb1 HF0
    have g0 := HCell.out _ HF1.out.below
    go_wp2_with fail
    refine (HSpl.out W1 HF1.out.below).mono ?_
    rintro e W2 ⟨(⟨v, zs, rs, ra, rc, rfl, hE, hown, hone, hchk⟩ | ⟨rfl, hnq⟩), hb2⟩
    · cases v with
      | mk vk vbo vn vt vya vyc vy vla vlc vl vfa vfc vf =>
      simp only [T.val] at hone hchk ⊢
      have HF2 := hide (HF1.out.on hb2)
      have HF4 := hide (HF2.out.alloc (.cells #[.int .u8 vk, .bool vbo, .int .i64 vn, .string vt, .slice vya vy.length vyc, .slice vla vl.list.length vlc, .slice vfa vf.list.length vfc] 32))
      have HB4 := hide (Box7.new W2 (.int .u8 vk) (.bool vbo) (.int .i64 vn) (.string vt) (.slice vya vy.length vyc) (.slice vla vl.list.length vlc) (.slice vfa vf.list.length vfc))
      have H24 := hide (below_alloc W2 (.cells #[.int .u8 vk, .bool vbo, .int .i64 vn, .string vt, .slice vya vy.length vyc, .slice vla vl.list.length vlc, .slice vfa vf.list.length vfc] 32))
      have H14 := hide (hb2.trans ((below_alloc W2 (.cells #[.int .u8 vk, .bool vbo, .int .i64 vn, .string vt, .slice vya vy.length vyc, .slice vla vl.list.length vlc, .slice vfa vf.list.length vfc] 32)).mono hb2.size))
      have HOne := hide hone
      have HChk := hide hchk
      have hL := congrArg List.length hE
      have HE := hide hE
      rw [List.length_append] at hL
      have HL := hide hL
      have HNr := hide (own_n hown).2
      have HRr0 := hide hown.row
      have H2r := hide hb2
      clear hone hchk hown hE hL
      clear hb2 HF1
      go_wp2_with fail
      generalize hX4 : W2.alloc (.cells #[.int .u8 vk, .bool vbo, .int .i64 vn, .string vt, .slice vya vy.length vyc, .slice vla vl.list.length vlc, .slice vfa vf.list.length vfc] 32) = X4 at HF4 HB4 H24 H14 ⊢
      clear hX4
      generalize hxb : W2.heap.size = xb at HB4 ⊢
      have HX4 := hide (Fr.refl X4)
      have HRr : Hid (∀ W, Fr X4.heap.size X4 W → Row W ra rs) := fun W hW => HRr0.out.below (H24.out.trans (hW.below.mono H24.out.size))
      have HS : Hid (∀ W, Fr X4.heap.size X4 W → W.cell? ⟨xb, 0, none⟩ = some (.int .u8 vk) ∧ W.cell? ⟨xb, 1, none⟩ = some (.bool vbo) ∧ W.cell? ⟨xb, 2, none⟩ = some (.int .i64 vn) ∧ W.cell? ⟨xb, 3, none⟩ = some (.string vt) ∧ W.cell? ⟨xb, 4, none⟩ = some (.slice vya vy.length vyc) ∧ W.cell? ⟨xb, 5, none⟩ = some (.slice vla vl.list.length vlc) ∧ W.cell? ⟨xb, 6, none⟩ = some (.slice vfa vf.list.length vfc) ∧ W.cell? ⟨bd, od, none⟩ = some (.bool d)) := fun W hW => by
        obtain ⟨y0, y1, y2, y3, y4, y5, y6⟩ := (HB4.out.below hW.below).cells
        exact ⟨y0, y1, y2, y3, y4, y5, y6, HCell.out W (HF4.out.below.trans (hW.below.mono HF4.out.size))⟩
      have Hx4 : Hid (w.heap.size ≤ X4.heap.size) := HF4.out.size
      refine (known_any _).mono ?_
      rintro e W3 ⟨rfl, hb3⟩
      have HF5 := hide (HF4.out.on hb3)
      have HX5 := hide (HX4.out.on hb3)
      clear hb3
      have HFc := hide HF5.out
      have HXc := hide HX5.out
      clear HF5 HX5
      obtain ⟨y0, y1, y2, y3, y4, y5, y6, y7⟩ := HS.out _ HXc.out
      go_wp2_with fail
      refine wp_region_noPanic ?_
      refine wp_region_held_drew (S := (fun W => W.cell? ⟨xb, 0, none⟩ = some (.int .u8 vk) ∧ W.cell? ⟨xb, 1, none⟩ = some (.bool vbo) ∧ W.cell? ⟨xb, 2, none⟩ = some (.int .i64 vn) ∧ W.cell? ⟨xb, 3, none⟩ = some (.string vt) ∧ W.cell? ⟨xb, 4, none⟩ = some (.slice vya vy.length vyc) ∧ W.cell? ⟨xb, 5, none⟩ = some (.slice vla vl.list.length vlc) ∧ W.cell? ⟨xb, 6, none⟩ = some (.slice vfa vf.list.length vfc) ∧ W.cell? ⟨bd, od, none⟩ = some (.bool d))) (by kernel_rfl) (HS.out _ HXc.out.drew) (fun _hS => ?_)
      refine wpAnyH_take (i := 0) (oi := { dst := some 95, op := Op.load 32 (Operand.tmp 8), type := 32, pos := "law.go:200", after := #[], guard := none }) (v := ?v0x601) rfl (by kernel_rfl) (by kernel_rfl) (by kernel_rfl) (fun _ _ _ h => h) (Or.inl ⟨by rfl, ?hy0x601⟩) (by assumption) ?rest0x601
      case hy0x601 => (intro w hSw; (try dsimp only at hSw); (first | (go_simp; with_reducible rfl) | go_simp))
      try simp only [Act.put, List.setIfInBounds_toArray, List.set_cons_zero, List.set_cons_succ]
      refine wpAnyH_take (i := 1) (oi := { dst := some 96, op := Op.move (Operand.tmp 1), type := 23, pos := "law.go:200", after := #[], guard := none }) (v := ?v1x602) rfl (by kernel_rfl) (by kernel_rfl) (by kernel_rfl) (fun _ _ _ h => h) (Or.inl ⟨by rfl, ?hy1x602⟩) (by assumption) ?rest1x602
      case hy1x602 => (intro w hSw; (try dsimp only at hSw); (first | (go_simp; with_reducible rfl) | go_simp))
      try simp only [Act.put, List.setIfInBounds_toArray, List.set_cons_zero, List.set_cons_succ]
      refine wpAnyH_take (i := 2) (oi := { dst := some 97, op := Op.call { callee := Callee.builtin Builtin.len, args := #[Operand.tmp 96], argTypes := #[23] }, type := 3, pos := "law.go:200", after := #[{ on := 1, ground := Ground.data }], guard := none }) (v := ?v2x603) rfl (by kernel_rfl) (by kernel_rfl) (by kernel_rfl) (fun _ _ _ h => h) (Or.inl ⟨by rfl, ?hy2x603⟩) (by assumption) ?rest2x603
      case hy2x603 => (intro w hSw; (try dsimp only at hSw); (first | (go_simp; with_reducible rfl) | go_simp))
      try simp only [Act.put, List.setIfInBounds_toArray, List.set_cons_zero, List.set_cons_succ]
      refine wpAnyH_take (i := 3) (oi := { dst := some 98, op := Op.binOp BinOp.gtr 3 (Operand.tmp 97) (Operand.const (Value.int IntKind.i64 0)) 3, type := 4, pos := "law.go:200", after := #[{ on := 2, ground := Ground.data }], guard := none }) (v := ?v3x604) rfl (by kernel_rfl) (by kernel_rfl) (by kernel_rfl) (fun _ _ _ h => h) (Or.inl ⟨by rfl, ?hy3x604⟩) (by assumption) ?rest3x604
      case hy3x604 => (intro w hSw; (try dsimp only at hSw); (first | (go_simp; with_reducible rfl) | go_simp))
      try simp only [Act.put, List.setIfInBounds_toArray, List.set_cons_zero, List.set_cons_succ]
      refine wpAnyH_take (i := 4) (oi := { dst := some 99, op := Op.move (Operand.tmp 98), type := 4, pos := "law.go:200", after := #[{ on := 3, ground := Ground.data }], guard := none }) (v := ?v4x605) rfl (by kernel_rfl) (by kernel_rfl) (by kernel_rfl) (fun _ _ _ h => h) (Or.inl ⟨by rfl, ?hy4x605⟩) (by assumption) ?rest4x605
      case hy4x605 => (intro w hSw; (try dsimp only at hSw); (first | (go_simp; with_reducible rfl) | go_simp))
      try simp only [Act.put, List.setIfInBounds_toArray, List.set_cons_zero, List.set_cons_succ]
      refine wpAnyH_take (i := 5) (oi := { dst := some 100, op := Op.move (Operand.tmp 1), type := 23, pos := "law.go:200", after := #[{ on := 4, ground := Ground.guard }], guard := some (4, true) }) (v := ?v5x606) rfl (by kernel_rfl) (by kernel_rfl) (by kernel_rfl) (fun _ _ _ h => h) (Or.inl ⟨by rfl, ?hy5x606⟩) (by assumption) ?rest5x606
      case hy5x606 => (intro w hSw; (try dsimp only at hSw); (first | (go_simp; with_reducible rfl) | go_simp))
      try simp only [Act.put, List.setIfInBounds_toArray, List.set_cons_zero, List.set_cons_succ]
      refine wpAnyH_take (i := 6) (oi := { dst := some 101, op := Op.indexAddr 23 (Operand.tmp 100) (Operand.const (Value.int IntKind.i64 0)), type := 0, pos := "law.go:200", after := #[{ on := 5, ground := Ground.data }, { on := 4, ground := Ground.guard }], guard := some (4, true) }) (v := ?v6x607) rfl (by kernel_rfl) (by kernel_rfl) (by kernel_rfl) (fun _ _ _ h => h) (Or.inl ⟨by rfl, ?hy6x607⟩) (by assumption) ?rest6x607
      case hy6x607 => (intro w hSw; (try dsimp only at hSw); (first | (go_simp; with_reducible rfl) | go_simp))
      try simp only [Act.put, List.setIfInBounds_toArray, List.set_cons_zero, List.set_cons_succ]
      refine wpAnyH_take (i := 7) (oi := { dst := some 102, op := Op.load 4 (Operand.tmp 101), type := 4, pos := "law.go:200", after := #[{ on := 6, ground := Ground.data }, { on := 4, ground := Ground.guard }], guard := some (4, true) }) (v := ?v7x608) rfl (by kernel_rfl) (by kernel_rfl) (by kernel_rfl) (fun _ _ _ h => h) (Or.inl ⟨by rfl, ?hy7x608⟩) (by assumption) ?rest7x608
      case hy7x608 => (intro w hSw; (try dsimp only at hSw); (first | (go_simp; with_reducible rfl) | go_simp))
      try simp only [Act.put, List.setIfInBounds_toArray, List.set_cons_zero, List.set_cons_succ]
      refine wpAnyH_take (i := 8) (oi := { dst := some 103, op := Op.pick (Operand.tmp 99) (Operand.tmp 102) (Operand.const (Value.bool false)), type := 4, pos := "law.go:200", after := #[{ on := 4, ground := Ground.data }, { on := 7, ground := Ground.data }], guard := none }) (v := ?v8x609) rfl (by kernel_rfl) (by kernel_rfl) (by kernel_rfl) (fun _ _ _ h => h) (Or.inl ⟨by rfl, ?hy8x609⟩) (by assumption) ?rest8x609
      case hy8x609 => (intro w hSw; (try dsimp only at hSw); (first | (go_simp; with_reducible rfl) | go_simp))
      try simp only [Act.put, List.setIfInBounds_toArray, List.set_cons_zero, List.set_cons_succ]
      refine wpAnyH_ready (rs := [9]) (by kernel_rfl) (by simp) ?_
      refine AllReadyH.cons (o := { dst := some 104, op := Op.call { callee := Callee.value (Operand.func 12), args := #[Operand.tmp 95, Operand.tmp 103], argTypes := #[32, 4] }, type := 36, pos := "law.go:200", after := #[{ on := 0, ground := Ground.data }, { on := 8, ground := Ground.data }, { on := 4, ground := Ground.chain }], guard := none }) rfl (fun K hK => ?_) (AllReadyH.nil)
      go_simp
      go_at_call 12
      refine (HOne.out _ (H24.out.trans (HXc.out.drew.below.mono H24.out.size))).mono ?_
      rintro e V6 ⟨a6, n6, q6, g6, rfl, hb6, hc6⟩
      have HF6 := hide (HFc.out.drew.on hb6)
      have HX6 := hide (HXc.out.drew.on hb6)
      have HC6 : Hid ((g6 = 0 ∧ n6 = zs.length ∧ Own V6 (.slice a6 n6 q6) zs ∧ (∀ k, (Value.slice a6 n6 q6).ownBlock = some k → X4.heap.size ≤ k)) ∨ (g6 = 42 ∧ 160 < zs.length ∧ a6 = none ∧ n6 = 0 ∧ q6 = 0)) := (by rcases hc6 with ⟨h1, h2, h3, h4⟩ | h; exact .inl ⟨h1, h2, h3, fun k hk => Nat.le_trans HXc.out.drew.size (h4 k hk)⟩; exact .inr h)
      clear hb6 hc6
      go_simp
      refine hK.out _ _ ?_ (fun _hS => ?_)
      · exact HS.out _ HX6.out
      clear hK K
      try simp only [Act.put, List.setIfInBounds_toArray, List.set_cons_zero, List.set_cons_succ]
      refine wpAnyH_take (i := 10) (oi := { dst := some 94, op := Op.move (Operand.tmp 104), type := 36, pos := "law.go:200", after := #[{ on := 9, ground := Ground.data }], guard := none }) (v := ?v10x610) rfl (by kernel_rfl) (by kernel_rfl) (by kernel_rfl) (fun _ _ _ h => h) (Or.inl ⟨by rfl, ?hy10x610⟩) (by assumption) ?rest10x610
      case hy10x610 => (intro w hSw; (try dsimp only at hSw); (first | (go_simp; with_reducible rfl) | go_simp))
      try simp only [Act.put, List.setIfInBounds_toArray, List.set_cons_zero, List.set_cons_succ]
      refine wpAnyH_take (i := 11) (oi := { dst := some 105, op := Op.extract (Operand.tmp 94) 0, type := 22, pos := "law.go:200", after := #[{ on := 10, ground := Ground.data }], guard := none }) (v := ?v11x611) rfl (by kernel_rfl) (by kernel_rfl) (by kernel_rfl) (fun _ _ _ h => h) (Or.inl ⟨by rfl, ?hy11x611⟩) (by assumption) ?rest11x611
      case hy11x611 => (intro w hSw; (try dsimp only at hSw); (first | (go_simp; with_reducible rfl) | go_simp))
      try simp only [Act.put, List.setIfInBounds_toArray, List.set_cons_zero, List.set_cons_succ]
      refine wpAnyH_take (i := 12) (oi := { dst := some 106, op := Op.extract (Operand.tmp 94) 1, type := 26, pos := "law.go:200", after := #[{ on := 10, ground := Ground.data }, { on := 13, ground := Ground.gcOnly Departure.lateStores }], guard := none }) (v := ?v12x612) rfl (by kernel_rfl) (by kernel_rfl) (by kernel_rfl) (fun _ _ _ h => h) (Or.inl ⟨by rfl, ?hy12x612⟩) (by assumption) ?rest12x612
      case hy12x612 => (intro w hSw; (try dsimp only at hSw); (first | (go_simp; with_reducible rfl) | go_simp))
      try simp only [Act.put, List.setIfInBounds_toArray, List.set_cons_zero, List.set_cons_succ]
      refine wpAnyH_ready (rs := [13]) (by kernel_rfl) (by simp) ?_
      refine AllReadyH.cons (o := { dst := some 13, op := Op.assign (Operand.tmp 105), type := 22, pos := "law.go:200", after := #[{ on := 11, ground := Ground.data }, { on := 9, ground := Ground.chain }, { on := 0, ground := Ground.phase }, { on := 1, ground := Ground.phase }, { on := 2, ground := Ground.phase }, { on := 3, ground := Ground.phase }, { on := 4, ground := Ground.phase }, { on := 5, ground := Ground.phase }, { on := 6, ground := Ground.phase }, { on := 7, ground := Ground.phase }, { on := 8, ground := Ground.phase }, { on := 9, ground := Ground.phase }, { on := 10, ground := Ground.phase }, { on := 11, ground := Ground.phase }, { on := 12, ground := Ground.textOnly Departure.lateStores }], guard := none }) rfl (fun K hK => ?_) (AllReadyH.nil)
      go_simp
      refine hK.out _ _ ?_ (fun _hS => ?_)
      · exact HS.out _ HX6.out
      clear hK K
      try simp only [Act.put, List.setIfInBounds_toArray, List.set_cons_zero, List.set_cons_succ]
      refine wpAnyH_ready (rs := [14]) (by kernel_rfl) (by simp) ?_
      refine AllReadyH.cons (o := { dst := some 14, op := Op.assign (Operand.tmp 106), type := 26, pos := "law.go:200", after := #[{ on := 12, ground := Ground.data }, { on := 13, ground := Ground.chain }, { on := 0, ground := Ground.phase }, { on := 1, ground := Ground.phase }, { on := 2, ground := Ground.phase }, { on := 3, ground := Ground.phase }, { on := 4, ground := Ground.phase }, { on := 5, ground := Ground.phase }, { on := 6, ground := Ground.phase }, { on := 7, ground := Ground.phase }, { on := 8, ground := Ground.phase }, { on := 9, ground := Ground.phase }, { on := 10, ground := Ground.phase }, { on := 11, ground := Ground.phase }, { on := 12, ground := Ground.phase }, { on := 13, ground := Ground.phase }], guard := none }) rfl (fun K hK => ?_) (AllReadyH.nil)
      go_simp
      refine hK.out _ _ ?_ (fun _hS => ?_)
      · exact HS.out _ HX6.out
      clear hK K
      try simp only [Act.put, List.setIfInBounds_toArray, List.set_cons_zero, List.set_cons_succ]
      refine wpAnyH_done (by kernel_rfl) ?_ _
      refine NoPanic.normal ?_
      obtain ⟨y0, y1, y2, y3, y4, y5, y6, y7⟩ := HS.out _ HX6.out
      rcases HC6.out with ⟨rfl, rfl, hown6, hk6⟩ | ⟨rfl, h160, rfl, rfl, rfl⟩
      · have HSr := hide (src_row V6 ra rs.length rc rs rfl HNr.out (HRr.out V6 HX6.out))
        have hzy : zs.length + rs.length ≤ 140737488355328 := by have := HL.out; omega
        have HO6 := hide hown6
        have HN6 : Hid (∀ k, (Value.slice a6 zs.length q6).ownBlock = some k → X4.heap.size ≤ k) := (fun k hk => hk6 k hk)
        go_wp2_with (at_builtin; refine wpList_append_src (by rfl) (.tmp 107) (.tmp 108) 22 22 (by rfl) i0 Try.underlying22 hi hz0 hz1 hz2 (.slice a6 zs.length q6) zs (by rfl) HO6.out (.slice ra rs.length rc) rs.length rs (by rfl) HSr.out hzy ?_; intro v7 W7 hown7 hg7 hf7; have HO7 := hide hown7; have HF7 := hide (HF6.out.grown hg7 (fun k hk => Nat.le_trans Hx4.out (HN6.out k hk))); have HX7 := hide (HX6.out.grown hg7 HN6.out); clear hown7 hg7 hf7 y0 y1 y2 y3 y4 y5 y6 y7; obtain ⟨y0, y1, y2, y3, y4, y5, y6, y7⟩ := HS.out _ HX7.out; obtain ⟨a7, c7, rfl, hle7, _, _, hrow7, _⟩ := HO7.out.shape; rw [← HE.out] at hrow7; have HR7 := hide hrow7; clear hrow7 hle7; simp only [← HE.out])
        refine (HChk.out _ (H24.out.trans (HX7.out.below.mono H24.out.size))).mono ?_
        rintro e W8 ⟨rfl, hb8⟩
        have HF8 := hide (HF7.out.on hb8)
        have HX8 := hide (HX7.out.on hb8)
        have HR8 := hide (HR7.out.below hb8)
        clear hb8
        go_wp2_with fail
        refine (same_gen a7 ba ys.length ys.length c7 bc ys ys W8 rfl rfl hmil hmil HR8.out (HRow.out W8 HF8.out.below)).mono ?_
        rintro e W9 ⟨rfl, hb9⟩
        have HF9 := hide (HF8.out.on hb9)
        clear hb9
        have hss : sameB ys ys = true := by simp [sameB]
        rw [hss]
        go_wp2
        go_ret
        exact ⟨rfl, HF9.out.below⟩
      · have HSr := hide (src_row V6 ra rs.length rc rs rfl HNr.out (HRr.out V6 HX6.out))
        have hzy : ([] : List Int).length + rs.length ≤ 140737488355328 := by have := HL.out; simp; omega
        have HO6 := hide (Own.nil V6)
        have HN6 : Hid (∀ k, (Value.slice none 0 0).ownBlock = some k → X4.heap.size ≤ k) := (fun k hk => by cases hk)
        go_wp2_with (at_builtin; refine wpList_append_src (by rfl) (.tmp 107) (.tmp 108) 22 22 (by rfl) i0 Try.underlying22 hi hz0 hz1 hz2 (.slice none 0 0) [] (by rfl) HO6.out (.slice ra rs.length rc) rs.length rs (by rfl) HSr.out hzy ?_; intro v7 W7 hown7 hg7 hf7; have HO7 := hide hown7; have HF7 := hide (HF6.out.grown hg7 (fun k hk => Nat.le_trans Hx4.out (HN6.out k hk))); have HX7 := hide (HX6.out.grown hg7 HN6.out); clear hown7 hg7 hf7 y0 y1 y2 y3 y4 y5 y6 y7; obtain ⟨y0, y1, y2, y3, y4, y5, y6, y7⟩ := HS.out _ HX7.out; obtain ⟨a7, c7, rfl, hle7, _, _, hrow7, _⟩ := HO7.out.shape; clear hrow7 hle7)
        have hy160 : decide ((160 : Int) < (ys.length : Int)) = true := by have := HL.out; simp; omega
        refine (HChk.out _ (H24.out.trans (HX7.out.below.mono H24.out.size))).mono ?_
        rintro e W8 ⟨rfl, hb8⟩
        have HF8 := hide (HF7.out.on hb8)
        have HX8 := hide (HX7.out.on hb8)
        clear hb8
        go_wp2
        go_ret
        exact ⟨rfl, HF8.out.below⟩
    · have HF2 := hide (HF1.out.on hb2)
      have HF4 := hide (HF2.out.alloc (.cells #[.int .u8 0, .bool false, .int .i64 0, .string ⟨#[]⟩, .slice none 0 0, .slice none 0 0, .slice none 0 0] 32))
      have HB4 := hide (Box7.new W2 (.int .u8 0) (.bool false) (.int .i64 0) (.string ⟨#[]⟩) (.slice none 0 0) (.slice none 0 0) (.slice none 0 0))
      have H24 := hide (below_alloc W2 (.cells #[.int .u8 0, .bool false, .int .i64 0, .string ⟨#[]⟩, .slice none 0 0, .slice none 0 0, .slice none 0 0] 32))
      have H14 := hide (hb2.trans ((below_alloc W2 (.cells #[.int .u8 0, .bool false, .int .i64 0, .string ⟨#[]⟩, .slice none 0 0, .slice none 0 0, .slice none 0 0] 32)).mono hb2.size))
      clear hb2 HF1
      go_wp2_with fail
      generalize hX4 : W2.alloc (.cells #[.int .u8 0, .bool false, .int .i64 0, .string ⟨#[]⟩, .slice none 0 0, .slice none 0 0, .slice none 0 0] 32) = X4 at HF4 HB4 H24 H14 ⊢
      clear hX4
      generalize hxb : W2.heap.size = xb at HB4 ⊢
      have HX4 := hide (Fr.refl X4)
      have HS : Hid (∀ W, Fr X4.heap.size X4 W → W.cell? ⟨xb, 0, none⟩ = some (.int .u8 0) ∧ W.cell? ⟨xb, 1, none⟩ = some (.bool false) ∧ W.cell? ⟨xb, 2, none⟩ = some (.int .i64 0) ∧ W.cell? ⟨xb, 3, none⟩ = some (.string ⟨#[]⟩) ∧ W.cell? ⟨xb, 4, none⟩ = some (.slice none 0 0) ∧ W.cell? ⟨xb, 5, none⟩ = some (.slice none 0 0) ∧ W.cell? ⟨xb, 6, none⟩ = some (.slice none 0 0)) := fun W hW => (HB4.out.below hW.below).cells
      have Hx4 : Hid (w.heap.size ≤ X4.heap.size) := HF4.out.size
      refine (known_any _).mono ?_
      rintro e W3 ⟨rfl, hb3⟩
      have HF5 := hide (HF4.out.on hb3)
      have HX5 := hide (HX4.out.on hb3)
      clear hb3
      have HFc := hide HF5.out
      have HXc := hide HX5.out
      clear HF5 HX5
      obtain ⟨y0, y1, y2, y3, y4, y5, y6⟩ := HS.out _ HXc.out
      go_wp2_with fail
      refine (samev_leaf 0 0 ⟨#[]⟩ _).mono ?_
      rintro e W6 ⟨rfl, hb6⟩
      have HF6 := hide (HFc.out.on hb6)
      clear hb6
      go_wp2
      go_ret
      exact ⟨rfl, HF6.out.below⟩
end Go.Proofs.Ytegoeaofjnpehab
