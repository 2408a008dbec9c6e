/- Back, with nothing to undo. -/
import Derived.Test.YtgohhlngnnmknaaE
import Derived.Test.YtgohhlngnnmknaaBE
import Derived.Test.YtgohhlngnnmknaaIH
namespace Go.Proofs.Ytgohhlngnnmknaa
open Go.RowKit Go.Maps Go.Shelf
attribute [local go_sem] Oper.semAt_some
set_option linter.unusedVariables false
abbrev zobfx1 : Oper := { dst := some 26, op := Op.move (Operand.tmp 0), type := 25, pos := "mark.go:20", after := #[], guard := none }
abbrev zobfx2 : Oper := { dst := some 27, op := Op.move (Operand.tmp 0), type := 25, pos := "mark.go:20", after := #[], guard := none }
abbrev zobfx3 : Oper := { dst := some 28, op := Op.nilCheck (Operand.tmp 27), type := 0, pos := "mark.go:20", after := #[{ on := 1, ground := Ground.data }], guard := none }
abbrev zobfx4 : Oper := { dst := some 29, op := Op.fieldAddr 69 (Operand.tmp 28) 1, type := 0, pos := "mark.go:20", after := #[{ on := 2, ground := Ground.data }], guard := none }
abbrev zobfx5 : Oper := { dst := some 31, op := Op.move (Operand.tmp 1), type := 3, pos := "mark.go:20", after := #[], guard := none }
abbrev zobfx6 : Oper := { dst := some 32, op := Op.move (Operand.tmp 0), type := 25, pos := "mark.go:20", after := #[], guard := none }
abbrev zobfx7 : Oper := { dst := some 33, op := Op.nilCheck (Operand.tmp 32), type := 0, pos := "mark.go:20", after := #[{ on := 6, ground := Ground.data }], guard := none }
abbrev zobfx8 : Oper := { dst := some 34, op := Op.fieldAddr 69 (Operand.tmp 33) 1, type := 0, pos := "mark.go:20", after := #[{ on := 7, ground := Ground.data }], guard := none }
abbrev zobfx9 : Oper := { dst := some 30, op := Op.load 67 (Operand.tmp 29), type := 67, pos := "mark.go:20", after := #[{ on := 3, ground := Ground.data }], guard := none }
abbrev zobfx10 : Oper := { dst := some 35, op := Op.load 67 (Operand.tmp 34), type := 67, pos := "mark.go:20", after := #[{ on := 8, ground := Ground.data }], guard := none }
abbrev zobfx11 : Oper := { dst := some 36, op := Op.call { callee := Callee.builtin Builtin.len, args := #[Operand.tmp 35], argTypes := #[67] }, type := 3, pos := "mark.go:20", after := #[{ on := 9, ground := Ground.data }], guard := none }
abbrev zobfx12 : Oper := { dst := some 37, op := Op.call { callee := Callee.value (Operand.func 81), args := #[Operand.tmp 30, Operand.tmp 31, Operand.tmp 36], argTypes := #[67, 3, 3] }, type := 67, pos := "mark.go:20", after := #[{ on := 4, ground := Ground.data }, { on := 5, ground := Ground.data }, { on := 10, ground := Ground.data }], guard := none }
abbrev zobfx13 : Oper := { dst := some 38, op := Op.nilCheck (Operand.tmp 26), type := 0, pos := "mark.go:20", after := #[{ on := 0, ground := Ground.data }, { on := 0, ground := Ground.phase }, { on := 1, ground := Ground.phase }, { on := 2, ground := Ground.phase }, { on := 3, ground := Ground.phase }, { on := 4, ground := Ground.phase }, { on := 5, ground := Ground.phase }, { on := 6, ground := Ground.phase }, { on := 7, ground := Ground.phase }, { on := 8, ground := Ground.phase }, { on := 9, ground := Ground.phase }, { on := 10, ground := Ground.phase }, { on := 11, ground := Ground.phase }], guard := none }
abbrev zobfx14 : Oper := { dst := some 39, op := Op.fieldAddr 69 (Operand.tmp 38) 1, type := 0, pos := "mark.go:20", after := #[{ on := 12, ground := Ground.data }, { on := 0, ground := Ground.phase }, { on := 1, ground := Ground.phase }, { on := 2, ground := Ground.phase }, { on := 3, ground := Ground.phase }, { on := 4, ground := Ground.phase }, { on := 5, ground := Ground.phase }, { on := 6, ground := Ground.phase }, { on := 7, ground := Ground.phase }, { on := 8, ground := Ground.phase }, { on := 9, ground := Ground.phase }, { on := 10, ground := Ground.phase }, { on := 11, ground := Ground.phase }], guard := none }
abbrev zobfx15 : Oper := { dst := none, op := Op.store 67 (Operand.tmp 39) (Operand.tmp 37), type := 0, pos := "mark.go:20", after := #[{ on := 13, ground := Ground.data }, { on := 11, ground := Ground.data }, { on := 11, ground := Ground.chain }, { on := 0, ground := Ground.phase }, { on := 1, ground := Ground.phase }, { on := 2, ground := Ground.phase }, { on := 3, ground := Ground.phase }, { on := 4, ground := Ground.phase }, { on := 5, ground := Ground.phase }, { on := 6, ground := Ground.phase }, { on := 7, ground := Ground.phase }, { on := 8, ground := Ground.phase }, { on := 9, ground := Ground.phase }, { on := 10, ground := Ground.phase }, { on := 11, ground := Ground.phase }], guard := none }
set_option maxHeartbeats 3200000 in
set_option maxRecDepth 1000000 in
theorem back_eq {w : World} {p B n : Nat} {sv uv : Value} {xs : List En} {us : List Value} {hh : List (List En)} (h : Bh w p B sv uv xs us hh) (hM : Calls Try.prog 21 #[.pointer (some ⟨p, 0, none⟩)] w fun e w' => e = .returned (.int .i64 (n : Int)) ∧ w' = w) (hu : us.length = n) (hn : n ≤ 900000) :
    Calls Try.prog 33 #[.pointer (some ⟨p, 0, none⟩), .int .i64 (n : Int)] w fun e w' => e = .returned (.int .u16 0) ∧ ∃ uv', Bf w' p B sv uv' xs us ∧ uv'.ownBlock = uv.ownBlock ∧ Mv (Bo p sv uv) w w' := by
  have hund := h.bf.undo
  rw [hu] at hund
  obtain ⟨a, c, rfl, h1, h2, h3, h4⟩ := row_shape hund
  clear hund
  have c1 : ¬ ((n : Int) < 0) := by omega
  have c3 : (0 : Int) ≤ (n : Int) := by omega
  obtain ⟨s0, s1, f0⟩ := cells_two h.bf.blk
  have HM := hide hM
  have HH := hide h
  clear h hM
  rcases h4 with rfl | ⟨g, rfl⟩
  · obtain ⟨rfl, rfl⟩ := h3 rfl
    clear h3
    refine (callsIn_wide (n := 9)).1 ?_
    refine callsIn_of_wp_marks Try.func33 rfl trivial ?_ rfl
    simp only [Try.ntmps33, List.size_toArray, List.length_cons, List.length_nil, Nat.reduceAdd, Nat.reduceSub, Array.replicate_succ, Array.replicate_zero, List.push_toArray, List.append_toArray, List.nil_append, List.cons_append]
    gi_wp2_with fail
    refine ⟨trivial, (callsIn_wide.2 HM.out).mono ?_⟩
    rintro e w2 ⟨rfl, rfl⟩
    gi_wp2_with (first | (refine ⟨trivial, (callsIn_wide.2 (backward_any _ _ _ _)).mono ?_⟩; rintro e w2 ⟨rfl, rfl⟩))
    have hb1 := below_alloc w2 (.cells #[.slice (none) 0 (0)] 67)
    have hbox := heap_alloc_new w2 (.cells #[.slice (none) 0 (0)] 67)
    have hs1 : (w2.alloc (.cells #[.slice (none) 0 (0)] 67)).heap.size = w2.heap.size + 1 := by simp
    generalize w2.alloc (.cells #[.slice (none) 0 (0)] 67) = W1 at *
    have hH1 := HH.out.below hb1
    have HB1 := hide hb1
    have HBx := hide hbox
    have HS1 := hide hs1
    have HH1 := hide hH1
    have HU := hide hu
    clear hb1 hbox hs1 hH1 hu s0 s1 f0 HM
    refine range_genS (gf := 93) (lb := #[.pointer (some ⟨w2.heap.size, 0, none⟩)]) rfl (enters_of Try.func93 (by kernel_rfl) rfl)
      (back_goes w2.heap.size (none) 0 (0) [] rfl (by omega) (by omega)) (fun _ => rfl)
      (fun pre V => pre = [] ∧ Mv (Lp W1.heap.size) W1 V) (fun _ _ => False)
      (fun _ _ _ h hb => ⟨h.1, h.2.trans' hb⟩) (fun _ _ _ h _ => h) ⟨rfl, Mv.refl _ _⟩ ?mb
      (fun _ _ _ => True) (fun _ _ _ _ _ _ h _ => h) ?assign ?body ?done ?stop
    case mb =>
      rintro pre V ⟨rfl, hmv⟩
      exact ⟨(hmv.block _ (by have := HS1.out; omega) (fun e => by unfold Lp at e; have := HS1.out; omega)).trans HBx.out, .inl rfl⟩
    case assign =>
      intro l pre x V K hlt hi hK
      gi_wp2
      exact hK _ _ hi (Kl.refl _ _) trivial
    case stop => exact fun _ _ _ _ h => h.elim
    case body =>
      rintro l pre x rest a'' V hx
      simp at hx
    case done =>
      rintro D V hD hI hK
      have hm0 := hI.2
      have st0 : ∀ k, k < W1.heap.size → V.heap[k]? = W1.heap[k]? := fun k hk => hm0.block k hk (fun e => by unfold Lp at e; omega)
      have hbf : Bf V p B sv (Value.slice none 0 0) xs us := HH1.out.bf.of_block fun k hk => st0 k (hk.elim HH1.out.bf.lt fun ⟨x, hx, hh'⟩ => (HH1.out.bf.each x hx).lt hh')
      have hmv : Mv (Bo p sv (Value.slice none 0 0)) W1 V := ⟨hm0.os, hm0.tape, hm0.output, hm0.size, fun k hk _ => st0 k hk⟩
      have hund := hbf.undo
      rw [HU.out] at hund
      have HDl : Hid (Calls Try.prog 81 #[Value.slice none 0 0, .int .i64 0, .int .i64 0] V.drew fun e w' => ∃ v', e = .returned v' ∧ w'.ownsRow B 1 1 v' (0) (us.take (0)) ∧ V.drew.grownBy w' (Value.slice none 0 0).ownBlock ∧ v'.ownBlock = (Value.slice none 0 0).ownBlock) := hide (deletef_any (Value.slice none 0 0) (0) (0) B us V.drew (Nat.le_refl _) (by omega) hund)
      have HS3 : Hid (∀ w3, V.drew.grownBy w3 (Value.slice none 0 0).ownBlock → w3.heap[p]? = some (.cells #[sv, Value.slice none 0 0] 69 (0, 0))) := hide (fun w3 hg => (hg.block p (lt_of_block hbf.blk) (fun e => hbf.une e.symm)).trans hbf.blk)
      have HE : Hid (∀ v' w3, w3.ownsRow B 1 1 v' (0) (us.take (0)) → V.drew.grownBy w3 (Value.slice none 0 0).ownBlock → v'.ownBlock = (Value.slice none 0 0).ownBlock → (w3.setCell ⟨p, 1, none⟩ v').heap[D]? = some (.deferred (some [])) ∧
          ∃ uv', Bf ((w3.setCell ⟨p, 1, none⟩ v').putObj D (.deferred none)) p B sv uv' xs us ∧ uv'.ownBlock = (Value.slice none 0 0).ownBlock ∧ Mv (Bo p sv (Value.slice none 0 0)) w2 ((w3.setCell ⟨p, 1, none⟩ v').putObj D (.deferred none))) := hide (fun v' w3 ho3 hg hl3 => by
        have htl : us.take (0) = us := List.take_of_length_le (by rw [HU.out]; omega)
        rw [htl] at ho3
        obtain ⟨hb4, hgo⟩ := undo_turned (us' := us) hbf (Below.refl V.heap.size V).drew hg (by rw [HU.out]; exact ho3) (.inl hl3)
        have hnot : ¬ Bo p sv (Value.slice none 0 0) D := fun e => by
          have := HH.out.bf.lt e
          have := HS1.out
          omega
        have hDV : (w3.setCell ⟨p, 1, none⟩ v').heap[D]? = some (.deferred (some [])) := (hgo.mv.block D (lt_of_block hK) hnot).trans hK
        have hm4 : Mv (Bo p sv (Value.slice none 0 0)) W1 (w3.setCell ⟨p, 1, none⟩ v') := hmv.trans' hgo.mv
        have st : ∀ k, k < W1.heap.size → ((w3.setCell ⟨p, 1, none⟩ v').putObj D (.deferred none)).heap[k]? = (w3.setCell ⟨p, 1, none⟩ v').heap[k]? := fun k hk => World.putObj_heap_other (by omega)
        refine ⟨hDV, v', hb4.of_block fun k hk => st k ?_, hl3, ?_⟩
        · rcases hk with hk | ⟨x, hx, hk⟩
          · have hk2 : Bo p sv (Value.slice none 0 0) k := by
              rcases hk with hk | hk | hk
              · exact .inl hk
              · exact .inr (.inl hk)
              · exact .inr (.inr (by rw [hl3] at hk; exact hk))
            have := HH.out.bf.lt hk2
            have := HS1.out
            omega
          · exact (HH1.out.bf.each x hx).lt hk
        · have h5 : Mv (Bo p sv (Value.slice none 0 0)) W1 ((w3.setCell ⟨p, 1, none⟩ v').putObj D (.deferred none)) := ⟨hm4.os, hm4.tape, hm4.output, by simpa [World.putObj] using hm4.size, fun k hk hn => (st k hk).trans (hm4.block k hk hn)⟩
          exact (Mv.of_below HB1.out).trans' h5)
      obtain ⟨s0, s1, f0⟩ := cells_two hbf.blk
      clear hD hI hm0 st0 hund hbf hmv hK HBx HH1
      gi_wp2_with fail
      refine wpIn_wide.2 ?_
      refine wp_region_noPanic ?_
      refine wp_region_held_drew (S := (fun W => True)) (by kernel_rfl) trivial (fun _hS => ?_)
      refine wtk (i := 0) (oi := zobfx1) (v := ?v0x2001) rfl ⟨by rfl, ?hy0x2001⟩ (by assumption) ?_
      case hy0x2001 => (intro w s; (try dsimp only at s); first | (go_simp; with_reducible rfl) | go_simp)
      try simp only [Act.put, zps]
      refine wtk (i := 1) (oi := zobfx2) (v := ?v1x2002) rfl ⟨by rfl, ?hy1x2002⟩ (by assumption) ?_
      case hy1x2002 => (intro w s; (try dsimp only at s); first | (go_simp; with_reducible rfl) | go_simp)
      try simp only [Act.put, zps]
      refine wtk (i := 2) (oi := zobfx3) (v := ?v2x2003) rfl ⟨by rfl, ?hy2x2003⟩ (by assumption) ?_
      case hy2x2003 => (intro w s; (try dsimp only at s); first | (go_simp; with_reducible rfl) | go_simp)
      try simp only [Act.put, zps]
      refine wtk (i := 3) (oi := zobfx4) (v := ?v3x2004) rfl ⟨by rfl, ?hy3x2004⟩ (by assumption) ?_
      case hy3x2004 => (intro w s; (try dsimp only at s); first | (go_simp; with_reducible rfl) | go_simp)
      try simp only [Act.put, zps]
      refine wtk (i := 5) (oi := zobfx5) (v := ?v5x2005) rfl ⟨by rfl, ?hy5x2005⟩ (by assumption) ?_
      case hy5x2005 => (intro w s; (try dsimp only at s); first | (go_simp; with_reducible rfl) | go_simp)
      try simp only [Act.put, zps]
      refine wtk (i := 6) (oi := zobfx6) (v := ?v6x2006) rfl ⟨by rfl, ?hy6x2006⟩ (by assumption) ?_
      case hy6x2006 => (intro w s; (try dsimp only at s); first | (go_simp; with_reducible rfl) | go_simp)
      try simp only [Act.put, zps]
      refine wtk (i := 7) (oi := zobfx7) (v := ?v7x2007) rfl ⟨by rfl, ?hy7x2007⟩ (by assumption) ?_
      case hy7x2007 => (intro w s; (try dsimp only at s); first | (go_simp; with_reducible rfl) | go_simp)
      try simp only [Act.put, zps]
      refine wtk (i := 8) (oi := zobfx8) (v := ?v8x2008) rfl ⟨by rfl, ?hy8x2008⟩ (by assumption) ?_
      case hy8x2008 => (intro w s; (try dsimp only at s); first | (go_simp; with_reducible rfl) | go_simp)
      try simp only [Act.put, zps]
      refine wpAnyH_ready (rs := [4, 9]) (by kernel_rfl) (by simp) ?_
      refine AllReadyH.cons (o := zobfx9) rfl (fun K hK => ?_) (AllReadyH.cons (o := zobfx10) rfl (fun K hK => ?_) (AllReadyH.nil))
      · go_simp
        refine hK.out _ _ ?_ (fun _hS => ?_)
        · exact trivial
        clear hK K
        try simp only [Act.put, zps]
        refine wpAnyH_ready (rs := [9]) (by kernel_rfl) (by simp) ?_
        refine AllReadyH.cons (o := zobfx10) rfl (fun K hK => ?_) (AllReadyH.nil)
        go_simp
        refine hK.out _ _ ?_ (fun _hS => ?_)
        · exact trivial
        clear hK K
        try simp only [Act.put, zps]
        refine wtk (i := 10) (oi := zobfx11) (v := ?v10x2009) rfl ⟨by rfl, ?hy10x2009⟩ (by assumption) ?_
        case hy10x2009 => (intro w s; (try dsimp only at s); first | (go_simp; with_reducible rfl) | go_simp)
        try simp only [Act.put, zps]
        refine wpAnyH_ready (rs := [11]) (by kernel_rfl) (by simp) ?_
        refine AllReadyH.cons (o := zobfx12) rfl (fun K hK => ?_) (AllReadyH.nil)
        go_simp
        go_at_call 81
        refine HDl.out.mono ?_
        rintro e w3 ⟨v', rfl, hown3, hg3, hl3⟩
        obtain ⟨a3, c3', rfl, -⟩ := row_shape hown3
        have k3 := HS3.out w3 hg3
        obtain ⟨z0, z1, zf⟩ := cells_two k3
        have f4 : w3.frozen? ⟨p, 1, none⟩ = false := by simp [World.frozen?, k3]
        have HFin := hide (HE.out _ _ hown3 hg3 hl3)
        clear hown3 hg3 hl3 k3
        go_simp
        refine hK.out _ _ ?_ (fun _hS => ?_)
        · exact trivial
        clear hK K
        try simp only [Act.put, zps]
        refine wtk (i := 12) (oi := zobfx13) (v := ?v12x2010) rfl ⟨by rfl, ?hy12x2010⟩ (by assumption) ?_
        case hy12x2010 => (intro w s; (try dsimp only at s); first | (go_simp; with_reducible rfl) | go_simp)
        try simp only [Act.put, zps]
        refine wtk (i := 13) (oi := zobfx14) (v := ?v13x2011) rfl ⟨by rfl, ?hy13x2011⟩ (by assumption) ?_
        case hy13x2011 => (intro w s; (try dsimp only at s); first | (go_simp; with_reducible rfl) | go_simp)
        try simp only [Act.put, zps]
        refine wpAnyH_ready (rs := [14]) (by kernel_rfl) (by simp) ?_
        refine AllReadyH.cons (o := zobfx15) rfl (fun K hK => ?_) (AllReadyH.nil)
        go_simp
        refine hK.out _ _ ?_ (fun _hS => ?_)
        · exact trivial
        clear hK K
        try simp only [Act.put, zps]
        refine wpAnyH_done (by kernel_rfl) ?_ _
        refine NoPanic.normal ?_
        obtain ⟨hfd, hfin⟩ := HFin.out
        gi_wp2
        refine ⟨by simp, .inl ⟨_, _, rfl, run_takeDeferred hfd, ?_⟩⟩
        refine ⟨.int .u16 0, ?_, rfl, hfin⟩
        simp [results, Try.results33, go_sem]
      · go_simp
        refine hK.out _ _ ?_ (fun _hS => ?_)
        · exact trivial
        clear hK K
        try simp only [Act.put, zps]
        refine wtk (i := 10) (oi := zobfx11) (v := ?v10x2012) rfl ⟨by rfl, ?hy10x2012⟩ (by assumption) ?_
        case hy10x2012 => (intro w s; (try dsimp only at s); first | (go_simp; with_reducible rfl) | go_simp)
        try simp only [Act.put, zps]
        refine wpAnyH_ready (rs := [4]) (by kernel_rfl) (by simp) ?_
        refine AllReadyH.cons (o := zobfx9) rfl (fun K hK => ?_) (AllReadyH.nil)
        go_simp
        refine hK.out _ _ ?_ (fun _hS => ?_)
        · exact trivial
        clear hK K
        try simp only [Act.put, zps]
        refine wpAnyH_ready (rs := [11]) (by kernel_rfl) (by simp) ?_
        refine AllReadyH.cons (o := zobfx12) rfl (fun K hK => ?_) (AllReadyH.nil)
        go_simp
        go_at_call 81
        refine HDl.out.mono ?_
        rintro e w3 ⟨v', rfl, hown3, hg3, hl3⟩
        obtain ⟨a3, c3', rfl, -⟩ := row_shape hown3
        have k3 := HS3.out w3 hg3
        obtain ⟨z0, z1, zf⟩ := cells_two k3
        have f4 : w3.frozen? ⟨p, 1, none⟩ = false := by simp [World.frozen?, k3]
        have HFin := hide (HE.out _ _ hown3 hg3 hl3)
        clear hown3 hg3 hl3 k3
        go_simp
        refine hK.out _ _ ?_ (fun _hS => ?_)
        · exact trivial
        clear hK K
        try simp only [Act.put, zps]
        refine wtk (i := 12) (oi := zobfx13) (v := ?v12x2013) rfl ⟨by rfl, ?hy12x2013⟩ (by assumption) ?_
        case hy12x2013 => (intro w s; (try dsimp only at s); first | (go_simp; with_reducible rfl) | go_simp)
        try simp only [Act.put, zps]
        refine wtk (i := 13) (oi := zobfx14) (v := ?v13x2014) rfl ⟨by rfl, ?hy13x2014⟩ (by assumption) ?_
        case hy13x2014 => (intro w s; (try dsimp only at s); first | (go_simp; with_reducible rfl) | go_simp)
        try simp only [Act.put, zps]
        refine wpAnyH_ready (rs := [14]) (by kernel_rfl) (by simp) ?_
        refine AllReadyH.cons (o := zobfx15) rfl (fun K hK => ?_) (AllReadyH.nil)
        go_simp
        refine hK.out _ _ ?_ (fun _hS => ?_)
        · exact trivial
        clear hK K
        try simp only [Act.put, zps]
        refine wpAnyH_done (by kernel_rfl) ?_ _
        refine NoPanic.normal ?_
        obtain ⟨hfd, hfin⟩ := HFin.out
        gi_wp2
        refine ⟨by simp, .inl ⟨_, _, rfl, run_takeDeferred hfd, ?_⟩⟩
        refine ⟨.int .u16 0, ?_, rfl, hfin⟩
        simp [results, Try.results33, go_sem]
  · clear h3
    by_cases hce : c = n
    · subst hce
      refine (callsIn_wide (n := 9)).1 ?_
      refine callsIn_of_wp_marks Try.func33 rfl trivial ?_ rfl
      simp only [Try.ntmps33, List.size_toArray, List.length_cons, List.length_nil, Nat.reduceAdd, Nat.reduceSub, Array.replicate_succ, Array.replicate_zero, List.push_toArray, List.append_toArray, List.nil_append, List.cons_append]
      gi_wp2_with fail
      refine ⟨trivial, (callsIn_wide.2 HM.out).mono ?_⟩
      rintro e w2 ⟨rfl, rfl⟩
      gi_wp2_with (first | (refine ⟨trivial, (callsIn_wide.2 (backward_any _ _ _ _)).mono ?_⟩; rintro e w2 ⟨rfl, rfl⟩))
      have hb1 := below_alloc w2 (.cells #[.slice (some ⟨g, 0, none⟩) 0 (0)] 67)
      have hbox := heap_alloc_new w2 (.cells #[.slice (some ⟨g, 0, none⟩) 0 (0)] 67)
      have hs1 : (w2.alloc (.cells #[.slice (some ⟨g, 0, none⟩) 0 (0)] 67)).heap.size = w2.heap.size + 1 := by simp
      generalize w2.alloc (.cells #[.slice (some ⟨g, 0, none⟩) 0 (0)] 67) = W1 at *
      have hH1 := HH.out.below hb1
      have HB1 := hide hb1
      have HBx := hide hbox
      have HS1 := hide hs1
      have HH1 := hide hH1
      have HU := hide hu
      clear hb1 hbox hs1 hH1 hu s0 s1 f0 HM
      refine range_genS (gf := 93) (lb := #[.pointer (some ⟨w2.heap.size, 0, none⟩)]) rfl (enters_of Try.func93 (by kernel_rfl) rfl)
        (back_goes w2.heap.size (some ⟨g, 0, none⟩) 0 (0) [] rfl (by omega) (by omega)) (fun _ => rfl)
        (fun pre V => pre = [] ∧ Mv (Lp W1.heap.size) W1 V) (fun _ _ => False)
        (fun _ _ _ h hb => ⟨h.1, h.2.trans' hb⟩) (fun _ _ _ h _ => h) ⟨rfl, Mv.refl _ _⟩ ?mb
        (fun _ _ _ => True) (fun _ _ _ _ _ _ h _ => h) ?assign ?body ?done ?stop
      case mb =>
        rintro pre V ⟨rfl, hmv⟩
        exact ⟨(hmv.block _ (by have := HS1.out; omega) (fun e => by unfold Lp at e; have := HS1.out; omega)).trans HBx.out, .inl rfl⟩
      case assign =>
        intro l pre x V K hlt hi hK
        gi_wp2
        exact hK _ _ hi (Kl.refl _ _) trivial
      case stop => exact fun _ _ _ _ h => h.elim
      case body =>
        rintro l pre x rest a'' V hx
        simp at hx
      case done =>
        rintro D V hD hI hK
        have hm0 := hI.2
        have st0 : ∀ k, k < W1.heap.size → V.heap[k]? = W1.heap[k]? := fun k hk => hm0.block k hk (fun e => by unfold Lp at e; omega)
        have hbf : Bf V p B sv (Value.slice (some ⟨g, 0, none⟩) c c) xs us := HH1.out.bf.of_block fun k hk => st0 k (hk.elim HH1.out.bf.lt fun ⟨x, hx, hh'⟩ => (HH1.out.bf.each x hx).lt hh')
        have hmv : Mv (Bo p sv (Value.slice (some ⟨g, 0, none⟩) c c)) W1 V := ⟨hm0.os, hm0.tape, hm0.output, hm0.size, fun k hk _ => st0 k hk⟩
        have hund := hbf.undo
        rw [HU.out] at hund
        have HDl : Hid (Calls Try.prog 81 #[Value.slice (some ⟨g, 0, none⟩) c c, .int .i64 (c : Int), .int .i64 (c : Int)] V.drew fun e w' => ∃ v', e = .returned v' ∧ w'.ownsRow B 1 1 v' (c) (us.take (c)) ∧ V.drew.grownBy w' (Value.slice (some ⟨g, 0, none⟩) c c).ownBlock ∧ v'.ownBlock = (Value.slice (some ⟨g, 0, none⟩) c c).ownBlock) := hide (deletef_any (Value.slice (some ⟨g, 0, none⟩) c c) (c) (c) B us V.drew (Nat.le_refl _) (by omega) hund)
        have HS3 : Hid (∀ w3, V.drew.grownBy w3 (Value.slice (some ⟨g, 0, none⟩) c c).ownBlock → w3.heap[p]? = some (.cells #[sv, Value.slice (some ⟨g, 0, none⟩) c c] 69 (0, 0))) := hide (fun w3 hg => (hg.block p (lt_of_block hbf.blk) (fun e => hbf.une e.symm)).trans hbf.blk)
        have HE : Hid (∀ v' w3, w3.ownsRow B 1 1 v' (c) (us.take (c)) → V.drew.grownBy w3 (Value.slice (some ⟨g, 0, none⟩) c c).ownBlock → v'.ownBlock = (Value.slice (some ⟨g, 0, none⟩) c c).ownBlock → (w3.setCell ⟨p, 1, none⟩ v').heap[D]? = some (.deferred (some [])) ∧
            ∃ uv', Bf ((w3.setCell ⟨p, 1, none⟩ v').putObj D (.deferred none)) p B sv uv' xs us ∧ uv'.ownBlock = (Value.slice (some ⟨g, 0, none⟩) c c).ownBlock ∧ Mv (Bo p sv (Value.slice (some ⟨g, 0, none⟩) c c)) w2 ((w3.setCell ⟨p, 1, none⟩ v').putObj D (.deferred none))) := hide (fun v' w3 ho3 hg hl3 => by
          have htl : us.take (c) = us := List.take_of_length_le (by rw [HU.out]; omega)
          rw [htl] at ho3
          obtain ⟨hb4, hgo⟩ := undo_turned (us' := us) hbf (Below.refl V.heap.size V).drew hg (by rw [HU.out]; exact ho3) (.inl hl3)
          have hnot : ¬ Bo p sv (Value.slice (some ⟨g, 0, none⟩) c c) D := fun e => by
            have := HH.out.bf.lt e
            have := HS1.out
            omega
          have hDV : (w3.setCell ⟨p, 1, none⟩ v').heap[D]? = some (.deferred (some [])) := (hgo.mv.block D (lt_of_block hK) hnot).trans hK
          have hm4 : Mv (Bo p sv (Value.slice (some ⟨g, 0, none⟩) c c)) W1 (w3.setCell ⟨p, 1, none⟩ v') := hmv.trans' hgo.mv
          have st : ∀ k, k < W1.heap.size → ((w3.setCell ⟨p, 1, none⟩ v').putObj D (.deferred none)).heap[k]? = (w3.setCell ⟨p, 1, none⟩ v').heap[k]? := fun k hk => World.putObj_heap_other (by omega)
          refine ⟨hDV, v', hb4.of_block fun k hk => st k ?_, hl3, ?_⟩
          · rcases hk with hk | ⟨x, hx, hk⟩
            · have hk2 : Bo p sv (Value.slice (some ⟨g, 0, none⟩) c c) k := by
                rcases hk with hk | hk | hk
                · exact .inl hk
                · exact .inr (.inl hk)
                · exact .inr (.inr (by rw [hl3] at hk; exact hk))
              have := HH.out.bf.lt hk2
              have := HS1.out
              omega
            · exact (HH1.out.bf.each x hx).lt hk
          · have h5 : Mv (Bo p sv (Value.slice (some ⟨g, 0, none⟩) c c)) W1 ((w3.setCell ⟨p, 1, none⟩ v').putObj D (.deferred none)) := ⟨hm4.os, hm4.tape, hm4.output, by simpa [World.putObj] using hm4.size, fun k hk hn => (st k hk).trans (hm4.block k hk hn)⟩
            exact (Mv.of_below HB1.out).trans' h5)
        obtain ⟨s0, s1, f0⟩ := cells_two hbf.blk
        clear hD hI hm0 st0 hund hbf hmv hK HBx HH1
        gi_wp2_with fail
        refine wpIn_wide.2 ?_
        refine wp_region_noPanic ?_
        refine wp_region_held_drew (S := (fun W => True)) (by kernel_rfl) trivial (fun _hS => ?_)
        refine wtk (i := 0) (oi := zobfx1) (v := ?v0x2015) rfl ⟨by rfl, ?hy0x2015⟩ (by assumption) ?_
        case hy0x2015 => (intro w s; (try dsimp only at s); first | (go_simp; with_reducible rfl) | go_simp)
        try simp only [Act.put, zps]
        refine wtk (i := 1) (oi := zobfx2) (v := ?v1x2016) rfl ⟨by rfl, ?hy1x2016⟩ (by assumption) ?_
        case hy1x2016 => (intro w s; (try dsimp only at s); first | (go_simp; with_reducible rfl) | go_simp)
        try simp only [Act.put, zps]
        refine wtk (i := 2) (oi := zobfx3) (v := ?v2x2017) rfl ⟨by rfl, ?hy2x2017⟩ (by assumption) ?_
        case hy2x2017 => (intro w s; (try dsimp only at s); first | (go_simp; with_reducible rfl) | go_simp)
        try simp only [Act.put, zps]
        refine wtk (i := 3) (oi := zobfx4) (v := ?v3x2018) rfl ⟨by rfl, ?hy3x2018⟩ (by assumption) ?_
        case hy3x2018 => (intro w s; (try dsimp only at s); first | (go_simp; with_reducible rfl) | go_simp)
        try simp only [Act.put, zps]
        refine wtk (i := 5) (oi := zobfx5) (v := ?v5x2019) rfl ⟨by rfl, ?hy5x2019⟩ (by assumption) ?_
        case hy5x2019 => (intro w s; (try dsimp only at s); first | (go_simp; with_reducible rfl) | go_simp)
        try simp only [Act.put, zps]
        refine wtk (i := 6) (oi := zobfx6) (v := ?v6x2020) rfl ⟨by rfl, ?hy6x2020⟩ (by assumption) ?_
        case hy6x2020 => (intro w s; (try dsimp only at s); first | (go_simp; with_reducible rfl) | go_simp)
        try simp only [Act.put, zps]
        refine wtk (i := 7) (oi := zobfx7) (v := ?v7x2021) rfl ⟨by rfl, ?hy7x2021⟩ (by assumption) ?_
        case hy7x2021 => (intro w s; (try dsimp only at s); first | (go_simp; with_reducible rfl) | go_simp)
        try simp only [Act.put, zps]
        refine wtk (i := 8) (oi := zobfx8) (v := ?v8x2022) rfl ⟨by rfl, ?hy8x2022⟩ (by assumption) ?_
        case hy8x2022 => (intro w s; (try dsimp only at s); first | (go_simp; with_reducible rfl) | go_simp)
        try simp only [Act.put, zps]
        refine wpAnyH_ready (rs := [4, 9]) (by kernel_rfl) (by simp) ?_
        refine AllReadyH.cons (o := zobfx9) rfl (fun K hK => ?_) (AllReadyH.cons (o := zobfx10) rfl (fun K hK => ?_) (AllReadyH.nil))
        · go_simp
          refine hK.out _ _ ?_ (fun _hS => ?_)
          · exact trivial
          clear hK K
          try simp only [Act.put, zps]
          refine wpAnyH_ready (rs := [9]) (by kernel_rfl) (by simp) ?_
          refine AllReadyH.cons (o := zobfx10) rfl (fun K hK => ?_) (AllReadyH.nil)
          go_simp
          refine hK.out _ _ ?_ (fun _hS => ?_)
          · exact trivial
          clear hK K
          try simp only [Act.put, zps]
          refine wtk (i := 10) (oi := zobfx11) (v := ?v10x2023) rfl ⟨by rfl, ?hy10x2023⟩ (by assumption) ?_
          case hy10x2023 => (intro w s; (try dsimp only at s); first | (go_simp; with_reducible rfl) | go_simp)
          try simp only [Act.put, zps]
          refine wpAnyH_ready (rs := [11]) (by kernel_rfl) (by simp) ?_
          refine AllReadyH.cons (o := zobfx12) rfl (fun K hK => ?_) (AllReadyH.nil)
          go_simp
          go_at_call 81
          refine HDl.out.mono ?_
          rintro e w3 ⟨v', rfl, hown3, hg3, hl3⟩
          obtain ⟨a3, c3', rfl, -⟩ := row_shape hown3
          have k3 := HS3.out w3 hg3
          obtain ⟨z0, z1, zf⟩ := cells_two k3
          have f4 : w3.frozen? ⟨p, 1, none⟩ = false := by simp [World.frozen?, k3]
          have HFin := hide (HE.out _ _ hown3 hg3 hl3)
          clear hown3 hg3 hl3 k3
          go_simp
          refine hK.out _ _ ?_ (fun _hS => ?_)
          · exact trivial
          clear hK K
          try simp only [Act.put, zps]
          refine wtk (i := 12) (oi := zobfx13) (v := ?v12x2024) rfl ⟨by rfl, ?hy12x2024⟩ (by assumption) ?_
          case hy12x2024 => (intro w s; (try dsimp only at s); first | (go_simp; with_reducible rfl) | go_simp)
          try simp only [Act.put, zps]
          refine wtk (i := 13) (oi := zobfx14) (v := ?v13x2025) rfl ⟨by rfl, ?hy13x2025⟩ (by assumption) ?_
          case hy13x2025 => (intro w s; (try dsimp only at s); first | (go_simp; with_reducible rfl) | go_simp)
          try simp only [Act.put, zps]
          refine wpAnyH_ready (rs := [14]) (by kernel_rfl) (by simp) ?_
          refine AllReadyH.cons (o := zobfx15) rfl (fun K hK => ?_) (AllReadyH.nil)
          go_simp
          refine hK.out _ _ ?_ (fun _hS => ?_)
          · exact trivial
          clear hK K
          try simp only [Act.put, zps]
          refine wpAnyH_done (by kernel_rfl) ?_ _
          refine NoPanic.normal ?_
          obtain ⟨hfd, hfin⟩ := HFin.out
          gi_wp2
          refine ⟨by simp, .inl ⟨_, _, rfl, run_takeDeferred hfd, ?_⟩⟩
          refine ⟨.int .u16 0, ?_, rfl, hfin⟩
          simp [results, Try.results33, go_sem]
        · go_simp
          refine hK.out _ _ ?_ (fun _hS => ?_)
          · exact trivial
          clear hK K
          try simp only [Act.put, zps]
          refine wtk (i := 10) (oi := zobfx11) (v := ?v10x2026) rfl ⟨by rfl, ?hy10x2026⟩ (by assumption) ?_
          case hy10x2026 => (intro w s; (try dsimp only at s); first | (go_simp; with_reducible rfl) | go_simp)
          try simp only [Act.put, zps]
          refine wpAnyH_ready (rs := [4]) (by kernel_rfl) (by simp) ?_
          refine AllReadyH.cons (o := zobfx9) rfl (fun K hK => ?_) (AllReadyH.nil)
          go_simp
          refine hK.out _ _ ?_ (fun _hS => ?_)
          · exact trivial
          clear hK K
          try simp only [Act.put, zps]
          refine wpAnyH_ready (rs := [11]) (by kernel_rfl) (by simp) ?_
          refine AllReadyH.cons (o := zobfx12) rfl (fun K hK => ?_) (AllReadyH.nil)
          go_simp
          go_at_call 81
          refine HDl.out.mono ?_
          rintro e w3 ⟨v', rfl, hown3, hg3, hl3⟩
          obtain ⟨a3, c3', rfl, -⟩ := row_shape hown3
          have k3 := HS3.out w3 hg3
          obtain ⟨z0, z1, zf⟩ := cells_two k3
          have f4 : w3.frozen? ⟨p, 1, none⟩ = false := by simp [World.frozen?, k3]
          have HFin := hide (HE.out _ _ hown3 hg3 hl3)
          clear hown3 hg3 hl3 k3
          go_simp
          refine hK.out _ _ ?_ (fun _hS => ?_)
          · exact trivial
          clear hK K
          try simp only [Act.put, zps]
          refine wtk (i := 12) (oi := zobfx13) (v := ?v12x2027) rfl ⟨by rfl, ?hy12x2027⟩ (by assumption) ?_
          case hy12x2027 => (intro w s; (try dsimp only at s); first | (go_simp; with_reducible rfl) | go_simp)
          try simp only [Act.put, zps]
          refine wtk (i := 13) (oi := zobfx14) (v := ?v13x2028) rfl ⟨by rfl, ?hy13x2028⟩ (by assumption) ?_
          case hy13x2028 => (intro w s; (try dsimp only at s); first | (go_simp; with_reducible rfl) | go_simp)
          try simp only [Act.put, zps]
          refine wpAnyH_ready (rs := [14]) (by kernel_rfl) (by simp) ?_
          refine AllReadyH.cons (o := zobfx15) rfl (fun K hK => ?_) (AllReadyH.nil)
          go_simp
          refine hK.out _ _ ?_ (fun _hS => ?_)
          · exact trivial
          clear hK K
          try simp only [Act.put, zps]
          refine wpAnyH_done (by kernel_rfl) ?_ _
          refine NoPanic.normal ?_
          obtain ⟨hfd, hfin⟩ := HFin.out
          gi_wp2
          refine ⟨by simp, .inl ⟨_, _, rfl, run_takeDeferred hfd, ?_⟩⟩
          refine ⟨.int .u16 0, ?_, rfl, hfin⟩
          simp [results, Try.results33, go_sem]
    · have e7 : ¬ (c ≤ n) := by omega
      have e8 : ¬ (n = c) := by omega
      refine (callsIn_wide (n := 9)).1 ?_
      refine callsIn_of_wp_marks Try.func33 rfl trivial ?_ rfl
      simp only [Try.ntmps33, List.size_toArray, List.length_cons, List.length_nil, Nat.reduceAdd, Nat.reduceSub, Array.replicate_succ, Array.replicate_zero, List.push_toArray, List.append_toArray, List.nil_append, List.cons_append]
      gi_wp2_with fail
      refine ⟨trivial, (callsIn_wide.2 HM.out).mono ?_⟩
      rintro e w2 ⟨rfl, rfl⟩
      gi_wp2_with (first | (refine ⟨trivial, (callsIn_wide.2 (backward_any _ _ _ _)).mono ?_⟩; rintro e w2 ⟨rfl, rfl⟩))
      have hb1 := below_alloc w2 (.cells #[.slice (some ⟨g, n, none⟩) 0 (c - n)] 67)
      have hbox := heap_alloc_new w2 (.cells #[.slice (some ⟨g, n, none⟩) 0 (c - n)] 67)
      have hs1 : (w2.alloc (.cells #[.slice (some ⟨g, n, none⟩) 0 (c - n)] 67)).heap.size = w2.heap.size + 1 := by simp
      generalize w2.alloc (.cells #[.slice (some ⟨g, n, none⟩) 0 (c - n)] 67) = W1 at *
      have hH1 := HH.out.below hb1
      have HB1 := hide hb1
      have HBx := hide hbox
      have HS1 := hide hs1
      have HH1 := hide hH1
      have HU := hide hu
      clear hb1 hbox hs1 hH1 hu s0 s1 f0 HM
      refine range_genS (gf := 93) (lb := #[.pointer (some ⟨w2.heap.size, 0, none⟩)]) rfl (enters_of Try.func93 (by kernel_rfl) rfl)
        (back_goes w2.heap.size (some ⟨g, n, none⟩) 0 (c - n) [] rfl (by omega) (by omega)) (fun _ => rfl)
        (fun pre V => pre = [] ∧ Mv (Lp W1.heap.size) W1 V) (fun _ _ => False)
        (fun _ _ _ h hb => ⟨h.1, h.2.trans' hb⟩) (fun _ _ _ h _ => h) ⟨rfl, Mv.refl _ _⟩ ?mb
        (fun _ _ _ => True) (fun _ _ _ _ _ _ h _ => h) ?assign ?body ?done ?stop
      case mb =>
        rintro pre V ⟨rfl, hmv⟩
        exact ⟨(hmv.block _ (by have := HS1.out; omega) (fun e => by unfold Lp at e; have := HS1.out; omega)).trans HBx.out, .inl rfl⟩
      case assign =>
        intro l pre x V K hlt hi hK
        gi_wp2
        exact hK _ _ hi (Kl.refl _ _) trivial
      case stop => exact fun _ _ _ _ h => h.elim
      case body =>
        rintro l pre x rest a'' V hx
        simp at hx
      case done =>
        rintro D V hD hI hK
        have hm0 := hI.2
        have st0 : ∀ k, k < W1.heap.size → V.heap[k]? = W1.heap[k]? := fun k hk => hm0.block k hk (fun e => by unfold Lp at e; omega)
        have hbf : Bf V p B sv (Value.slice (some ⟨g, 0, none⟩) n c) xs us := HH1.out.bf.of_block fun k hk => st0 k (hk.elim HH1.out.bf.lt fun ⟨x, hx, hh'⟩ => (HH1.out.bf.each x hx).lt hh')
        have hmv : Mv (Bo p sv (Value.slice (some ⟨g, 0, none⟩) n c)) W1 V := ⟨hm0.os, hm0.tape, hm0.output, hm0.size, fun k hk _ => st0 k hk⟩
        have hund := hbf.undo
        rw [HU.out] at hund
        have HDl : Hid (Calls Try.prog 81 #[Value.slice (some ⟨g, 0, none⟩) n c, .int .i64 (n : Int), .int .i64 (n : Int)] V.drew fun e w' => ∃ v', e = .returned v' ∧ w'.ownsRow B 1 1 v' (n) (us.take (n)) ∧ V.drew.grownBy w' (Value.slice (some ⟨g, 0, none⟩) n c).ownBlock ∧ v'.ownBlock = (Value.slice (some ⟨g, 0, none⟩) n c).ownBlock) := hide (deletef_any (Value.slice (some ⟨g, 0, none⟩) n c) (n) (n) B us V.drew (Nat.le_refl _) (by omega) hund)
        have HS3 : Hid (∀ w3, V.drew.grownBy w3 (Value.slice (some ⟨g, 0, none⟩) n c).ownBlock → w3.heap[p]? = some (.cells #[sv, Value.slice (some ⟨g, 0, none⟩) n c] 69 (0, 0))) := hide (fun w3 hg => (hg.block p (lt_of_block hbf.blk) (fun e => hbf.une e.symm)).trans hbf.blk)
        have HE : Hid (∀ v' w3, w3.ownsRow B 1 1 v' (n) (us.take (n)) → V.drew.grownBy w3 (Value.slice (some ⟨g, 0, none⟩) n c).ownBlock → v'.ownBlock = (Value.slice (some ⟨g, 0, none⟩) n c).ownBlock → (w3.setCell ⟨p, 1, none⟩ v').heap[D]? = some (.deferred (some [])) ∧
            ∃ uv', Bf ((w3.setCell ⟨p, 1, none⟩ v').putObj D (.deferred none)) p B sv uv' xs us ∧ uv'.ownBlock = (Value.slice (some ⟨g, 0, none⟩) n c).ownBlock ∧ Mv (Bo p sv (Value.slice (some ⟨g, 0, none⟩) n c)) w2 ((w3.setCell ⟨p, 1, none⟩ v').putObj D (.deferred none))) := hide (fun v' w3 ho3 hg hl3 => by
          have htl : us.take (n) = us := List.take_of_length_le (by rw [HU.out]; omega)
          rw [htl] at ho3
          obtain ⟨hb4, hgo⟩ := undo_turned (us' := us) hbf (Below.refl V.heap.size V).drew hg (by rw [HU.out]; exact ho3) (.inl hl3)
          have hnot : ¬ Bo p sv (Value.slice (some ⟨g, 0, none⟩) n c) D := fun e => by
            have := HH.out.bf.lt e
            have := HS1.out
            omega
          have hDV : (w3.setCell ⟨p, 1, none⟩ v').heap[D]? = some (.deferred (some [])) := (hgo.mv.block D (lt_of_block hK) hnot).trans hK
          have hm4 : Mv (Bo p sv (Value.slice (some ⟨g, 0, none⟩) n c)) W1 (w3.setCell ⟨p, 1, none⟩ v') := hmv.trans' hgo.mv
          have st : ∀ k, k < W1.heap.size → ((w3.setCell ⟨p, 1, none⟩ v').putObj D (.deferred none)).heap[k]? = (w3.setCell ⟨p, 1, none⟩ v').heap[k]? := fun k hk => World.putObj_heap_other (by omega)
          refine ⟨hDV, v', hb4.of_block fun k hk => st k ?_, hl3, ?_⟩
          · rcases hk with hk | ⟨x, hx, hk⟩
            · have hk2 : Bo p sv (Value.slice (some ⟨g, 0, none⟩) n c) k := by
                rcases hk with hk | hk | hk
                · exact .inl hk
                · exact .inr (.inl hk)
                · exact .inr (.inr (by rw [hl3] at hk; exact hk))
              have := HH.out.bf.lt hk2
              have := HS1.out
              omega
            · exact (HH1.out.bf.each x hx).lt hk
          · have h5 : Mv (Bo p sv (Value.slice (some ⟨g, 0, none⟩) n c)) W1 ((w3.setCell ⟨p, 1, none⟩ v').putObj D (.deferred none)) := ⟨hm4.os, hm4.tape, hm4.output, by simpa [World.putObj] using hm4.size, fun k hk hn => (st k hk).trans (hm4.block k hk hn)⟩
            exact (Mv.of_below HB1.out).trans' h5)
        obtain ⟨s0, s1, f0⟩ := cells_two hbf.blk
        clear hD hI hm0 st0 hund hbf hmv hK HBx HH1
        gi_wp2_with fail
        refine wpIn_wide.2 ?_
        refine wp_region_noPanic ?_
        refine wp_region_held_drew (S := (fun W => True)) (by kernel_rfl) trivial (fun _hS => ?_)
        refine wtk (i := 0) (oi := zobfx1) (v := ?v0x2029) rfl ⟨by rfl, ?hy0x2029⟩ (by assumption) ?_
        case hy0x2029 => (intro w s; (try dsimp only at s); first | (go_simp; with_reducible rfl) | go_simp)
        try simp only [Act.put, zps]
        refine wtk (i := 1) (oi := zobfx2) (v := ?v1x2030) rfl ⟨by rfl, ?hy1x2030⟩ (by assumption) ?_
        case hy1x2030 => (intro w s; (try dsimp only at s); first | (go_simp; with_reducible rfl) | go_simp)
        try simp only [Act.put, zps]
        refine wtk (i := 2) (oi := zobfx3) (v := ?v2x2031) rfl ⟨by rfl, ?hy2x2031⟩ (by assumption) ?_
        case hy2x2031 => (intro w s; (try dsimp only at s); first | (go_simp; with_reducible rfl) | go_simp)
        try simp only [Act.put, zps]
        refine wtk (i := 3) (oi := zobfx4) (v := ?v3x2032) rfl ⟨by rfl, ?hy3x2032⟩ (by assumption) ?_
        case hy3x2032 => (intro w s; (try dsimp only at s); first | (go_simp; with_reducible rfl) | go_simp)
        try simp only [Act.put, zps]
        refine wtk (i := 5) (oi := zobfx5) (v := ?v5x2033) rfl ⟨by rfl, ?hy5x2033⟩ (by assumption) ?_
        case hy5x2033 => (intro w s; (try dsimp only at s); first | (go_simp; with_reducible rfl) | go_simp)
        try simp only [Act.put, zps]
        refine wtk (i := 6) (oi := zobfx6) (v := ?v6x2034) rfl ⟨by rfl, ?hy6x2034⟩ (by assumption) ?_
        case hy6x2034 => (intro w s; (try dsimp only at s); first | (go_simp; with_reducible rfl) | go_simp)
        try simp only [Act.put, zps]
        refine wtk (i := 7) (oi := zobfx7) (v := ?v7x2035) rfl ⟨by rfl, ?hy7x2035⟩ (by assumption) ?_
        case hy7x2035 => (intro w s; (try dsimp only at s); first | (go_simp; with_reducible rfl) | go_simp)
        try simp only [Act.put, zps]
        refine wtk (i := 8) (oi := zobfx8) (v := ?v8x2036) rfl ⟨by rfl, ?hy8x2036⟩ (by assumption) ?_
        case hy8x2036 => (intro w s; (try dsimp only at s); first | (go_simp; with_reducible rfl) | go_simp)
        try simp only [Act.put, zps]
        refine wpAnyH_ready (rs := [4, 9]) (by kernel_rfl) (by simp) ?_
        refine AllReadyH.cons (o := zobfx9) rfl (fun K hK => ?_) (AllReadyH.cons (o := zobfx10) rfl (fun K hK => ?_) (AllReadyH.nil))
        · go_simp
          refine hK.out _ _ ?_ (fun _hS => ?_)
          · exact trivial
          clear hK K
          try simp only [Act.put, zps]
          refine wpAnyH_ready (rs := [9]) (by kernel_rfl) (by simp) ?_
          refine AllReadyH.cons (o := zobfx10) rfl (fun K hK => ?_) (AllReadyH.nil)
          go_simp
          refine hK.out _ _ ?_ (fun _hS => ?_)
          · exact trivial
          clear hK K
          try simp only [Act.put, zps]
          refine wtk (i := 10) (oi := zobfx11) (v := ?v10x2037) rfl ⟨by rfl, ?hy10x2037⟩ (by assumption) ?_
          case hy10x2037 => (intro w s; (try dsimp only at s); first | (go_simp; with_reducible rfl) | go_simp)
          try simp only [Act.put, zps]
          refine wpAnyH_ready (rs := [11]) (by kernel_rfl) (by simp) ?_
          refine AllReadyH.cons (o := zobfx12) rfl (fun K hK => ?_) (AllReadyH.nil)
          go_simp
          go_at_call 81
          refine HDl.out.mono ?_
          rintro e w3 ⟨v', rfl, hown3, hg3, hl3⟩
          obtain ⟨a3, c3', rfl, -⟩ := row_shape hown3
          have k3 := HS3.out w3 hg3
          obtain ⟨z0, z1, zf⟩ := cells_two k3
          have f4 : w3.frozen? ⟨p, 1, none⟩ = false := by simp [World.frozen?, k3]
          have HFin := hide (HE.out _ _ hown3 hg3 hl3)
          clear hown3 hg3 hl3 k3
          go_simp
          refine hK.out _ _ ?_ (fun _hS => ?_)
          · exact trivial
          clear hK K
          try simp only [Act.put, zps]
          refine wtk (i := 12) (oi := zobfx13) (v := ?v12x2038) rfl ⟨by rfl, ?hy12x2038⟩ (by assumption) ?_
          case hy12x2038 => (intro w s; (try dsimp only at s); first | (go_simp; with_reducible rfl) | go_simp)
          try simp only [Act.put, zps]
          refine wtk (i := 13) (oi := zobfx14) (v := ?v13x2039) rfl ⟨by rfl, ?hy13x2039⟩ (by assumption) ?_
          case hy13x2039 => (intro w s; (try dsimp only at s); first | (go_simp; with_reducible rfl) | go_simp)
          try simp only [Act.put, zps]
          refine wpAnyH_ready (rs := [14]) (by kernel_rfl) (by simp) ?_
          refine AllReadyH.cons (o := zobfx15) rfl (fun K hK => ?_) (AllReadyH.nil)
          go_simp
          refine hK.out _ _ ?_ (fun _hS => ?_)
          · exact trivial
          clear hK K
          try simp only [Act.put, zps]
          refine wpAnyH_done (by kernel_rfl) ?_ _
          refine NoPanic.normal ?_
          obtain ⟨hfd, hfin⟩ := HFin.out
          gi_wp2
          refine ⟨by simp, .inl ⟨_, _, rfl, run_takeDeferred hfd, ?_⟩⟩
          refine ⟨.int .u16 0, ?_, rfl, hfin⟩
          simp [results, Try.results33, go_sem]
        · go_simp
          refine hK.out _ _ ?_ (fun _hS => ?_)
          · exact trivial
          clear hK K
          try simp only [Act.put, zps]
          refine wtk (i := 10) (oi := zobfx11) (v := ?v10x2040) rfl ⟨by rfl, ?hy10x2040⟩ (by assumption) ?_
          case hy10x2040 => (intro w s; (try dsimp only at s); first | (go_simp; with_reducible rfl) | go_simp)
          try simp only [Act.put, zps]
          refine wpAnyH_ready (rs := [4]) (by kernel_rfl) (by simp) ?_
          refine AllReadyH.cons (o := zobfx9) rfl (fun K hK => ?_) (AllReadyH.nil)
          go_simp
          refine hK.out _ _ ?_ (fun _hS => ?_)
          · exact trivial
          clear hK K
          try simp only [Act.put, zps]
          refine wpAnyH_ready (rs := [11]) (by kernel_rfl) (by simp) ?_
          refine AllReadyH.cons (o := zobfx12) rfl (fun K hK => ?_) (AllReadyH.nil)
          go_simp
          go_at_call 81
          refine HDl.out.mono ?_
          rintro e w3 ⟨v', rfl, hown3, hg3, hl3⟩
          obtain ⟨a3, c3', rfl, -⟩ := row_shape hown3
          have k3 := HS3.out w3 hg3
          obtain ⟨z0, z1, zf⟩ := cells_two k3
          have f4 : w3.frozen? ⟨p, 1, none⟩ = false := by simp [World.frozen?, k3]
          have HFin := hide (HE.out _ _ hown3 hg3 hl3)
          clear hown3 hg3 hl3 k3
          go_simp
          refine hK.out _ _ ?_ (fun _hS => ?_)
          · exact trivial
          clear hK K
          try simp only [Act.put, zps]
          refine wtk (i := 12) (oi := zobfx13) (v := ?v12x2041) rfl ⟨by rfl, ?hy12x2041⟩ (by assumption) ?_
          case hy12x2041 => (intro w s; (try dsimp only at s); first | (go_simp; with_reducible rfl) | go_simp)
          try simp only [Act.put, zps]
          refine wtk (i := 13) (oi := zobfx14) (v := ?v13x2042) rfl ⟨by rfl, ?hy13x2042⟩ (by assumption) ?_
          case hy13x2042 => (intro w s; (try dsimp only at s); first | (go_simp; with_reducible rfl) | go_simp)
          try simp only [Act.put, zps]
          refine wpAnyH_ready (rs := [14]) (by kernel_rfl) (by simp) ?_
          refine AllReadyH.cons (o := zobfx15) rfl (fun K hK => ?_) (AllReadyH.nil)
          go_simp
          refine hK.out _ _ ?_ (fun _hS => ?_)
          · exact trivial
          clear hK K
          try simp only [Act.put, zps]
          refine wpAnyH_done (by kernel_rfl) ?_ _
          refine NoPanic.normal ?_
          obtain ⟨hfd, hfin⟩ := HFin.out
          gi_wp2
          refine ⟨by simp, .inl ⟨_, _, rfl, run_takeDeferred hfd, ?_⟩⟩
          refine ⟨.int .u16 0, ?_, rfl, hfin⟩
          simp [results, Try.results33, go_sem]
end Go.Proofs.Ytgohhlngnnmknaa
/- Back, of a buffer told by what it says. -/
namespace Go.Proofs.Ytgohhlngnnmknaa
open Go.RowKit Go.Maps
set_option linter.unusedVariables false
theorem back_st {w : World} {p B n m : Nat} {es : List Ee} {hs : List (List Ee)} {O : Nat → Prop} (h : St w p B es n hs O) (hm : m ≤ n) (hn : n ≤ 900000) (hle : ∀ k l, m < k → (hs ++ [es])[k]? = some l → l.length ≤ 1000000) :
    Calls Try.prog 33 #[.pointer (some ⟨p, 0, none⟩), .int .i64 (m : Int)] w fun e w' => e = .returned (.int .u16 0) ∧ ∃ O' es', (hs ++ [es])[m]? = some es' ∧ St w' p B es' m (hs.take m) O' ∧ Go1 O w O' w' := by
  have hM := mark_any h
  obtain ⟨sv, uv, xs, us, hh, h1, rfl, h3, rfl, h5, h6, h7⟩ := h
  have hall : hh.map ers ++ [ers xs] = (hh ++ [xs]).map ers := by simp
  rw [hall] at hle
  have hhl : hh.length = n := by rw [h1.len, h3]
  by_cases hlt : m < n
  · refine (back_lt h1 hM h3 hlt hn (fun k l hk hl => by have := hle k (ers l) hk (by rw [List.getElem?_map, hl]; rfl); rwa [ers_len] at this)).mono ?_
    rintro e w' ⟨rfl, l, sv', uv', hl, hbf, ho1, ho2, hmv⟩
    have hbo : ∀ k, Bo p sv' uv' k ↔ Bo p sv uv k := fun k => by unfold Bo; rw [ho1, ho2]
    have hlm : l ∈ hh := by
      have : (hh ++ [xs])[m]? = hh[m]? := List.getElem?_append_left (by omega)
      rw [this] at hl
      exact List.mem_of_getElem? hl
    refine ⟨rfl, Bo p sv' uv', ers l, by rw [hall, List.getElem?_map, hl]; rfl, ⟨sv', uv', l, us.take m, hh.take m, ⟨hbf, ?_, fun k u hk => ?_, fun l' hl' x hx => h1.bf.own_move hmv (h1.olds l' (List.mem_of_mem_take hl') x hx)⟩, rfl, ?_, by rw [List.map_take], fun k => Iff.rfl, h7 _ (List.mem_map.2 ⟨l, hlm, rfl⟩), fun l' hl' => h7 l' (List.mem_of_mem_take hl')⟩, ⟨hmv.mono fun k hk => (h5 k).2 hk, fun k hk => .inl ((h5 k).2 ((hbo k).1 hk))⟩⟩
    · rw [List.length_take, List.length_take, hhl, h3]
    · have hkm : k < m := by
        have := (List.getElem?_eq_some_iff.1 hk).1
        rw [List.length_take] at this; omega
      rw [List.getElem?_take_of_lt hkm] at hk
      obtain ⟨a, b, ha, hb, hU⟩ := h1.und k u hk
      have hst : ∀ j, j ≤ m → (hh.take m ++ [l])[j]? = (hh ++ [xs])[j]? := fun j hj => by
        by_cases hjm : j < m
        · rw [List.getElem?_append_left (by rw [List.length_take]; omega), List.getElem?_take_of_lt hjm, List.getElem?_append_left (by omega)]
        · obtain rfl : j = m := by omega
          rw [hl, List.getElem?_append_right (by rw [List.length_take]; omega), List.length_take, Nat.min_eq_left (by omega), Nat.sub_self]
          rfl
      exact ⟨a, b, (hst k (by omega)).trans ha, (hst (k + 1) (by omega)).trans hb, hU.move h1.bf hmv (fun j hj => .inl (by rw [← ho1]; exact hj))⟩
    · rw [List.length_take, h3]; omega
  · obtain rfl : m = n := by omega
    refine (back_eq h1 hM h3 hn).mono ?_
    rintro e w' ⟨rfl, uv', hbf, ho2, hmv⟩
    have hbo : ∀ k, Bo p sv uv' k ↔ Bo p sv uv k := fun k => by unfold Bo; rw [ho2]
    refine ⟨rfl, Bo p sv uv', ers xs, by rw [List.getElem?_append_right (by simp; omega)]; simp [hhl], ⟨sv, uv', xs, us, hh, ⟨hbf, h1.len, fun k u hk => ?_, fun l' hl' x hx => h1.bf.own_move hmv (h1.olds l' hl' x hx)⟩, rfl, h3, by rw [List.take_of_length_le (by simp; omega)], fun k => Iff.rfl, h6, fun l' hl' => h7 l' (List.mem_of_mem_take hl')⟩, ⟨hmv.mono fun k hk => (h5 k).2 hk, fun k hk => .inl ((h5 k).2 ((hbo k).1 hk))⟩⟩
    obtain ⟨a, b, ha, hb, hU⟩ := h1.und k u hk
    exact ⟨a, b, ha, hb, hU.move h1.bf hmv (fun j hj => .inl hj)⟩
end Go.Proofs.Ytgohhlngnnmknaa
