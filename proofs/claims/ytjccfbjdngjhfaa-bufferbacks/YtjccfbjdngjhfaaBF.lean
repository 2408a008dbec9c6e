/- Back, with nothing to undo. -/
import Derived.Test.YtjccfbjdngjhfaaBE
namespace Go.Proofs.Ytjccfbjdngjhfaa
open Go.RowKit Go.Maps Go.Shelf
attribute [local go_sem] Oper.semAt_some
set_option linter.unusedVariables false
set_option maxHeartbeats 3200000 in
set_option maxRecDepth 1000000 in
theorem back_eq {w : World} {p B n : Nat} {sv uv : Value} {xs : List En} {us : List Value} {hh : List (List En)} (h : Bh w p B sv uv xs us hh) (hM : Calls Try.prog 8 #[.pointer (some ⟨p, 0, none⟩)] w fun e w' => e = .returned (.int .i64 (n : Int)) ∧ w' = w) (hu : us.length = n) (hn : n ≤ 900000) :
    Calls Try.prog 12 #[.pointer (some ⟨p, 0, none⟩), .int .i64 (n : Int)] w fun e w' => e = .returned (.int .u16 0) ∧ ∃ uv', Bf w' p B sv uv' xs us ∧ uv'.ownBlock = uv.ownBlock ∧ Mv (Bo p sv uv) w w' := by
  have hund := h.bf.undo
  rw [hu] at hund
  obtain ⟨a, c, rfl, h1, h2, h3, h4⟩ := row_shape hund
  clear hund
  have c1 : ¬ ((n : Int) < 0) := by omega
  have c3 : (0 : Int) ≤ (n : Int) := by omega
  obtain ⟨s0, s1, f0⟩ := cells_two h.bf.blk
  have HM := hide hM
  have HH := hide h
  clear h hM
  rcases h4 with rfl | ⟨g, rfl⟩
  · obtain ⟨rfl, rfl⟩ := h3 rfl
    clear h3
    refine (callsIn_wide (n := 9)).1 ?_
    refine callsIn_of_wp_marks Try.func12 rfl trivial ?_ rfl
    simp only [Try.ntmps12, List.size_toArray, List.length_cons, List.length_nil, Nat.reduceAdd, Nat.reduceSub, Array.replicate_succ, Array.replicate_zero, List.push_toArray, List.append_toArray, List.nil_append, List.cons_append]
    gi_wp2_with fail
    refine ⟨trivial, (callsIn_wide.2 HM.out).mono ?_⟩
    rintro e w2 ⟨rfl, rfl⟩
    gi_wp2_with (first | (refine ⟨trivial, (callsIn_wide.2 (backward_any _ _ _ _)).mono ?_⟩; rintro e w2 ⟨rfl, rfl⟩))
    have hb1 := below_alloc w2 (.cells #[.slice (none) 0 (0)] 55)
    have hbox := heap_alloc_new w2 (.cells #[.slice (none) 0 (0)] 55)
    have hs1 : (w2.alloc (.cells #[.slice (none) 0 (0)] 55)).heap.size = w2.heap.size + 1 := by simp
    generalize w2.alloc (.cells #[.slice (none) 0 (0)] 55) = W1 at *
    have hH1 := HH.out.below hb1
    have HB1 := hide hb1
    have HBx := hide hbox
    have HS1 := hide hs1
    have HH1 := hide hH1
    have HU := hide hu
    clear hb1 hbox hs1 hH1 hu s0 s1 f0 HM
    refine range_genS (gf := 40) (lb := #[.pointer (some ⟨w2.heap.size, 0, none⟩)]) rfl (enters_of Try.func40 (by kernel_rfl) rfl)
      (back_goes w2.heap.size (none) 0 (0) [] rfl (by omega) (by omega)) (fun _ => rfl)
      (fun pre V => pre = [] ∧ Mv (Lp W1.heap.size) W1 V) (fun _ _ => False)
      (fun _ _ _ h hb => ⟨h.1, h.2.trans' hb⟩) (fun _ _ _ h _ => h) ⟨rfl, Mv.refl _ _⟩ ?mb
      (fun _ _ _ => True) (fun _ _ _ _ _ _ h _ => h) ?assign ?body ?done ?stop
    case mb =>
      rintro pre V ⟨rfl, hmv⟩
      exact ⟨(hmv.block _ (by have := HS1.out; omega) (fun e => by unfold Lp at e; have := HS1.out; omega)).trans HBx.out, .inl rfl⟩
    case assign =>
      intro l pre x V K hlt hi hK
      gi_wp2
      exact hK _ _ hi (Kl.refl _ _) trivial
    case stop => exact fun _ _ _ _ h => h.elim
    case body =>
      rintro l pre x rest a'' V hx
      simp at hx
    case done =>
      rintro D V hD hI hK
      have hm0 := hI.2
      have st0 : ∀ k, k < W1.heap.size → V.heap[k]? = W1.heap[k]? := fun k hk => hm0.block k hk (fun e => by unfold Lp at e; omega)
      have hbf : Bf V p B sv (Value.slice none 0 0) xs us := HH1.out.bf.of_block fun k hk => st0 k (hk.elim HH1.out.bf.lt fun ⟨x, hx, hh'⟩ => (HH1.out.bf.each x hx).lt hh')
      have hmv : Mv (Bo p sv (Value.slice none 0 0)) W1 V := ⟨hm0.os, hm0.tape, hm0.output, hm0.size, fun k hk _ => st0 k hk⟩
      have hund := hbf.undo
      rw [HU.out] at hund
      have HDl : Hid (Calls Try.prog 26 #[Value.slice none 0 0, .int .i64 0, .int .i64 0] V.drew fun e w' => ∃ v', e = .returned v' ∧ w'.ownsRow B 1 1 v' (0) (us.take (0)) ∧ V.drew.grownBy w' (Value.slice none 0 0).ownBlock ∧ v'.ownBlock = (Value.slice none 0 0).ownBlock) := hide (deletef_any (Value.slice none 0 0) (0) (0) B us V.drew (Nat.le_refl _) (by omega) hund)
      have HS3 : Hid (∀ w3, V.drew.grownBy w3 (Value.slice none 0 0).ownBlock → w3.heap[p]? = some (.cells #[sv, Value.slice none 0 0] 57 (0, 0))) := hide (fun w3 hg => (hg.block p (lt_of_block hbf.blk) (fun e => hbf.une e.symm)).trans hbf.blk)
      have HE : Hid (∀ v' w3, w3.ownsRow B 1 1 v' (0) (us.take (0)) → V.drew.grownBy w3 (Value.slice none 0 0).ownBlock → v'.ownBlock = (Value.slice none 0 0).ownBlock → (w3.setCell ⟨p, 1, none⟩ v').heap[D]? = some (.deferred (some [])) ∧
          ∃ uv', Bf ((w3.setCell ⟨p, 1, none⟩ v').putObj D (.deferred none)) p B sv uv' xs us ∧ uv'.ownBlock = (Value.slice none 0 0).ownBlock ∧ Mv (Bo p sv (Value.slice none 0 0)) w2 ((w3.setCell ⟨p, 1, none⟩ v').putObj D (.deferred none))) := hide (fun v' w3 ho3 hg hl3 => by
        have htl : us.take (0) = us := List.take_of_length_le (by rw [HU.out]; omega)
        rw [htl] at ho3
        obtain ⟨hb4, hgo⟩ := undo_turned (us' := us) hbf (Below.refl V.heap.size V).drew hg (by rw [HU.out]; exact ho3) (.inl hl3)
        have hnot : ¬ Bo p sv (Value.slice none 0 0) D := fun e => by
          have := HH.out.bf.lt e
          have := HS1.out
          omega
        have hDV : (w3.setCell ⟨p, 1, none⟩ v').heap[D]? = some (.deferred (some [])) := (hgo.mv.block D (lt_of_block hK) hnot).trans hK
        have hm4 : Mv (Bo p sv (Value.slice none 0 0)) W1 (w3.setCell ⟨p, 1, none⟩ v') := hmv.trans' hgo.mv
        have st : ∀ k, k < W1.heap.size → ((w3.setCell ⟨p, 1, none⟩ v').putObj D (.deferred none)).heap[k]? = (w3.setCell ⟨p, 1, none⟩ v').heap[k]? := fun k hk => World.putObj_heap_other (by omega)
        refine ⟨hDV, v', hb4.of_block fun k hk => st k ?_, hl3, ?_⟩
        · rcases hk with hk | ⟨x, hx, hk⟩
          · have hk2 : Bo p sv (Value.slice none 0 0) k := by
              rcases hk with hk | hk | hk
              · exact .inl hk
              · exact .inr (.inl hk)
              · exact .inr (.inr (by rw [hl3] at hk; exact hk))
            have := HH.out.bf.lt hk2
            have := HS1.out
            omega
          · exact (HH1.out.bf.each x hx).lt hk
        · have h5 : Mv (Bo p sv (Value.slice none 0 0)) W1 ((w3.setCell ⟨p, 1, none⟩ v').putObj D (.deferred none)) := ⟨hm4.os, hm4.tape, hm4.output, by simpa [World.putObj] using hm4.size, fun k hk hn => (st k hk).trans (hm4.block k hk hn)⟩
          exact (Mv.of_below HB1.out).trans' h5)
      obtain ⟨s0, s1, f0⟩ := cells_two hbf.blk
      clear hD hI hm0 st0 hund hbf hmv hK HBx HH1
      gi_wp2_with fail
      refine wpIn_wide.2 ?_
      refine wp_region_noPanic ?_
      refine wp_region_held_drew (S := (fun W => True)) (by kernel_rfl) trivial (fun _hS => ?_)
      refine wpAnyH_take (i := 0) (oi := { dst := some 26, op := Op.move (Operand.tmp 0), type := 24, pos := "mark.go:20", after := #[], guard := none }) (v := ?v0x2001) rfl (by kernel_rfl) (by kernel_rfl) (by kernel_rfl) (fun _ _ _ h => h) (Or.inl ⟨by rfl, ?hy0x2001⟩) (by assumption) ?rest0x2001
      case hy0x2001 => (intro w hSw; (try dsimp only at hSw); (first | (go_simp; with_reducible rfl) | go_simp))
      try simp only [Act.put, List.setIfInBounds_toArray, List.set_cons_zero, List.set_cons_succ]
      refine wpAnyH_take (i := 1) (oi := { dst := some 27, op := Op.move (Operand.tmp 0), type := 24, pos := "mark.go:20", after := #[], guard := none }) (v := ?v1x2002) rfl (by kernel_rfl) (by kernel_rfl) (by kernel_rfl) (fun _ _ _ h => h) (Or.inl ⟨by rfl, ?hy1x2002⟩) (by assumption) ?rest1x2002
      case hy1x2002 => (intro w hSw; (try dsimp only at hSw); (first | (go_simp; with_reducible rfl) | go_simp))
      try simp only [Act.put, List.setIfInBounds_toArray, List.set_cons_zero, List.set_cons_succ]
      refine wpAnyH_take (i := 2) (oi := { dst := some 28, op := Op.nilCheck (Operand.tmp 27), type := 0, pos := "mark.go:20", after := #[{ on := 1, ground := Ground.data }], guard := none }) (v := ?v2x2003) rfl (by kernel_rfl) (by kernel_rfl) (by kernel_rfl) (fun _ _ _ h => h) (Or.inl ⟨by rfl, ?hy2x2003⟩) (by assumption) ?rest2x2003
      case hy2x2003 => (intro w hSw; (try dsimp only at hSw); (first | (go_simp; with_reducible rfl) | go_simp))
      try simp only [Act.put, List.setIfInBounds_toArray, List.set_cons_zero, List.set_cons_succ]
      refine wpAnyH_take (i := 3) (oi := { dst := some 29, op := Op.fieldAddr 57 (Operand.tmp 28) 1, type := 0, pos := "mark.go:20", after := #[{ on := 2, ground := Ground.data }], guard := none }) (v := ?v3x2004) rfl (by kernel_rfl) (by kernel_rfl) (by kernel_rfl) (fun _ _ _ h => h) (Or.inl ⟨by rfl, ?hy3x2004⟩) (by assumption) ?rest3x2004
      case hy3x2004 => (intro w hSw; (try dsimp only at hSw); (first | (go_simp; with_reducible rfl) | go_simp))
      try simp only [Act.put, List.setIfInBounds_toArray, List.set_cons_zero, List.set_cons_succ]
      refine wpAnyH_take (i := 5) (oi := { dst := some 31, op := Op.move (Operand.tmp 1), type := 3, pos := "mark.go:20", after := #[], guard := none }) (v := ?v5x2005) rfl (by kernel_rfl) (by kernel_rfl) (by kernel_rfl) (fun _ _ _ h => h) (Or.inl ⟨by rfl, ?hy5x2005⟩) (by assumption) ?rest5x2005
      case hy5x2005 => (intro w hSw; (try dsimp only at hSw); (first | (go_simp; with_reducible rfl) | go_simp))
      try simp only [Act.put, List.setIfInBounds_toArray, List.set_cons_zero, List.set_cons_succ]
      refine wpAnyH_take (i := 6) (oi := { dst := some 32, op := Op.move (Operand.tmp 0), type := 24, pos := "mark.go:20", after := #[], guard := none }) (v := ?v6x2006) rfl (by kernel_rfl) (by kernel_rfl) (by kernel_rfl) (fun _ _ _ h => h) (Or.inl ⟨by rfl, ?hy6x2006⟩) (by assumption) ?rest6x2006
      case hy6x2006 => (intro w hSw; (try dsimp only at hSw); (first | (go_simp; with_reducible rfl) | go_simp))
      try simp only [Act.put, List.setIfInBounds_toArray, List.set_cons_zero, List.set_cons_succ]
      refine wpAnyH_take (i := 7) (oi := { dst := some 33, op := Op.nilCheck (Operand.tmp 32), type := 0, pos := "mark.go:20", after := #[{ on := 6, ground := Ground.data }], guard := none }) (v := ?v7x2007) rfl (by kernel_rfl) (by kernel_rfl) (by kernel_rfl) (fun _ _ _ h => h) (Or.inl ⟨by rfl, ?hy7x2007⟩) (by assumption) ?rest7x2007
      case hy7x2007 => (intro w hSw; (try dsimp only at hSw); (first | (go_simp; with_reducible rfl) | go_simp))
      try simp only [Act.put, List.setIfInBounds_toArray, List.set_cons_zero, List.set_cons_succ]
      refine wpAnyH_take (i := 8) (oi := { dst := some 34, op := Op.fieldAddr 57 (Operand.tmp 33) 1, type := 0, pos := "mark.go:20", after := #[{ on := 7, ground := Ground.data }], guard := none }) (v := ?v8x2008) rfl (by kernel_rfl) (by kernel_rfl) (by kernel_rfl) (fun _ _ _ h => h) (Or.inl ⟨by rfl, ?hy8x2008⟩) (by assumption) ?rest8x2008
      case hy8x2008 => (intro w hSw; (try dsimp only at hSw); (first | (go_simp; with_reducible rfl) | go_simp))
      try simp only [Act.put, List.setIfInBounds_toArray, List.set_cons_zero, List.set_cons_succ]
      refine wpAnyH_ready (rs := [4, 9]) (by kernel_rfl) (by simp) ?_
      refine AllReadyH.cons (o := { dst := some 30, op := Op.load 55 (Operand.tmp 29), type := 55, pos := "mark.go:20", after := #[{ on := 3, ground := Ground.data }], guard := none }) rfl (fun K hK => ?_) (AllReadyH.cons (o := { dst := some 35, op := Op.load 55 (Operand.tmp 34), type := 55, pos := "mark.go:20", after := #[{ on := 8, ground := Ground.data }], guard := none }) rfl (fun K hK => ?_) (AllReadyH.nil))
      · go_simp
        refine hK.out _ _ ?_ (fun _hS => ?_)
        · exact trivial
        clear hK K
        try simp only [Act.put, List.setIfInBounds_toArray, List.set_cons_zero, List.set_cons_succ]
        refine wpAnyH_ready (rs := [9]) (by kernel_rfl) (by simp) ?_
        refine AllReadyH.cons (o := { dst := some 35, op := Op.load 55 (Operand.tmp 34), type := 55, pos := "mark.go:20", after := #[{ on := 8, ground := Ground.data }], guard := none }) rfl (fun K hK => ?_) (AllReadyH.nil)
        go_simp
        refine hK.out _ _ ?_ (fun _hS => ?_)
        · exact trivial
        clear hK K
        try simp only [Act.put, List.setIfInBounds_toArray, List.set_cons_zero, List.set_cons_succ]
        refine wpAnyH_take (i := 10) (oi := { dst := some 36, op := Op.call { callee := Callee.builtin Builtin.len, args := #[Operand.tmp 35], argTypes := #[55] }, type := 3, pos := "mark.go:20", after := #[{ on := 9, ground := Ground.data }], guard := none }) (v := ?v10x2009) rfl (by kernel_rfl) (by kernel_rfl) (by kernel_rfl) (fun _ _ _ h => h) (Or.inl ⟨by rfl, ?hy10x2009⟩) (by assumption) ?rest10x2009
        case hy10x2009 => (intro w hSw; (try dsimp only at hSw); (first | (go_simp; with_reducible rfl) | go_simp))
        try simp only [Act.put, List.setIfInBounds_toArray, List.set_cons_zero, List.set_cons_succ]
        refine wpAnyH_ready (rs := [11]) (by kernel_rfl) (by simp) ?_
        refine AllReadyH.cons (o := { dst := some 37, op := Op.call { callee := Callee.value (Operand.func 26), args := #[Operand.tmp 30, Operand.tmp 31, Operand.tmp 36], argTypes := #[55, 3, 3] }, type := 55, pos := "mark.go:20", after := #[{ on := 4, ground := Ground.data }, { on := 5, ground := Ground.data }, { on := 10, ground := Ground.data }], guard := none }) rfl (fun K hK => ?_) (AllReadyH.nil)
        go_simp
        go_at_call 26
        refine HDl.out.mono ?_
        rintro e w3 ⟨v', rfl, hown3, hg3, hl3⟩
        obtain ⟨a3, c3', rfl, -⟩ := row_shape hown3
        have k3 := HS3.out w3 hg3
        obtain ⟨z0, z1, zf⟩ := cells_two k3
        have f4 : w3.frozen? ⟨p, 1, none⟩ = false := by simp [World.frozen?, k3]
        have HFin := hide (HE.out _ _ hown3 hg3 hl3)
        clear hown3 hg3 hl3 k3
        go_simp
        refine hK.out _ _ ?_ (fun _hS => ?_)
        · exact trivial
        clear hK K
        try simp only [Act.put, List.setIfInBounds_toArray, List.set_cons_zero, List.set_cons_succ]
        refine wpAnyH_take (i := 12) (oi := { dst := some 38, op := Op.nilCheck (Operand.tmp 26), type := 0, pos := "mark.go:20", after := #[{ on := 0, ground := Ground.data }, { on := 0, ground := Ground.phase }, { on := 1, ground := Ground.phase }, { on := 2, ground := Ground.phase }, { on := 3, ground := Ground.phase }, { on := 4, ground := Ground.phase }, { on := 5, ground := Ground.phase }, { on := 6, ground := Ground.phase }, { on := 7, ground := Ground.phase }, { on := 8, ground := Ground.phase }, { on := 9, ground := Ground.phase }, { on := 10, ground := Ground.phase }, { on := 11, ground := Ground.phase }], guard := none }) (v := ?v12x2010) rfl (by kernel_rfl) (by kernel_rfl) (by kernel_rfl) (fun _ _ _ h => h) (Or.inl ⟨by rfl, ?hy12x2010⟩) (by assumption) ?rest12x2010
        case hy12x2010 => (intro w hSw; (try dsimp only at hSw); (first | (go_simp; with_reducible rfl) | go_simp))
        try simp only [Act.put, List.setIfInBounds_toArray, List.set_cons_zero, List.set_cons_succ]
        refine wpAnyH_take (i := 13) (oi := { dst := some 39, op := Op.fieldAddr 57 (Operand.tmp 38) 1, type := 0, pos := "mark.go:20", after := #[{ on := 12, ground := Ground.data }, { on := 0, ground := Ground.phase }, { on := 1, ground := Ground.phase }, { on := 2, ground := Ground.phase }, { on := 3, ground := Ground.phase }, { on := 4, ground := Ground.phase }, { on := 5, ground := Ground.phase }, { on := 6, ground := Ground.phase }, { on := 7, ground := Ground.phase }, { on := 8, ground := Ground.phase }, { on := 9, ground := Ground.phase }, { on := 10, ground := Ground.phase }, { on := 11, ground := Ground.phase }], guard := none }) (v := ?v13x2011) rfl (by kernel_rfl) (by kernel_rfl) (by kernel_rfl) (fun _ _ _ h => h) (Or.inl ⟨by rfl, ?hy13x2011⟩) (by assumption) ?rest13x2011
        case hy13x2011 => (intro w hSw; (try dsimp only at hSw); (first | (go_simp; with_reducible rfl) | go_simp))
        try simp only [Act.put, List.setIfInBounds_toArray, List.set_cons_zero, List.set_cons_succ]
        refine wpAnyH_ready (rs := [14]) (by kernel_rfl) (by simp) ?_
        refine AllReadyH.cons (o := { dst := none, op := Op.store 55 (Operand.tmp 39) (Operand.tmp 37), type := 0, pos := "mark.go:20", after := #[{ on := 13, ground := Ground.data }, { on := 11, ground := Ground.data }, { on := 11, ground := Ground.chain }, { on := 0, ground := Ground.phase }, { on := 1, ground := Ground.phase }, { on := 2, ground := Ground.phase }, { on := 3, ground := Ground.phase }, { on := 4, ground := Ground.phase }, { on := 5, ground := Ground.phase }, { on := 6, ground := Ground.phase }, { on := 7, ground := Ground.phase }, { on := 8, ground := Ground.phase }, { on := 9, ground := Ground.phase }, { on := 10, ground := Ground.phase }, { on := 11, ground := Ground.phase }], guard := none }) rfl (fun K hK => ?_) (AllReadyH.nil)
        go_simp
        refine hK.out _ _ ?_ (fun _hS => ?_)
        · exact trivial
        clear hK K
        try simp only [Act.put, List.setIfInBounds_toArray, List.set_cons_zero, List.set_cons_succ]
        refine wpAnyH_done (by kernel_rfl) ?_ _
        refine NoPanic.normal ?_
        obtain ⟨hfd, hfin⟩ := HFin.out
        gi_wp2
        refine ⟨by simp, .inl ⟨_, _, rfl, run_takeDeferred hfd, ?_⟩⟩
        refine ⟨.int .u16 0, ?_, rfl, hfin⟩
        simp [results, Try.results12, go_sem]
      · go_simp
        refine hK.out _ _ ?_ (fun _hS => ?_)
        · exact trivial
        clear hK K
        try simp only [Act.put, List.setIfInBounds_toArray, List.set_cons_zero, List.set_cons_succ]
        refine wpAnyH_take (i := 10) (oi := { dst := some 36, op := Op.call { callee := Callee.builtin Builtin.len, args := #[Operand.tmp 35], argTypes := #[55] }, type := 3, pos := "mark.go:20", after := #[{ on := 9, ground := Ground.data }], guard := none }) (v := ?v10x2012) rfl (by kernel_rfl) (by kernel_rfl) (by kernel_rfl) (fun _ _ _ h => h) (Or.inl ⟨by rfl, ?hy10x2012⟩) (by assumption) ?rest10x2012
        case hy10x2012 => (intro w hSw; (try dsimp only at hSw); (first | (go_simp; with_reducible rfl) | go_simp))
        try simp only [Act.put, List.setIfInBounds_toArray, List.set_cons_zero, List.set_cons_succ]
        refine wpAnyH_ready (rs := [4]) (by kernel_rfl) (by simp) ?_
        refine AllReadyH.cons (o := { dst := some 30, op := Op.load 55 (Operand.tmp 29), type := 55, pos := "mark.go:20", after := #[{ on := 3, ground := Ground.data }], guard := none }) rfl (fun K hK => ?_) (AllReadyH.nil)
        go_simp
        refine hK.out _ _ ?_ (fun _hS => ?_)
        · exact trivial
        clear hK K
        try simp only [Act.put, List.setIfInBounds_toArray, List.set_cons_zero, List.set_cons_succ]
        refine wpAnyH_ready (rs := [11]) (by kernel_rfl) (by simp) ?_
        refine AllReadyH.cons (o := { dst := some 37, op := Op.call { callee := Callee.value (Operand.func 26), args := #[Operand.tmp 30, Operand.tmp 31, Operand.tmp 36], argTypes := #[55, 3, 3] }, type := 55, pos := "mark.go:20", after := #[{ on := 4, ground := Ground.data }, { on := 5, ground := Ground.data }, { on := 10, ground := Ground.data }], guard := none }) rfl (fun K hK => ?_) (AllReadyH.nil)
        go_simp
        go_at_call 26
        refine HDl.out.mono ?_
        rintro e w3 ⟨v', rfl, hown3, hg3, hl3⟩
        obtain ⟨a3, c3', rfl, -⟩ := row_shape hown3
        have k3 := HS3.out w3 hg3
        obtain ⟨z0, z1, zf⟩ := cells_two k3
        have f4 : w3.frozen? ⟨p, 1, none⟩ = false := by simp [World.frozen?, k3]
        have HFin := hide (HE.out _ _ hown3 hg3 hl3)
        clear hown3 hg3 hl3 k3
        go_simp
        refine hK.out _ _ ?_ (fun _hS => ?_)
        · exact trivial
        clear hK K
        try simp only [Act.put, List.setIfInBounds_toArray, List.set_cons_zero, List.set_cons_succ]
        refine wpAnyH_take (i := 12) (oi := { dst := some 38, op := Op.nilCheck (Operand.tmp 26), type := 0, pos := "mark.go:20", after := #[{ on := 0, ground := Ground.data }, { on := 0, ground := Ground.phase }, { on := 1, ground := Ground.phase }, { on := 2, ground := Ground.phase }, { on := 3, ground := Ground.phase }, { on := 4, ground := Ground.phase }, { on := 5, ground := Ground.phase }, { on := 6, ground := Ground.phase }, { on := 7, ground := Ground.phase }, { on := 8, ground := Ground.phase }, { on := 9, ground := Ground.phase }, { on := 10, ground := Ground.phase }, { on := 11, ground := Ground.phase }], guard := none }) (v := ?v12x2013) rfl (by kernel_rfl) (by kernel_rfl) (by kernel_rfl) (fun _ _ _ h => h) (Or.inl ⟨by rfl, ?hy12x2013⟩) (by assumption) ?rest12x2013
        case hy12x2013 => (intro w hSw; (try dsimp only at hSw); (first | (go_simp; with_reducible rfl) | go_simp))
        try simp only [Act.put, List.setIfInBounds_toArray, List.set_cons_zero, List.set_cons_succ]
        refine wpAnyH_take (i := 13) (oi := { dst := some 39, op := Op.fieldAddr 57 (Operand.tmp 38) 1, type := 0, pos := "mark.go:20", after := #[{ on := 12, ground := Ground.data }, { on := 0, ground := Ground.phase }, { on := 1, ground := Ground.phase }, { on := 2, ground := Ground.phase }, { on := 3, ground := Ground.phase }, { on := 4, ground := Ground.phase }, { on := 5, ground := Ground.phase }, { on := 6, ground := Ground.phase }, { on := 7, ground := Ground.phase }, { on := 8, ground := Ground.phase }, { on := 9, ground := Ground.phase }, { on := 10, ground := Ground.phase }, { on := 11, ground := Ground.phase }], guard := none }) (v := ?v13x2014) rfl (by kernel_rfl) (by kernel_rfl) (by kernel_rfl) (fun _ _ _ h => h) (Or.inl ⟨by rfl, ?hy13x2014⟩) (by assumption) ?rest13x2014
        case hy13x2014 => (intro w hSw; (try dsimp only at hSw); (first | (go_simp; with_reducible rfl) | go_simp))
        try simp only [Act.put, List.setIfInBounds_toArray, List.set_cons_zero, List.set_cons_succ]
        refine wpAnyH_ready (rs := [14]) (by kernel_rfl) (by simp) ?_
        refine AllReadyH.cons (o := { dst := none, op := Op.store 55 (Operand.tmp 39) (Operand.tmp 37), type := 0, pos := "mark.go:20", after := #[{ on := 13, ground := Ground.data }, { on := 11, ground := Ground.data }, { on := 11, ground := Ground.chain }, { on := 0, ground := Ground.phase }, { on := 1, ground := Ground.phase }, { on := 2, ground := Ground.phase }, { on := 3, ground := Ground.phase }, { on := 4, ground := Ground.phase }, { on := 5, ground := Ground.phase }, { on := 6, ground := Ground.phase }, { on := 7, ground := Ground.phase }, { on := 8, ground := Ground.phase }, { on := 9, ground := Ground.phase }, { on := 10, ground := Ground.phase }, { on := 11, ground := Ground.phase }], guard := none }) rfl (fun K hK => ?_) (AllReadyH.nil)
        go_simp
        refine hK.out _ _ ?_ (fun _hS => ?_)
        · exact trivial
        clear hK K
        try simp only [Act.put, List.setIfInBounds_toArray, List.set_cons_zero, List.set_cons_succ]
        refine wpAnyH_done (by kernel_rfl) ?_ _
        refine NoPanic.normal ?_
        obtain ⟨hfd, hfin⟩ := HFin.out
        gi_wp2
        refine ⟨by simp, .inl ⟨_, _, rfl, run_takeDeferred hfd, ?_⟩⟩
        refine ⟨.int .u16 0, ?_, rfl, hfin⟩
        simp [results, Try.results12, go_sem]
  · clear h3
    by_cases hce : c = n
    · subst hce
      refine (callsIn_wide (n := 9)).1 ?_
      refine callsIn_of_wp_marks Try.func12 rfl trivial ?_ rfl
      simp only [Try.ntmps12, List.size_toArray, List.length_cons, List.length_nil, Nat.reduceAdd, Nat.reduceSub, Array.replicate_succ, Array.replicate_zero, List.push_toArray, List.append_toArray, List.nil_append, List.cons_append]
      gi_wp2_with fail
      refine ⟨trivial, (callsIn_wide.2 HM.out).mono ?_⟩
      rintro e w2 ⟨rfl, rfl⟩
      gi_wp2_with (first | (refine ⟨trivial, (callsIn_wide.2 (backward_any _ _ _ _)).mono ?_⟩; rintro e w2 ⟨rfl, rfl⟩))
      have hb1 := below_alloc w2 (.cells #[.slice (some ⟨g, 0, none⟩) 0 (0)] 55)
      have hbox := heap_alloc_new w2 (.cells #[.slice (some ⟨g, 0, none⟩) 0 (0)] 55)
      have hs1 : (w2.alloc (.cells #[.slice (some ⟨g, 0, none⟩) 0 (0)] 55)).heap.size = w2.heap.size + 1 := by simp
      generalize w2.alloc (.cells #[.slice (some ⟨g, 0, none⟩) 0 (0)] 55) = W1 at *
      have hH1 := HH.out.below hb1
      have HB1 := hide hb1
      have HBx := hide hbox
      have HS1 := hide hs1
      have HH1 := hide hH1
      have HU := hide hu
      clear hb1 hbox hs1 hH1 hu s0 s1 f0 HM
      refine range_genS (gf := 40) (lb := #[.pointer (some ⟨w2.heap.size, 0, none⟩)]) rfl (enters_of Try.func40 (by kernel_rfl) rfl)
        (back_goes w2.heap.size (some ⟨g, 0, none⟩) 0 (0) [] rfl (by omega) (by omega)) (fun _ => rfl)
        (fun pre V => pre = [] ∧ Mv (Lp W1.heap.size) W1 V) (fun _ _ => False)
        (fun _ _ _ h hb => ⟨h.1, h.2.trans' hb⟩) (fun _ _ _ h _ => h) ⟨rfl, Mv.refl _ _⟩ ?mb
        (fun _ _ _ => True) (fun _ _ _ _ _ _ h _ => h) ?assign ?body ?done ?stop
      case mb =>
        rintro pre V ⟨rfl, hmv⟩
        exact ⟨(hmv.block _ (by have := HS1.out; omega) (fun e => by unfold Lp at e; have := HS1.out; omega)).trans HBx.out, .inl rfl⟩
      case assign =>
        intro l pre x V K hlt hi hK
        gi_wp2
        exact hK _ _ hi (Kl.refl _ _) trivial
      case stop => exact fun _ _ _ _ h => h.elim
      case body =>
        rintro l pre x rest a'' V hx
        simp at hx
      case done =>
        rintro D V hD hI hK
        have hm0 := hI.2
        have st0 : ∀ k, k < W1.heap.size → V.heap[k]? = W1.heap[k]? := fun k hk => hm0.block k hk (fun e => by unfold Lp at e; omega)
        have hbf : Bf V p B sv (Value.slice (some ⟨g, 0, none⟩) c c) xs us := HH1.out.bf.of_block fun k hk => st0 k (hk.elim HH1.out.bf.lt fun ⟨x, hx, hh'⟩ => (HH1.out.bf.each x hx).lt hh')
        have hmv : Mv (Bo p sv (Value.slice (some ⟨g, 0, none⟩) c c)) W1 V := ⟨hm0.os, hm0.tape, hm0.output, hm0.size, fun k hk _ => st0 k hk⟩
        have hund := hbf.undo
        rw [HU.out] at hund
        have HDl : Hid (Calls Try.prog 26 #[Value.slice (some ⟨g, 0, none⟩) c c, .int .i64 (c : Int), .int .i64 (c : Int)] V.drew fun e w' => ∃ v', e = .returned v' ∧ w'.ownsRow B 1 1 v' (c) (us.take (c)) ∧ V.drew.grownBy w' (Value.slice (some ⟨g, 0, none⟩) c c).ownBlock ∧ v'.ownBlock = (Value.slice (some ⟨g, 0, none⟩) c c).ownBlock) := hide (deletef_any (Value.slice (some ⟨g, 0, none⟩) c c) (c) (c) B us V.drew (Nat.le_refl _) (by omega) hund)
        have HS3 : Hid (∀ w3, V.drew.grownBy w3 (Value.slice (some ⟨g, 0, none⟩) c c).ownBlock → w3.heap[p]? = some (.cells #[sv, Value.slice (some ⟨g, 0, none⟩) c c] 57 (0, 0))) := hide (fun w3 hg => (hg.block p (lt_of_block hbf.blk) (fun e => hbf.une e.symm)).trans hbf.blk)
        have HE : Hid (∀ v' w3, w3.ownsRow B 1 1 v' (c) (us.take (c)) → V.drew.grownBy w3 (Value.slice (some ⟨g, 0, none⟩) c c).ownBlock → v'.ownBlock = (Value.slice (some ⟨g, 0, none⟩) c c).ownBlock → (w3.setCell ⟨p, 1, none⟩ v').heap[D]? = some (.deferred (some [])) ∧
            ∃ uv', Bf ((w3.setCell ⟨p, 1, none⟩ v').putObj D (.deferred none)) p B sv uv' xs us ∧ uv'.ownBlock = (Value.slice (some ⟨g, 0, none⟩) c c).ownBlock ∧ Mv (Bo p sv (Value.slice (some ⟨g, 0, none⟩) c c)) w2 ((w3.setCell ⟨p, 1, none⟩ v').putObj D (.deferred none))) := hide (fun v' w3 ho3 hg hl3 => by
          have htl : us.take (c) = us := List.take_of_length_le (by rw [HU.out]; omega)
          rw [htl] at ho3
          obtain ⟨hb4, hgo⟩ := undo_turned (us' := us) hbf (Below.refl V.heap.size V).drew hg (by rw [HU.out]; exact ho3) (.inl hl3)
          have hnot : ¬ Bo p sv (Value.slice (some ⟨g, 0, none⟩) c c) D := fun e => by
            have := HH.out.bf.lt e
            have := HS1.out
            omega
          have hDV : (w3.setCell ⟨p, 1, none⟩ v').heap[D]? = some (.deferred (some [])) := (hgo.mv.block D (lt_of_block hK) hnot).trans hK
          have hm4 : Mv (Bo p sv (Value.slice (some ⟨g, 0, none⟩) c c)) W1 (w3.setCell ⟨p, 1, none⟩ v') := hmv.trans' hgo.mv
          have st : ∀ k, k < W1.heap.size → ((w3.setCell ⟨p, 1, none⟩ v').putObj D (.deferred none)).heap[k]? = (w3.setCell ⟨p, 1, none⟩ v').heap[k]? := fun k hk => World.putObj_heap_other (by omega)
          refine ⟨hDV, v', hb4.of_block fun k hk => st k ?_, hl3, ?_⟩
          · rcases hk with hk | ⟨x, hx, hk⟩
            · have hk2 : Bo p sv (Value.slice (some ⟨g, 0, none⟩) c c) k := by
                rcases hk with hk | hk | hk
                · exact .inl hk
                · exact .inr (.inl hk)
                · exact .inr (.inr (by rw [hl3] at hk; exact hk))
              have := HH.out.bf.lt hk2
              have := HS1.out
              omega
            · exact (HH1.out.bf.each x hx).lt hk
          · have h5 : Mv (Bo p sv (Value.slice (some ⟨g, 0, none⟩) c c)) W1 ((w3.setCell ⟨p, 1, none⟩ v').putObj D (.deferred none)) := ⟨hm4.os, hm4.tape, hm4.output, by simpa [World.putObj] using hm4.size, fun k hk hn => (st k hk).trans (hm4.block k hk hn)⟩
            exact (Mv.of_below HB1.out).trans' h5)
        obtain ⟨s0, s1, f0⟩ := cells_two hbf.blk
        clear hD hI hm0 st0 hund hbf hmv hK HBx HH1
        gi_wp2_with fail
        refine wpIn_wide.2 ?_
        refine wp_region_noPanic ?_
        refine wp_region_held_drew (S := (fun W => True)) (by kernel_rfl) trivial (fun _hS => ?_)
        refine wpAnyH_take (i := 0) (oi := { dst := some 26, op := Op.move (Operand.tmp 0), type := 24, pos := "mark.go:20", after := #[], guard := none }) (v := ?v0x2015) rfl (by kernel_rfl) (by kernel_rfl) (by kernel_rfl) (fun _ _ _ h => h) (Or.inl ⟨by rfl, ?hy0x2015⟩) (by assumption) ?rest0x2015
        case hy0x2015 => (intro w hSw; (try dsimp only at hSw); (first | (go_simp; with_reducible rfl) | go_simp))
        try simp only [Act.put, List.setIfInBounds_toArray, List.set_cons_zero, List.set_cons_succ]
        refine wpAnyH_take (i := 1) (oi := { dst := some 27, op := Op.move (Operand.tmp 0), type := 24, pos := "mark.go:20", after := #[], guard := none }) (v := ?v1x2016) rfl (by kernel_rfl) (by kernel_rfl) (by kernel_rfl) (fun _ _ _ h => h) (Or.inl ⟨by rfl, ?hy1x2016⟩) (by assumption) ?rest1x2016
        case hy1x2016 => (intro w hSw; (try dsimp only at hSw); (first | (go_simp; with_reducible rfl) | go_simp))
        try simp only [Act.put, List.setIfInBounds_toArray, List.set_cons_zero, List.set_cons_succ]
        refine wpAnyH_take (i := 2) (oi := { dst := some 28, op := Op.nilCheck (Operand.tmp 27), type := 0, pos := "mark.go:20", after := #[{ on := 1, ground := Ground.data }], guard := none }) (v := ?v2x2017) rfl (by kernel_rfl) (by kernel_rfl) (by kernel_rfl) (fun _ _ _ h => h) (Or.inl ⟨by rfl, ?hy2x2017⟩) (by assumption) ?rest2x2017
        case hy2x2017 => (intro w hSw; (try dsimp only at hSw); (first | (go_simp; with_reducible rfl) | go_simp))
        try simp only [Act.put, List.setIfInBounds_toArray, List.set_cons_zero, List.set_cons_succ]
        refine wpAnyH_take (i := 3) (oi := { dst := some 29, op := Op.fieldAddr 57 (Operand.tmp 28) 1, type := 0, pos := "mark.go:20", after := #[{ on := 2, ground := Ground.data }], guard := none }) (v := ?v3x2018) rfl (by kernel_rfl) (by kernel_rfl) (by kernel_rfl) (fun _ _ _ h => h) (Or.inl ⟨by rfl, ?hy3x2018⟩) (by assumption) ?rest3x2018
        case hy3x2018 => (intro w hSw; (try dsimp only at hSw); (first | (go_simp; with_reducible rfl) | go_simp))
        try simp only [Act.put, List.setIfInBounds_toArray, List.set_cons_zero, List.set_cons_succ]
        refine wpAnyH_take (i := 5) (oi := { dst := some 31, op := Op.move (Operand.tmp 1), type := 3, pos := "mark.go:20", after := #[], guard := none }) (v := ?v5x2019) rfl (by kernel_rfl) (by kernel_rfl) (by kernel_rfl) (fun _ _ _ h => h) (Or.inl ⟨by rfl, ?hy5x2019⟩) (by assumption) ?rest5x2019
        case hy5x2019 => (intro w hSw; (try dsimp only at hSw); (first | (go_simp; with_reducible rfl) | go_simp))
        try simp only [Act.put, List.setIfInBounds_toArray, List.set_cons_zero, List.set_cons_succ]
        refine wpAnyH_take (i := 6) (oi := { dst := some 32, op := Op.move (Operand.tmp 0), type := 24, pos := "mark.go:20", after := #[], guard := none }) (v := ?v6x2020) rfl (by kernel_rfl) (by kernel_rfl) (by kernel_rfl) (fun _ _ _ h => h) (Or.inl ⟨by rfl, ?hy6x2020⟩) (by assumption) ?rest6x2020
        case hy6x2020 => (intro w hSw; (try dsimp only at hSw); (first | (go_simp; with_reducible rfl) | go_simp))
        try simp only [Act.put, List.setIfInBounds_toArray, List.set_cons_zero, List.set_cons_succ]
        refine wpAnyH_take (i := 7) (oi := { dst := some 33, op := Op.nilCheck (Operand.tmp 32), type := 0, pos := "mark.go:20", after := #[{ on := 6, ground := Ground.data }], guard := none }) (v := ?v7x2021) rfl (by kernel_rfl) (by kernel_rfl) (by kernel_rfl) (fun _ _ _ h => h) (Or.inl ⟨by rfl, ?hy7x2021⟩) (by assumption) ?rest7x2021
        case hy7x2021 => (intro w hSw; (try dsimp only at hSw); (first | (go_simp; with_reducible rfl) | go_simp))
        try simp only [Act.put, List.setIfInBounds_toArray, List.set_cons_zero, List.set_cons_succ]
        refine wpAnyH_take (i := 8) (oi := { dst := some 34, op := Op.fieldAddr 57 (Operand.tmp 33) 1, type := 0, pos := "mark.go:20", after := #[{ on := 7, ground := Ground.data }], guard := none }) (v := ?v8x2022) rfl (by kernel_rfl) (by kernel_rfl) (by kernel_rfl) (fun _ _ _ h => h) (Or.inl ⟨by rfl, ?hy8x2022⟩) (by assumption) ?rest8x2022
        case hy8x2022 => (intro w hSw; (try dsimp only at hSw); (first | (go_simp; with_reducible rfl) | go_simp))
        try simp only [Act.put, List.setIfInBounds_toArray, List.set_cons_zero, List.set_cons_succ]
        refine wpAnyH_ready (rs := [4, 9]) (by kernel_rfl) (by simp) ?_
        refine AllReadyH.cons (o := { dst := some 30, op := Op.load 55 (Operand.tmp 29), type := 55, pos := "mark.go:20", after := #[{ on := 3, ground := Ground.data }], guard := none }) rfl (fun K hK => ?_) (AllReadyH.cons (o := { dst := some 35, op := Op.load 55 (Operand.tmp 34), type := 55, pos := "mark.go:20", after := #[{ on := 8, ground := Ground.data }], guard := none }) rfl (fun K hK => ?_) (AllReadyH.nil))
        · go_simp
          refine hK.out _ _ ?_ (fun _hS => ?_)
          · exact trivial
          clear hK K
          try simp only [Act.put, List.setIfInBounds_toArray, List.set_cons_zero, List.set_cons_succ]
          refine wpAnyH_ready (rs := [9]) (by kernel_rfl) (by simp) ?_
          refine AllReadyH.cons (o := { dst := some 35, op := Op.load 55 (Operand.tmp 34), type := 55, pos := "mark.go:20", after := #[{ on := 8, ground := Ground.data }], guard := none }) rfl (fun K hK => ?_) (AllReadyH.nil)
          go_simp
          refine hK.out _ _ ?_ (fun _hS => ?_)
          · exact trivial
          clear hK K
          try simp only [Act.put, List.setIfInBounds_toArray, List.set_cons_zero, List.set_cons_succ]
          refine wpAnyH_take (i := 10) (oi := { dst := some 36, op := Op.call { callee := Callee.builtin Builtin.len, args := #[Operand.tmp 35], argTypes := #[55] }, type := 3, pos := "mark.go:20", after := #[{ on := 9, ground := Ground.data }], guard := none }) (v := ?v10x2023) rfl (by kernel_rfl) (by kernel_rfl) (by kernel_rfl) (fun _ _ _ h => h) (Or.inl ⟨by rfl, ?hy10x2023⟩) (by assumption) ?rest10x2023
          case hy10x2023 => (intro w hSw; (try dsimp only at hSw); (first | (go_simp; with_reducible rfl) | go_simp))
          try simp only [Act.put, List.setIfInBounds_toArray, List.set_cons_zero, List.set_cons_succ]
          refine wpAnyH_ready (rs := [11]) (by kernel_rfl) (by simp) ?_
          refine AllReadyH.cons (o := { dst := some 37, op := Op.call { callee := Callee.value (Operand.func 26), args := #[Operand.tmp 30, Operand.tmp 31, Operand.tmp 36], argTypes := #[55, 3, 3] }, type := 55, pos := "mark.go:20", after := #[{ on := 4, ground := Ground.data }, { on := 5, ground := Ground.data }, { on := 10, ground := Ground.data }], guard := none }) rfl (fun K hK => ?_) (AllReadyH.nil)
          go_simp
          go_at_call 26
          refine HDl.out.mono ?_
          rintro e w3 ⟨v', rfl, hown3, hg3, hl3⟩
          obtain ⟨a3, c3', rfl, -⟩ := row_shape hown3
          have k3 := HS3.out w3 hg3
          obtain ⟨z0, z1, zf⟩ := cells_two k3
          have f4 : w3.frozen? ⟨p, 1, none⟩ = false := by simp [World.frozen?, k3]
          have HFin := hide (HE.out _ _ hown3 hg3 hl3)
          clear hown3 hg3 hl3 k3
          go_simp
          refine hK.out _ _ ?_ (fun _hS => ?_)
          · exact trivial
          clear hK K
          try simp only [Act.put, List.setIfInBounds_toArray, List.set_cons_zero, List.set_cons_succ]
          refine wpAnyH_take (i := 12) (oi := { dst := some 38, op := Op.nilCheck (Operand.tmp 26), type := 0, pos := "mark.go:20", after := #[{ on := 0, ground := Ground.data }, { on := 0, ground := Ground.phase }, { on := 1, ground := Ground.phase }, { on := 2, ground := Ground.phase }, { on := 3, ground := Ground.phase }, { on := 4, ground := Ground.phase }, { on := 5, ground := Ground.phase }, { on := 6, ground := Ground.phase }, { on := 7, ground := Ground.phase }, { on := 8, ground := Ground.phase }, { on := 9, ground := Ground.phase }, { on := 10, ground := Ground.phase }, { on := 11, ground := Ground.phase }], guard := none }) (v := ?v12x2024) rfl (by kernel_rfl) (by kernel_rfl) (by kernel_rfl) (fun _ _ _ h => h) (Or.inl ⟨by rfl, ?hy12x2024⟩) (by assumption) ?rest12x2024
          case hy12x2024 => (intro w hSw; (try dsimp only at hSw); (first | (go_simp; with_reducible rfl) | go_simp))
          try simp only [Act.put, List.setIfInBounds_toArray, List.set_cons_zero, List.set_cons_succ]
          refine wpAnyH_take (i := 13) (oi := { dst := some 39, op := Op.fieldAddr 57 (Operand.tmp 38) 1, type := 0, pos := "mark.go:20", after := #[{ on := 12, ground := Ground.data }, { on := 0, ground := Ground.phase }, { on := 1, ground := Ground.phase }, { on := 2, ground := Ground.phase }, { on := 3, ground := Ground.phase }, { on := 4, ground := Ground.phase }, { on := 5, ground := Ground.phase }, { on := 6, ground := Ground.phase }, { on := 7, ground := Ground.phase }, { on := 8, ground := Ground.phase }, { on := 9, ground := Ground.phase }, { on := 10, ground := Ground.phase }, { on := 11, ground := Ground.phase }], guard := none }) (v := ?v13x2025) rfl (by kernel_rfl) (by kernel_rfl) (by kernel_rfl) (fun _ _ _ h => h) (Or.inl ⟨by rfl, ?hy13x2025⟩) (by assumption) ?rest13x2025
          case hy13x2025 => (intro w hSw; (try dsimp only at hSw); (first | (go_simp; with_reducible rfl) | go_simp))
          try simp only [Act.put, List.setIfInBounds_toArray, List.set_cons_zero, List.set_cons_succ]
          refine wpAnyH_ready (rs := [14]) (by kernel_rfl) (by simp) ?_
          refine AllReadyH.cons (o := { dst := none, op := Op.store 55 (Operand.tmp 39) (Operand.tmp 37), type := 0, pos := "mark.go:20", after := #[{ on := 13, ground := Ground.data }, { on := 11, ground := Ground.data }, { on := 11, ground := Ground.chain }, { on := 0, ground := Ground.phase }, { on := 1, ground := Ground.phase }, { on := 2, ground := Ground.phase }, { on := 3, ground := Ground.phase }, { on := 4, ground := Ground.phase }, { on := 5, ground := Ground.phase }, { on := 6, ground := Ground.phase }, { on := 7, ground := Ground.phase }, { on := 8, ground := Ground.phase }, { on := 9, ground := Ground.phase }, { on := 10, ground := Ground.phase }, { on := 11, ground := Ground.phase }], guard := none }) rfl (fun K hK => ?_) (AllReadyH.nil)
          go_simp
          refine hK.out _ _ ?_ (fun _hS => ?_)
          · exact trivial
          clear hK K
          try simp only [Act.put, List.setIfInBounds_toArray, List.set_cons_zero, List.set_cons_succ]
          refine wpAnyH_done (by kernel_rfl) ?_ _
          refine NoPanic.normal ?_
          obtain ⟨hfd, hfin⟩ := HFin.out
          gi_wp2
          refine ⟨by simp, .inl ⟨_, _, rfl, run_takeDeferred hfd, ?_⟩⟩
          refine ⟨.int .u16 0, ?_, rfl, hfin⟩
          simp [results, Try.results12, go_sem]
        · go_simp
          refine hK.out _ _ ?_ (fun _hS => ?_)
          · exact trivial
          clear hK K
          try simp only [Act.put, List.setIfInBounds_toArray, List.set_cons_zero, List.set_cons_succ]
          refine wpAnyH_take (i := 10) (oi := { dst := some 36, op := Op.call { callee := Callee.builtin Builtin.len, args := #[Operand.tmp 35], argTypes := #[55] }, type := 3, pos := "mark.go:20", after := #[{ on := 9, ground := Ground.data }], guard := none }) (v := ?v10x2026) rfl (by kernel_rfl) (by kernel_rfl) (by kernel_rfl) (fun _ _ _ h => h) (Or.inl ⟨by rfl, ?hy10x2026⟩) (by assumption) ?rest10x2026
          case hy10x2026 => (intro w hSw; (try dsimp only at hSw); (first | (go_simp; with_reducible rfl) | go_simp))
          try simp only [Act.put, List.setIfInBounds_toArray, List.set_cons_zero, List.set_cons_succ]
          refine wpAnyH_ready (rs := [4]) (by kernel_rfl) (by simp) ?_
          refine AllReadyH.cons (o := { dst := some 30, op := Op.load 55 (Operand.tmp 29), type := 55, pos := "mark.go:20", after := #[{ on := 3, ground := Ground.data }], guard := none }) rfl (fun K hK => ?_) (AllReadyH.nil)
          go_simp
          refine hK.out _ _ ?_ (fun _hS => ?_)
          · exact trivial
          clear hK K
          try simp only [Act.put, List.setIfInBounds_toArray, List.set_cons_zero, List.set_cons_succ]
          refine wpAnyH_ready (rs := [11]) (by kernel_rfl) (by simp) ?_
          refine AllReadyH.cons (o := { dst := some 37, op := Op.call { callee := Callee.value (Operand.func 26), args := #[Operand.tmp 30, Operand.tmp 31, Operand.tmp 36], argTypes := #[55, 3, 3] }, type := 55, pos := "mark.go:20", after := #[{ on := 4, ground := Ground.data }, { on := 5, ground := Ground.data }, { on := 10, ground := Ground.data }], guard := none }) rfl (fun K hK => ?_) (AllReadyH.nil)
          go_simp
          go_at_call 26
          refine HDl.out.mono ?_
          rintro e w3 ⟨v', rfl, hown3, hg3, hl3⟩
          obtain ⟨a3, c3', rfl, -⟩ := row_shape hown3
          have k3 := HS3.out w3 hg3
          obtain ⟨z0, z1, zf⟩ := cells_two k3
          have f4 : w3.frozen? ⟨p, 1, none⟩ = false := by simp [World.frozen?, k3]
          have HFin := hide (HE.out _ _ hown3 hg3 hl3)
          clear hown3 hg3 hl3 k3
          go_simp
          refine hK.out _ _ ?_ (fun _hS => ?_)
          · exact trivial
          clear hK K
          try simp only [Act.put, List.setIfInBounds_toArray, List.set_cons_zero, List.set_cons_succ]
          refine wpAnyH_take (i := 12) (oi := { dst := some 38, op := Op.nilCheck (Operand.tmp 26), type := 0, pos := "mark.go:20", after := #[{ on := 0, ground := Ground.data }, { on := 0, ground := Ground.phase }, { on := 1, ground := Ground.phase }, { on := 2, ground := Ground.phase }, { on := 3, ground := Ground.phase }, { on := 4, ground := Ground.phase }, { on := 5, ground := Ground.phase }, { on := 6, ground := Ground.phase }, { on := 7, ground := Ground.phase }, { on := 8, ground := Ground.phase }, { on := 9, ground := Ground.phase }, { on := 10, ground := Ground.phase }, { on := 11, ground := Ground.phase }], guard := none }) (v := ?v12x2027) rfl (by kernel_rfl) (by kernel_rfl) (by kernel_rfl) (fun _ _ _ h => h) (Or.inl ⟨by rfl, ?hy12x2027⟩) (by assumption) ?rest12x2027
          case hy12x2027 => (intro w hSw; (try dsimp only at hSw); (first | (go_simp; with_reducible rfl) | go_simp))
          try simp only [Act.put, List.setIfInBounds_toArray, List.set_cons_zero, List.set_cons_succ]
          refine wpAnyH_take (i := 13) (oi := { dst := some 39, op := Op.fieldAddr 57 (Operand.tmp 38) 1, type := 0, pos := "mark.go:20", after := #[{ on := 12, ground := Ground.data }, { on := 0, ground := Ground.phase }, { on := 1, ground := Ground.phase }, { on := 2, ground := Ground.phase }, { on := 3, ground := Ground.phase }, { on := 4, ground := Ground.phase }, { on := 5, ground := Ground.phase }, { on := 6, ground := Ground.phase }, { on := 7, ground := Ground.phase }, { on := 8, ground := Ground.phase }, { on := 9, ground := Ground.phase }, { on := 10, ground := Ground.phase }, { on := 11, ground := Ground.phase }], guard := none }) (v := ?v13x2028) rfl (by kernel_rfl) (by kernel_rfl) (by kernel_rfl) (fun _ _ _ h => h) (Or.inl ⟨by rfl, ?hy13x2028⟩) (by assumption) ?rest13x2028
          case hy13x2028 => (intro w hSw; (try dsimp only at hSw); (first | (go_simp; with_reducible rfl) | go_simp))
          try simp only [Act.put, List.setIfInBounds_toArray, List.set_cons_zero, List.set_cons_succ]
          refine wpAnyH_ready (rs := [14]) (by kernel_rfl) (by simp) ?_
          refine AllReadyH.cons (o := { dst := none, op := Op.store 55 (Operand.tmp 39) (Operand.tmp 37), type := 0, pos := "mark.go:20", after := #[{ on := 13, ground := Ground.data }, { on := 11, ground := Ground.data }, { on := 11, ground := Ground.chain }, { on := 0, ground := Ground.phase }, { on := 1, ground := Ground.phase }, { on := 2, ground := Ground.phase }, { on := 3, ground := Ground.phase }, { on := 4, ground := Ground.phase }, { on := 5, ground := Ground.phase }, { on := 6, ground := Ground.phase }, { on := 7, ground := Ground.phase }, { on := 8, ground := Ground.phase }, { on := 9, ground := Ground.phase }, { on := 10, ground := Ground.phase }, { on := 11, ground := Ground.phase }], guard := none }) rfl (fun K hK => ?_) (AllReadyH.nil)
          go_simp
          refine hK.out _ _ ?_ (fun _hS => ?_)
          · exact trivial
          clear hK K
          try simp only [Act.put, List.setIfInBounds_toArray, List.set_cons_zero, List.set_cons_succ]
          refine wpAnyH_done (by kernel_rfl) ?_ _
          refine NoPanic.normal ?_
          obtain ⟨hfd, hfin⟩ := HFin.out
          gi_wp2
          refine ⟨by simp, .inl ⟨_, _, rfl, run_takeDeferred hfd, ?_⟩⟩
          refine ⟨.int .u16 0, ?_, rfl, hfin⟩
          simp [results, Try.results12, go_sem]
    · have e7 : ¬ (c ≤ n) := by omega
      have e8 : ¬ (n = c) := by omega
      refine (callsIn_wide (n := 9)).1 ?_
      refine callsIn_of_wp_marks Try.func12 rfl trivial ?_ rfl
      simp only [Try.ntmps12, List.size_toArray, List.length_cons, List.length_nil, Nat.reduceAdd, Nat.reduceSub, Array.replicate_succ, Array.replicate_zero, List.push_toArray, List.append_toArray, List.nil_append, List.cons_append]
      gi_wp2_with fail
      refine ⟨trivial, (callsIn_wide.2 HM.out).mono ?_⟩
      rintro e w2 ⟨rfl, rfl⟩
      gi_wp2_with (first | (refine ⟨trivial, (callsIn_wide.2 (backward_any _ _ _ _)).mono ?_⟩; rintro e w2 ⟨rfl, rfl⟩))
      have hb1 := below_alloc w2 (.cells #[.slice (some ⟨g, n, none⟩) 0 (c - n)] 55)
      have hbox := heap_alloc_new w2 (.cells #[.slice (some ⟨g, n, none⟩) 0 (c - n)] 55)
      have hs1 : (w2.alloc (.cells #[.slice (some ⟨g, n, none⟩) 0 (c - n)] 55)).heap.size = w2.heap.size + 1 := by simp
      generalize w2.alloc (.cells #[.slice (some ⟨g, n, none⟩) 0 (c - n)] 55) = W1 at *
      have hH1 := HH.out.below hb1
      have HB1 := hide hb1
      have HBx := hide hbox
      have HS1 := hide hs1
      have HH1 := hide hH1
      have HU := hide hu
      clear hb1 hbox hs1 hH1 hu s0 s1 f0 HM
      refine range_genS (gf := 40) (lb := #[.pointer (some ⟨w2.heap.size, 0, none⟩)]) rfl (enters_of Try.func40 (by kernel_rfl) rfl)
        (back_goes w2.heap.size (some ⟨g, n, none⟩) 0 (c - n) [] rfl (by omega) (by omega)) (fun _ => rfl)
        (fun pre V => pre = [] ∧ Mv (Lp W1.heap.size) W1 V) (fun _ _ => False)
        (fun _ _ _ h hb => ⟨h.1, h.2.trans' hb⟩) (fun _ _ _ h _ => h) ⟨rfl, Mv.refl _ _⟩ ?mb
        (fun _ _ _ => True) (fun _ _ _ _ _ _ h _ => h) ?assign ?body ?done ?stop
      case mb =>
        rintro pre V ⟨rfl, hmv⟩
        exact ⟨(hmv.block _ (by have := HS1.out; omega) (fun e => by unfold Lp at e; have := HS1.out; omega)).trans HBx.out, .inl rfl⟩
      case assign =>
        intro l pre x V K hlt hi hK
        gi_wp2
        exact hK _ _ hi (Kl.refl _ _) trivial
      case stop => exact fun _ _ _ _ h => h.elim
      case body =>
        rintro l pre x rest a'' V hx
        simp at hx
      case done =>
        rintro D V hD hI hK
        have hm0 := hI.2
        have st0 : ∀ k, k < W1.heap.size → V.heap[k]? = W1.heap[k]? := fun k hk => hm0.block k hk (fun e => by unfold Lp at e; omega)
        have hbf : Bf V p B sv (Value.slice (some ⟨g, 0, none⟩) n c) xs us := HH1.out.bf.of_block fun k hk => st0 k (hk.elim HH1.out.bf.lt fun ⟨x, hx, hh'⟩ => (HH1.out.bf.each x hx).lt hh')
        have hmv : Mv (Bo p sv (Value.slice (some ⟨g, 0, none⟩) n c)) W1 V := ⟨hm0.os, hm0.tape, hm0.output, hm0.size, fun k hk _ => st0 k hk⟩
        have hund := hbf.undo
        rw [HU.out] at hund
        have HDl : Hid (Calls Try.prog 26 #[Value.slice (some ⟨g, 0, none⟩) n c, .int .i64 (n : Int), .int .i64 (n : Int)] V.drew fun e w' => ∃ v', e = .returned v' ∧ w'.ownsRow B 1 1 v' (n) (us.take (n)) ∧ V.drew.grownBy w' (Value.slice (some ⟨g, 0, none⟩) n c).ownBlock ∧ v'.ownBlock = (Value.slice (some ⟨g, 0, none⟩) n c).ownBlock) := hide (deletef_any (Value.slice (some ⟨g, 0, none⟩) n c) (n) (n) B us V.drew (Nat.le_refl _) (by omega) hund)
        have HS3 : Hid (∀ w3, V.drew.grownBy w3 (Value.slice (some ⟨g, 0, none⟩) n c).ownBlock → w3.heap[p]? = some (.cells #[sv, Value.slice (some ⟨g, 0, none⟩) n c] 57 (0, 0))) := hide (fun w3 hg => (hg.block p (lt_of_block hbf.blk) (fun e => hbf.une e.symm)).trans hbf.blk)
        have HE : Hid (∀ v' w3, w3.ownsRow B 1 1 v' (n) (us.take (n)) → V.drew.grownBy w3 (Value.slice (some ⟨g, 0, none⟩) n c).ownBlock → v'.ownBlock = (Value.slice (some ⟨g, 0, none⟩) n c).ownBlock → (w3.setCell ⟨p, 1, none⟩ v').heap[D]? = some (.deferred (some [])) ∧
            ∃ uv', Bf ((w3.setCell ⟨p, 1, none⟩ v').putObj D (.deferred none)) p B sv uv' xs us ∧ uv'.ownBlock = (Value.slice (some ⟨g, 0, none⟩) n c).ownBlock ∧ Mv (Bo p sv (Value.slice (some ⟨g, 0, none⟩) n c)) w2 ((w3.setCell ⟨p, 1, none⟩ v').putObj D (.deferred none))) := hide (fun v' w3 ho3 hg hl3 => by
          have htl : us.take (n) = us := List.take_of_length_le (by rw [HU.out]; omega)
          rw [htl] at ho3
          obtain ⟨hb4, hgo⟩ := undo_turned (us' := us) hbf (Below.refl V.heap.size V).drew hg (by rw [HU.out]; exact ho3) (.inl hl3)
          have hnot : ¬ Bo p sv (Value.slice (some ⟨g, 0, none⟩) n c) D := fun e => by
            have := HH.out.bf.lt e
            have := HS1.out
            omega
          have hDV : (w3.setCell ⟨p, 1, none⟩ v').heap[D]? = some (.deferred (some [])) := (hgo.mv.block D (lt_of_block hK) hnot).trans hK
          have hm4 : Mv (Bo p sv (Value.slice (some ⟨g, 0, none⟩) n c)) W1 (w3.setCell ⟨p, 1, none⟩ v') := hmv.trans' hgo.mv
          have st : ∀ k, k < W1.heap.size → ((w3.setCell ⟨p, 1, none⟩ v').putObj D (.deferred none)).heap[k]? = (w3.setCell ⟨p, 1, none⟩ v').heap[k]? := fun k hk => World.putObj_heap_other (by omega)
          refine ⟨hDV, v', hb4.of_block fun k hk => st k ?_, hl3, ?_⟩
          · rcases hk with hk | ⟨x, hx, hk⟩
            · have hk2 : Bo p sv (Value.slice (some ⟨g, 0, none⟩) n c) k := by
                rcases hk with hk | hk | hk
                · exact .inl hk
                · exact .inr (.inl hk)
                · exact .inr (.inr (by rw [hl3] at hk; exact hk))
              have := HH.out.bf.lt hk2
              have := HS1.out
              omega
            · exact (HH1.out.bf.each x hx).lt hk
          · have h5 : Mv (Bo p sv (Value.slice (some ⟨g, 0, none⟩) n c)) W1 ((w3.setCell ⟨p, 1, none⟩ v').putObj D (.deferred none)) := ⟨hm4.os, hm4.tape, hm4.output, by simpa [World.putObj] using hm4.size, fun k hk hn => (st k hk).trans (hm4.block k hk hn)⟩
            exact (Mv.of_below HB1.out).trans' h5)
        obtain ⟨s0, s1, f0⟩ := cells_two hbf.blk
        clear hD hI hm0 st0 hund hbf hmv hK HBx HH1
        gi_wp2_with fail
        refine wpIn_wide.2 ?_
        refine wp_region_noPanic ?_
        refine wp_region_held_drew (S := (fun W => True)) (by kernel_rfl) trivial (fun _hS => ?_)
        refine wpAnyH_take (i := 0) (oi := { dst := some 26, op := Op.move (Operand.tmp 0), type := 24, pos := "mark.go:20", after := #[], guard := none }) (v := ?v0x2029) rfl (by kernel_rfl) (by kernel_rfl) (by kernel_rfl) (fun _ _ _ h => h) (Or.inl ⟨by rfl, ?hy0x2029⟩) (by assumption) ?rest0x2029
        case hy0x2029 => (intro w hSw; (try dsimp only at hSw); (first | (go_simp; with_reducible rfl) | go_simp))
        try simp only [Act.put, List.setIfInBounds_toArray, List.set_cons_zero, List.set_cons_succ]
        refine wpAnyH_take (i := 1) (oi := { dst := some 27, op := Op.move (Operand.tmp 0), type := 24, pos := "mark.go:20", after := #[], guard := none }) (v := ?v1x2030) rfl (by kernel_rfl) (by kernel_rfl) (by kernel_rfl) (fun _ _ _ h => h) (Or.inl ⟨by rfl, ?hy1x2030⟩) (by assumption) ?rest1x2030
        case hy1x2030 => (intro w hSw; (try dsimp only at hSw); (first | (go_simp; with_reducible rfl) | go_simp))
        try simp only [Act.put, List.setIfInBounds_toArray, List.set_cons_zero, List.set_cons_succ]
        refine wpAnyH_take (i := 2) (oi := { dst := some 28, op := Op.nilCheck (Operand.tmp 27), type := 0, pos := "mark.go:20", after := #[{ on := 1, ground := Ground.data }], guard := none }) (v := ?v2x2031) rfl (by kernel_rfl) (by kernel_rfl) (by kernel_rfl) (fun _ _ _ h => h) (Or.inl ⟨by rfl, ?hy2x2031⟩) (by assumption) ?rest2x2031
        case hy2x2031 => (intro w hSw; (try dsimp only at hSw); (first | (go_simp; with_reducible rfl) | go_simp))
        try simp only [Act.put, List.setIfInBounds_toArray, List.set_cons_zero, List.set_cons_succ]
        refine wpAnyH_take (i := 3) (oi := { dst := some 29, op := Op.fieldAddr 57 (Operand.tmp 28) 1, type := 0, pos := "mark.go:20", after := #[{ on := 2, ground := Ground.data }], guard := none }) (v := ?v3x2032) rfl (by kernel_rfl) (by kernel_rfl) (by kernel_rfl) (fun _ _ _ h => h) (Or.inl ⟨by rfl, ?hy3x2032⟩) (by assumption) ?rest3x2032
        case hy3x2032 => (intro w hSw; (try dsimp only at hSw); (first | (go_simp; with_reducible rfl) | go_simp))
        try simp only [Act.put, List.setIfInBounds_toArray, List.set_cons_zero, List.set_cons_succ]
        refine wpAnyH_take (i := 5) (oi := { dst := some 31, op := Op.move (Operand.tmp 1), type := 3, pos := "mark.go:20", after := #[], guard := none }) (v := ?v5x2033) rfl (by kernel_rfl) (by kernel_rfl) (by kernel_rfl) (fun _ _ _ h => h) (Or.inl ⟨by rfl, ?hy5x2033⟩) (by assumption) ?rest5x2033
        case hy5x2033 => (intro w hSw; (try dsimp only at hSw); (first | (go_simp; with_reducible rfl) | go_simp))
        try simp only [Act.put, List.setIfInBounds_toArray, List.set_cons_zero, List.set_cons_succ]
        refine wpAnyH_take (i := 6) (oi := { dst := some 32, op := Op.move (Operand.tmp 0), type := 24, pos := "mark.go:20", after := #[], guard := none }) (v := ?v6x2034) rfl (by kernel_rfl) (by kernel_rfl) (by kernel_rfl) (fun _ _ _ h => h) (Or.inl ⟨by rfl, ?hy6x2034⟩) (by assumption) ?rest6x2034
        case hy6x2034 => (intro w hSw; (try dsimp only at hSw); (first | (go_simp; with_reducible rfl) | go_simp))
        try simp only [Act.put, List.setIfInBounds_toArray, List.set_cons_zero, List.set_cons_succ]
        refine wpAnyH_take (i := 7) (oi := { dst := some 33, op := Op.nilCheck (Operand.tmp 32), type := 0, pos := "mark.go:20", after := #[{ on := 6, ground := Ground.data }], guard := none }) (v := ?v7x2035) rfl (by kernel_rfl) (by kernel_rfl) (by kernel_rfl) (fun _ _ _ h => h) (Or.inl ⟨by rfl, ?hy7x2035⟩) (by assumption) ?rest7x2035
        case hy7x2035 => (intro w hSw; (try dsimp only at hSw); (first | (go_simp; with_reducible rfl) | go_simp))
        try simp only [Act.put, List.setIfInBounds_toArray, List.set_cons_zero, List.set_cons_succ]
        refine wpAnyH_take (i := 8) (oi := { dst := some 34, op := Op.fieldAddr 57 (Operand.tmp 33) 1, type := 0, pos := "mark.go:20", after := #[{ on := 7, ground := Ground.data }], guard := none }) (v := ?v8x2036) rfl (by kernel_rfl) (by kernel_rfl) (by kernel_rfl) (fun _ _ _ h => h) (Or.inl ⟨by rfl, ?hy8x2036⟩) (by assumption) ?rest8x2036
        case hy8x2036 => (intro w hSw; (try dsimp only at hSw); (first | (go_simp; with_reducible rfl) | go_simp))
        try simp only [Act.put, List.setIfInBounds_toArray, List.set_cons_zero, List.set_cons_succ]
        refine wpAnyH_ready (rs := [4, 9]) (by kernel_rfl) (by simp) ?_
        refine AllReadyH.cons (o := { dst := some 30, op := Op.load 55 (Operand.tmp 29), type := 55, pos := "mark.go:20", after := #[{ on := 3, ground := Ground.data }], guard := none }) rfl (fun K hK => ?_) (AllReadyH.cons (o := { dst := some 35, op := Op.load 55 (Operand.tmp 34), type := 55, pos := "mark.go:20", after := #[{ on := 8, ground := Ground.data }], guard := none }) rfl (fun K hK => ?_) (AllReadyH.nil))
        · go_simp
          refine hK.out _ _ ?_ (fun _hS => ?_)
          · exact trivial
          clear hK K
          try simp only [Act.put, List.setIfInBounds_toArray, List.set_cons_zero, List.set_cons_succ]
          refine wpAnyH_ready (rs := [9]) (by kernel_rfl) (by simp) ?_
          refine AllReadyH.cons (o := { dst := some 35, op := Op.load 55 (Operand.tmp 34), type := 55, pos := "mark.go:20", after := #[{ on := 8, ground := Ground.data }], guard := none }) rfl (fun K hK => ?_) (AllReadyH.nil)
          go_simp
          refine hK.out _ _ ?_ (fun _hS => ?_)
          · exact trivial
          clear hK K
          try simp only [Act.put, List.setIfInBounds_toArray, List.set_cons_zero, List.set_cons_succ]
          refine wpAnyH_take (i := 10) (oi := { dst := some 36, op := Op.call { callee := Callee.builtin Builtin.len, args := #[Operand.tmp 35], argTypes := #[55] }, type := 3, pos := "mark.go:20", after := #[{ on := 9, ground := Ground.data }], guard := none }) (v := ?v10x2037) rfl (by kernel_rfl) (by kernel_rfl) (by kernel_rfl) (fun _ _ _ h => h) (Or.inl ⟨by rfl, ?hy10x2037⟩) (by assumption) ?rest10x2037
          case hy10x2037 => (intro w hSw; (try dsimp only at hSw); (first | (go_simp; with_reducible rfl) | go_simp))
          try simp only [Act.put, List.setIfInBounds_toArray, List.set_cons_zero, List.set_cons_succ]
          refine wpAnyH_ready (rs := [11]) (by kernel_rfl) (by simp) ?_
          refine AllReadyH.cons (o := { dst := some 37, op := Op.call { callee := Callee.value (Operand.func 26), args := #[Operand.tmp 30, Operand.tmp 31, Operand.tmp 36], argTypes := #[55, 3, 3] }, type := 55, pos := "mark.go:20", after := #[{ on := 4, ground := Ground.data }, { on := 5, ground := Ground.data }, { on := 10, ground := Ground.data }], guard := none }) rfl (fun K hK => ?_) (AllReadyH.nil)
          go_simp
          go_at_call 26
          refine HDl.out.mono ?_
          rintro e w3 ⟨v', rfl, hown3, hg3, hl3⟩
          obtain ⟨a3, c3', rfl, -⟩ := row_shape hown3
          have k3 := HS3.out w3 hg3
          obtain ⟨z0, z1, zf⟩ := cells_two k3
          have f4 : w3.frozen? ⟨p, 1, none⟩ = false := by simp [World.frozen?, k3]
          have HFin := hide (HE.out _ _ hown3 hg3 hl3)
          clear hown3 hg3 hl3 k3
          go_simp
          refine hK.out _ _ ?_ (fun _hS => ?_)
          · exact trivial
          clear hK K
          try simp only [Act.put, List.setIfInBounds_toArray, List.set_cons_zero, List.set_cons_succ]
          refine wpAnyH_take (i := 12) (oi := { dst := some 38, op := Op.nilCheck (Operand.tmp 26), type := 0, pos := "mark.go:20", after := #[{ on := 0, ground := Ground.data }, { on := 0, ground := Ground.phase }, { on := 1, ground := Ground.phase }, { on := 2, ground := Ground.phase }, { on := 3, ground := Ground.phase }, { on := 4, ground := Ground.phase }, { on := 5, ground := Ground.phase }, { on := 6, ground := Ground.phase }, { on := 7, ground := Ground.phase }, { on := 8, ground := Ground.phase }, { on := 9, ground := Ground.phase }, { on := 10, ground := Ground.phase }, { on := 11, ground := Ground.phase }], guard := none }) (v := ?v12x2038) rfl (by kernel_rfl) (by kernel_rfl) (by kernel_rfl) (fun _ _ _ h => h) (Or.inl ⟨by rfl, ?hy12x2038⟩) (by assumption) ?rest12x2038
          case hy12x2038 => (intro w hSw; (try dsimp only at hSw); (first | (go_simp; with_reducible rfl) | go_simp))
          try simp only [Act.put, List.setIfInBounds_toArray, List.set_cons_zero, List.set_cons_succ]
          refine wpAnyH_take (i := 13) (oi := { dst := some 39, op := Op.fieldAddr 57 (Operand.tmp 38) 1, type := 0, pos := "mark.go:20", after := #[{ on := 12, ground := Ground.data }, { on := 0, ground := Ground.phase }, { on := 1, ground := Ground.phase }, { on := 2, ground := Ground.phase }, { on := 3, ground := Ground.phase }, { on := 4, ground := Ground.phase }, { on := 5, ground := Ground.phase }, { on := 6, ground := Ground.phase }, { on := 7, ground := Ground.phase }, { on := 8, ground := Ground.phase }, { on := 9, ground := Ground.phase }, { on := 10, ground := Ground.phase }, { on := 11, ground := Ground.phase }], guard := none }) (v := ?v13x2039) rfl (by kernel_rfl) (by kernel_rfl) (by kernel_rfl) (fun _ _ _ h => h) (Or.inl ⟨by rfl, ?hy13x2039⟩) (by assumption) ?rest13x2039
          case hy13x2039 => (intro w hSw; (try dsimp only at hSw); (first | (go_simp; with_reducible rfl) | go_simp))
          try simp only [Act.put, List.setIfInBounds_toArray, List.set_cons_zero, List.set_cons_succ]
          refine wpAnyH_ready (rs := [14]) (by kernel_rfl) (by simp) ?_
          refine AllReadyH.cons (o := { dst := none, op := Op.store 55 (Operand.tmp 39) (Operand.tmp 37), type := 0, pos := "mark.go:20", after := #[{ on := 13, ground := Ground.data }, { on := 11, ground := Ground.data }, { on := 11, ground := Ground.chain }, { on := 0, ground := Ground.phase }, { on := 1, ground := Ground.phase }, { on := 2, ground := Ground.phase }, { on := 3, ground := Ground.phase }, { on := 4, ground := Ground.phase }, { on := 5, ground := Ground.phase }, { on := 6, ground := Ground.phase }, { on := 7, ground := Ground.phase }, { on := 8, ground := Ground.phase }, { on := 9, ground := Ground.phase }, { on := 10, ground := Ground.phase }, { on := 11, ground := Ground.phase }], guard := none }) rfl (fun K hK => ?_) (AllReadyH.nil)
          go_simp
          refine hK.out _ _ ?_ (fun _hS => ?_)
          · exact trivial
          clear hK K
          try simp only [Act.put, List.setIfInBounds_toArray, List.set_cons_zero, List.set_cons_succ]
          refine wpAnyH_done (by kernel_rfl) ?_ _
          refine NoPanic.normal ?_
          obtain ⟨hfd, hfin⟩ := HFin.out
          gi_wp2
          refine ⟨by simp, .inl ⟨_, _, rfl, run_takeDeferred hfd, ?_⟩⟩
          refine ⟨.int .u16 0, ?_, rfl, hfin⟩
          simp [results, Try.results12, go_sem]
        · go_simp
          refine hK.out _ _ ?_ (fun _hS => ?_)
          · exact trivial
          clear hK K
          try simp only [Act.put, List.setIfInBounds_toArray, List.set_cons_zero, List.set_cons_succ]
          refine wpAnyH_take (i := 10) (oi := { dst := some 36, op := Op.call { callee := Callee.builtin Builtin.len, args := #[Operand.tmp 35], argTypes := #[55] }, type := 3, pos := "mark.go:20", after := #[{ on := 9, ground := Ground.data }], guard := none }) (v := ?v10x2040) rfl (by kernel_rfl) (by kernel_rfl) (by kernel_rfl) (fun _ _ _ h => h) (Or.inl ⟨by rfl, ?hy10x2040⟩) (by assumption) ?rest10x2040
          case hy10x2040 => (intro w hSw; (try dsimp only at hSw); (first | (go_simp; with_reducible rfl) | go_simp))
          try simp only [Act.put, List.setIfInBounds_toArray, List.set_cons_zero, List.set_cons_succ]
          refine wpAnyH_ready (rs := [4]) (by kernel_rfl) (by simp) ?_
          refine AllReadyH.cons (o := { dst := some 30, op := Op.load 55 (Operand.tmp 29), type := 55, pos := "mark.go:20", after := #[{ on := 3, ground := Ground.data }], guard := none }) rfl (fun K hK => ?_) (AllReadyH.nil)
          go_simp
          refine hK.out _ _ ?_ (fun _hS => ?_)
          · exact trivial
          clear hK K
          try simp only [Act.put, List.setIfInBounds_toArray, List.set_cons_zero, List.set_cons_succ]
          refine wpAnyH_ready (rs := [11]) (by kernel_rfl) (by simp) ?_
          refine AllReadyH.cons (o := { dst := some 37, op := Op.call { callee := Callee.value (Operand.func 26), args := #[Operand.tmp 30, Operand.tmp 31, Operand.tmp 36], argTypes := #[55, 3, 3] }, type := 55, pos := "mark.go:20", after := #[{ on := 4, ground := Ground.data }, { on := 5, ground := Ground.data }, { on := 10, ground := Ground.data }], guard := none }) rfl (fun K hK => ?_) (AllReadyH.nil)
          go_simp
          go_at_call 26
          refine HDl.out.mono ?_
          rintro e w3 ⟨v', rfl, hown3, hg3, hl3⟩
          obtain ⟨a3, c3', rfl, -⟩ := row_shape hown3
          have k3 := HS3.out w3 hg3
          obtain ⟨z0, z1, zf⟩ := cells_two k3
          have f4 : w3.frozen? ⟨p, 1, none⟩ = false := by simp [World.frozen?, k3]
          have HFin := hide (HE.out _ _ hown3 hg3 hl3)
          clear hown3 hg3 hl3 k3
          go_simp
          refine hK.out _ _ ?_ (fun _hS => ?_)
          · exact trivial
          clear hK K
          try simp only [Act.put, List.setIfInBounds_toArray, List.set_cons_zero, List.set_cons_succ]
          refine wpAnyH_take (i := 12) (oi := { dst := some 38, op := Op.nilCheck (Operand.tmp 26), type := 0, pos := "mark.go:20", after := #[{ on := 0, ground := Ground.data }, { on := 0, ground := Ground.phase }, { on := 1, ground := Ground.phase }, { on := 2, ground := Ground.phase }, { on := 3, ground := Ground.phase }, { on := 4, ground := Ground.phase }, { on := 5, ground := Ground.phase }, { on := 6, ground := Ground.phase }, { on := 7, ground := Ground.phase }, { on := 8, ground := Ground.phase }, { on := 9, ground := Ground.phase }, { on := 10, ground := Ground.phase }, { on := 11, ground := Ground.phase }], guard := none }) (v := ?v12x2041) rfl (by kernel_rfl) (by kernel_rfl) (by kernel_rfl) (fun _ _ _ h => h) (Or.inl ⟨by rfl, ?hy12x2041⟩) (by assumption) ?rest12x2041
          case hy12x2041 => (intro w hSw; (try dsimp only at hSw); (first | (go_simp; with_reducible rfl) | go_simp))
          try simp only [Act.put, List.setIfInBounds_toArray, List.set_cons_zero, List.set_cons_succ]
          refine wpAnyH_take (i := 13) (oi := { dst := some 39, op := Op.fieldAddr 57 (Operand.tmp 38) 1, type := 0, pos := "mark.go:20", after := #[{ on := 12, ground := Ground.data }, { on := 0, ground := Ground.phase }, { on := 1, ground := Ground.phase }, { on := 2, ground := Ground.phase }, { on := 3, ground := Ground.phase }, { on := 4, ground := Ground.phase }, { on := 5, ground := Ground.phase }, { on := 6, ground := Ground.phase }, { on := 7, ground := Ground.phase }, { on := 8, ground := Ground.phase }, { on := 9, ground := Ground.phase }, { on := 10, ground := Ground.phase }, { on := 11, ground := Ground.phase }], guard := none }) (v := ?v13x2042) rfl (by kernel_rfl) (by kernel_rfl) (by kernel_rfl) (fun _ _ _ h => h) (Or.inl ⟨by rfl, ?hy13x2042⟩) (by assumption) ?rest13x2042
          case hy13x2042 => (intro w hSw; (try dsimp only at hSw); (first | (go_simp; with_reducible rfl) | go_simp))
          try simp only [Act.put, List.setIfInBounds_toArray, List.set_cons_zero, List.set_cons_succ]
          refine wpAnyH_ready (rs := [14]) (by kernel_rfl) (by simp) ?_
          refine AllReadyH.cons (o := { dst := none, op := Op.store 55 (Operand.tmp 39) (Operand.tmp 37), type := 0, pos := "mark.go:20", after := #[{ on := 13, ground := Ground.data }, { on := 11, ground := Ground.data }, { on := 11, ground := Ground.chain }, { on := 0, ground := Ground.phase }, { on := 1, ground := Ground.phase }, { on := 2, ground := Ground.phase }, { on := 3, ground := Ground.phase }, { on := 4, ground := Ground.phase }, { on := 5, ground := Ground.phase }, { on := 6, ground := Ground.phase }, { on := 7, ground := Ground.phase }, { on := 8, ground := Ground.phase }, { on := 9, ground := Ground.phase }, { on := 10, ground := Ground.phase }, { on := 11, ground := Ground.phase }], guard := none }) rfl (fun K hK => ?_) (AllReadyH.nil)
          go_simp
          refine hK.out _ _ ?_ (fun _hS => ?_)
          · exact trivial
          clear hK K
          try simp only [Act.put, List.setIfInBounds_toArray, List.set_cons_zero, List.set_cons_succ]
          refine wpAnyH_done (by kernel_rfl) ?_ _
          refine NoPanic.normal ?_
          obtain ⟨hfd, hfin⟩ := HFin.out
          gi_wp2
          refine ⟨by simp, .inl ⟨_, _, rfl, run_takeDeferred hfd, ?_⟩⟩
          refine ⟨.int .u16 0, ?_, rfl, hfin⟩
          simp [results, Try.results12, go_sem]
end Go.Proofs.Ytjccfbjdngjhfaa
