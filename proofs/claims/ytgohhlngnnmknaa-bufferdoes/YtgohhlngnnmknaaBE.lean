/- Back. -/
import Derived.Test.YtgohhlngnnmknaaE
import Derived.Test.YtgohhlngnnmknaaBD
namespace Go.Proofs.Ytgohhlngnnmknaa
open Go.RowKit Go.Maps Go.Shelf
attribute [local go_sem] Oper.semAt_some
set_option linter.unusedVariables false
abbrev zobex1 : Oper := { dst := some 26, op := Op.move (Operand.tmp 0), type := 25, pos := "mark.go:20", after := #[], guard := none }
abbrev zobex2 : Oper := { dst := some 27, op := Op.move (Operand.tmp 0), type := 25, pos := "mark.go:20", after := #[], guard := none }
abbrev zobex3 : Oper := { dst := some 28, op := Op.nilCheck (Operand.tmp 27), type := 0, pos := "mark.go:20", after := #[{ on := 1, ground := Ground.data }], guard := none }
abbrev zobex4 : Oper := { dst := some 29, op := Op.fieldAddr 69 (Operand.tmp 28) 1, type := 0, pos := "mark.go:20", after := #[{ on := 2, ground := Ground.data }], guard := none }
abbrev zobex5 : Oper := { dst := some 31, op := Op.move (Operand.tmp 1), type := 3, pos := "mark.go:20", after := #[], guard := none }
abbrev zobex6 : Oper := { dst := some 32, op := Op.move (Operand.tmp 0), type := 25, pos := "mark.go:20", after := #[], guard := none }
abbrev zobex7 : Oper := { dst := some 33, op := Op.nilCheck (Operand.tmp 32), type := 0, pos := "mark.go:20", after := #[{ on := 6, ground := Ground.data }], guard := none }
abbrev zobex8 : Oper := { dst := some 34, op := Op.fieldAddr 69 (Operand.tmp 33) 1, type := 0, pos := "mark.go:20", after := #[{ on := 7, ground := Ground.data }], guard := none }
abbrev zobex9 : Oper := { dst := some 30, op := Op.load 67 (Operand.tmp 29), type := 67, pos := "mark.go:20", after := #[{ on := 3, ground := Ground.data }], guard := none }
abbrev zobex10 : Oper := { dst := some 35, op := Op.load 67 (Operand.tmp 34), type := 67, pos := "mark.go:20", after := #[{ on := 8, ground := Ground.data }], guard := none }
abbrev zobex11 : Oper := { dst := some 36, op := Op.call { callee := Callee.builtin Builtin.len, args := #[Operand.tmp 35], argTypes := #[67] }, type := 3, pos := "mark.go:20", after := #[{ on := 9, ground := Ground.data }], guard := none }
abbrev zobex12 : Oper := { dst := some 37, op := Op.call { callee := Callee.value (Operand.func 81), args := #[Operand.tmp 30, Operand.tmp 31, Operand.tmp 36], argTypes := #[67, 3, 3] }, type := 67, pos := "mark.go:20", after := #[{ on := 4, ground := Ground.data }, { on := 5, ground := Ground.data }, { on := 10, ground := Ground.data }], guard := none }
abbrev zobex13 : Oper := { dst := some 38, op := Op.nilCheck (Operand.tmp 26), type := 0, pos := "mark.go:20", after := #[{ on := 0, ground := Ground.data }, { on := 0, ground := Ground.phase }, { on := 1, ground := Ground.phase }, { on := 2, ground := Ground.phase }, { on := 3, ground := Ground.phase }, { on := 4, ground := Ground.phase }, { on := 5, ground := Ground.phase }, { on := 6, ground := Ground.phase }, { on := 7, ground := Ground.phase }, { on := 8, ground := Ground.phase }, { on := 9, ground := Ground.phase }, { on := 10, ground := Ground.phase }, { on := 11, ground := Ground.phase }], guard := none }
abbrev zobex14 : Oper := { dst := some 39, op := Op.fieldAddr 69 (Operand.tmp 38) 1, type := 0, pos := "mark.go:20", after := #[{ on := 12, ground := Ground.data }, { on := 0, ground := Ground.phase }, { on := 1, ground := Ground.phase }, { on := 2, ground := Ground.phase }, { on := 3, ground := Ground.phase }, { on := 4, ground := Ground.phase }, { on := 5, ground := Ground.phase }, { on := 6, ground := Ground.phase }, { on := 7, ground := Ground.phase }, { on := 8, ground := Ground.phase }, { on := 9, ground := Ground.phase }, { on := 10, ground := Ground.phase }, { on := 11, ground := Ground.phase }], guard := none }
abbrev zobex15 : Oper := { dst := none, op := Op.store 67 (Operand.tmp 39) (Operand.tmp 37), type := 0, pos := "mark.go:20", after := #[{ on := 13, ground := Ground.data }, { on := 11, ground := Ground.data }, { on := 11, ground := Ground.chain }, { on := 0, ground := Ground.phase }, { on := 1, ground := Ground.phase }, { on := 2, ground := Ground.phase }, { on := 3, ground := Ground.phase }, { on := 4, ground := Ground.phase }, { on := 5, ground := Ground.phase }, { on := 6, ground := Ground.phase }, { on := 7, ground := Ground.phase }, { on := 8, ground := Ground.phase }, { on := 9, ground := Ground.phase }, { on := 10, ground := Ground.phase }, { on := 11, ground := Ground.phase }], guard := none }
set_option maxHeartbeats 3200000 in
set_option maxRecDepth 1000000 in
theorem back_no {w : World} {p B n : Nat} {es : List Ee} {hs : List (List Ee)} {O : Nat → Prop} (h : St w p B es n hs O) (z : Int) (hz : z < 0 ∨ (n : Int) < z) :
    Calls Try.prog 33 #[.pointer (some ⟨p, 0, none⟩), .int .i64 z] w fun e w' => e = .returned (.int .u16 1) ∧ w' = w := by
  have HM := hide (mark_any h)
  clear h
  by_cases hz0 : z < 0
  · go_enter Try.func33, Try.ntmps33
    go_wp2_with (go_at_call 21; refine HM.out.mono ?_; rintro e w2 ⟨rfl, rfl⟩)
    go_ret
    exact ⟨rfl, rfl⟩
  · have hz1 : (n : Int) < z := by omega
    go_enter Try.func33, Try.ntmps33
    go_wp2_with (go_at_call 21; refine HM.out.mono ?_; rintro e w2 ⟨rfl, rfl⟩)
    go_ret
    exact ⟨rfl, rfl⟩
theorem rev_split {r x : Nat} {pre rest : List Nat} (h : (List.range r).reverse = pre ++ x :: rest) : pre.length < r ∧ x = r - 1 - pre.length := by
  have hl := congrArg List.length h
  simp at hl
  have hx : (List.range r).reverse[pre.length]? = some x := by rw [h, List.getElem?_append_right (Nat.le_refl _)]; simp
  have hlt : pre.length < r := by omega
  rw [List.getElem?_reverse (by simpa using hlt)] at hx
  simp at hx
  refine ⟨hlt, ?_⟩
  have := (List.getElem?_eq_some_iff.1 hx)
  obtain ⟨_, h2⟩ := this
  simp at h2
  omega
set_option maxHeartbeats 3200000 in
set_option maxRecDepth 1000000 in
theorem back_lt {w : World} {p B n m : Nat} {sv uv : Value} {xs : List En} {us : List Value} {hh : List (List En)} (h : Bh w p B sv uv xs us hh) (hM : Calls Try.prog 21 #[.pointer (some ⟨p, 0, none⟩)] w fun e w' => e = .returned (.int .i64 (n : Int)) ∧ w' = w) (hu : us.length = n) (hm : m < n) (hn : n ≤ 900000) (hs : ∀ k l, m < k → (hh ++ [xs])[k]? = some l → l.length ≤ 1000000) :
    Calls Try.prog 33 #[.pointer (some ⟨p, 0, none⟩), .int .i64 (m : Int)] w fun e w' => e = .returned (.int .u16 0) ∧ ∃ l sv' uv', (hh ++ [xs])[m]? = some l ∧ Bf w' p B sv' uv' l (us.take m) ∧ sv'.ownBlock = sv.ownBlock ∧ uv'.ownBlock = uv.ownBlock ∧ Mv (Bo p sv uv) w w' := by
  have hund := h.bf.undo
  rw [hu] at hund
  obtain ⟨a, c, rfl, h1, h2, h3, h4⟩ := row_shape hund
  obtain ⟨g, rfl⟩ : ∃ g, a = some ⟨g, 0, none⟩ := h4.elim (fun e => by have := (h3 e).1; omega) id
  clear hund
  have c1 : ¬ ((m : Int) < 0) := by omega
  have c2 : ¬ ((n : Int) < (m : Int)) := by omega
  have c3 : (0 : Int) ≤ (m : Int) := by omega
  have c4 : (m : Int) ≤ (n : Int) := by omega
  have e7 : ¬ (c ≤ m) := by omega
  have e8 : ¬ (m = c) := by omega
  have e9 : ¬ (c = m) := by omega
  obtain ⟨s0, s1, f0⟩ := cells_two h.bf.blk
  have HM := hide hM
  have HB := hide (backward_any (some ⟨g, m, none⟩) (n - m) (c - m) w)
  have HH := hide h
  clear h hM h3 h4
  refine (callsIn_wide (n := 9)).1 ?_
  refine callsIn_of_wp_marks Try.func33 rfl trivial ?_ rfl
  simp only [Try.ntmps33, List.size_toArray, List.length_cons, List.length_nil, Nat.reduceAdd, Nat.reduceSub, Array.replicate_succ, Array.replicate_zero, List.push_toArray, List.append_toArray, List.nil_append, List.cons_append]
  gi_wp2_with fail
  refine ⟨trivial, (callsIn_wide.2 HM.out).mono ?_⟩
  rintro e w2 ⟨rfl, rfl⟩
  gi_wp2_with (first | (gi_at_call 80; refine (callsIn_wide.2 HB.out).mono ?_; rintro e w2 ⟨rfl, rfl⟩) | (refine ⟨trivial, (callsIn_wide.2 HB.out).mono ?_⟩; rintro e w2 ⟨rfl, rfl⟩))
  have hb1 := below_alloc w2 (.cells #[.slice (some ⟨g, m, none⟩) (n - m) (c - m)] 67)
  have hbox := heap_alloc_new w2 (.cells #[.slice (some ⟨g, m, none⟩) (n - m) (c - m)] 67)
  have hs1 : (w2.alloc (.cells #[.slice (some ⟨g, m, none⟩) (n - m) (c - m)] 67)).heap.size = w2.heap.size + 1 := by simp
  generalize w2.alloc (.cells #[.slice (some ⟨g, m, none⟩) (n - m) (c - m)] 67) = W1 at *
  have hH1 := HH.out.below hb1
  have HB1 := hide hb1
  have HBx := hide hbox
  have HS1 := hide hs1
  have HH1 := hide hH1
  have HSs := hide hs
  have HU := hide hu
  clear hb1 hbox hs1 hH1 hs hu s0 s1 f0 HB HM
  refine range_genS (gf := 93) (lb := #[.pointer (some ⟨w2.heap.size, 0, none⟩)]) rfl (enters_of Try.func93 (by kernel_rfl) rfl)
    (back_goes w2.heap.size (some ⟨g, m, none⟩) (n - m) (c - m) (us.drop m) (by rw [List.length_drop, HU.out]) (by omega) (by omega)) (fun _ => rfl)
    (fun pre V => Bk W1 p B n sv (.slice (some ⟨g, 0, none⟩) n c) us (hh ++ [xs]) pre.length V) (fun _ _ => False)
    (fun _ _ _ h hb => h.move HH1.out hb) (fun _ _ _ h _ => h) (Bk.zero HH1.out HU.out) ?mb
    (fun x a'' _ => a'' = { tmps := #[.pointer (some ⟨p, 0, none⟩), .int .i64 (m : Int), undef, undef, .int .u16 0, undef, us[m + x]?.getD undef, .int .i64 (m : Int), .bool false, .bool false, .int .i64 (m : Int), .pointer (some ⟨p, 0, none⟩), .int .i64 (n : Int), .bool false, .bool false, .pointer (some ⟨p, 0, none⟩), .pointer (some ⟨p, 0, none⟩), .pointer (some ⟨p, 1, none⟩), .slice (some ⟨g, 0, none⟩) n c, .int .i64 (m : Int), .slice (some ⟨g, m, none⟩) (n - m) (c - m), .func (.func 93) #[] #[.pointer (some ⟨w2.heap.size, 0, none⟩)], .int .i64 (x : Int), us[m + x]?.getD undef, undef, undef, undef, undef, undef, undef, undef, undef, undef, undef, undef, undef, undef, undef, undef, undef], defers := [] }) (fun _ _ _ _ _ _ h _ => h) ?assign ?body ?done ?stop
  case mb =>
    rintro pre V ⟨sv', l, hl, ho, hbf, hmv⟩
    refine ⟨(hmv.block _ (by have := HS1.out; omega) (fun e => ?_)).trans HBx.out, .inr ⟨g, m, rfl, fun k u hk => ?_⟩⟩
    · have := HH.out.bf.lt e; omega
    · rw [List.getElem?_drop] at hk
      have := hbf.undo.cells (g := g) rfl (m + k) u hk
      rwa [Addr.add_lit, Nat.zero_add] at this
  case assign =>
    intro l pre x V K hlt hi hK
    gi_wp2
    exact hK _ _ hi (Kl.refl _ _) rfl
  case stop => exact fun _ _ _ _ h => h.elim
  case body =>
    rintro l pre x rest a'' V hx hlt hI rfl
    obtain ⟨hj, rfl⟩ := rev_split hx
    have HI : Hid ((pre ++ [n - m - 1 - pre.length]).length = pre.length + 1) := by rw [Hid, List.length_append]; rfl
    have hul : n - 1 - pre.length < us.length := by rw [HU.out]; omega
    have hu : us[n - 1 - pre.length]? = some us[n - 1 - pre.length] := List.getElem?_eq_getElem hul
    have hgd : us[m + (n - m - 1 - pre.length)]?.getD undef = us[n - 1 - pre.length] := by
      rw [show m + (n - m - 1 - pre.length) = n - 1 - pre.length by omega, hu]; rfl
    have hc := hI.call HH1.out HU.out (fun l hl => HSs.out _ _ (by omega) hl) (by omega) hlt hu
    rw [hgd]
    clear hx hu hgd hI
    rcases hc with ⟨ob, bb, ab, he, hc⟩ | ⟨bb, ab, he, hc⟩
    · rw [he]
      clear he
      have HC := hide hc
      clear hc
      gi_wp2_with (first | (gi_at_call 83; refine (callsIn_wide.2 HC.out).mono ?_) | (refine ⟨trivial, (callsIn_wide.2 HC.out).mono ?_⟩))
      rintro e V3 ⟨rfl, hb3, hk3⟩
      have HB3 := hide hb3
      have HK3 := hide hk3
      clear hb3 hk3
      gi_wp2
      refine ⟨?_, HK3.out⟩
      show Bk _ _ _ _ _ _ _ _ (pre ++ [n - m - 1 - pre.length]).length _
      rw [HI.out]
      exact HB3.out
    · rw [he]
      clear he
      have HC := hide hc
      clear hc
      gi_wp2_with (first | (gi_at_call 85; refine (callsIn_wide.2 HC.out).mono ?_) | (refine ⟨trivial, (callsIn_wide.2 HC.out).mono ?_⟩))
      rintro e V3 ⟨rfl, hb3, hk3⟩
      have HB3 := hide hb3
      have HK3 := hide hk3
      clear hb3 hk3
      gi_wp2
      refine ⟨?_, HK3.out⟩
      show Bk _ _ _ _ _ _ _ _ (pre ++ [n - m - 1 - pre.length]).length _
      rw [HI.out]
      exact HB3.out
  case done =>
    intro D V hD hI hK
    rw [List.length_reverse, List.length_range] at hI
    obtain ⟨sv', l, hl, ho, hbf, hmv⟩ := hI
    rw [show n - (n - m) = m by omega] at hl
    have hund := hbf.undo
    rw [HU.out] at hund
    have HDl := hide (deletef_any (.slice (some ⟨g, 0, none⟩) n c) n m B us V.drew (by omega) (by omega) hund)
    have HS3 : Hid (∀ w3, V.drew.grownBy w3 (some g) → w3.heap[p]? = some (.cells #[sv', .slice (some ⟨g, 0, none⟩) n c] 69 (0, 0))) := hide (fun w3 hg => (hg.block p (lt_of_block hbf.blk) (fun e => hbf.une e.symm)).trans hbf.blk)
    have HE : Hid (∀ v' w3, w3.ownsRow B 1 1 v' m (us.take m) → V.drew.grownBy w3 (some g) → v'.ownBlock = some g → (w3.setCell ⟨p, 1, none⟩ v').heap[D]? = some (.deferred (some [])) ∧
        ∃ l sv' uv', (hh ++ [xs])[m]? = some l ∧ Bf ((w3.setCell ⟨p, 1, none⟩ v').putObj D (.deferred none)) p B sv' uv' l (us.take m) ∧ sv'.ownBlock = sv.ownBlock ∧ uv'.ownBlock = (Value.slice (some ⟨g, 0, none⟩) n c).ownBlock ∧ Mv (Bo p sv (.slice (some ⟨g, 0, none⟩) n c)) w2 ((w3.setCell ⟨p, 1, none⟩ v').putObj D (.deferred none))) := hide (fun v' w3 ho3 hg hl3 => by
      have htl : (us.take m).length = m := by rw [List.length_take, HU.out]; omega
      obtain ⟨hb4, hgo⟩ := undo_turned (us' := us.take m) hbf (Below.refl V.heap.size V).drew hg (by rw [htl]; exact ho3) (.inl hl3)
      have hnot : ¬ Bo p sv' (.slice (some ⟨g, 0, none⟩) n c) D := fun e => by
        have := HH.out.bf.lt ((bo_same ho D).1 e)
        have := HS1.out
        omega
      have hDV : (w3.setCell ⟨p, 1, none⟩ v').heap[D]? = some (.deferred (some [])) := (hgo.mv.block D (lt_of_block hK) hnot).trans hK
      have hm4 : Mv (Bo p sv (.slice (some ⟨g, 0, none⟩) n c)) W1 (w3.setCell ⟨p, 1, none⟩ v') := hmv.trans' (hgo.mv.mono fun k hk => (bo_same ho k).1 hk)
      have st : ∀ k, k < W1.heap.size → ((w3.setCell ⟨p, 1, none⟩ v').putObj D (.deferred none)).heap[k]? = (w3.setCell ⟨p, 1, none⟩ v').heap[k]? := fun k hk => World.putObj_heap_other (by omega)
      refine ⟨hDV, l, sv', v', hl, hb4.of_block fun k hk => st k ?_, ho, hl3, ?_⟩
      · rcases hk with hk | ⟨x, hx, hk⟩
        · have hk2 : Bo p sv (.slice (some ⟨g, 0, none⟩) n c) k := by
            rcases hk with hk | hk | hk
            · exact .inl hk
            · exact .inr (.inl (by rw [← ho]; exact hk))
            · exact .inr (.inr (by rw [hl3] at hk; exact hk))
          have := HH.out.bf.lt hk2
          have := HS1.out
          omega
        · exact (HH1.out.own (List.mem_of_getElem? hl) x hx).lt hk
      · have h5 : Mv (Bo p sv (.slice (some ⟨g, 0, none⟩) n c)) W1 ((w3.setCell ⟨p, 1, none⟩ v').putObj D (.deferred none)) := ⟨hm4.os, hm4.tape, hm4.output, by simpa [World.putObj] using hm4.size, fun k hk hn => (st k hk).trans (hm4.block k hk hn)⟩
        exact (Mv.of_below HB1.out).trans' h5)
    obtain ⟨s0, s1, f0⟩ := cells_two hbf.blk
    clear hD hl ho hund hbf hmv hK HBx HH1 HSs
    gi_wp2_with fail
    refine wpIn_wide.2 ?_
    refine wp_region_noPanic ?_
    refine wp_region_held_drew (S := (fun W => True)) (by kernel_rfl) trivial (fun _hS => ?_)
    refine wtk (i := 0) (oi := zobex1) (v := ?v0x101) rfl ⟨by rfl, ?hy0x101⟩ (by assumption) ?_
    case hy0x101 => (intro w s; (try dsimp only at s); first | (go_simp; with_reducible rfl) | go_simp)
    try simp only [Act.put, zps]
    refine wtk (i := 1) (oi := zobex2) (v := ?v1x102) rfl ⟨by rfl, ?hy1x102⟩ (by assumption) ?_
    case hy1x102 => (intro w s; (try dsimp only at s); first | (go_simp; with_reducible rfl) | go_simp)
    try simp only [Act.put, zps]
    refine wtk (i := 2) (oi := zobex3) (v := ?v2x103) rfl ⟨by rfl, ?hy2x103⟩ (by assumption) ?_
    case hy2x103 => (intro w s; (try dsimp only at s); first | (go_simp; with_reducible rfl) | go_simp)
    try simp only [Act.put, zps]
    refine wtk (i := 3) (oi := zobex4) (v := ?v3x104) rfl ⟨by rfl, ?hy3x104⟩ (by assumption) ?_
    case hy3x104 => (intro w s; (try dsimp only at s); first | (go_simp; with_reducible rfl) | go_simp)
    try simp only [Act.put, zps]
    refine wtk (i := 5) (oi := zobex5) (v := ?v5x105) rfl ⟨by rfl, ?hy5x105⟩ (by assumption) ?_
    case hy5x105 => (intro w s; (try dsimp only at s); first | (go_simp; with_reducible rfl) | go_simp)
    try simp only [Act.put, zps]
    refine wtk (i := 6) (oi := zobex6) (v := ?v6x106) rfl ⟨by rfl, ?hy6x106⟩ (by assumption) ?_
    case hy6x106 => (intro w s; (try dsimp only at s); first | (go_simp; with_reducible rfl) | go_simp)
    try simp only [Act.put, zps]
    refine wtk (i := 7) (oi := zobex7) (v := ?v7x107) rfl ⟨by rfl, ?hy7x107⟩ (by assumption) ?_
    case hy7x107 => (intro w s; (try dsimp only at s); first | (go_simp; with_reducible rfl) | go_simp)
    try simp only [Act.put, zps]
    refine wtk (i := 8) (oi := zobex8) (v := ?v8x108) rfl ⟨by rfl, ?hy8x108⟩ (by assumption) ?_
    case hy8x108 => (intro w s; (try dsimp only at s); first | (go_simp; with_reducible rfl) | go_simp)
    try simp only [Act.put, zps]
    refine wpAnyH_ready (rs := [4, 9]) (by kernel_rfl) (by simp) ?_
    refine AllReadyH.cons (o := zobex9) rfl (fun K hK => ?_) (AllReadyH.cons (o := zobex10) rfl (fun K hK => ?_) (AllReadyH.nil))
    · go_simp
      refine hK.out _ _ ?_ (fun _hS => ?_)
      · exact trivial
      clear hK K
      try simp only [Act.put, zps]
      refine wpAnyH_ready (rs := [9]) (by kernel_rfl) (by simp) ?_
      refine AllReadyH.cons (o := zobex10) rfl (fun K hK => ?_) (AllReadyH.nil)
      go_simp
      refine hK.out _ _ ?_ (fun _hS => ?_)
      · exact trivial
      clear hK K
      try simp only [Act.put, zps]
      refine wtk (i := 10) (oi := zobex11) (v := ?v10x109) rfl ⟨by rfl, ?hy10x109⟩ (by assumption) ?_
      case hy10x109 => (intro w s; (try dsimp only at s); first | (go_simp; with_reducible rfl) | go_simp)
      try simp only [Act.put, zps]
      refine wpAnyH_ready (rs := [11]) (by kernel_rfl) (by simp) ?_
      refine AllReadyH.cons (o := zobex12) rfl (fun K hK => ?_) (AllReadyH.nil)
      go_simp
      go_at_call 81
      refine HDl.out.mono ?_
      rintro e w3 ⟨v', rfl, hown3, hg3, hl3⟩
      obtain ⟨a3, c3', rfl, -⟩ := row_shape hown3
      have k3 := HS3.out w3 hg3
      obtain ⟨z0, z1, zf⟩ := cells_two k3
      have f4 : w3.frozen? ⟨p, 1, none⟩ = false := by simp [World.frozen?, k3]
      have HFin := hide (HE.out _ _ hown3 hg3 hl3)
      clear hown3 hg3 hl3 k3
      go_simp
      refine hK.out _ _ ?_ (fun _hS => ?_)
      · exact trivial
      clear hK K
      try simp only [Act.put, zps]
      refine wtk (i := 12) (oi := zobex13) (v := ?v12x110) rfl ⟨by rfl, ?hy12x110⟩ (by assumption) ?_
      case hy12x110 => (intro w s; (try dsimp only at s); first | (go_simp; with_reducible rfl) | go_simp)
      try simp only [Act.put, zps]
      refine wtk (i := 13) (oi := zobex14) (v := ?v13x111) rfl ⟨by rfl, ?hy13x111⟩ (by assumption) ?_
      case hy13x111 => (intro w s; (try dsimp only at s); first | (go_simp; with_reducible rfl) | go_simp)
      try simp only [Act.put, zps]
      refine wpAnyH_ready (rs := [14]) (by kernel_rfl) (by simp) ?_
      refine AllReadyH.cons (o := zobex15) rfl (fun K hK => ?_) (AllReadyH.nil)
      go_simp
      refine hK.out _ _ ?_ (fun _hS => ?_)
      · exact trivial
      clear hK K
      try simp only [Act.put, zps]
      refine wpAnyH_done (by kernel_rfl) ?_ _
      refine NoPanic.normal ?_
      obtain ⟨hfd, hfin⟩ := HFin.out
      gi_wp2
      refine ⟨by simp, .inl ⟨_, _, rfl, run_takeDeferred hfd, ?_⟩⟩
      refine ⟨.int .u16 0, ?_, rfl, hfin⟩
      simp [results, Try.results33, go_sem]
    · go_simp
      refine hK.out _ _ ?_ (fun _hS => ?_)
      · exact trivial
      clear hK K
      try simp only [Act.put, zps]
      refine wtk (i := 10) (oi := zobex11) (v := ?v10x112) rfl ⟨by rfl, ?hy10x112⟩ (by assumption) ?_
      case hy10x112 => (intro w s; (try dsimp only at s); first | (go_simp; with_reducible rfl) | go_simp)
      try simp only [Act.put, zps]
      refine wpAnyH_ready (rs := [4]) (by kernel_rfl) (by simp) ?_
      refine AllReadyH.cons (o := zobex9) rfl (fun K hK => ?_) (AllReadyH.nil)
      go_simp
      refine hK.out _ _ ?_ (fun _hS => ?_)
      · exact trivial
      clear hK K
      try simp only [Act.put, zps]
      refine wpAnyH_ready (rs := [11]) (by kernel_rfl) (by simp) ?_
      refine AllReadyH.cons (o := zobex12) rfl (fun K hK => ?_) (AllReadyH.nil)
      go_simp
      go_at_call 81
      refine HDl.out.mono ?_
      rintro e w3 ⟨v', rfl, hown3, hg3, hl3⟩
      obtain ⟨a3, c3', rfl, -⟩ := row_shape hown3
      have k3 := HS3.out w3 hg3
      obtain ⟨z0, z1, zf⟩ := cells_two k3
      have f4 : w3.frozen? ⟨p, 1, none⟩ = false := by simp [World.frozen?, k3]
      have HFin := hide (HE.out _ _ hown3 hg3 hl3)
      clear hown3 hg3 hl3 k3
      go_simp
      refine hK.out _ _ ?_ (fun _hS => ?_)
      · exact trivial
      clear hK K
      try simp only [Act.put, zps]
      refine wtk (i := 12) (oi := zobex13) (v := ?v12x113) rfl ⟨by rfl, ?hy12x113⟩ (by assumption) ?_
      case hy12x113 => (intro w s; (try dsimp only at s); first | (go_simp; with_reducible rfl) | go_simp)
      try simp only [Act.put, zps]
      refine wtk (i := 13) (oi := zobex14) (v := ?v13x114) rfl ⟨by rfl, ?hy13x114⟩ (by assumption) ?_
      case hy13x114 => (intro w s; (try dsimp only at s); first | (go_simp; with_reducible rfl) | go_simp)
      try simp only [Act.put, zps]
      refine wpAnyH_ready (rs := [14]) (by kernel_rfl) (by simp) ?_
      refine AllReadyH.cons (o := zobex15) rfl (fun K hK => ?_) (AllReadyH.nil)
      go_simp
      refine hK.out _ _ ?_ (fun _hS => ?_)
      · exact trivial
      clear hK K
      try simp only [Act.put, zps]
      refine wpAnyH_done (by kernel_rfl) ?_ _
      refine NoPanic.normal ?_
      obtain ⟨hfd, hfin⟩ := HFin.out
      gi_wp2
      refine ⟨by simp, .inl ⟨_, _, rfl, run_takeDeferred hfd, ?_⟩⟩
      refine ⟨.int .u16 0, ?_, rfl, hfin⟩
      simp [results, Try.results33, go_sem]
end Go.Proofs.Ytgohhlngnnmknaa
