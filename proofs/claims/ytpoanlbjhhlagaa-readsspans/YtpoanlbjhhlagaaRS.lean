/- The document's own set: a span. -/
import Derived.Test.YtpoanlbjhhlagaaRB
namespace Go.Proofs.Ytpoanlbjhhlagaa
open Go.RowKit Go.Maps
set_option linter.unusedVariables false

/-- what a span leaves of the document's set. -/
def RsOut (w : World) (p B : Nat) (v : Value) (ys : List En) (l : List Ee) (r : Ending) (w' : World) : Prop := r = .returned (.tuple #[]) ∧ ∃ v' zs, ers zs = ers ys ++ l ∧ Rb w' p B v' zs ∧ Mv (fun k => k = p ∨ v.ownBlock = some k) w w' ∧ (∀ k, v'.ownBlock = some k → v.ownBlock = some k ∨ w.heap.size ≤ k) ∧ ∀ y ∈ zs, ∀ k, y.has k → (∃ z ∈ ys, z.has k) ∨ w.heap.size ≤ k
theorem RbOut.rs {w : World} {p B : Nat} {v : Value} {ys : List En} {e : Ee} {r : Ending} {w' : World} (h : RbOut w p B v ys e r w') : RsOut w p B v ys [e] r w' := by
  obtain ⟨h1, v', y, h2, h3, h4, h5, h6⟩ := h
  refine ⟨h1, v', ys ++ [y], by rw [ers_app, ← h2]; rfl, h3, h4, h5, fun z hz k hk => ?_⟩
  rcases List.mem_append.1 hz with hz | hz
  · exact .inl ⟨z, hz, hk⟩
  · simp at hz; subst hz; exact .inr (h6 k hk)
theorem Rb.stays {w : World} {p B : Nat} {v : Value} {ys : List En} (h : Rb w p B v ys) {w' : World} (hb : Below w.heap.size w w') : RsOut w p B v ys [] (.returned (.tuple #[])) w' :=
  ⟨rfl, v, ys, by simp, h.below hb, Mv.of_below hb, fun k hk => .inl hk, fun y hy k hk => .inl ⟨y, hy, hk⟩⟩
/-- the span that is laid behind the row, and what the walk wants to know of the worlds. -/
structure Rst (w W : World) (p B : Nat) (a : Option Addr) (c : Nat) (ys : List En) (y : En) (d : Bool) (v7 : Value) (w7 : World) : Prop where
  run : (Builtin.append_ #[23, 23] 23 #[.slice a ys.length c, .slice (some ⟨W.heap.size, 0, none⟩) 1 1]).run Try.prog (W.drew.alloc (.cells #[.slice y.ka y.e.key.length y.kc, .slice y.va y.e.val.length y.vc, .bool y.e.del] 65)) = .ok v7 w7
  s0 : W.drew.cell? ⟨p, 0, none⟩ = some (.slice a ys.length c)
  s1 : (W.alloc (.cells #[.slice y.ka y.e.key.length y.kc, .slice y.va y.e.val.length y.vc, .bool y.e.del] 65)).cell? ⟨p, 0, none⟩ = some (.slice a ys.length c)
  b2 : W.drew.cell? ⟨w.heap.size, 2, none⟩ = some (.bool d)
  b3 : (W.drew.alloc (.cells #[.slice y.ka y.e.key.length y.kc, .slice y.va y.e.val.length y.vc, .bool y.e.del] 65)).cell? ⟨w.heap.size, 2, none⟩ = some (.bool d)
  b7 : w7.cell? ⟨w.heap.size, 2, none⟩ = some (.bool d)
  f7 : w7.frozen? ⟨p, 0, none⟩ = false
  t7 : w7.cell? ⟨p, 0, none⟩ = some (.slice a ys.length c)
  nq : w.heap.size ≠ p
  out : RsOut w p B (.slice a ys.length c) ys [y.e] (.returned (.tuple #[])) (w7.setCell ⟨p, 0, none⟩ v7)
theorem rst_any {w W : World} {p B : Nat} {a : Option Addr} {c : Nat} {ys : List En} (y : En) {u1 u2 : Value} (d : Bool) (h : Rb w p B (.slice a ys.length c) ys) (hB : B ≤ w.heap.size) (hn : ys.length ≤ 900) (hb : Below (w.heap.size + 1) (w.alloc (.cells #[u1, u2, .bool d] 65)) W) (hy : y.Own w.heap.size W) :
    ∃ a7 c7 w7, Rst w W p B a c ys y d (.slice a7 (ys.length + 1) c7) w7 := by
  have hbq := below_alloc w (.cells #[u1, u2, .bool d] 65)
  have hbW : Below w.heap.size w W := hbq.trans (hb.mono (Nat.le_succ _))
  have hqW : W.heap[w.heap.size]? = some (.cells #[u1, u2, .bool d] 65 (0, 0)) := (hb.block w.heap.size (by omega)).trans (heap_alloc_new w _)
  have hpw := lt_of_block h.blk
  have hpW : W.drew.heap[p]? = some _ := (hbW.block p hpw).trans h.blk
  have hbn := below_alloc W.drew (.cells #[.slice y.ka y.e.key.length y.kc, .slice y.va y.e.val.length y.vc, .bool y.e.del] 65)
  obtain ⟨v7, w7, run7, hp7, ⟨a7, c7, rfl⟩, hst, hout⟩ := rb_app y h hB hbW.drew (hy.below (Below.refl W.heap.size W).drew) hn
  have hp3 := (hbn.block p (lt_of_block hpW)).trans hpW
  have hq3 := (hbn.block w.heap.size (lt_of_block hqW)).trans hqW
  have hvn : (Value.slice a ys.length c).ownBlock ≠ some w.heap.size := fun e => by have := (h.cl.block e).2.1; omega
  have hq7 : w7.heap[w.heap.size]? = some (.cells #[u1, u2, .bool d] 65 (0, 0)) := (hst _ (lt_of_block hqW) hvn).trans hqW
  exact ⟨a7, c7, w7, run7, cell_of_one hpW, cell_of_one hp3, (cells_three hqW).2.2.1, (cells_three hq3).2.2.1, (cells_three hq7).2.2.1, free_of_one hp7, cell_of_one hp7, by omega, hout.rs⟩
abbrev zrs0 : Oper := { dst := some 22, op := Op.move (Operand.tmp 0), type := 27, pos := "ref.go:30", after := #[], guard := none }
abbrev zrs1 : Oper := { dst := some 23, op := Op.move (Operand.tmp 0), type := 27, pos := "ref.go:30", after := #[], guard := none }
abbrev zrs2 : Oper := { dst := some 24, op := Op.nilCheck (Operand.tmp 23), type := 0, pos := "ref.go:30", after := #[{ on := 1, ground := Ground.data }], guard := none }
abbrev zrs3 : Oper := { dst := some 25, op := Op.fieldAddr 72 (Operand.tmp 24) 0, type := 0, pos := "ref.go:30", after := #[{ on := 2, ground := Ground.data }], guard := none }
abbrev zrs4 : Oper := { dst := some 26, op := Op.load 23 (Operand.tmp 25), type := 23, pos := "ref.go:30", after := #[{ on := 3, ground := Ground.data }], guard := none }
abbrev zrs5 : Oper := { dst := some 27, op := Op.move (Operand.tmp 4), type := 33, pos := "ref.go:30", after := #[], guard := none }
abbrev zrs6 : Oper := { dst := some 28, op := Op.move (Operand.tmp 5), type := 33, pos := "ref.go:30", after := #[], guard := none }
abbrev zrs7 : Oper := { dst := some 29, op := Op.fieldAddr 65 (Operand.tmp 3) 2, type := 0, pos := "ref.go:30", after := #[], guard := none }
abbrev zrs8 : Oper := { dst := some 30, op := Op.load 4 (Operand.tmp 29), type := 4, pos := "ref.go:30", after := #[{ on := 7, ground := Ground.data }], guard := none }
abbrev zrs9 : Oper := { dst := some 31, op := Op.build 65 #[(0, Operand.tmp 27), (1, Operand.tmp 28), (2, Operand.tmp 30)], type := 65, pos := "ref.go:30", after := #[{ on := 5, ground := Ground.data }, { on := 6, ground := Ground.data }, { on := 8, ground := Ground.data }], guard := none }
abbrev zrs10 : Oper := { dst := some 32, op := Op.buildSlice 23 1 #[(0, Operand.tmp 31)], type := 23, pos := "ref.go:30", after := #[{ on := 9, ground := Ground.data }], guard := none }
abbrev zrs11 : Oper := { dst := some 33, op := Op.call { callee := Callee.builtin Builtin.append, args := #[Operand.tmp 26, Operand.tmp 32], argTypes := #[23, 23] }, type := 23, pos := "ref.go:30", after := #[{ on := 4, ground := Ground.data }, { on := 10, ground := Ground.data }], guard := none }
abbrev zrs12 : Oper := { dst := some 34, op := Op.nilCheck (Operand.tmp 22), type := 0, pos := "ref.go:30", after := #[{ on := 0, ground := Ground.data }, { on := 0, ground := Ground.phase }, { on := 1, ground := Ground.phase }, { on := 2, ground := Ground.phase }, { on := 3, ground := Ground.phase }, { on := 4, ground := Ground.phase }, { on := 5, ground := Ground.phase }, { on := 6, ground := Ground.phase }, { on := 7, ground := Ground.phase }, { on := 8, ground := Ground.phase }, { on := 9, ground := Ground.phase }, { on := 10, ground := Ground.phase }, { on := 11, ground := Ground.phase }], guard := none }
abbrev zrs13 : Oper := { dst := some 35, op := Op.fieldAddr 72 (Operand.tmp 34) 0, type := 0, pos := "ref.go:30", after := #[{ on := 12, ground := Ground.data }, { on := 0, ground := Ground.phase }, { on := 1, ground := Ground.phase }, { on := 2, ground := Ground.phase }, { on := 3, ground := Ground.phase }, { on := 4, ground := Ground.phase }, { on := 5, ground := Ground.phase }, { on := 6, ground := Ground.phase }, { on := 7, ground := Ground.phase }, { on := 8, ground := Ground.phase }, { on := 9, ground := Ground.phase }, { on := 10, ground := Ground.phase }, { on := 11, ground := Ground.phase }], guard := none }
abbrev zrs14 : Oper := { dst := none, op := Op.store 23 (Operand.tmp 35) (Operand.tmp 33), type := 0, pos := "ref.go:30", after := #[{ on := 13, ground := Ground.data }, { on := 11, ground := Ground.data }, { on := 11, ground := Ground.chain }, { on := 0, ground := Ground.phase }, { on := 1, ground := Ground.phase }, { on := 2, ground := Ground.phase }, { on := 3, ground := Ground.phase }, { on := 4, ground := Ground.phase }, { on := 5, ground := Ground.phase }, { on := 6, ground := Ground.phase }, { on := 7, ground := Ground.phase }, { on := 8, ground := Ground.phase }, { on := 9, ground := Ground.phase }, { on := 10, ground := Ground.phase }, { on := 11, ground := Ground.phase }], guard := none }
set_option maxHeartbeats 3200000 in
set_option maxRecDepth 1000000 in
theorem rspan_any {w : World} {p B : Nat} {v : Value} {ys : List En} (h : Rb w p B v ys) (hB : B ≤ w.heap.size) (hn : ys.length ≤ 900) (x : En) (hx : x.Ok w) (hl : x.e.key.length ≤ 30000 ∧ x.e.val.length ≤ 30000) :
    Calls Try.prog 30 #[.pointer (some ⟨p, 0, none⟩), .agg #[.slice x.ka x.e.key.length x.kc, .slice x.va x.e.val.length x.vc, .bool x.e.del]] w (RsOut w p B v ys (sps x.e)) := by
  obtain ⟨a, c, rfl, -⟩ := row_shape h.cl.row
  have hb1 := below_alloc w (.cells #[.slice x.ka x.e.key.length x.kc, .slice x.va x.e.val.length x.vc, .bool x.e.del] 65)
  obtain ⟨b0, b1, b2⟩ := box3 w (.slice x.ka x.e.key.length x.kc) (.slice x.va x.e.val.length x.vc) (.bool x.e.del) 65
  have hs1 : (w.alloc (.cells #[.slice x.ka x.e.key.length x.kc, .slice x.va x.e.val.length x.vc, .bool x.e.del] 65)).heap.size = w.heap.size + 1 := by simp
  obtain ⟨v1, w1, run1, hm1⟩ := copy_app (hx.key.below hb1) (by omega)
  obtain ⟨a1, c1, rfl, -⟩ := hm1.1.shape
  have bb1 := hm1.2.2
  rw [hs1] at bb1
  have R1 := hide run1
  cases hd : x.e.del
  · rw [hd] at b0 b1 b2 R1 bb1 hs1 hm1 hb1
    obtain ⟨v2, w2, run2, hm2⟩ := copy_app ((hx.val.below hb1).below hm1.2.2) (by omega)
    obtain ⟨a2, c2, rfl, -⟩ := hm2.1.shape
    have bb2 := bb1.trans (hm2.2.2.mono (Nat.le_trans (Nat.le_of_eq hs1.symm) hm1.2.2.size))
    have R2 := hide run2
    have hv1 := hm1.1.below hm2.2.2
    have t1 := text_inn (own_inn hm2.1 hx.val.byts)
    have t2 := text_inn (own_inn hv1 hx.key.byts)
    have hq1 := (bb1.block w.heap.size (Nat.lt_succ_self _)).trans (heap_alloc_new w _)
    have hq2 := (bb2.block w.heap.size (Nat.lt_succ_self _)).trans (heap_alloc_new w _)
    obtain ⟨q0, q1, q2, -⟩ := cells_three hq1
    obtain ⟨r0, r1, r2, -⟩ := cells_three hq2
    have hle := text_less x.e.val x.e.key hx.val.byts hx.key.byts
    have heq := text_eq x.e.val x.e.key hx.val.byts hx.key.byts
    have hca := ordI_anti x.e.key x.e.val
    have HB2 := hide (hb1.trans (bb2.mono (Nat.le_succ _)))
    have HH := hide h
    have he : (⟨x.e.key, x.e.val, false⟩ : Ee) = x.e := by rw [← hd]
    have hy : (⟨⟨x.e.key, x.e.val, false⟩, a1, c1, a2, c2⟩ : En).Own w.heap.size w2 := ⟨hv1, hm2.1, fun k hk => Nat.le_trans (by omega) (hm1.2.1 k hk), fun k hk => Nat.le_trans (Nat.le_trans (Nat.le_trans (Nat.le_succ _) (Nat.le_of_eq hs1.symm)) hm1.2.2.size) (hm2.2.1 k hk), fun k hk e => by have h1 := hm1.1.lt hk; have h2 := hm2.2.1 k e; omega, hx.key.byts, hx.val.byts⟩
    obtain ⟨a7, c7, w7, st⟩ := rst_any _ false h hB hn bb2 hy
    have ST := hide st
    have HE := hide he
    by_cases hlt : ordI x.e.key x.e.val < 0
    · have n1 : ¬ ordI x.e.val x.e.key < 0 := by omega
      have n2 : ¬ x.e.val = x.e.key := fun e => by rw [e, ordI_self] at hlt; omega
      rw [decide_eq_false n1] at hle
      rw [decide_eq_false n2] at heq
      have hs : sps x.e = [x.e] := by unfold sps; rw [if_neg (by rw [hd]; simp), if_pos hlt]
      rw [hs]
      clear st he hs hy hd bb1 bb2 hm1 hm2 hv1 hq1 hq2 run1 run2 h hx hb1 hlt n1 n2 hca
      go_enter Try.func30, Try.ntmps30
      go_wp2_with (first
        | (at_builtin; refine wpList_run_append (by rfl) (.tmp 6) (.tmp 8) 33 (by rfl) (by rfl) (by rfl) R1.out ?_)
        | (at_builtin; refine wpList_run_append (by rfl) (.tmp 13) (.tmp 15) 33 (by rfl) (by rfl) (by rfl) R2.out ?_))
      refine wp_region_noPanic ?_
      refine wp_region_held_drew (S := (fun W => W.cell? ⟨w.heap.size, 2, none⟩ = some (.bool false))) (by kernel_rfl) ST.out.b2 (fun _hS => ?_)
      refine wtk (i := 0) (oi := zrs0) (v := ?v0x1) rfl ⟨by rfl, ?hy0x1⟩ (by assumption) ?_
      case hy0x1 => (intro w s; (try dsimp only at s); first | (go_simp; with_reducible rfl) | go_simp)
      try simp only [Act.put, zps]
      refine wtk (i := 1) (oi := zrs1) (v := ?v1x2) rfl ⟨by rfl, ?hy1x2⟩ (by assumption) ?_
      case hy1x2 => (intro w s; (try dsimp only at s); first | (go_simp; with_reducible rfl) | go_simp)
      try simp only [Act.put, zps]
      refine wtk (i := 2) (oi := zrs2) (v := ?v2x3) rfl ⟨by rfl, ?hy2x3⟩ (by assumption) ?_
      case hy2x3 => (intro w s; (try dsimp only at s); first | (go_simp; with_reducible rfl) | go_simp)
      try simp only [Act.put, zps]
      refine wtk (i := 3) (oi := zrs3) (v := ?v3x4) rfl ⟨by rfl, ?hy3x4⟩ (by assumption) ?_
      case hy3x4 => (intro w s; (try dsimp only at s); first | (go_simp; with_reducible rfl) | go_simp)
      try simp only [Act.put, zps]
      refine wtk (i := 5) (oi := zrs5) (v := ?v5x5) rfl ⟨by rfl, ?hy5x5⟩ (by assumption) ?_
      case hy5x5 => (intro w s; (try dsimp only at s); first | (go_simp; with_reducible rfl) | go_simp)
      try simp only [Act.put, zps]
      refine wtk (i := 6) (oi := zrs6) (v := ?v6x6) rfl ⟨by rfl, ?hy6x6⟩ (by assumption) ?_
      case hy6x6 => (intro w s; (try dsimp only at s); first | (go_simp; with_reducible rfl) | go_simp)
      try simp only [Act.put, zps]
      refine wtk (i := 7) (oi := zrs7) (v := ?v7x7) rfl ⟨by rfl, ?hy7x7⟩ (by assumption) ?_
      case hy7x7 => (intro w s; (try dsimp only at s); first | (go_simp; with_reducible rfl) | go_simp)
      try simp only [Act.put, zps]
      refine wtk (i := 8) (oi := zrs8) (v := ?v8x8) rfl ⟨by rfl, ?hy8x8⟩ (by assumption) ?_
      case hy8x8 => (intro w s; (try dsimp only at s); first | (go_simp; with_reducible rfl) | go_simp)
      try simp only [Act.put, zps]
      refine wtk (i := 9) (oi := zrs9) (v := ?v9x9) rfl ⟨by rfl, ?hy9x9⟩ (by assumption) ?_
      case hy9x9 => (intro w s; (try dsimp only at s); first | (go_simp; with_reducible rfl) | go_simp)
      try simp only [Act.put, zps]
      refine wpAnyH_ready (rs := [4, 10]) (by kernel_rfl) (by simp) ?_
      refine AllReadyH.cons (o := zrs4) rfl (fun K hK => ?_) (AllReadyH.cons (o := zrs10) rfl (fun K hK => ?_) (AllReadyH.nil))
      · have s0 := ST.out.s0
        go_simp
        refine hK.out _ _ ?_ (fun _hS => ?_)
        · exact ST.out.b2
        clear hK K
        try simp only [Act.put, zps]
        refine wpAnyH_ready (rs := [10]) (by kernel_rfl) (by simp) ?_
        refine AllReadyH.cons (o := zrs10) rfl (fun K hK => ?_) (AllReadyH.nil)
        go_simp
        refine hK.out _ _ ?_ (fun _hS => ?_)
        · exact ST.out.b3
        clear hK K
        try simp only [Act.put, zps]
        refine wpAnyH_ready (rs := [11]) (by kernel_rfl) (by simp) ?_
        refine AllReadyH.cons (o := zrs11) rfl (fun K hK => ?_) (AllReadyH.nil)
        refine step_of rfl ?_
        refine wp_run_append (v := .slice a ys.length c) (u := .slice (some ⟨w2.heap.size, 0, none⟩) 1 1) (.tmp 26) (.tmp 32) 23 rfl rfl rfl ST.out.run ?_
        go_simp
        refine hK.out _ _ ?_ (fun _hS => ?_)
        · exact ST.out.b7
        clear hK K
        try simp only [Act.put, zps]
        refine wtk (i := 12) (oi := zrs12) (v := ?v12x10) rfl ⟨by rfl, ?hy12x10⟩ (by assumption) ?_
        case hy12x10 => (intro w s; (try dsimp only at s); first | (go_simp; with_reducible rfl) | go_simp)
        try simp only [Act.put, zps]
        refine wtk (i := 13) (oi := zrs13) (v := ?v13x11) rfl ⟨by rfl, ?hy13x11⟩ (by assumption) ?_
        case hy13x11 => (intro w s; (try dsimp only at s); first | (go_simp; with_reducible rfl) | go_simp)
        try simp only [Act.put, zps]
        refine wpAnyH_ready (rs := [14]) (by kernel_rfl) (by simp) ?_
        refine AllReadyH.cons (o := zrs14) rfl (fun K hK => ?_) (AllReadyH.nil)
        have f7 := ST.out.f7
        have t7 := ST.out.t7
        go_simp
        refine hK.out _ _ ?_ (fun _hS => ?_)
        · exact (cell_set_ne ST.out.nq).trans ST.out.b7
        clear hK K
        try simp only [Act.put, zps]
        refine wpAnyH_done (by kernel_rfl) ?_ _
        refine NoPanic.normal ?_
        go_wp2
        go_end0
        have ho := ST.out.out
        rw [HE.out] at ho
        exact ho
      · go_simp
        refine hK.out _ _ ?_ (fun _hS => ?_)
        · exact ST.out.b3
        clear hK K
        try simp only [Act.put, zps]
        refine wpAnyH_ready (rs := [4]) (by kernel_rfl) (by simp) ?_
        refine AllReadyH.cons (o := zrs4) rfl (fun K hK => ?_) (AllReadyH.nil)
        have s0 := ST.out.s0
        have s1 := ST.out.s1
        go_simp
        refine hK.out _ _ ?_ (fun _hS => ?_)
        · exact ST.out.b3
        clear hK K
        try simp only [Act.put, zps]
        refine wpAnyH_ready (rs := [11]) (by kernel_rfl) (by simp) ?_
        refine AllReadyH.cons (o := zrs11) rfl (fun K hK => ?_) (AllReadyH.nil)
        refine step_of rfl ?_
        refine wp_run_append (v := .slice a ys.length c) (u := .slice (some ⟨w2.heap.size, 0, none⟩) 1 1) (.tmp 26) (.tmp 32) 23 rfl rfl rfl ST.out.run ?_
        go_simp
        refine hK.out _ _ ?_ (fun _hS => ?_)
        · exact ST.out.b7
        clear hK K
        try simp only [Act.put, zps]
        refine wtk (i := 12) (oi := zrs12) (v := ?v12x12) rfl ⟨by rfl, ?hy12x12⟩ (by assumption) ?_
        case hy12x12 => (intro w s; (try dsimp only at s); first | (go_simp; with_reducible rfl) | go_simp)
        try simp only [Act.put, zps]
        refine wtk (i := 13) (oi := zrs13) (v := ?v13x13) rfl ⟨by rfl, ?hy13x13⟩ (by assumption) ?_
        case hy13x13 => (intro w s; (try dsimp only at s); first | (go_simp; with_reducible rfl) | go_simp)
        try simp only [Act.put, zps]
        refine wpAnyH_ready (rs := [14]) (by kernel_rfl) (by simp) ?_
        refine AllReadyH.cons (o := zrs14) rfl (fun K hK => ?_) (AllReadyH.nil)
        have f7 := ST.out.f7
        have t7 := ST.out.t7
        go_simp
        refine hK.out _ _ ?_ (fun _hS => ?_)
        · exact (cell_set_ne ST.out.nq).trans ST.out.b7
        clear hK K
        try simp only [Act.put, zps]
        refine wpAnyH_done (by kernel_rfl) ?_ _
        refine NoPanic.normal ?_
        go_wp2
        go_end0
        have ho := ST.out.out
        rw [HE.out] at ho
        exact ho
    · have hs : sps x.e = [] := by unfold sps; rw [if_neg (by rw [hd]; simp), if_neg hlt]
      rw [hs]
      have hor : (Op.bytesLess (bk x.e.val).toList (bk x.e.key).toList || (bk x.e.val).toList == (bk x.e.key).toList) = true := by
        rw [hle, heq]
        by_cases h0 : ordI x.e.val x.e.key < 0
        · simp [h0]
        · have : x.e.val = x.e.key := ordI_zero _ _ (by omega)
          simp [this]
      clear st he hs hy hd bb1 bb2 hm1 hm2 hv1 hq1 hq2 run1 run2 h hx hb1 hlt hca hle heq ST
      have hor' : Op.bytesLess (bk x.e.val).toList (bk x.e.key).toList = true ∨ ((bk x.e.val).toList == (bk x.e.key).toList) = true := by simpa using hor
      rcases hor' with h1 | h1
      all_goals
        go_enter Try.func30, Try.ntmps30
        go_wp2_with (first
          | (at_builtin; refine wpList_run_append (by rfl) (.tmp 6) (.tmp 8) 33 (by rfl) (by rfl) (by rfl) R1.out ?_)
          | (at_builtin; refine wpList_run_append (by rfl) (.tmp 13) (.tmp 15) 33 (by rfl) (by rfl) (by rfl) R2.out ?_))
        refine bodyPost_ret (v := .tuple #[]) ?_ rfl ?_
        · simp [results, Try.results30, go_sem]
        exact HH.out.stays HB2.out
  · rw [hd] at b0 b1 b2 R1 bb1 hs1 hm1 hb1
    have hq1 := (bb1.block w.heap.size (Nat.lt_succ_self _)).trans (heap_alloc_new w _)
    obtain ⟨q0, q1, q2, -⟩ := cells_three hq1
    have hs : sps x.e = [⟨x.e.key, [], true⟩] := by unfold sps; rw [if_pos hd]
    rw [hs]
    have he : (⟨x.e.key, [], true⟩ : Ee) = ⟨x.e.key, [], true⟩ := rfl
    have hy : (⟨⟨x.e.key, [], true⟩, a1, c1, none, 0⟩ : En).Own w.heap.size w1 := ⟨hm1.1, Own.nil _, fun k hk => Nat.le_trans (by omega) (hm1.2.1 k hk), fun k hk => by simp [Value.ownBlock] at hk, fun k hk e => by simp [Value.ownBlock] at e, hx.key.byts, by intro c hc; simp at hc⟩
    obtain ⟨a7, c7, w7, st⟩ := rst_any _ true h hB hn bb1 hy
    have ST := hide st
    have HE := hide he
    clear st he hs hy hd bb1 hm1 hq1 run1 h hx hb1
    go_enter Try.func30, Try.ntmps30
    go_wp2_with (first
      | (at_builtin; refine wpList_run_append (by rfl) (.tmp 6) (.tmp 8) 33 (by rfl) (by rfl) (by rfl) R1.out ?_))
    refine wp_region_noPanic ?_
    refine wp_region_held_drew (S := (fun W => W.cell? ⟨w.heap.size, 2, none⟩ = some (.bool true))) (by kernel_rfl) ST.out.b2 (fun _hS => ?_)
    refine wtk (i := 0) (oi := zrs0) (v := ?v0x14) rfl ⟨by rfl, ?hy0x14⟩ (by assumption) ?_
    case hy0x14 => (intro w s; (try dsimp only at s); first | (go_simp; with_reducible rfl) | go_simp)
    try simp only [Act.put, zps]
    refine wtk (i := 1) (oi := zrs1) (v := ?v1x15) rfl ⟨by rfl, ?hy1x15⟩ (by assumption) ?_
    case hy1x15 => (intro w s; (try dsimp only at s); first | (go_simp; with_reducible rfl) | go_simp)
    try simp only [Act.put, zps]
    refine wtk (i := 2) (oi := zrs2) (v := ?v2x16) rfl ⟨by rfl, ?hy2x16⟩ (by assumption) ?_
    case hy2x16 => (intro w s; (try dsimp only at s); first | (go_simp; with_reducible rfl) | go_simp)
    try simp only [Act.put, zps]
    refine wtk (i := 3) (oi := zrs3) (v := ?v3x17) rfl ⟨by rfl, ?hy3x17⟩ (by assumption) ?_
    case hy3x17 => (intro w s; (try dsimp only at s); first | (go_simp; with_reducible rfl) | go_simp)
    try simp only [Act.put, zps]
    refine wtk (i := 5) (oi := zrs5) (v := ?v5x18) rfl ⟨by rfl, ?hy5x18⟩ (by assumption) ?_
    case hy5x18 => (intro w s; (try dsimp only at s); first | (go_simp; with_reducible rfl) | go_simp)
    try simp only [Act.put, zps]
    refine wtk (i := 6) (oi := zrs6) (v := ?v6x19) rfl ⟨by rfl, ?hy6x19⟩ (by assumption) ?_
    case hy6x19 => (intro w s; (try dsimp only at s); first | (go_simp; with_reducible rfl) | go_simp)
    try simp only [Act.put, zps]
    refine wtk (i := 7) (oi := zrs7) (v := ?v7x20) rfl ⟨by rfl, ?hy7x20⟩ (by assumption) ?_
    case hy7x20 => (intro w s; (try dsimp only at s); first | (go_simp; with_reducible rfl) | go_simp)
    try simp only [Act.put, zps]
    refine wtk (i := 8) (oi := zrs8) (v := ?v8x21) rfl ⟨by rfl, ?hy8x21⟩ (by assumption) ?_
    case hy8x21 => (intro w s; (try dsimp only at s); first | (go_simp; with_reducible rfl) | go_simp)
    try simp only [Act.put, zps]
    refine wtk (i := 9) (oi := zrs9) (v := ?v9x22) rfl ⟨by rfl, ?hy9x22⟩ (by assumption) ?_
    case hy9x22 => (intro w s; (try dsimp only at s); first | (go_simp; with_reducible rfl) | go_simp)
    try simp only [Act.put, zps]
    refine wpAnyH_ready (rs := [4, 10]) (by kernel_rfl) (by simp) ?_
    refine AllReadyH.cons (o := zrs4) rfl (fun K hK => ?_) (AllReadyH.cons (o := zrs10) rfl (fun K hK => ?_) (AllReadyH.nil))
    · have s0 := ST.out.s0
      go_simp
      refine hK.out _ _ ?_ (fun _hS => ?_)
      · exact ST.out.b2
      clear hK K
      try simp only [Act.put, zps]
      refine wpAnyH_ready (rs := [10]) (by kernel_rfl) (by simp) ?_
      refine AllReadyH.cons (o := zrs10) rfl (fun K hK => ?_) (AllReadyH.nil)
      go_simp
      refine hK.out _ _ ?_ (fun _hS => ?_)
      · exact ST.out.b3
      clear hK K
      try simp only [Act.put, zps]
      refine wpAnyH_ready (rs := [11]) (by kernel_rfl) (by simp) ?_
      refine AllReadyH.cons (o := zrs11) rfl (fun K hK => ?_) (AllReadyH.nil)
      refine step_of rfl ?_
      refine wp_run_append (v := .slice a ys.length c) (u := .slice (some ⟨w1.heap.size, 0, none⟩) 1 1) (.tmp 26) (.tmp 32) 23 rfl rfl rfl ST.out.run ?_
      go_simp
      refine hK.out _ _ ?_ (fun _hS => ?_)
      · exact ST.out.b7
      clear hK K
      try simp only [Act.put, zps]
      refine wtk (i := 12) (oi := zrs12) (v := ?v12x23) rfl ⟨by rfl, ?hy12x23⟩ (by assumption) ?_
      case hy12x23 => (intro w s; (try dsimp only at s); first | (go_simp; with_reducible rfl) | go_simp)
      try simp only [Act.put, zps]
      refine wtk (i := 13) (oi := zrs13) (v := ?v13x24) rfl ⟨by rfl, ?hy13x24⟩ (by assumption) ?_
      case hy13x24 => (intro w s; (try dsimp only at s); first | (go_simp; with_reducible rfl) | go_simp)
      try simp only [Act.put, zps]
      refine wpAnyH_ready (rs := [14]) (by kernel_rfl) (by simp) ?_
      refine AllReadyH.cons (o := zrs14) rfl (fun K hK => ?_) (AllReadyH.nil)
      have f7 := ST.out.f7
      have t7 := ST.out.t7
      go_simp
      refine hK.out _ _ ?_ (fun _hS => ?_)
      · exact (cell_set_ne ST.out.nq).trans ST.out.b7
      clear hK K
      try simp only [Act.put, zps]
      refine wpAnyH_done (by kernel_rfl) ?_ _
      refine NoPanic.normal ?_
      go_wp2
      go_end0
      have ho := ST.out.out
      exact ho
    · go_simp
      refine hK.out _ _ ?_ (fun _hS => ?_)
      · exact ST.out.b3
      clear hK K
      try simp only [Act.put, zps]
      refine wpAnyH_ready (rs := [4]) (by kernel_rfl) (by simp) ?_
      refine AllReadyH.cons (o := zrs4) rfl (fun K hK => ?_) (AllReadyH.nil)
      have s0 := ST.out.s0
      have s1 : (w1.alloc (.cells #[.slice a1 x.e.key.length c1, .slice none 0 0, .bool true] 65)).cell? ⟨p, 0, none⟩ = some (.slice a ys.length c) := ST.out.s1
      go_simp
      refine hK.out _ _ ?_ (fun _hS => ?_)
      · exact ST.out.b3
      clear hK K
      try simp only [Act.put, zps]
      refine wpAnyH_ready (rs := [11]) (by kernel_rfl) (by simp) ?_
      refine AllReadyH.cons (o := zrs11) rfl (fun K hK => ?_) (AllReadyH.nil)
      refine step_of rfl ?_
      refine wp_run_append (v := .slice a ys.length c) (u := .slice (some ⟨w1.heap.size, 0, none⟩) 1 1) (.tmp 26) (.tmp 32) 23 rfl rfl rfl ST.out.run ?_
      go_simp
      refine hK.out _ _ ?_ (fun _hS => ?_)
      · exact ST.out.b7
      clear hK K
      try simp only [Act.put, zps]
      refine wtk (i := 12) (oi := zrs12) (v := ?v12x25) rfl ⟨by rfl, ?hy12x25⟩ (by assumption) ?_
      case hy12x25 => (intro w s; (try dsimp only at s); first | (go_simp; with_reducible rfl) | go_simp)
      try simp only [Act.put, zps]
      refine wtk (i := 13) (oi := zrs13) (v := ?v13x26) rfl ⟨by rfl, ?hy13x26⟩ (by assumption) ?_
      case hy13x26 => (intro w s; (try dsimp only at s); first | (go_simp; with_reducible rfl) | go_simp)
      try simp only [Act.put, zps]
      refine wpAnyH_ready (rs := [14]) (by kernel_rfl) (by simp) ?_
      refine AllReadyH.cons (o := zrs14) rfl (fun K hK => ?_) (AllReadyH.nil)
      have f7 := ST.out.f7
      have t7 := ST.out.t7
      go_simp
      refine hK.out _ _ ?_ (fun _hS => ?_)
      · exact (cell_set_ne ST.out.nq).trans ST.out.b7
      clear hK K
      try simp only [Act.put, zps]
      refine wpAnyH_done (by kernel_rfl) ?_ _
      refine NoPanic.normal ?_
      go_wp2
      go_end0
      have ho := ST.out.out
      exact ho
end Go.Proofs.Ytpoanlbjhhlagaa
