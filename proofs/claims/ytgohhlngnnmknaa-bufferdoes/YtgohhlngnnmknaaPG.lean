/- A view asks what lies below. -/
import Derived.Test.YtgohhlngnnmknaaE
import Derived.Test.YtgohhlngnnmknaaPF
namespace Go.Proofs.Ytgohhlngnnmknaa
open Go.RowKit Go.Maps
set_option linter.unusedVariables false
abbrev zopgx1 : Oper := { dst := some 13, op := Op.fieldAddr 126 (Operand.tmp 3) 1, type := 0, pos := "view.go:78", after := #[], guard := none }
abbrev zopgx2 : Oper := { dst := some 14, op := Op.load 81 (Operand.tmp 13), type := 81, pos := "view.go:78", after := #[{ on := 0, ground := Ground.data }], guard := none }
abbrev zopgx3 : Oper := { dst := some 15, op := Op.move (Operand.tmp 1), type := 60, pos := "view.go:78", after := #[], guard := none }
abbrev zopgx4 : Oper := { dst := some 17, op := Op.move (Operand.tmp 2), type := 4, pos := "view.go:78", after := #[], guard := none }
abbrev zopgx5 : Oper := { dst := some 16, op := Op.call { callee := Callee.value (Operand.func 68), args := #[Operand.tmp 15], argTypes := #[60] }, type := 60, pos := "view.go:78", after := #[{ on := 2, ground := Ground.data }], guard := none }
abbrev zopgx6 : Oper := { dst := some 9, op := Op.alloc 74, type := 0, pos := "view.go:78", after := #[], guard := none }
abbrev zopgx7 : Oper := { dst := some 18, op := Op.call { callee := Callee.value (Operand.tmp 14), args := #[Operand.tmp 16, Operand.tmp 17], argTypes := #[60, 4] }, type := 79, pos := "view.go:78", after := #[{ on := 1, ground := Ground.data }, { on := 3, ground := Ground.data }, { on := 4, ground := Ground.data }, { on := 3, ground := Ground.chain }], guard := none }
abbrev zopgx8 : Oper := { dst := some 12, op := Op.move (Operand.tmp 18), type := 79, pos := "view.go:78", after := #[{ on := 5, ground := Ground.data }], guard := none }
abbrev zopgx9 : Oper := { dst := some 19, op := Op.extract (Operand.tmp 12) 0, type := 74, pos := "view.go:78", after := #[{ on := 6, ground := Ground.data }], guard := none }
abbrev zopgx10 : Oper := { dst := some 20, op := Op.extract (Operand.tmp 12) 1, type := 4, pos := "view.go:78", after := #[{ on := 6, ground := Ground.data }, { on := 11, ground := Ground.gcOnly Departure.lateStores }], guard := none }
abbrev zopgx11 : Oper := { dst := some 21, op := Op.extract (Operand.tmp 12) 2, type := 78, pos := "view.go:78", after := #[{ on := 6, ground := Ground.data }, { on := 12, ground := Ground.gcOnly Departure.lateStores }], guard := none }
abbrev zopgx12 : Oper := { dst := none, op := Op.store 74 (Operand.tmp 9) (Operand.tmp 19), type := 0, pos := "view.go:78", after := #[{ on := 10, ground := Ground.data }, { on := 7, ground := Ground.data }, { on := 5, ground := Ground.chain }, { on := 0, ground := Ground.phase }, { on := 1, ground := Ground.phase }, { on := 2, ground := Ground.phase }, { on := 3, ground := Ground.phase }, { on := 4, ground := Ground.phase }, { on := 5, ground := Ground.phase }, { on := 6, ground := Ground.phase }, { on := 7, ground := Ground.phase }, { on := 8, ground := Ground.textOnly Departure.lateStores }, { on := 9, ground := Ground.textOnly Departure.lateStores }, { on := 10, ground := Ground.phase }], guard := none }
abbrev zopgx13 : Oper := { dst := some 10, op := Op.assign (Operand.tmp 20), type := 4, pos := "view.go:78", after := #[{ on := 8, ground := Ground.data }, { on := 11, ground := Ground.chain }, { on := 0, ground := Ground.phase }, { on := 1, ground := Ground.phase }, { on := 2, ground := Ground.phase }, { on := 3, ground := Ground.phase }, { on := 4, ground := Ground.phase }, { on := 5, ground := Ground.phase }, { on := 6, ground := Ground.phase }, { on := 7, ground := Ground.phase }, { on := 8, ground := Ground.phase }, { on := 9, ground := Ground.textOnly Departure.lateStores }, { on := 10, ground := Ground.phase }, { on := 11, ground := Ground.phase }], guard := none }
abbrev zopgx14 : Oper := { dst := some 11, op := Op.assign (Operand.tmp 21), type := 78, pos := "view.go:78", after := #[{ on := 9, ground := Ground.data }, { on := 12, ground := Ground.chain }, { on := 0, ground := Ground.phase }, { on := 1, ground := Ground.phase }, { on := 2, ground := Ground.phase }, { on := 3, ground := Ground.phase }, { on := 4, ground := Ground.phase }, { on := 5, ground := Ground.phase }, { on := 6, ground := Ground.phase }, { on := 7, ground := Ground.phase }, { on := 8, ground := Ground.phase }, { on := 9, ground := Ground.phase }, { on := 10, ground := Ground.phase }, { on := 11, ground := Ground.phase }, { on := 12, ground := Ground.phase }], guard := none }
abbrev zopgx15 : Oper := { dst := some 40, op := Op.fieldAddr 74 (Operand.tmp 9) 0, type := 0, pos := "view.go:82", after := #[], guard := none }
abbrev zopgx16 : Oper := { dst := some 41, op := Op.load 60 (Operand.tmp 40), type := 60, pos := "view.go:82", after := #[{ on := 0, ground := Ground.data }], guard := none }
abbrev zopgx17 : Oper := { dst := some 43, op := Op.fieldAddr 74 (Operand.tmp 9) 1, type := 0, pos := "view.go:82", after := #[], guard := none }
abbrev zopgx18 : Oper := { dst := some 44, op := Op.load 60 (Operand.tmp 43), type := 60, pos := "view.go:82", after := #[{ on := 3, ground := Ground.data }], guard := none }
abbrev zopgx19 : Oper := { dst := some 42, op := Op.call { callee := Callee.value (Operand.func 68), args := #[Operand.tmp 41], argTypes := #[60] }, type := 60, pos := "view.go:82", after := #[{ on := 1, ground := Ground.data }], guard := none }
abbrev zopgx20 : Oper := { dst := some 45, op := Op.call { callee := Callee.value (Operand.func 68), args := #[Operand.tmp 44], argTypes := #[60] }, type := 60, pos := "view.go:82", after := #[{ on := 4, ground := Ground.data }, { on := 2, ground := Ground.chain }], guard := none }
abbrev zopgx21 : Oper := { dst := some 46, op := Op.build 74 #[(0, Operand.tmp 42), (1, Operand.tmp 45)], type := 74, pos := "view.go:82", after := #[{ on := 2, ground := Ground.data }, { on := 5, ground := Ground.data }], guard := none }
abbrev zopgx22 : Oper := { dst := none, op := Op.store 74 (Operand.tmp 6) (Operand.tmp 46), type := 0, pos := "view.go:82", after := #[{ on := 6, ground := Ground.data }, { on := 5, ground := Ground.chain }, { on := 0, ground := Ground.phase }, { on := 1, ground := Ground.phase }, { on := 2, ground := Ground.phase }, { on := 3, ground := Ground.phase }, { on := 4, ground := Ground.phase }, { on := 5, ground := Ground.phase }, { on := 6, ground := Ground.phase }], guard := none }
abbrev zopgx23 : Oper := { dst := some 7, op := Op.assign (Operand.const (Value.bool true)), type := 4, pos := "view.go:82", after := #[{ on := 7, ground := Ground.chain }, { on := 0, ground := Ground.phase }, { on := 1, ground := Ground.phase }, { on := 2, ground := Ground.phase }, { on := 3, ground := Ground.phase }, { on := 4, ground := Ground.phase }, { on := 5, ground := Ground.phase }, { on := 6, ground := Ground.phase }, { on := 7, ground := Ground.phase }], guard := none }
abbrev zopgx24 : Oper := { dst := some 8, op := Op.assign (Operand.const (Value.int IntKind.u16 0)), type := 78, pos := "view.go:82", after := #[{ on := 8, ground := Ground.chain }, { on := 0, ground := Ground.phase }, { on := 1, ground := Ground.phase }, { on := 2, ground := Ground.phase }, { on := 3, ground := Ground.phase }, { on := 4, ground := Ground.phase }, { on := 5, ground := Ground.phase }, { on := 6, ground := Ground.phase }, { on := 7, ground := Ground.phase }, { on := 8, ground := Ground.phase }], guard := none }

theorem exit_name {Q : Exit → Act → World → Prop} {e : Exit} {a : Act} {W : World} (h : ∀ W', W' = W → Q e a W') : Q e a W := h W rfl
theorem opt_cases {α : Type} (o : Option α) : o = none ∨ ∃ e, o = some e := by cases o <;> simp
theorem mv_below {O : Nat → Prop} {w w1 w2 : World} {B : Nat} (h : Mv O w w1) (hb : Below B w1 w2) (hB : w.heap.size ≤ B) : Mv O w w2 := ⟨hb.os.trans h.os, hb.tape.trans h.tape, hb.output.trans h.output, Nat.le_trans h.size hb.size, fun k hk hn => (hb.block k (by omega)).trans (h.block k hk hn)⟩
set_option maxHeartbeats 3200000 in
set_option maxRecDepth 1000000 in
theorem askU_zero {w : World} {p q n c : Nat} {a : Option Addr} {us : List En} (h : Bl w q a n c us 0) (fa : Option Addr) (fn fc : Nat) (frm : List Int) (inn : Bool) (hf : Inn w fa fn fc frm) (hfl : fn ≤ 140737488351232) :
    Calls Try.prog 88 #[.agg #[.pointer (some ⟨p, 0, none⟩), .func (.func 17) #[.pointer (some ⟨q, 0, none⟩)] #[], .func (.func 76) #[] #[], .int .i64 1], .slice fa fn fc, .bool inn] w fun e w' => e = .returned (.tuple #[.agg #[.slice none 0 0, .slice none 0 0], .bool false, .int .u16 6]) ∧ Below w.heap.size w w' := by
  obtain ⟨w1, hw1⟩ : ∃ w1, w1 = (w.alloc (.cells #[.pointer (some ⟨p, 0, none⟩), .func (.func 17) #[.pointer (some ⟨q, 0, none⟩)] #[], .func (.func 76) #[] #[], .int .i64 1] 126)).alloc (.cells #[.slice none 0 0, .slice none 0 0] 74) := ⟨_, rfl⟩
  have hB1 : Below w.heap.size w w1 := by rw [hw1]; exact two_alloc _ _
  have hv1 : w1.heap[w.heap.size]? = some (.cells #[.pointer (some ⟨p, 0, none⟩), .func (.func 17) #[.pointer (some ⟨q, 0, none⟩)] #[], .func (.func 76) #[] #[], .int .i64 1] 126 (0, 0)) := by rw [hw1]; exact (Below.heap_alloc _ _ _ (by simp)).trans (heap_alloc_new w _)
  have hz1 : w1.heap[w.heap.size + 1]? = some (.cells #[.slice none 0 0, .slice none 0 0] 74 (0, 0)) := by
    rw [hw1]
    have := heap_alloc_new (w.alloc (.cells #[.pointer (some ⟨p, 0, none⟩), .func (.func 17) #[.pointer (some ⟨q, 0, none⟩)] #[], .func (.func 76) #[] #[], .int .i64 1] 126)) (.cells #[.slice none 0 0, .slice none 0 0] 74)
    rwa [World.size_alloc] at this
  have hs1 : w1.heap.size = w.heap.size + 2 := by rw [hw1]; simp
  have hqlt := lt_of_block h.blk
  have hbl1 := h.low hB1 hqlt (Nat.le_refl _)
  have hf1 := hf.below hB1
  obtain ⟨v0, v1, v2, v3⟩ := cells_four4 hv1
  have HK := hide (fun W (hW : Below w1.heap.size w1 W) => clone_any fa fn fc frm W (hf1.below hW) hfl)
  have H8 := hide hf.byts
  have HBL := hide hbl1
  have HB1 := hide hB1
  have Hv1 := hide hv1
  have Hz1 := hide hz1
  have HS1 := hide hs1
  have HSV : Hid (∀ W : World, W.heap[w.heap.size]? = w1.heap[w.heap.size]? → W.cell? ⟨w.heap.size, 1, none⟩ = some (.func (.func 17) #[.pointer (some ⟨q, 0, none⟩)] #[])) := hide (fun W hW => (cells_four4 (hW.trans Hv1.out)).2.1)
  have HS0 := hide (HSV.out w1 rfl)
  clear h hf hB1 hv1 hz1 hs1 hbl1 hf1
  go_enter Try.func88, Try.ntmps88
  go_wp2
  rw [← hw1]
  clear hw1 v0 v1 v2 v3
  refine wp_region_noPanic ?_
  refine wp_region_held_drew (S := (fun W => W.cell? ⟨w.heap.size, 1, none⟩ = some (.func (.func 17) #[.pointer (some ⟨q, 0, none⟩)] #[]))) (by kernel_rfl) HS0.out (fun _hS => ?_)
  refine wtk (i := 0) (oi := zopgx1) (v := ?v0x101) rfl ⟨by rfl, ?hy0x101⟩ (by assumption) ?_
  case hy0x101 => (intro w s; (try dsimp only at s); first | (go_simp; with_reducible rfl) | go_simp)
  try simp only [Act.put, zps]
  refine wtk (i := 1) (oi := zopgx2) (v := ?v1x102) rfl ⟨by rfl, ?hy1x102⟩ (by assumption) ?_
  case hy1x102 => (intro w s; (try dsimp only at s); first | (go_simp; with_reducible rfl) | go_simp)
  try simp only [Act.put, zps]
  refine wtk (i := 2) (oi := zopgx3) (v := ?v2x103) rfl ⟨by rfl, ?hy2x103⟩ (by assumption) ?_
  case hy2x103 => (intro w s; (try dsimp only at s); first | (go_simp; with_reducible rfl) | go_simp)
  try simp only [Act.put, zps]
  refine wtk (i := 4) (oi := zopgx4) (v := ?v4x104) rfl ⟨by rfl, ?hy4x104⟩ (by assumption) ?_
  case hy4x104 => (intro w s; (try dsimp only at s); first | (go_simp; with_reducible rfl) | go_simp)
  try simp only [Act.put, zps]
  refine wpAnyH_ready (rs := [3, 10]) (by kernel_rfl) (by simp) ?_
  refine AllReadyH.cons (o := zopgx5) rfl (fun K hK => ?_) (AllReadyH.cons (o := zopgx6) rfl (fun K hK => ?_) (AllReadyH.nil))
  · go_simp
    go_at_call 68
    refine (HK.out _ (Below.refl w1.heap.size w1).drew).mono ?_
    rintro e w2 ⟨vK, rfl, hmK⟩
    obtain ⟨aK, nK, cK, rfl, hnK⟩ := hmK.1.shape2
    have HB2 := hide (Below.trans (Below.refl w1.heap.size w1).drew (hmK.2.2.mono (Below.size (Below.refl w1.heap.size w1).drew)))
    have HSK := hide (HSV.out w2 (HB2.out.block _ (lt_of_block Hv1.out)))
    have HBLK := hide (HBL.out.low HB2.out (by have := HS1.out; omega) (Nat.le_refl _))
    have HIK := hide (hmK.inn H8.out).1
    have hb2w := hmK.2.2
    have HB2W := hide hb2w
    clear hmK hnK hb2w
    go_simp
    refine hK.out _ _ ?_ (fun _hS => ?_)
    · exact HSK.out
    clear hK K
    try simp only [Act.put, zps]
    have HBQ := HB2
    refine wpAnyH_ready (rs := [5, 10]) (by kernel_rfl) (by simp) ?_
    refine AllReadyH.cons (o := zopgx7) rfl (fun K hK => ?_) (AllReadyH.cons (o := zopgx6) rfl (fun K hK => ?_) (AllReadyH.nil))
    · go_simp
      go_at_call 17
      refine (uNext_zero HBLK.out aK nK cK inn).mono ?_
      rintro e w3 ⟨rfl, hb3⟩
      have HB3 := hide (Below.trans HB2.out (hb3.mono (Below.size HB2.out)))
      have HB3W := hide hb3
      have HSQ := hide (HSV.out w3 (HB3.out.block _ (lt_of_block Hv1.out)))
      clear hb3
      go_simp
      refine hK.out _ _ ?_ (fun _hS => ?_)
      · exact HSQ.out
      clear hK K
      try simp only [Act.put, zps]
      refine wtk (i := 6) (oi := zopgx8) (v := ?v6x105) rfl ⟨by rfl, ?hy6x105⟩ (by assumption) ?_
      case hy6x105 => (intro w s; (try dsimp only at s); first | (go_simp; with_reducible rfl) | go_simp)
      try simp only [Act.put, zps]
      refine wtk (i := 7) (oi := zopgx9) (v := ?v7x106) rfl ⟨by rfl, ?hy7x106⟩ (by assumption) ?_
      case hy7x106 => (intro w s; (try dsimp only at s); first | (go_simp; with_reducible rfl) | go_simp)
      try simp only [Act.put, zps]
      refine wtk (i := 8) (oi := zopgx10) (v := ?v8x107) rfl ⟨by rfl, ?hy8x107⟩ (by assumption) ?_
      case hy8x107 => (intro w s; (try dsimp only at s); first | (go_simp; with_reducible rfl) | go_simp)
      try simp only [Act.put, zps]
      refine wtk (i := 9) (oi := zopgx11) (v := ?v9x108) rfl ⟨by rfl, ?hy9x108⟩ (by assumption) ?_
      case hy9x108 => (intro w s; (try dsimp only at s); first | (go_simp; with_reducible rfl) | go_simp)
      try simp only [Act.put, zps]
      refine wpAnyH_ready (rs := [10]) (by kernel_rfl) (by simp) ?_
      refine AllReadyH.cons (o := zopgx6) rfl (fun K hK => ?_) (AllReadyH.nil)
      go_simp
      refine hK.out _ _ ?_ (fun _hS => ?_)
      · exact (HSV.out _ ((Below.heap_alloc w3 _ _ (Nat.lt_of_lt_of_le (lt_of_block Hv1.out) HB3.out.size)).trans (HB3.out.block _ (lt_of_block Hv1.out))))
      clear hK K
      try simp only [Act.put, zps]
      refine wpAnyH_ready (rs := [11]) (by kernel_rfl) (by simp) ?_
      refine AllReadyH.cons (o := zopgx12) rfl (fun K hK => ?_) (AllReadyH.nil)
      go_simp
      refine hK.out _ _ ?_ (fun _hS => ?_)
      · exact (HSV.out _ ((Below.heap_alloc w3 _ _ (Nat.lt_of_lt_of_le (lt_of_block Hv1.out) HB3.out.size)).trans (HB3.out.block _ (lt_of_block Hv1.out))))
      clear hK K
      try simp only [Act.put, zps]
      refine wtk (i := 12) (oi := zopgx13) (v := ?v12x109) rfl ⟨by rfl, ?hy12x109⟩ (by assumption) ?_
      case hy12x109 => (intro w s; (try dsimp only at s); first | (go_simp; with_reducible rfl) | go_simp)
      try simp only [Act.put, zps]
      refine wtk (i := 13) (oi := zopgx14) (v := ?v13x110) rfl ⟨by rfl, ?hy13x110⟩ (by assumption) ?_
      case hy13x110 => (intro w s; (try dsimp only at s); first | (go_simp; with_reducible rfl) | go_simp)
      try simp only [Act.put, zps]
      refine wpAnyH_done (by kernel_rfl) ?_ _
      refine NoPanic.normal ?_
      refine exit_name (Q := Exit.then _ _) fun WX hWX => ?_
      have HBX : Hid (Below w1.heap.size w1 WX) := hide (by rw [hWX]; exact (HB3.out.alloc HB3.out.size _))
      clear hWX
      have hz4 := (HBX.out.block _ (lt_of_block Hz1.out)).trans Hz1.out
      obtain ⟨z0, z1, zf⟩ := cells_two hz4
      have zf1 : WX.frozen? ⟨w.heap.size + 1, 1, none⟩ = false := by simp [World.frozen?, hz4]
      have HZ := hide hz4
      clear hz4
      go_wp2
      have hfin := two_set2 (u := .slice none 0 0) (v := .slice none 0 0) HZ.out
      obtain ⟨q0, q1, -⟩ := cells_two hfin
      refine bodyPost_ret (v := .tuple #[.agg #[.slice none 0 0, .slice none 0 0], .bool false, .int .u16 6]) ?_ rfl ?_
      · simp [results, Try.results88, go_sem, q0, q1]
      · exact ⟨rfl, two_set_below (HB1.out.trans (HBX.out.mono HB1.out.size)) (by omega)⟩
    · go_simp
      refine hK.out _ _ ?_ (fun _hS => ?_)
      · exact (HSV.out _ ((Below.heap_alloc w2 _ _ (Nat.lt_of_lt_of_le (lt_of_block Hv1.out) (Below.size HB2.out))).trans (Below.block HB2.out _ (lt_of_block Hv1.out))))
      clear hK K
      try simp only [Act.put, zps]
      have HBQ := hide (HB2.out.trans ((below_alloc w2 (.cells #[.slice none 0 0, .slice none 0 0] 74)).mono HB2.out.size))
      have HPBG : Hid (w1.heap.size ≤ w2.heap.size) := hide HB2.out.size
      have HPBL : Hid (w2.heap.size < (w2.alloc (.cells #[.slice none 0 0, .slice none 0 0] 74)).heap.size) := hide (by simp)
      refine wpAnyH_ready (rs := [5]) (by kernel_rfl) (by simp) ?_
      refine AllReadyH.cons (o := zopgx7) rfl (fun K hK => ?_) (AllReadyH.nil)
      go_simp
      go_at_call 17
      refine (uNext_zero (HBL.out.low HBQ.out (by have := HS1.out; omega) (Nat.le_refl _)) aK nK cK inn).mono ?_
      rintro e w3 ⟨rfl, hb3⟩
      have HB3 := hide (Below.trans HBQ.out (hb3.mono (Below.size HBQ.out)))
      have HB3W := hide hb3
      have HSQ := hide (HSV.out w3 (HB3.out.block _ (lt_of_block Hv1.out)))
      clear hb3
      go_simp
      refine hK.out _ _ ?_ (fun _hS => ?_)
      · exact HSQ.out
      clear hK K
      try simp only [Act.put, zps]
      have HPZ : Hid (w3.heap[w2.heap.size]? = some (.cells #[.slice none 0 0, .slice none 0 0] 74 (0, 0))) := hide ((HB3W.out.block _ (by simp)).trans (heap_alloc_new w2 _))
      refine wtk (i := 6) (oi := zopgx8) (v := ?v6x111) rfl ⟨by rfl, ?hy6x111⟩ (by assumption) ?_
      case hy6x111 => (intro w s; (try dsimp only at s); first | (go_simp; with_reducible rfl) | go_simp)
      try simp only [Act.put, zps]
      refine wtk (i := 7) (oi := zopgx9) (v := ?v7x112) rfl ⟨by rfl, ?hy7x112⟩ (by assumption) ?_
      case hy7x112 => (intro w s; (try dsimp only at s); first | (go_simp; with_reducible rfl) | go_simp)
      try simp only [Act.put, zps]
      refine wtk (i := 8) (oi := zopgx10) (v := ?v8x113) rfl ⟨by rfl, ?hy8x113⟩ (by assumption) ?_
      case hy8x113 => (intro w s; (try dsimp only at s); first | (go_simp; with_reducible rfl) | go_simp)
      try simp only [Act.put, zps]
      refine wtk (i := 9) (oi := zopgx11) (v := ?v9x114) rfl ⟨by rfl, ?hy9x114⟩ (by assumption) ?_
      case hy9x114 => (intro w s; (try dsimp only at s); first | (go_simp; with_reducible rfl) | go_simp)
      try simp only [Act.put, zps]
      have hz9 : w3.heap[w2.heap.size]? = some (.cells #[.slice none 0 0, .slice none 0 0] 74 (0, 0)) := HPZ.out
      obtain ⟨pz0, pz1, pzf⟩ := cells_two hz9
      have pzf1 : w3.frozen? ⟨w2.heap.size, 1, none⟩ = false := by simp [World.frozen?, hz9]
      clear hz9
      refine wpAnyH_ready (rs := [11]) (by kernel_rfl) (by simp) ?_
      refine AllReadyH.cons (o := zopgx12) rfl (fun K hK => ?_) (AllReadyH.nil)
      go_simp
      refine hK.out _ _ ?_ (fun _hS => ?_)
      · exact ((cell_set_ne (by have := HPBG.out; have := HS1.out; omega)).trans ((cell_set_ne (by have := HPBG.out; have := HS1.out; omega)).trans HSQ.out))
      clear hK K
      try simp only [Act.put, zps]
      refine wtk (i := 12) (oi := zopgx13) (v := ?v12x115) rfl ⟨by rfl, ?hy12x115⟩ (by assumption) ?_
      case hy12x115 => (intro w s; (try dsimp only at s); first | (go_simp; with_reducible rfl) | go_simp)
      try simp only [Act.put, zps]
      refine wtk (i := 13) (oi := zopgx14) (v := ?v13x116) rfl ⟨by rfl, ?hy13x116⟩ (by assumption) ?_
      case hy13x116 => (intro w s; (try dsimp only at s); first | (go_simp; with_reducible rfl) | go_simp)
      try simp only [Act.put, zps]
      refine wpAnyH_done (by kernel_rfl) ?_ _
      refine NoPanic.normal ?_
      refine exit_name (Q := Exit.then _ _) fun WX hWX => ?_
      clear pz0 pz1 pzf pzf1
      have HBX : Hid (Below w1.heap.size w1 WX) := hide (by rw [hWX]; exact two_set_below HB3.out HPBG.out)
      clear hWX
      have hz4 := (HBX.out.block _ (lt_of_block Hz1.out)).trans Hz1.out
      obtain ⟨z0, z1, zf⟩ := cells_two hz4
      have zf1 : WX.frozen? ⟨w.heap.size + 1, 1, none⟩ = false := by simp [World.frozen?, hz4]
      have HZ := hide hz4
      clear hz4
      go_wp2
      have hfin := two_set2 (u := .slice none 0 0) (v := .slice none 0 0) HZ.out
      obtain ⟨q0, q1, -⟩ := cells_two hfin
      refine bodyPost_ret (v := .tuple #[.agg #[.slice none 0 0, .slice none 0 0], .bool false, .int .u16 6]) ?_ rfl ?_
      · simp [results, Try.results88, go_sem, q0, q1]
      · exact ⟨rfl, two_set_below (HB1.out.trans (HBX.out.mono HB1.out.size)) (by omega)⟩
  · go_simp
    refine hK.out _ _ ?_ (fun _hS => ?_)
    · exact (HSV.out _ (Below.heap_alloc w1.drew _ _ (lt_of_block Hv1.out)))
    clear hK K
    try simp only [Act.put, zps]
    have HB9 := hide ((Below.refl w1.heap.size w1).drew.alloc (Nat.le_refl _) (.cells #[.slice none 0 0, .slice none 0 0] 74))
    have HPBG : Hid (w1.heap.size ≤ w1.heap.size) := hide (Nat.le_refl _)
    refine wpAnyH_ready (rs := [3]) (by kernel_rfl) (by simp) ?_
    refine AllReadyH.cons (o := zopgx5) rfl (fun K hK => ?_) (AllReadyH.nil)
    go_simp
    go_at_call 68
    refine (HK.out _ HB9.out).mono ?_
    rintro e w2 ⟨vK, rfl, hmK⟩
    obtain ⟨aK, nK, cK, rfl, hnK⟩ := hmK.1.shape2
    have HB2 := hide (Below.trans HB9.out (hmK.2.2.mono (Below.size HB9.out)))
    have HSK := hide (HSV.out w2 (HB2.out.block _ (lt_of_block Hv1.out)))
    have HBLK := hide (HBL.out.low HB2.out (by have := HS1.out; omega) (Nat.le_refl _))
    have HIK := hide (hmK.inn H8.out).1
    have hb2w := hmK.2.2
    have HB2W := hide hb2w
    clear hmK hnK hb2w
    go_simp
    refine hK.out _ _ ?_ (fun _hS => ?_)
    · exact HSK.out
    clear hK K
    try simp only [Act.put, zps]
    have HBQ := HB2
    have HPBL : Hid (w1.heap.size < w2.heap.size) := hide (by have := HB2W.out.size; simp at this; omega)
    refine wpAnyH_ready (rs := [5]) (by kernel_rfl) (by simp) ?_
    refine AllReadyH.cons (o := zopgx7) rfl (fun K hK => ?_) (AllReadyH.nil)
    go_simp
    go_at_call 17
    refine (uNext_zero HBLK.out aK nK cK inn).mono ?_
    rintro e w3 ⟨rfl, hb3⟩
    have HB3 := hide (Below.trans HB2.out (hb3.mono (Below.size HB2.out)))
    have HB3W := hide hb3
    have HSQ := hide (HSV.out w3 (HB3.out.block _ (lt_of_block Hv1.out)))
    clear hb3
    go_simp
    refine hK.out _ _ ?_ (fun _hS => ?_)
    · exact HSQ.out
    clear hK K
    try simp only [Act.put, zps]
    have HPZ : Hid (w3.heap[w1.heap.size]? = some (.cells #[.slice none 0 0, .slice none 0 0] 74 (0, 0))) := hide ((HB3W.out.block _ HPBL.out).trans ((HB2W.out.block _ (by simp)).trans (heap_alloc_new w1.drew _)))
    refine wtk (i := 6) (oi := zopgx8) (v := ?v6x117) rfl ⟨by rfl, ?hy6x117⟩ (by assumption) ?_
    case hy6x117 => (intro w s; (try dsimp only at s); first | (go_simp; with_reducible rfl) | go_simp)
    try simp only [Act.put, zps]
    refine wtk (i := 7) (oi := zopgx9) (v := ?v7x118) rfl ⟨by rfl, ?hy7x118⟩ (by assumption) ?_
    case hy7x118 => (intro w s; (try dsimp only at s); first | (go_simp; with_reducible rfl) | go_simp)
    try simp only [Act.put, zps]
    refine wtk (i := 8) (oi := zopgx10) (v := ?v8x119) rfl ⟨by rfl, ?hy8x119⟩ (by assumption) ?_
    case hy8x119 => (intro w s; (try dsimp only at s); first | (go_simp; with_reducible rfl) | go_simp)
    try simp only [Act.put, zps]
    refine wtk (i := 9) (oi := zopgx11) (v := ?v9x120) rfl ⟨by rfl, ?hy9x120⟩ (by assumption) ?_
    case hy9x120 => (intro w s; (try dsimp only at s); first | (go_simp; with_reducible rfl) | go_simp)
    try simp only [Act.put, zps]
    have hz9 : w3.heap[w1.heap.size]? = some (.cells #[.slice none 0 0, .slice none 0 0] 74 (0, 0)) := HPZ.out
    obtain ⟨pz0, pz1, pzf⟩ := cells_two hz9
    have pzf1 : w3.frozen? ⟨w1.heap.size, 1, none⟩ = false := by simp [World.frozen?, hz9]
    clear hz9
    refine wpAnyH_ready (rs := [11]) (by kernel_rfl) (by simp) ?_
    refine AllReadyH.cons (o := zopgx12) rfl (fun K hK => ?_) (AllReadyH.nil)
    go_simp
    refine hK.out _ _ ?_ (fun _hS => ?_)
    · exact ((cell_set_ne (by have := HPBG.out; have := HS1.out; omega)).trans ((cell_set_ne (by have := HPBG.out; have := HS1.out; omega)).trans HSQ.out))
    clear hK K
    try simp only [Act.put, zps]
    refine wtk (i := 12) (oi := zopgx13) (v := ?v12x121) rfl ⟨by rfl, ?hy12x121⟩ (by assumption) ?_
    case hy12x121 => (intro w s; (try dsimp only at s); first | (go_simp; with_reducible rfl) | go_simp)
    try simp only [Act.put, zps]
    refine wtk (i := 13) (oi := zopgx14) (v := ?v13x122) rfl ⟨by rfl, ?hy13x122⟩ (by assumption) ?_
    case hy13x122 => (intro w s; (try dsimp only at s); first | (go_simp; with_reducible rfl) | go_simp)
    try simp only [Act.put, zps]
    refine wpAnyH_done (by kernel_rfl) ?_ _
    refine NoPanic.normal ?_
    refine exit_name (Q := Exit.then _ _) fun WX hWX => ?_
    clear pz0 pz1 pzf pzf1
    have HBX : Hid (Below w1.heap.size w1 WX) := hide (by rw [hWX]; exact two_set_below HB3.out HPBG.out)
    clear hWX
    have hz4 := (HBX.out.block _ (lt_of_block Hz1.out)).trans Hz1.out
    obtain ⟨z0, z1, zf⟩ := cells_two hz4
    have zf1 : WX.frozen? ⟨w.heap.size + 1, 1, none⟩ = false := by simp [World.frozen?, hz4]
    have HZ := hide hz4
    clear hz4
    go_wp2
    have hfin := two_set2 (u := .slice none 0 0) (v := .slice none 0 0) HZ.out
    obtain ⟨q0, q1, -⟩ := cells_two hfin
    refine bodyPost_ret (v := .tuple #[.agg #[.slice none 0 0, .slice none 0 0], .bool false, .int .u16 6]) ?_ rfl ?_
    · simp [results, Try.results88, go_sem, q0, q1]
    · exact ⟨rfl, two_set_below (HB1.out.trans (HBX.out.mono HB1.out.size)) (by omega)⟩
set_option maxHeartbeats 12800000 in
set_option maxRecDepth 1000000 in
theorem askU_some {w : World} {p q n c wr : Nat} {a : Option Addr} {us : List En} (h : Bl w q a n c us (wr + 1)) (hwr : wr ≤ 10000000) (fa : Option Addr) (fn fc : Nat) (frm : List Int) (inn : Bool) (hf : Inn w fa fn fc frm) (hfl : fn ≤ 140737488351232) (hn : n ≤ 1000000) (hus : ∀ x ∈ us, x.e.key.length ≤ 140737488351232 ∧ x.e.val.length ≤ 140737488351232) (o : Option Ee) (ho : o = (ers us).find? (fun e => bhU e.key frm inn)) :
    Calls Try.prog 88 #[.agg #[.pointer (some ⟨p, 0, none⟩), .func (.func 17) #[.pointer (some ⟨q, 0, none⟩)] #[], .func (.func 76) #[] #[], .int .i64 1], .slice fa fn fc, .bool inn] w (AskOut w q a n c us wr o) := by
  obtain ⟨w1, hw1⟩ : ∃ w1, w1 = (w.alloc (.cells #[.pointer (some ⟨p, 0, none⟩), .func (.func 17) #[.pointer (some ⟨q, 0, none⟩)] #[], .func (.func 76) #[] #[], .int .i64 1] 126)).alloc (.cells #[.slice none 0 0, .slice none 0 0] 74) := ⟨_, rfl⟩
  have hB1 : Below w.heap.size w w1 := by rw [hw1]; exact two_alloc _ _
  have hv1 : w1.heap[w.heap.size]? = some (.cells #[.pointer (some ⟨p, 0, none⟩), .func (.func 17) #[.pointer (some ⟨q, 0, none⟩)] #[], .func (.func 76) #[] #[], .int .i64 1] 126 (0, 0)) := by rw [hw1]; exact (Below.heap_alloc _ _ _ (by simp)).trans (heap_alloc_new w _)
  have hz1 : w1.heap[w.heap.size + 1]? = some (.cells #[.slice none 0 0, .slice none 0 0] 74 (0, 0)) := by
    rw [hw1]
    have := heap_alloc_new (w.alloc (.cells #[.pointer (some ⟨p, 0, none⟩), .func (.func 17) #[.pointer (some ⟨q, 0, none⟩)] #[], .func (.func 76) #[] #[], .int .i64 1] 126)) (.cells #[.slice none 0 0, .slice none 0 0] 74)
    rwa [World.size_alloc] at this
  have hs1 : w1.heap.size = w.heap.size + 2 := by rw [hw1]; simp
  have hqlt := lt_of_block h.blk
  have hbl1 := h.low hB1 hqlt (Nat.le_refl _)
  have hf1 := hf.below hB1
  obtain ⟨v0, v1, v2, v3⟩ := cells_four4 hv1
  have HK := hide (fun W (hW : Below w1.heap.size w1 W) => clone_any fa fn fc frm W (hf1.below hW) hfl)
  have H8 := hide hf.byts
  have HBL := hide hbl1
  have HB1 := hide hB1
  have Hv1 := hide hv1
  have Hz1 := hide hz1
  have HS1 := hide hs1
  have HSV : Hid (∀ W : World, W.heap[w.heap.size]? = w1.heap[w.heap.size]? → W.cell? ⟨w.heap.size, 1, none⟩ = some (.func (.func 17) #[.pointer (some ⟨q, 0, none⟩)] #[])) := hide (fun W hW => (cells_four4 (hW.trans Hv1.out)).2.1)
  have HS0 := hide (HSV.out w1 rfl)
  have HBLw := hide h.blk
  have HFW := hide hf
  have HO := hide ho
  have HUS := hide hus
  clear ho hus
  clear h hf hB1 hv1 hz1 hs1 hbl1 hf1
  go_enter Try.func88, Try.ntmps88
  go_wp2
  rw [← hw1]
  clear hw1 v0 v1 v2 v3
  refine wp_region_noPanic ?_
  refine wp_region_held_drew (S := (fun W => W.cell? ⟨w.heap.size, 1, none⟩ = some (.func (.func 17) #[.pointer (some ⟨q, 0, none⟩)] #[]))) (by kernel_rfl) HS0.out (fun _hS => ?_)
  refine wtk (i := 0) (oi := zopgx1) (v := ?v0x101) rfl ⟨by rfl, ?hy0x101⟩ (by assumption) ?_
  case hy0x101 => (intro w s; (try dsimp only at s); first | (go_simp; with_reducible rfl) | go_simp)
  try simp only [Act.put, zps]
  refine wtk (i := 1) (oi := zopgx2) (v := ?v1x102) rfl ⟨by rfl, ?hy1x102⟩ (by assumption) ?_
  case hy1x102 => (intro w s; (try dsimp only at s); first | (go_simp; with_reducible rfl) | go_simp)
  try simp only [Act.put, zps]
  refine wtk (i := 2) (oi := zopgx3) (v := ?v2x103) rfl ⟨by rfl, ?hy2x103⟩ (by assumption) ?_
  case hy2x103 => (intro w s; (try dsimp only at s); first | (go_simp; with_reducible rfl) | go_simp)
  try simp only [Act.put, zps]
  refine wtk (i := 4) (oi := zopgx4) (v := ?v4x104) rfl ⟨by rfl, ?hy4x104⟩ (by assumption) ?_
  case hy4x104 => (intro w s; (try dsimp only at s); first | (go_simp; with_reducible rfl) | go_simp)
  try simp only [Act.put, zps]
  refine wpAnyH_ready (rs := [3, 10]) (by kernel_rfl) (by simp) ?_
  refine AllReadyH.cons (o := zopgx5) rfl (fun K hK => ?_) (AllReadyH.cons (o := zopgx6) rfl (fun K hK => ?_) (AllReadyH.nil))
  · go_simp
    go_at_call 68
    refine (HK.out _ (Below.refl w1.heap.size w1).drew).mono ?_
    rintro e w2 ⟨vK, rfl, hmK⟩
    obtain ⟨aK, nK, cK, rfl, hnK⟩ := hmK.1.shape2
    have HB2 := hide (Below.trans (Below.refl w1.heap.size w1).drew (hmK.2.2.mono (Below.size (Below.refl w1.heap.size w1).drew)))
    have HSK := hide (HSV.out w2 (HB2.out.block _ (lt_of_block Hv1.out)))
    have HBLK := hide (HBL.out.low HB2.out (by have := HS1.out; omega) (Nat.le_refl _))
    have HIK := hide (hmK.inn H8.out).1
    have hb2w := hmK.2.2
    have HB2W := hide hb2w
    clear hmK hnK hb2w
    go_simp
    refine hK.out _ _ ?_ (fun _hS => ?_)
    · exact HSK.out
    clear hK K
    try simp only [Act.put, zps]
    have HBQ := HB2
    refine wpAnyH_ready (rs := [5, 10]) (by kernel_rfl) (by simp) ?_
    refine AllReadyH.cons (o := zopgx7) rfl (fun K hK => ?_) (AllReadyH.cons (o := zopgx6) rfl (fun K hK => ?_) (AllReadyH.nil))
    · go_simp
      go_at_call 17
      refine (uNext_some HBLK.out hwr aK nK cK frm inn HIK.out hn HUS.out o HO.out).mono ?_
      rintro e w3 ⟨y, rfl, hy1, hy2, hyo, hm3, hbl3⟩
      have HY1 := hide hy1
      have HY2 := hide hy2
      have HYo := hide hyo
      have HM3 := hide hm3
      have HBL3 := hide hbl3
      have hv3 := (hm3.block _ (Nat.lt_of_lt_of_le (lt_of_block Hv1.out) (Below.size HB2.out)) (by omega)).trans (Below.block HB2.out _ (lt_of_block Hv1.out))
      have HV3 := hide hv3
      have HSQ := hide (HSV.out w3 hv3)
      clear hy1 hy2 hyo hm3 hbl3 hv3
      go_simp
      refine hK.out _ _ ?_ (fun _hS => ?_)
      · exact HSQ.out
      clear hK K
      try simp only [Act.put, zps]
      refine wtk (i := 6) (oi := zopgx8) (v := ?v6x105) rfl ⟨by rfl, ?hy6x105⟩ (by assumption) ?_
      case hy6x105 => (intro w s; (try dsimp only at s); first | (go_simp; with_reducible rfl) | go_simp)
      try simp only [Act.put, zps]
      refine wtk (i := 7) (oi := zopgx9) (v := ?v7x106) rfl ⟨by rfl, ?hy7x106⟩ (by assumption) ?_
      case hy7x106 => (intro w s; (try dsimp only at s); first | (go_simp; with_reducible rfl) | go_simp)
      try simp only [Act.put, zps]
      refine wtk (i := 8) (oi := zopgx10) (v := ?v8x107) rfl ⟨by rfl, ?hy8x107⟩ (by assumption) ?_
      case hy8x107 => (intro w s; (try dsimp only at s); first | (go_simp; with_reducible rfl) | go_simp)
      try simp only [Act.put, zps]
      refine wtk (i := 9) (oi := zopgx11) (v := ?v9x108) rfl ⟨by rfl, ?hy9x108⟩ (by assumption) ?_
      case hy9x108 => (intro w s; (try dsimp only at s); first | (go_simp; with_reducible rfl) | go_simp)
      try simp only [Act.put, zps]
      refine wpAnyH_ready (rs := [10]) (by kernel_rfl) (by simp) ?_
      refine AllReadyH.cons (o := zopgx6) rfl (fun K hK => ?_) (AllReadyH.nil)
      go_simp
      refine hK.out _ _ ?_ (fun _hS => ?_)
      · exact (HSV.out _ ((Below.heap_alloc w3 _ _ (Nat.lt_of_lt_of_le (Nat.lt_of_lt_of_le (lt_of_block Hv1.out) (Below.size HBQ)) HM3.out.size)).trans HV3.out))
      clear hK K
      try simp only [Act.put, zps]
      refine wpAnyH_ready (rs := [11]) (by kernel_rfl) (by simp) ?_
      refine AllReadyH.cons (o := zopgx12) rfl (fun K hK => ?_) (AllReadyH.nil)
      go_simp
      refine hK.out _ _ ?_ (fun _hS => ?_)
      · exact (HSV.out _ ((Below.heap_alloc w3 _ _ (Nat.lt_of_lt_of_le (Nat.lt_of_lt_of_le (lt_of_block Hv1.out) (Below.size HBQ)) HM3.out.size)).trans HV3.out))
      clear hK K
      try simp only [Act.put, zps]
      refine wtk (i := 12) (oi := zopgx13) (v := ?v12x109) rfl ⟨by rfl, ?hy12x109⟩ (by assumption) ?_
      case hy12x109 => (intro w s; (try dsimp only at s); first | (go_simp; with_reducible rfl) | go_simp)
      try simp only [Act.put, zps]
      refine wtk (i := 13) (oi := zopgx14) (v := ?v13x110) rfl ⟨by rfl, ?hy13x110⟩ (by assumption) ?_
      case hy13x110 => (intro w s; (try dsimp only at s); first | (go_simp; with_reducible rfl) | go_simp)
      try simp only [Act.put, zps]
      refine wpAnyH_done (by kernel_rfl) ?_ _
      refine NoPanic.normal ?_
      refine exit_name (Q := Exit.then _ _) fun WX hWX => ?_
      have hb4 := below_alloc w3 (.cells #[.slice y.ka y.e.key.length y.kc, .slice y.va y.e.val.length y.vc] 74)
      have HPB : Hid (WX.heap[w3.heap.size]? = some (.cells #[.slice y.ka y.e.key.length y.kc, .slice y.va y.e.val.length y.vc] 74 (0, 0))) := hide (by rw [hWX]; exact heap_alloc_new w3 _)
      have HMX : Hid (Mv (fun k => k = q) w1 WX) := hide (by rw [hWX]; exact ((Mv.of_below HBQ.out).trans' HM3.out).alloc _)
      have HBLX : Hid (Bl WX q a n c us wr) := hide (by rw [hWX]; exact HBL3.out.low hb4 (by have := HM3.out.size; have := HBQ.out.size; have := HS1.out; omega) (Nat.le_refl _))
      have HYX : Hid (y.Ok WX) := hide (by rw [hWX]; exact HYo.out.ok.below hb4)
      have HPG : Hid (w.heap.size + 2 ≤ w3.heap.size) := hide (by have := HBQ.out.size; have := HM3.out.size; have := HS1.out; omega)
      obtain ⟨pb, hpb⟩ : ∃ pb, pb = w3.heap.size := ⟨_, rfl⟩
      rw [← hpb] at HPB HPG ⊢
      clear hWX hpb hb4
      obtain ⟨t0, t1, tf⟩ := cells_two HPB.out
      have hvx := (HMX.out.block _ (lt_of_block Hv1.out) (by omega)).trans Hv1.out
      have hzx := (HMX.out.block _ (lt_of_block Hz1.out) (by omega)).trans Hz1.out
      obtain ⟨v0, v1, v2, v3⟩ := cells_four4 hvx
      obtain ⟨z0, z1, zf⟩ := cells_two hzx
      have zf1 : WX.frozen? ⟨w.heap.size + 1, 1, none⟩ = false := by simp [World.frozen?, hzx]
      have HZX := hide hzx
      clear hvx hzx
      have HQW : Hid (Mv (fun k => k = q) w WX) := hide ((Mv.of_below HB1.out).trans' HMX.out)
      have HFX : Hid (Inn WX fa fn fc frm) := hide (inn_mv HBLw.out HFW.out HQW.out)
      rcases opt_cases o with rfl | ⟨eo, rfl⟩
      · have HZo := hide HZX.out
        go_wp2
        have hfin := two_set2 (u := .slice none 0 0) (v := .slice none 0 0) HZX.out
        obtain ⟨q0, q1, -⟩ := cells_two hfin
        refine bodyPost_ret (v := .tuple #[.agg #[.slice none 0 0, .slice none 0 0], .bool false, .int .u16 0]) ?_ rfl ?_
        · simp [results, Try.results88, go_sem, q0, q1]
        · have hE : Below w.heap.size WX ((WX.setCell ⟨w.heap.size + 1, 0, none⟩ (.slice none 0 0)).setCell ⟨w.heap.size + 1, 1, none⟩ (.slice none 0 0)) := two_set_below ((Below.refl WX.heap.size WX).mono HQW.out.size) (by omega)
          exact ⟨⟨zeE, none, 0, none, 0⟩, rfl, rfl, rfl, zero_own _ _, mv_below HQW.out hE (Nat.le_refl _), HBLX.out.low hE hqlt HQW.out.size⟩
      · have hbt : bhU y.e.key frm inn = true := by
          rw [HY1.out]
          have := HO.out.symm
          have h5 := List.find?_some this
          exact h5
        have HBT := hide hbt
        have hyl : y.e.key.length ≤ 140737488351232 ∧ y.e.val.length ≤ 140737488351232 := by
          rw [HY1.out, HY2.out]
          have := List.mem_of_find?_eq_some (HO.out.symm)
          have hm2 : eo ∈ ers us := by first | exact this | exact List.mem_reverse.1 this
          obtain ⟨x, hx, rfl⟩ := List.mem_map.1 hm2
          exact HUS.out x hx
        have HBe := hide (behindU (.func (.func 76) #[] #[]) y.ka fa y.e.key.length y.kc fn fc y.e.key frm inn WX HYX.out.key (HFX.out))
        rw [hbt] at HBe
        clear hbt
        go_wp2_with (go_at_call 96; refine HBe.out.mono ?_; rintro e w5 ⟨rfl, hb5⟩; have HB5 := hide hb5; clear hb5)
        clear v0 v1 v2 v3 z0 z1 zf zf1 t0 t1 tf
        have hyk := HYX.out.below HB5.out
        have hp5 := (HB5.out.block _ (lt_of_block HPB.out)).trans HPB.out
        have HP5 := hide hp5
        have HYK := hide hyk
        have HK4 := hide (clone_any y.ka y.e.key.length y.kc y.e.key w5.drew (hyk.key.below (Below.refl _ _).drew) hyl.1)
        have HV4 := hide (fun W (hW : Below w5.heap.size w5 W) => clone_any y.va y.e.val.length y.vc y.e.val W (hyk.val.below hW) hyl.2)
        have HSP : Hid (∀ W : World, Below w5.heap.size w5 W → W.cell? ⟨pb, 0, none⟩ = some (.slice y.ka y.e.key.length y.kc) ∧ W.cell? ⟨pb, 1, none⟩ = some (.slice y.va y.e.val.length y.vc)) := hide (fun W hW => by
          obtain ⟨e0, e1, _⟩ := cells_two ((hW.block _ (lt_of_block HP5.out)).trans HP5.out)
          exact ⟨e0, e1⟩)
        have HSP0 := hide (HSP.out w5 (Below.refl _ _))
        have HQ5 : Hid (Mv (fun k => k = q) w w5) := hide (HQW.out.trans' (Mv.of_below HB5.out))
        have HBL5 := hide (HBLX.out.low HB5.out (Nat.lt_of_lt_of_le hqlt HQW.out.size) (Nat.le_refl _))
        have hz5 := (HB5.out.block _ (lt_of_block HZX.out)).trans HZX.out
        have HZ5 := hide hz5
        have HPBN : Hid (w.heap.size + 1 < pb) := hide (by have := HPG.out; omega)
        clear hyk hp5 hz5
        refine wp_region_noPanic ?_
        refine wp_region_held_drew (S := (fun W => W.cell? ⟨pb, 0, none⟩ = some (.slice y.ka y.e.key.length y.kc) ∧ W.cell? ⟨pb, 1, none⟩ = some (.slice y.va y.e.val.length y.vc))) (by kernel_rfl) HSP0.out (fun _hS => ?_)
        refine wtk (i := 0) (oi := zopgx15) (v := ?v0x2001) rfl ⟨by rfl, ?hy0x2001⟩ (by assumption) ?_
        case hy0x2001 => (intro w s; (try dsimp only at s); first | (go_simp; with_reducible rfl) | go_simp)
        try simp only [Act.put, zps]
        refine wtk (i := 1) (oi := zopgx16) (v := ?v1x2002) rfl ⟨by rfl, ?hy1x2002⟩ (by assumption) ?_
        case hy1x2002 => (intro w s; (try dsimp only at s); first | (go_simp; with_reducible rfl) | go_simp)
        try simp only [Act.put, zps]
        refine wtk (i := 3) (oi := zopgx17) (v := ?v3x2003) rfl ⟨by rfl, ?hy3x2003⟩ (by assumption) ?_
        case hy3x2003 => (intro w s; (try dsimp only at s); first | (go_simp; with_reducible rfl) | go_simp)
        try simp only [Act.put, zps]
        refine wtk (i := 4) (oi := zopgx18) (v := ?v4x2004) rfl ⟨by rfl, ?hy4x2004⟩ (by assumption) ?_
        case hy4x2004 => (intro w s; (try dsimp only at s); first | (go_simp; with_reducible rfl) | go_simp)
        try simp only [Act.put, zps]
        refine wpAnyH_ready (rs := [2]) (by kernel_rfl) (by simp) ?_
        refine AllReadyH.cons (o := zopgx19) rfl (fun K hK => ?_) (AllReadyH.nil)
        go_simp
        go_at_call 68
        refine HK4.out.mono ?_
        rintro e w6 ⟨vK, rfl, hmK⟩
        obtain ⟨aK, nK, cK, rfl, hnK⟩ := hmK.1.shape2
        have HMK := hide hmK
        have HNK := hide hnK
        have HBK := hide ((Below.refl w5.heap.size w5).drew.trans hmK.2.2)
        have HSP6 := hide (HSP.out w6 HBK.out)
        clear hmK hnK
        go_simp
        refine hK.out _ _ ?_ (fun _hS => ?_)
        · exact HSP6.out
        clear hK K
        try simp only [Act.put, zps]
        refine wpAnyH_ready (rs := [5]) (by kernel_rfl) (by simp) ?_
        refine AllReadyH.cons (o := zopgx20) rfl (fun K hK => ?_) (AllReadyH.nil)
        go_simp
        go_at_call 68
        refine (HV4.out w6 HBK.out).mono ?_
        rintro e w7 ⟨vV, rfl, hmV⟩
        obtain ⟨aV, nV, cV, rfl, hnV⟩ := hmV.1.shape2
        have HMV := hide hmV
        have HNV := hide hnV
        have HBV := hide (HBK.out.trans (hmV.2.2.mono HBK.out.size))
        have HSP7 := hide (HSP.out w7 HBV.out)
        have hz7 := (HBV.out.block _ (lt_of_block HZ5.out)).trans HZ5.out
        obtain ⟨g0, g1, gf⟩ := cells_two hz7
        have gf1 : w7.frozen? ⟨w.heap.size + 1, 1, none⟩ = false := by simp [World.frozen?, hz7]
        have HZ7 := hide hz7
        clear hmV hnV hz7
        go_simp
        refine hK.out _ _ ?_ (fun _hS => ?_)
        · exact HSP7.out
        clear hK K
        try simp only [Act.put, zps]
        refine wtk (i := 6) (oi := zopgx21) (v := ?v6x2005) rfl ⟨by rfl, ?hy6x2005⟩ (by assumption) ?_
        case hy6x2005 => (intro w s; (try dsimp only at s); first | (go_simp; with_reducible rfl) | go_simp)
        try simp only [Act.put, zps]
        refine wpAnyH_ready (rs := [7]) (by kernel_rfl) (by simp) ?_
        refine AllReadyH.cons (o := zopgx22) rfl (fun K hK => ?_) (AllReadyH.nil)
        go_simp
        refine hK.out _ _ ?_ (fun _hS => ?_)
        · exact ⟨(cell_set_ne (by have := HPBN.out; omega)).trans ((cell_set_ne (by have := HPBN.out; omega)).trans HSP7.out.1), (cell_set_ne (by have := HPBN.out; omega)).trans ((cell_set_ne (by have := HPBN.out; omega)).trans HSP7.out.2)⟩
        clear hK K
        try simp only [Act.put, zps]
        refine wtk (i := 8) (oi := zopgx23) (v := ?v8x2006) rfl ⟨by rfl, ?hy8x2006⟩ (by assumption) ?_
        case hy8x2006 => (intro w s; (try dsimp only at s); first | (go_simp; with_reducible rfl) | go_simp)
        try simp only [Act.put, zps]
        refine wtk (i := 9) (oi := zopgx24) (v := ?v9x2007) rfl ⟨by rfl, ?hy9x2007⟩ (by assumption) ?_
        case hy9x2007 => (intro w s; (try dsimp only at s); first | (go_simp; with_reducible rfl) | go_simp)
        try simp only [Act.put, zps]
        refine wpAnyH_done (by kernel_rfl) ?_ _
        refine NoPanic.normal ?_
        go_wp2
        have hf5 := two_set2 (u := .slice aK nK cK) (v := .slice aV nV cV) HZ7.out
        obtain ⟨q0, q1, -⟩ := cells_two hf5
        have hnk : nK = y.e.key.length := HNK.out
        have hnv : nV = y.e.val.length := HNV.out
        subst hnk hnv
        refine bodyPost_ret (v := .tuple #[.agg #[.slice aK y.e.key.length cK, .slice aV y.e.val.length cV], .bool true, .int .u16 0]) ?_ rfl ?_
        · simp [results, Try.results88, go_sem, q0, q1]
        · have hq5 := HQ5.out.size
          have hk5 := HBK.out.size
          have hs6 := HPBN.out
          have hpl := lt_of_block HP5.out
          have hE : Below w.heap.size w5 ((w7.setCell ⟨w.heap.size + 1, 0, none⟩ (.slice aK y.e.key.length cK)).setCell ⟨w.heap.size + 1, 1, none⟩ (.slice aV y.e.val.length cV)) := two_set_below (HBV.out.mono hq5) (by omega)
          refine ⟨⟨⟨y.e.key, y.e.val, false⟩, aK, cK, aV, cV⟩, rfl, HY1.out, HY2.out, ⟨?_, ?_, fun k hk => ?_, fun k hk => ?_, fun k hk e => ?_, HYK.out.key.byts, HYK.out.val.byts⟩, mv_below HQ5.out hE (Nat.le_refl _), HBL5.out.low hE hqlt hq5⟩
          · exact (HMK.out.1.below HMV.out.2.2).of_block fun k hk => two_other (by have := HMK.out.2.1 k hk; simp at this; omega)
          · exact HMV.out.1.of_block fun k hk => two_other (by have := HMV.out.2.1 k hk; omega)
          · have := HMK.out.2.1 k hk; simp at this; omega
          · have := HMV.out.2.1 k hk; omega
          · have h1 := HMK.out.1.lt hk
            have h2 := HMV.out.2.1 k e
            omega
    · go_simp
      refine hK.out _ _ ?_ (fun _hS => ?_)
      · exact (HSV.out _ ((Below.heap_alloc w2 _ _ (Nat.lt_of_lt_of_le (lt_of_block Hv1.out) (Below.size HB2.out))).trans (Below.block HB2.out _ (lt_of_block Hv1.out))))
      clear hK K
      try simp only [Act.put, zps]
      have HBQ := hide (HB2.out.trans ((below_alloc w2 (.cells #[.slice none 0 0, .slice none 0 0] 74)).mono HB2.out.size))
      have HPBG : Hid (w1.heap.size ≤ w2.heap.size) := hide HB2.out.size
      have HPBL : Hid (w2.heap.size < (w2.alloc (.cells #[.slice none 0 0, .slice none 0 0] 74)).heap.size) := hide (by simp)
      refine wpAnyH_ready (rs := [5]) (by kernel_rfl) (by simp) ?_
      refine AllReadyH.cons (o := zopgx7) rfl (fun K hK => ?_) (AllReadyH.nil)
      go_simp
      go_at_call 17
      refine (uNext_some (HBL.out.low HBQ.out (by have := HS1.out; omega) (Nat.le_refl _)) hwr aK nK cK frm inn (HIK.out.below (below_alloc w2 _)) hn HUS.out o HO.out).mono ?_
      rintro e w3 ⟨y, rfl, hy1, hy2, hyo, hm3, hbl3⟩
      have HY1 := hide hy1
      have HY2 := hide hy2
      have HYo := hide hyo
      have HM3 := hide hm3
      have HBL3 := hide hbl3
      have hv3 := (hm3.block _ (Nat.lt_of_lt_of_le (lt_of_block Hv1.out) (Below.size HBQ.out)) (by omega)).trans (Below.block HBQ.out _ (lt_of_block Hv1.out))
      have HV3 := hide hv3
      have HSQ := hide (HSV.out w3 hv3)
      clear hy1 hy2 hyo hm3 hbl3 hv3
      go_simp
      refine hK.out _ _ ?_ (fun _hS => ?_)
      · exact HSQ.out
      clear hK K
      try simp only [Act.put, zps]
      have HPZ : Hid (w3.heap[w2.heap.size]? = some (.cells #[.slice none 0 0, .slice none 0 0] 74 (0, 0))) := hide ((HM3.out.block _ (by simp) (by have := HPBG.out; have := HS1.out; omega)).trans (heap_alloc_new w2 _))
      refine wtk (i := 6) (oi := zopgx8) (v := ?v6x111) rfl ⟨by rfl, ?hy6x111⟩ (by assumption) ?_
      case hy6x111 => (intro w s; (try dsimp only at s); first | (go_simp; with_reducible rfl) | go_simp)
      try simp only [Act.put, zps]
      refine wtk (i := 7) (oi := zopgx9) (v := ?v7x112) rfl ⟨by rfl, ?hy7x112⟩ (by assumption) ?_
      case hy7x112 => (intro w s; (try dsimp only at s); first | (go_simp; with_reducible rfl) | go_simp)
      try simp only [Act.put, zps]
      refine wtk (i := 8) (oi := zopgx10) (v := ?v8x113) rfl ⟨by rfl, ?hy8x113⟩ (by assumption) ?_
      case hy8x113 => (intro w s; (try dsimp only at s); first | (go_simp; with_reducible rfl) | go_simp)
      try simp only [Act.put, zps]
      refine wtk (i := 9) (oi := zopgx11) (v := ?v9x114) rfl ⟨by rfl, ?hy9x114⟩ (by assumption) ?_
      case hy9x114 => (intro w s; (try dsimp only at s); first | (go_simp; with_reducible rfl) | go_simp)
      try simp only [Act.put, zps]
      have hz9 : w3.heap[w2.heap.size]? = some (.cells #[.slice none 0 0, .slice none 0 0] 74 (0, 0)) := HPZ.out
      obtain ⟨pz0, pz1, pzf⟩ := cells_two hz9
      have pzf1 : w3.frozen? ⟨w2.heap.size, 1, none⟩ = false := by simp [World.frozen?, hz9]
      clear hz9
      refine wpAnyH_ready (rs := [11]) (by kernel_rfl) (by simp) ?_
      refine AllReadyH.cons (o := zopgx12) rfl (fun K hK => ?_) (AllReadyH.nil)
      go_simp
      refine hK.out _ _ ?_ (fun _hS => ?_)
      · exact ((cell_set_ne (by have := HPBG.out; have := HS1.out; omega)).trans ((cell_set_ne (by have := HPBG.out; have := HS1.out; omega)).trans HSQ.out))
      clear hK K
      try simp only [Act.put, zps]
      refine wtk (i := 12) (oi := zopgx13) (v := ?v12x115) rfl ⟨by rfl, ?hy12x115⟩ (by assumption) ?_
      case hy12x115 => (intro w s; (try dsimp only at s); first | (go_simp; with_reducible rfl) | go_simp)
      try simp only [Act.put, zps]
      refine wtk (i := 13) (oi := zopgx14) (v := ?v13x116) rfl ⟨by rfl, ?hy13x116⟩ (by assumption) ?_
      case hy13x116 => (intro w s; (try dsimp only at s); first | (go_simp; with_reducible rfl) | go_simp)
      try simp only [Act.put, zps]
      refine wpAnyH_done (by kernel_rfl) ?_ _
      refine NoPanic.normal ?_
      refine exit_name (Q := Exit.then _ _) fun WX hWX => ?_
      clear pz0 pz1 pzf pzf1
      have HPB : Hid (WX.heap[w2.heap.size]? = some (.cells #[.slice y.ka y.e.key.length y.kc, .slice y.va y.e.val.length y.vc] 74 (0, 0))) := hide (by rw [hWX]; exact two_set2 HPZ.out)
      have hE : Below w1.heap.size w3 ((w3.setCell ⟨w2.heap.size, 0, none⟩ (.slice y.ka y.e.key.length y.kc)).setCell ⟨w2.heap.size, 1, none⟩ (.slice y.va y.e.val.length y.vc)) := two_set_below ((Below.refl w3.heap.size w3).mono (Nat.le_trans HBQ.out.size HM3.out.size)) HPBG.out
      have HMX : Hid (Mv (fun k => k = q) w1 WX) := hide (by rw [hWX]; exact mv_below (Mv.trans' (Mv.of_below HBQ.out) HM3.out) hE (Nat.le_refl _))
      have HBLX : Hid (Bl WX q a n c us wr) := hide (by rw [hWX]; exact HBL3.out.low hE (by have := HS1.out; omega) (Nat.le_trans HBQ.out.size HM3.out.size))
      have HYX : Hid (y.Ok WX) := hide (by rw [hWX]; exact (HYo.out.move fun k hk1 hk2 => two_other (by have := HPBL.out; omega)).ok)
      have HPG : Hid (w.heap.size + 2 ≤ w2.heap.size) := hide (by have := HPBG.out; have := HS1.out; omega)
      obtain ⟨pb, hpb⟩ : ∃ pb, pb = w2.heap.size := ⟨_, rfl⟩
      rw [← hpb] at HPB HPG ⊢
      clear hWX hpb hE
      obtain ⟨t0, t1, tf⟩ := cells_two HPB.out
      have hvx := (HMX.out.block _ (lt_of_block Hv1.out) (by omega)).trans Hv1.out
      have hzx := (HMX.out.block _ (lt_of_block Hz1.out) (by omega)).trans Hz1.out
      obtain ⟨v0, v1, v2, v3⟩ := cells_four4 hvx
      obtain ⟨z0, z1, zf⟩ := cells_two hzx
      have zf1 : WX.frozen? ⟨w.heap.size + 1, 1, none⟩ = false := by simp [World.frozen?, hzx]
      have HZX := hide hzx
      clear hvx hzx
      have HQW : Hid (Mv (fun k => k = q) w WX) := hide ((Mv.of_below HB1.out).trans' HMX.out)
      have HFX : Hid (Inn WX fa fn fc frm) := hide (inn_mv HBLw.out HFW.out HQW.out)
      rcases opt_cases o with rfl | ⟨eo, rfl⟩
      · have HZo := hide HZX.out
        go_wp2
        have hfin := two_set2 (u := .slice none 0 0) (v := .slice none 0 0) HZX.out
        obtain ⟨q0, q1, -⟩ := cells_two hfin
        refine bodyPost_ret (v := .tuple #[.agg #[.slice none 0 0, .slice none 0 0], .bool false, .int .u16 0]) ?_ rfl ?_
        · simp [results, Try.results88, go_sem, q0, q1]
        · have hE : Below w.heap.size WX ((WX.setCell ⟨w.heap.size + 1, 0, none⟩ (.slice none 0 0)).setCell ⟨w.heap.size + 1, 1, none⟩ (.slice none 0 0)) := two_set_below ((Below.refl WX.heap.size WX).mono HQW.out.size) (by omega)
          exact ⟨⟨zeE, none, 0, none, 0⟩, rfl, rfl, rfl, zero_own _ _, mv_below HQW.out hE (Nat.le_refl _), HBLX.out.low hE hqlt HQW.out.size⟩
      · have hbt : bhU y.e.key frm inn = true := by
          rw [HY1.out]
          have := HO.out.symm
          have h5 := List.find?_some this
          exact h5
        have HBT := hide hbt
        have hyl : y.e.key.length ≤ 140737488351232 ∧ y.e.val.length ≤ 140737488351232 := by
          rw [HY1.out, HY2.out]
          have := List.mem_of_find?_eq_some (HO.out.symm)
          have hm2 : eo ∈ ers us := by first | exact this | exact List.mem_reverse.1 this
          obtain ⟨x, hx, rfl⟩ := List.mem_map.1 hm2
          exact HUS.out x hx
        have HBe := hide (behindU (.func (.func 76) #[] #[]) y.ka fa y.e.key.length y.kc fn fc y.e.key frm inn WX HYX.out.key (HFX.out))
        rw [hbt] at HBe
        clear hbt
        go_wp2_with (go_at_call 96; refine HBe.out.mono ?_; rintro e w5 ⟨rfl, hb5⟩; have HB5 := hide hb5; clear hb5)
        clear v0 v1 v2 v3 z0 z1 zf zf1 t0 t1 tf
        have hyk := HYX.out.below HB5.out
        have hp5 := (HB5.out.block _ (lt_of_block HPB.out)).trans HPB.out
        have HP5 := hide hp5
        have HYK := hide hyk
        have HK4 := hide (clone_any y.ka y.e.key.length y.kc y.e.key w5.drew (hyk.key.below (Below.refl _ _).drew) hyl.1)
        have HV4 := hide (fun W (hW : Below w5.heap.size w5 W) => clone_any y.va y.e.val.length y.vc y.e.val W (hyk.val.below hW) hyl.2)
        have HSP : Hid (∀ W : World, Below w5.heap.size w5 W → W.cell? ⟨pb, 0, none⟩ = some (.slice y.ka y.e.key.length y.kc) ∧ W.cell? ⟨pb, 1, none⟩ = some (.slice y.va y.e.val.length y.vc)) := hide (fun W hW => by
          obtain ⟨e0, e1, _⟩ := cells_two ((hW.block _ (lt_of_block HP5.out)).trans HP5.out)
          exact ⟨e0, e1⟩)
        have HSP0 := hide (HSP.out w5 (Below.refl _ _))
        have HQ5 : Hid (Mv (fun k => k = q) w w5) := hide (HQW.out.trans' (Mv.of_below HB5.out))
        have HBL5 := hide (HBLX.out.low HB5.out (Nat.lt_of_lt_of_le hqlt HQW.out.size) (Nat.le_refl _))
        have hz5 := (HB5.out.block _ (lt_of_block HZX.out)).trans HZX.out
        have HZ5 := hide hz5
        have HPBN : Hid (w.heap.size + 1 < pb) := hide (by have := HPG.out; omega)
        clear hyk hp5 hz5
        refine wp_region_noPanic ?_
        refine wp_region_held_drew (S := (fun W => W.cell? ⟨pb, 0, none⟩ = some (.slice y.ka y.e.key.length y.kc) ∧ W.cell? ⟨pb, 1, none⟩ = some (.slice y.va y.e.val.length y.vc))) (by kernel_rfl) HSP0.out (fun _hS => ?_)
        refine wtk (i := 0) (oi := zopgx15) (v := ?v0x4001) rfl ⟨by rfl, ?hy0x4001⟩ (by assumption) ?_
        case hy0x4001 => (intro w s; (try dsimp only at s); first | (go_simp; with_reducible rfl) | go_simp)
        try simp only [Act.put, zps]
        refine wtk (i := 1) (oi := zopgx16) (v := ?v1x4002) rfl ⟨by rfl, ?hy1x4002⟩ (by assumption) ?_
        case hy1x4002 => (intro w s; (try dsimp only at s); first | (go_simp; with_reducible rfl) | go_simp)
        try simp only [Act.put, zps]
        refine wtk (i := 3) (oi := zopgx17) (v := ?v3x4003) rfl ⟨by rfl, ?hy3x4003⟩ (by assumption) ?_
        case hy3x4003 => (intro w s; (try dsimp only at s); first | (go_simp; with_reducible rfl) | go_simp)
        try simp only [Act.put, zps]
        refine wtk (i := 4) (oi := zopgx18) (v := ?v4x4004) rfl ⟨by rfl, ?hy4x4004⟩ (by assumption) ?_
        case hy4x4004 => (intro w s; (try dsimp only at s); first | (go_simp; with_reducible rfl) | go_simp)
        try simp only [Act.put, zps]
        refine wpAnyH_ready (rs := [2]) (by kernel_rfl) (by simp) ?_
        refine AllReadyH.cons (o := zopgx19) rfl (fun K hK => ?_) (AllReadyH.nil)
        go_simp
        go_at_call 68
        refine HK4.out.mono ?_
        rintro e w6 ⟨vK, rfl, hmK⟩
        obtain ⟨aK, nK, cK, rfl, hnK⟩ := hmK.1.shape2
        have HMK := hide hmK
        have HNK := hide hnK
        have HBK := hide ((Below.refl w5.heap.size w5).drew.trans hmK.2.2)
        have HSP6 := hide (HSP.out w6 HBK.out)
        clear hmK hnK
        go_simp
        refine hK.out _ _ ?_ (fun _hS => ?_)
        · exact HSP6.out
        clear hK K
        try simp only [Act.put, zps]
        refine wpAnyH_ready (rs := [5]) (by kernel_rfl) (by simp) ?_
        refine AllReadyH.cons (o := zopgx20) rfl (fun K hK => ?_) (AllReadyH.nil)
        go_simp
        go_at_call 68
        refine (HV4.out w6 HBK.out).mono ?_
        rintro e w7 ⟨vV, rfl, hmV⟩
        obtain ⟨aV, nV, cV, rfl, hnV⟩ := hmV.1.shape2
        have HMV := hide hmV
        have HNV := hide hnV
        have HBV := hide (HBK.out.trans (hmV.2.2.mono HBK.out.size))
        have HSP7 := hide (HSP.out w7 HBV.out)
        have hz7 := (HBV.out.block _ (lt_of_block HZ5.out)).trans HZ5.out
        obtain ⟨g0, g1, gf⟩ := cells_two hz7
        have gf1 : w7.frozen? ⟨w.heap.size + 1, 1, none⟩ = false := by simp [World.frozen?, hz7]
        have HZ7 := hide hz7
        clear hmV hnV hz7
        go_simp
        refine hK.out _ _ ?_ (fun _hS => ?_)
        · exact HSP7.out
        clear hK K
        try simp only [Act.put, zps]
        refine wtk (i := 6) (oi := zopgx21) (v := ?v6x4005) rfl ⟨by rfl, ?hy6x4005⟩ (by assumption) ?_
        case hy6x4005 => (intro w s; (try dsimp only at s); first | (go_simp; with_reducible rfl) | go_simp)
        try simp only [Act.put, zps]
        refine wpAnyH_ready (rs := [7]) (by kernel_rfl) (by simp) ?_
        refine AllReadyH.cons (o := zopgx22) rfl (fun K hK => ?_) (AllReadyH.nil)
        go_simp
        refine hK.out _ _ ?_ (fun _hS => ?_)
        · exact ⟨(cell_set_ne (by have := HPBN.out; omega)).trans ((cell_set_ne (by have := HPBN.out; omega)).trans HSP7.out.1), (cell_set_ne (by have := HPBN.out; omega)).trans ((cell_set_ne (by have := HPBN.out; omega)).trans HSP7.out.2)⟩
        clear hK K
        try simp only [Act.put, zps]
        refine wtk (i := 8) (oi := zopgx23) (v := ?v8x4006) rfl ⟨by rfl, ?hy8x4006⟩ (by assumption) ?_
        case hy8x4006 => (intro w s; (try dsimp only at s); first | (go_simp; with_reducible rfl) | go_simp)
        try simp only [Act.put, zps]
        refine wtk (i := 9) (oi := zopgx24) (v := ?v9x4007) rfl ⟨by rfl, ?hy9x4007⟩ (by assumption) ?_
        case hy9x4007 => (intro w s; (try dsimp only at s); first | (go_simp; with_reducible rfl) | go_simp)
        try simp only [Act.put, zps]
        refine wpAnyH_done (by kernel_rfl) ?_ _
        refine NoPanic.normal ?_
        go_wp2
        have hf5 := two_set2 (u := .slice aK nK cK) (v := .slice aV nV cV) HZ7.out
        obtain ⟨q0, q1, -⟩ := cells_two hf5
        have hnk : nK = y.e.key.length := HNK.out
        have hnv : nV = y.e.val.length := HNV.out
        subst hnk hnv
        refine bodyPost_ret (v := .tuple #[.agg #[.slice aK y.e.key.length cK, .slice aV y.e.val.length cV], .bool true, .int .u16 0]) ?_ rfl ?_
        · simp [results, Try.results88, go_sem, q0, q1]
        · have hq5 := HQ5.out.size
          have hk5 := HBK.out.size
          have hs6 := HPBN.out
          have hpl := lt_of_block HP5.out
          have hE : Below w.heap.size w5 ((w7.setCell ⟨w.heap.size + 1, 0, none⟩ (.slice aK y.e.key.length cK)).setCell ⟨w.heap.size + 1, 1, none⟩ (.slice aV y.e.val.length cV)) := two_set_below (HBV.out.mono hq5) (by omega)
          refine ⟨⟨⟨y.e.key, y.e.val, false⟩, aK, cK, aV, cV⟩, rfl, HY1.out, HY2.out, ⟨?_, ?_, fun k hk => ?_, fun k hk => ?_, fun k hk e => ?_, HYK.out.key.byts, HYK.out.val.byts⟩, mv_below HQ5.out hE (Nat.le_refl _), HBL5.out.low hE hqlt hq5⟩
          · exact (HMK.out.1.below HMV.out.2.2).of_block fun k hk => two_other (by have := HMK.out.2.1 k hk; simp at this; omega)
          · exact HMV.out.1.of_block fun k hk => two_other (by have := HMV.out.2.1 k hk; omega)
          · have := HMK.out.2.1 k hk; simp at this; omega
          · have := HMV.out.2.1 k hk; omega
          · have h1 := HMK.out.1.lt hk
            have h2 := HMV.out.2.1 k e
            omega
  · go_simp
    refine hK.out _ _ ?_ (fun _hS => ?_)
    · exact (HSV.out _ (Below.heap_alloc w1.drew _ _ (lt_of_block Hv1.out)))
    clear hK K
    try simp only [Act.put, zps]
    have HB9 := hide ((Below.refl w1.heap.size w1).drew.alloc (Nat.le_refl _) (.cells #[.slice none 0 0, .slice none 0 0] 74))
    have HPBG : Hid (w1.heap.size ≤ w1.heap.size) := hide (Nat.le_refl _)
    refine wpAnyH_ready (rs := [3]) (by kernel_rfl) (by simp) ?_
    refine AllReadyH.cons (o := zopgx5) rfl (fun K hK => ?_) (AllReadyH.nil)
    go_simp
    go_at_call 68
    refine (HK.out _ HB9.out).mono ?_
    rintro e w2 ⟨vK, rfl, hmK⟩
    obtain ⟨aK, nK, cK, rfl, hnK⟩ := hmK.1.shape2
    have HB2 := hide (Below.trans HB9.out (hmK.2.2.mono (Below.size HB9.out)))
    have HSK := hide (HSV.out w2 (HB2.out.block _ (lt_of_block Hv1.out)))
    have HBLK := hide (HBL.out.low HB2.out (by have := HS1.out; omega) (Nat.le_refl _))
    have HIK := hide (hmK.inn H8.out).1
    have hb2w := hmK.2.2
    have HB2W := hide hb2w
    clear hmK hnK hb2w
    go_simp
    refine hK.out _ _ ?_ (fun _hS => ?_)
    · exact HSK.out
    clear hK K
    try simp only [Act.put, zps]
    have HBQ := HB2
    have HPBL : Hid (w1.heap.size < w2.heap.size) := hide (by have := HB2W.out.size; simp at this; omega)
    refine wpAnyH_ready (rs := [5]) (by kernel_rfl) (by simp) ?_
    refine AllReadyH.cons (o := zopgx7) rfl (fun K hK => ?_) (AllReadyH.nil)
    go_simp
    go_at_call 17
    refine (uNext_some HBLK.out hwr aK nK cK frm inn HIK.out hn HUS.out o HO.out).mono ?_
    rintro e w3 ⟨y, rfl, hy1, hy2, hyo, hm3, hbl3⟩
    have HY1 := hide hy1
    have HY2 := hide hy2
    have HYo := hide hyo
    have HM3 := hide hm3
    have HBL3 := hide hbl3
    have hv3 := (hm3.block _ (Nat.lt_of_lt_of_le (lt_of_block Hv1.out) (Below.size HB2.out)) (by omega)).trans (Below.block HB2.out _ (lt_of_block Hv1.out))
    have HV3 := hide hv3
    have HSQ := hide (HSV.out w3 hv3)
    clear hy1 hy2 hyo hm3 hbl3 hv3
    go_simp
    refine hK.out _ _ ?_ (fun _hS => ?_)
    · exact HSQ.out
    clear hK K
    try simp only [Act.put, zps]
    have HPZ : Hid (w3.heap[w1.heap.size]? = some (.cells #[.slice none 0 0, .slice none 0 0] 74 (0, 0))) := hide ((HM3.out.block _ HPBL.out (by have := HS1.out; omega)).trans ((HB2W.out.block _ (by simp)).trans (heap_alloc_new w1.drew _)))
    refine wtk (i := 6) (oi := zopgx8) (v := ?v6x117) rfl ⟨by rfl, ?hy6x117⟩ (by assumption) ?_
    case hy6x117 => (intro w s; (try dsimp only at s); first | (go_simp; with_reducible rfl) | go_simp)
    try simp only [Act.put, zps]
    refine wtk (i := 7) (oi := zopgx9) (v := ?v7x118) rfl ⟨by rfl, ?hy7x118⟩ (by assumption) ?_
    case hy7x118 => (intro w s; (try dsimp only at s); first | (go_simp; with_reducible rfl) | go_simp)
    try simp only [Act.put, zps]
    refine wtk (i := 8) (oi := zopgx10) (v := ?v8x119) rfl ⟨by rfl, ?hy8x119⟩ (by assumption) ?_
    case hy8x119 => (intro w s; (try dsimp only at s); first | (go_simp; with_reducible rfl) | go_simp)
    try simp only [Act.put, zps]
    refine wtk (i := 9) (oi := zopgx11) (v := ?v9x120) rfl ⟨by rfl, ?hy9x120⟩ (by assumption) ?_
    case hy9x120 => (intro w s; (try dsimp only at s); first | (go_simp; with_reducible rfl) | go_simp)
    try simp only [Act.put, zps]
    have hz9 : w3.heap[w1.heap.size]? = some (.cells #[.slice none 0 0, .slice none 0 0] 74 (0, 0)) := HPZ.out
    obtain ⟨pz0, pz1, pzf⟩ := cells_two hz9
    have pzf1 : w3.frozen? ⟨w1.heap.size, 1, none⟩ = false := by simp [World.frozen?, hz9]
    clear hz9
    refine wpAnyH_ready (rs := [11]) (by kernel_rfl) (by simp) ?_
    refine AllReadyH.cons (o := zopgx12) rfl (fun K hK => ?_) (AllReadyH.nil)
    go_simp
    refine hK.out _ _ ?_ (fun _hS => ?_)
    · exact ((cell_set_ne (by have := HPBG.out; have := HS1.out; omega)).trans ((cell_set_ne (by have := HPBG.out; have := HS1.out; omega)).trans HSQ.out))
    clear hK K
    try simp only [Act.put, zps]
    refine wtk (i := 12) (oi := zopgx13) (v := ?v12x121) rfl ⟨by rfl, ?hy12x121⟩ (by assumption) ?_
    case hy12x121 => (intro w s; (try dsimp only at s); first | (go_simp; with_reducible rfl) | go_simp)
    try simp only [Act.put, zps]
    refine wtk (i := 13) (oi := zopgx14) (v := ?v13x122) rfl ⟨by rfl, ?hy13x122⟩ (by assumption) ?_
    case hy13x122 => (intro w s; (try dsimp only at s); first | (go_simp; with_reducible rfl) | go_simp)
    try simp only [Act.put, zps]
    refine wpAnyH_done (by kernel_rfl) ?_ _
    refine NoPanic.normal ?_
    refine exit_name (Q := Exit.then _ _) fun WX hWX => ?_
    clear pz0 pz1 pzf pzf1
    have HPB : Hid (WX.heap[w1.heap.size]? = some (.cells #[.slice y.ka y.e.key.length y.kc, .slice y.va y.e.val.length y.vc] 74 (0, 0))) := hide (by rw [hWX]; exact two_set2 HPZ.out)
    have hE : Below w1.heap.size w3 ((w3.setCell ⟨w1.heap.size, 0, none⟩ (.slice y.ka y.e.key.length y.kc)).setCell ⟨w1.heap.size, 1, none⟩ (.slice y.va y.e.val.length y.vc)) := two_set_below ((Below.refl w3.heap.size w3).mono (Nat.le_trans HBQ.out.size HM3.out.size)) HPBG.out
    have HMX : Hid (Mv (fun k => k = q) w1 WX) := hide (by rw [hWX]; exact mv_below (Mv.trans' (Mv.of_below HBQ.out) HM3.out) hE (Nat.le_refl _))
    have HBLX : Hid (Bl WX q a n c us wr) := hide (by rw [hWX]; exact HBL3.out.low hE (by have := HS1.out; omega) (Nat.le_trans HBQ.out.size HM3.out.size))
    have HYX : Hid (y.Ok WX) := hide (by rw [hWX]; exact (HYo.out.move fun k hk1 hk2 => two_other (by have := HPBL.out; omega)).ok)
    have HPG : Hid (w.heap.size + 2 ≤ w1.heap.size) := hide (by have := HPBG.out; have := HS1.out; omega)
    obtain ⟨pb, hpb⟩ : ∃ pb, pb = w1.heap.size := ⟨_, rfl⟩
    rw [← hpb] at HPB HPG ⊢
    clear hWX hpb hE
    obtain ⟨t0, t1, tf⟩ := cells_two HPB.out
    have hvx := (HMX.out.block _ (lt_of_block Hv1.out) (by omega)).trans Hv1.out
    have hzx := (HMX.out.block _ (lt_of_block Hz1.out) (by omega)).trans Hz1.out
    obtain ⟨v0, v1, v2, v3⟩ := cells_four4 hvx
    obtain ⟨z0, z1, zf⟩ := cells_two hzx
    have zf1 : WX.frozen? ⟨w.heap.size + 1, 1, none⟩ = false := by simp [World.frozen?, hzx]
    have HZX := hide hzx
    clear hvx hzx
    have HQW : Hid (Mv (fun k => k = q) w WX) := hide ((Mv.of_below HB1.out).trans' HMX.out)
    have HFX : Hid (Inn WX fa fn fc frm) := hide (inn_mv HBLw.out HFW.out HQW.out)
    rcases opt_cases o with rfl | ⟨eo, rfl⟩
    · have HZo := hide HZX.out
      go_wp2
      have hfin := two_set2 (u := .slice none 0 0) (v := .slice none 0 0) HZX.out
      obtain ⟨q0, q1, -⟩ := cells_two hfin
      refine bodyPost_ret (v := .tuple #[.agg #[.slice none 0 0, .slice none 0 0], .bool false, .int .u16 0]) ?_ rfl ?_
      · simp [results, Try.results88, go_sem, q0, q1]
      · have hE : Below w.heap.size WX ((WX.setCell ⟨w.heap.size + 1, 0, none⟩ (.slice none 0 0)).setCell ⟨w.heap.size + 1, 1, none⟩ (.slice none 0 0)) := two_set_below ((Below.refl WX.heap.size WX).mono HQW.out.size) (by omega)
        exact ⟨⟨zeE, none, 0, none, 0⟩, rfl, rfl, rfl, zero_own _ _, mv_below HQW.out hE (Nat.le_refl _), HBLX.out.low hE hqlt HQW.out.size⟩
    · have hbt : bhU y.e.key frm inn = true := by
        rw [HY1.out]
        have := HO.out.symm
        have h5 := List.find?_some this
        exact h5
      have HBT := hide hbt
      have hyl : y.e.key.length ≤ 140737488351232 ∧ y.e.val.length ≤ 140737488351232 := by
        rw [HY1.out, HY2.out]
        have := List.mem_of_find?_eq_some (HO.out.symm)
        have hm2 : eo ∈ ers us := by first | exact this | exact List.mem_reverse.1 this
        obtain ⟨x, hx, rfl⟩ := List.mem_map.1 hm2
        exact HUS.out x hx
      have HBe := hide (behindU (.func (.func 76) #[] #[]) y.ka fa y.e.key.length y.kc fn fc y.e.key frm inn WX HYX.out.key (HFX.out))
      rw [hbt] at HBe
      clear hbt
      go_wp2_with (go_at_call 96; refine HBe.out.mono ?_; rintro e w5 ⟨rfl, hb5⟩; have HB5 := hide hb5; clear hb5)
      clear v0 v1 v2 v3 z0 z1 zf zf1 t0 t1 tf
      have hyk := HYX.out.below HB5.out
      have hp5 := (HB5.out.block _ (lt_of_block HPB.out)).trans HPB.out
      have HP5 := hide hp5
      have HYK := hide hyk
      have HK4 := hide (clone_any y.ka y.e.key.length y.kc y.e.key w5.drew (hyk.key.below (Below.refl _ _).drew) hyl.1)
      have HV4 := hide (fun W (hW : Below w5.heap.size w5 W) => clone_any y.va y.e.val.length y.vc y.e.val W (hyk.val.below hW) hyl.2)
      have HSP : Hid (∀ W : World, Below w5.heap.size w5 W → W.cell? ⟨pb, 0, none⟩ = some (.slice y.ka y.e.key.length y.kc) ∧ W.cell? ⟨pb, 1, none⟩ = some (.slice y.va y.e.val.length y.vc)) := hide (fun W hW => by
        obtain ⟨e0, e1, _⟩ := cells_two ((hW.block _ (lt_of_block HP5.out)).trans HP5.out)
        exact ⟨e0, e1⟩)
      have HSP0 := hide (HSP.out w5 (Below.refl _ _))
      have HQ5 : Hid (Mv (fun k => k = q) w w5) := hide (HQW.out.trans' (Mv.of_below HB5.out))
      have HBL5 := hide (HBLX.out.low HB5.out (Nat.lt_of_lt_of_le hqlt HQW.out.size) (Nat.le_refl _))
      have hz5 := (HB5.out.block _ (lt_of_block HZX.out)).trans HZX.out
      have HZ5 := hide hz5
      have HPBN : Hid (w.heap.size + 1 < pb) := hide (by have := HPG.out; omega)
      clear hyk hp5 hz5
      refine wp_region_noPanic ?_
      refine wp_region_held_drew (S := (fun W => W.cell? ⟨pb, 0, none⟩ = some (.slice y.ka y.e.key.length y.kc) ∧ W.cell? ⟨pb, 1, none⟩ = some (.slice y.va y.e.val.length y.vc))) (by kernel_rfl) HSP0.out (fun _hS => ?_)
      refine wtk (i := 0) (oi := zopgx15) (v := ?v0x6001) rfl ⟨by rfl, ?hy0x6001⟩ (by assumption) ?_
      case hy0x6001 => (intro w s; (try dsimp only at s); first | (go_simp; with_reducible rfl) | go_simp)
      try simp only [Act.put, zps]
      refine wtk (i := 1) (oi := zopgx16) (v := ?v1x6002) rfl ⟨by rfl, ?hy1x6002⟩ (by assumption) ?_
      case hy1x6002 => (intro w s; (try dsimp only at s); first | (go_simp; with_reducible rfl) | go_simp)
      try simp only [Act.put, zps]
      refine wtk (i := 3) (oi := zopgx17) (v := ?v3x6003) rfl ⟨by rfl, ?hy3x6003⟩ (by assumption) ?_
      case hy3x6003 => (intro w s; (try dsimp only at s); first | (go_simp; with_reducible rfl) | go_simp)
      try simp only [Act.put, zps]
      refine wtk (i := 4) (oi := zopgx18) (v := ?v4x6004) rfl ⟨by rfl, ?hy4x6004⟩ (by assumption) ?_
      case hy4x6004 => (intro w s; (try dsimp only at s); first | (go_simp; with_reducible rfl) | go_simp)
      try simp only [Act.put, zps]
      refine wpAnyH_ready (rs := [2]) (by kernel_rfl) (by simp) ?_
      refine AllReadyH.cons (o := zopgx19) rfl (fun K hK => ?_) (AllReadyH.nil)
      go_simp
      go_at_call 68
      refine HK4.out.mono ?_
      rintro e w6 ⟨vK, rfl, hmK⟩
      obtain ⟨aK, nK, cK, rfl, hnK⟩ := hmK.1.shape2
      have HMK := hide hmK
      have HNK := hide hnK
      have HBK := hide ((Below.refl w5.heap.size w5).drew.trans hmK.2.2)
      have HSP6 := hide (HSP.out w6 HBK.out)
      clear hmK hnK
      go_simp
      refine hK.out _ _ ?_ (fun _hS => ?_)
      · exact HSP6.out
      clear hK K
      try simp only [Act.put, zps]
      refine wpAnyH_ready (rs := [5]) (by kernel_rfl) (by simp) ?_
      refine AllReadyH.cons (o := zopgx20) rfl (fun K hK => ?_) (AllReadyH.nil)
      go_simp
      go_at_call 68
      refine (HV4.out w6 HBK.out).mono ?_
      rintro e w7 ⟨vV, rfl, hmV⟩
      obtain ⟨aV, nV, cV, rfl, hnV⟩ := hmV.1.shape2
      have HMV := hide hmV
      have HNV := hide hnV
      have HBV := hide (HBK.out.trans (hmV.2.2.mono HBK.out.size))
      have HSP7 := hide (HSP.out w7 HBV.out)
      have hz7 := (HBV.out.block _ (lt_of_block HZ5.out)).trans HZ5.out
      obtain ⟨g0, g1, gf⟩ := cells_two hz7
      have gf1 : w7.frozen? ⟨w.heap.size + 1, 1, none⟩ = false := by simp [World.frozen?, hz7]
      have HZ7 := hide hz7
      clear hmV hnV hz7
      go_simp
      refine hK.out _ _ ?_ (fun _hS => ?_)
      · exact HSP7.out
      clear hK K
      try simp only [Act.put, zps]
      refine wtk (i := 6) (oi := zopgx21) (v := ?v6x6005) rfl ⟨by rfl, ?hy6x6005⟩ (by assumption) ?_
      case hy6x6005 => (intro w s; (try dsimp only at s); first | (go_simp; with_reducible rfl) | go_simp)
      try simp only [Act.put, zps]
      refine wpAnyH_ready (rs := [7]) (by kernel_rfl) (by simp) ?_
      refine AllReadyH.cons (o := zopgx22) rfl (fun K hK => ?_) (AllReadyH.nil)
      go_simp
      refine hK.out _ _ ?_ (fun _hS => ?_)
      · exact ⟨(cell_set_ne (by have := HPBN.out; omega)).trans ((cell_set_ne (by have := HPBN.out; omega)).trans HSP7.out.1), (cell_set_ne (by have := HPBN.out; omega)).trans ((cell_set_ne (by have := HPBN.out; omega)).trans HSP7.out.2)⟩
      clear hK K
      try simp only [Act.put, zps]
      refine wtk (i := 8) (oi := zopgx23) (v := ?v8x6006) rfl ⟨by rfl, ?hy8x6006⟩ (by assumption) ?_
      case hy8x6006 => (intro w s; (try dsimp only at s); first | (go_simp; with_reducible rfl) | go_simp)
      try simp only [Act.put, zps]
      refine wtk (i := 9) (oi := zopgx24) (v := ?v9x6007) rfl ⟨by rfl, ?hy9x6007⟩ (by assumption) ?_
      case hy9x6007 => (intro w s; (try dsimp only at s); first | (go_simp; with_reducible rfl) | go_simp)
      try simp only [Act.put, zps]
      refine wpAnyH_done (by kernel_rfl) ?_ _
      refine NoPanic.normal ?_
      go_wp2
      have hf5 := two_set2 (u := .slice aK nK cK) (v := .slice aV nV cV) HZ7.out
      obtain ⟨q0, q1, -⟩ := cells_two hf5
      have hnk : nK = y.e.key.length := HNK.out
      have hnv : nV = y.e.val.length := HNV.out
      subst hnk hnv
      refine bodyPost_ret (v := .tuple #[.agg #[.slice aK y.e.key.length cK, .slice aV y.e.val.length cV], .bool true, .int .u16 0]) ?_ rfl ?_
      · simp [results, Try.results88, go_sem, q0, q1]
      · have hq5 := HQ5.out.size
        have hk5 := HBK.out.size
        have hs6 := HPBN.out
        have hpl := lt_of_block HP5.out
        have hE : Below w.heap.size w5 ((w7.setCell ⟨w.heap.size + 1, 0, none⟩ (.slice aK y.e.key.length cK)).setCell ⟨w.heap.size + 1, 1, none⟩ (.slice aV y.e.val.length cV)) := two_set_below (HBV.out.mono hq5) (by omega)
        refine ⟨⟨⟨y.e.key, y.e.val, false⟩, aK, cK, aV, cV⟩, rfl, HY1.out, HY2.out, ⟨?_, ?_, fun k hk => ?_, fun k hk => ?_, fun k hk e => ?_, HYK.out.key.byts, HYK.out.val.byts⟩, mv_below HQ5.out hE (Nat.le_refl _), HBL5.out.low hE hqlt hq5⟩
        · exact (HMK.out.1.below HMV.out.2.2).of_block fun k hk => two_other (by have := HMK.out.2.1 k hk; simp at this; omega)
        · exact HMV.out.1.of_block fun k hk => two_other (by have := HMV.out.2.1 k hk; omega)
        · have := HMK.out.2.1 k hk; simp at this; omega
        · have := HMV.out.2.1 k hk; omega
        · have h1 := HMK.out.1.lt hk
          have h2 := HMV.out.2.1 k e
          omega
end Go.Proofs.Ytgohhlngnnmknaa
