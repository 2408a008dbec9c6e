/- What a buffer puts first on a way. -/
import Derived.Test.YtgohhlngnnmknaaE
import Derived.Test.YtgohhlngnnmknaaPB
namespace Go.Proofs.Ytgohhlngnnmknaa
open Go.RowKit Go.Maps
set_option linter.unusedVariables false
abbrev zopcx1 : Oper := { dst := some 41, op := Op.move (Operand.tmp 4), type := 4, pos := "view.go:89", after := #[], guard := none }
abbrev zopcx2 : Oper := { dst := some 42, op := Op.move (Operand.tmp 41), type := 4, pos := "view.go:89", after := #[{ on := 0, ground := Ground.data }], guard := none }
abbrev zopcx3 : Oper := { dst := some 43, op := Op.fieldAddr 126 (Operand.tmp 5) 2, type := 0, pos := "view.go:89", after := #[{ on := 1, ground := Ground.guard }], guard := some (1, true) }
abbrev zopcx4 : Oper := { dst := some 44, op := Op.load 124 (Operand.tmp 43), type := 124, pos := "view.go:89", after := #[{ on := 2, ground := Ground.data }, { on := 1, ground := Ground.guard }], guard := some (1, true) }
abbrev zopcx5 : Oper := { dst := some 45, op := Op.move (Operand.tmp 12), type := 30, pos := "view.go:89", after := #[{ on := 1, ground := Ground.guard }], guard := some (1, true) }
abbrev zopcx6 : Oper := { dst := some 46, op := Op.move (Operand.tmp 13), type := 3, pos := "view.go:89", after := #[{ on := 1, ground := Ground.guard }], guard := some (1, true) }
abbrev zopcx7 : Oper := { dst := some 47, op := Op.indexAddr 30 (Operand.tmp 45) (Operand.tmp 46), type := 0, pos := "view.go:89", after := #[{ on := 4, ground := Ground.data }, { on := 5, ground := Ground.data }, { on := 1, ground := Ground.guard }], guard := some (1, true) }
abbrev zopcx8 : Oper := { dst := some 48, op := Op.fieldAddr 85 (Operand.tmp 47) 0, type := 0, pos := "view.go:89", after := #[{ on := 6, ground := Ground.data }, { on := 1, ground := Ground.guard }], guard := some (1, true) }
abbrev zopcx9 : Oper := { dst := some 49, op := Op.load 60 (Operand.tmp 48), type := 60, pos := "view.go:89", after := #[{ on := 7, ground := Ground.data }, { on := 1, ground := Ground.guard }], guard := some (1, true) }
abbrev zopcx10 : Oper := { dst := some 50, op := Op.move (Operand.tmp 3), type := 60, pos := "view.go:89", after := #[{ on := 1, ground := Ground.guard }], guard := some (1, true) }
abbrev zopcx11 : Oper := { dst := some 51, op := Op.call { callee := Callee.value (Operand.func 96), args := #[Operand.tmp 44, Operand.tmp 49, Operand.tmp 50, Operand.const (Value.bool false)], argTypes := #[124, 60, 60, 4] }, type := 4, pos := "view.go:89", after := #[{ on := 3, ground := Ground.data }, { on := 8, ground := Ground.data }, { on := 9, ground := Ground.data }, { on := 1, ground := Ground.chain }, { on := 1, ground := Ground.guard }], guard := some (1, true) }
abbrev zopcx12 : Oper := { dst := some 52, op := Op.pick (Operand.tmp 42) (Operand.tmp 51) (Operand.const (Value.bool false)), type := 4, pos := "view.go:89", after := #[{ on := 1, ground := Ground.data }, { on := 10, ground := Ground.data }], guard := none }

theorem cells_four4 {w : World} {p t : Nat} {a b c d : Value} (h : w.heap[p]? = some (.cells #[a, b, c, d] t (0, 0))) : w.cell? ⟨p, 0, none⟩ = some a ∧ w.cell? ⟨p, 1, none⟩ = some b ∧ w.cell? ⟨p, 2, none⟩ = some c ∧ w.cell? ⟨p, 3, none⟩ = some d := by
  refine ⟨by simp [World.cell?, h], by simp [World.cell?, h], by simp [World.cell?, h], by simp [World.cell?, h]⟩
theorem two_set2 {W : World} {p t : Nat} {a b u v : Value} (h : W.heap[p]? = some (.cells #[a, b] t (0, 0))) : ((W.setCell ⟨p, 0, none⟩ u).setCell ⟨p, 1, none⟩ v).heap[p]? = some (.cells #[u, v] t (0, 0)) := two_set1 (two_set0 h)
theorem two_set_below {W w : World} {q B : Nat} {a b : Value} (hb : Below B w W) (h : B ≤ q) : Below B w ((W.setCell ⟨q, 0, none⟩ a).setCell ⟨q, 1, none⟩ b) := (hb.setCell (p := ⟨q, 0, none⟩) h _).setCell (p := ⟨q, 1, none⟩) h _
/-- a pair comes out, in memory of its own. -/
def PairOut (w : World) (o : Option Ee) (r : Ending) (w' : World) : Prop := ∃ y : En, r = .returned (.tuple #[.agg #[.slice y.ka y.e.key.length y.kc, .slice y.va y.e.val.length y.vc], .bool o.isSome]) ∧ y.e.key = (o.getD zeE).key ∧ y.e.val = (o.getD zeE).val ∧ y.Own w.heap.size w' ∧ Below w.heap.size w w'
theorem pair_zero {w w' : World} (hb : Below w.heap.size w w') : PairOut w none (.returned (.tuple #[.agg #[.slice none 0 0, .slice none 0 0], .bool false])) w' := ⟨⟨zeE, none, 0, none, 0⟩, rfl, rfl, rfl, zero_own _ _, hb⟩
set_option maxHeartbeats 6400000 in
set_option maxRecDepth 1000000 in
theorem putU_any {w : World} {p B : Nat} {sv uv : Value} {xs : List En} {us : List Value} (h : Bf w p B sv uv xs us) (hr : Ris (ers xs)) (bl : Value) (fa la : Option Addr) (fn fc ln lc : Nat) (frm lst : List Int) (inn is : Bool) (hf : Inn w fa fn fc frm) (hl : Inn w la ln lc lst) (hn : xs.length ≤ 900000) (hw : ∀ x ∈ xs, x.e.key.length ≤ 140737488351232 ∧ x.e.val.length ≤ 140737488351232)
    (o : Option Ee) (ho : o = putU (ers xs) frm inn (if is then some lst else none)) :
    Calls Try.prog 89 #[.agg #[.pointer (some ⟨p, 0, none⟩), bl, .func (.func 76) #[] #[], .int .i64 1], .slice fa fn fc, .bool inn, .slice la ln lc, .bool is] w (PairOut w o) := by
  obtain ⟨w1, hw1⟩ : ∃ w1, w1 = (w.alloc (.cells #[.pointer (some ⟨p, 0, none⟩), bl, .func (.func 76) #[] #[], .int .i64 1] 126)).alloc (.cells #[.slice none 0 0, .slice none 0 0] 74) := ⟨_, rfl⟩
  have hB1 : Below w.heap.size w w1 := by rw [hw1]; exact two_alloc _ _
  have hv1 : w1.heap[w.heap.size]? = some (.cells #[.pointer (some ⟨p, 0, none⟩), bl, .func (.func 76) #[] #[], .int .i64 1] 126 (0, 0)) := by rw [hw1]; exact (Below.heap_alloc _ _ _ (by simp)).trans (heap_alloc_new w _)
  have hz1 : w1.heap[w.heap.size + 1]? = some (.cells #[.slice none 0 0, .slice none 0 0] 74 (0, 0)) := by
    rw [hw1]
    have := heap_alloc_new (w.alloc (.cells #[.pointer (some ⟨p, 0, none⟩), bl, .func (.func 76) #[] #[], .int .i64 1] 126)) (.cells #[.slice none 0 0, .slice none 0 0] 74)
    rwa [World.size_alloc] at this
  have hs1 : w1.heap.size = w.heap.size + 2 := by rw [hw1]; simp
  have hf1 := h.below hB1
  obtain ⟨a, c, rfl, hE⟩ := hf1.ens
  obtain ⟨s0, s1, f0⟩ := cells_two hf1.blk
  obtain ⟨v0, v1, v2, v3⟩ := cells_four4 hv1
  have HA := hide (fun W (hW : Below w1.heap.size w1 W) => above_any (hf1.below hW) fa fn fc frm inn ((hf.below hB1).below hW) hn)
  have HR := hide hr
  have HO := hide ho
  have HFl := hide hf.len
  have HB1 := hide hB1
  have Hv1 := hide hv1
  have Hz1 := hide hz1
  have HS1 := hide hs1
  have HF1 := hide hf1
  have HE := hide hE
  have HL := hide (hl.below hB1)
  have HW := hide hw
  clear h hr ho hB1 hv1 hz1 hs1 hf1 hE hf hl hw
  subst hw1
  have hcap := HE.out.cap
  have hmax := HE.out.max
  go_enter Try.func89, Try.ntmps89
  go_wp2_with (go_at_call 76; refine (HA.out _ (Below.refl _ _)).mono ?_; rintro e w2 ⟨i, m, rfl, hat, hm, hb2⟩; have HM := hide (startU HR.out hat hm); have HB2 := hide hb2; clear hat hm hb2)
  obtain ⟨W1, hW1⟩ : ∃ W1, Hid (W1 = (w.alloc (.cells #[.pointer (some ⟨p, 0, none⟩), bl, .func (.func 76) #[] #[], .int .i64 1] 126)).alloc (.cells #[.slice none 0 0, .slice none 0 0] 74)) := ⟨_, hide rfl⟩
  rw [← hW1.out] at HA HB1 Hv1 Hz1 HS1 HF1 HE HL HB2
  clear s0 s1 f0 v0 v1 v2 v3
  go_loopw [13] (fun vi wr => ∃ (k : Nat), k ≤ xs.length ∧ vi = .int .i64 (k : Int) ∧ o = scan bhU (if is then some lst else none) ((ers xs).drop k) ∧ Below W1.heap.size W1 wr) (fun vi _ => xs.length - (intOf vi).toNat)
  case atStart => exact ⟨m, HM.out.1, rfl, by rw [HO.out, putU, HM.out.2], HB2.out⟩
  case round =>
    obtain ⟨k, hk, rfl, hoo, hb⟩ := hrel
    have HOO := hide hoo
    have HBr := hide hb
    have hbv := (hb.block _ (lt_of_block Hv1.out)).trans Hv1.out
    have hbz := (hb.block _ (lt_of_block Hz1.out)).trans Hz1.out
    obtain ⟨v0, v1, v2, v3⟩ := cells_four4 hbv
    obtain ⟨z0, z1, zf⟩ := cells_two hbz
    have HbV := hide hbv
    have HbZ := hide hbz
    clear hoo hbv hbz
    by_cases hlt : k < xs.length
    · obtain ⟨x, hx, hok⟩ := (HE.out.below hb).at hlt
      obtain ⟨b, off, rfl, hbs, c0, c1, c2⟩ := (HE.out.below hb).cells hx
      have d1 : (k : Int) < (xs.length : Int) := by omega
      have d0 : (0 : Int) ≤ (k : Int) := by omega
      have hrem : (ers xs).drop k = x.e :: (ers xs).drop (k + 1) := drop_at (ers_at hx)
      rw [hrem] at HOO
      have HX := hide hx
      have HC := hide (fun W (hW : Below wr.heap.size wr W) => centry_any x W (hok.below hW) (HW.out x (List.mem_of_getElem? hx)).1 (HW.out x (List.mem_of_getElem? hx)).2)
      have HBeh := hide (fun W (hW : Below wr.heap.size wr W) => behindU (.func (.func 76) #[] #[]) x.ka la x.e.key.length x.kc ln lc x.e.key lst false W (hok.key.below hW) ((HL.out.below hb).below hW))
      have HSk : Hid (∀ W, Below wr.heap.size wr W → W.cell? ⟨w.heap.size, 2, none⟩ = some (.func (.func 76) #[] #[]) ∧ W.cell? ⟨w.heap.size, 3, none⟩ = some (.int .i64 1) ∧ W.cell? ⟨b, off + k * 3, none⟩ = some (.slice x.ka x.e.key.length x.kc)) := hide (fun W hW => by
        have h4 := cells_four4 ((hW.block _ (lt_of_block HbV.out)).trans HbV.out)
        exact ⟨h4.2.2.1, h4.2.2.2, (hW.cell (p := ⟨b, off + k * 3, none⟩) hbs).trans c0⟩)
      have HS0 := hide (HSk.out wr (Below.refl _ _))
      have HQ : Hid (∀ W, Below wr.heap.size wr W → W.heap[w.heap.size]? = some (.cells #[.pointer (some ⟨p, 0, none⟩), bl, .func (.func 76) #[] #[], .int .i64 1] 126 (0, 0)) ∧ W.heap[w.heap.size + 1]? = some (.cells #[.slice none 0 0, .slice none 0 0] 74 (0, 0)) ∧ W.cell? ⟨b, off + k * 3, none⟩ = some (.slice x.ka x.e.key.length x.kc) ∧ W.cell? ⟨b, off + k * 3 + 1, none⟩ = some (.slice x.va x.e.val.length x.vc) ∧ W.cell? ⟨b, off + k * 3 + 2, none⟩ = some (.bool x.e.del)) := hide (fun W hW => ⟨(hW.block _ (lt_of_block HbV.out)).trans HbV.out, (hW.block _ (lt_of_block HbZ.out)).trans HbZ.out, (hW.cell (p := ⟨b, off + k * 3, none⟩) hbs).trans c0, (hW.cell (p := ⟨b, off + k * 3 + 1, none⟩) hbs).trans c1, (hW.cell (p := ⟨b, off + k * 3 + 2, none⟩) hbs).trans c2⟩)
      clear hb hx hok hrem
      have HBall : Hid (∀ W, Below wr.heap.size wr W → Below w.heap.size w W) := hide (fun W hW => HB1.out.trans ((HBr.out.trans (hW.mono HBr.out.size)).mono HB1.out.size))
      have HBsz : Hid (∀ W, Below wr.heap.size wr W → w.heap.size + 2 ≤ W.heap.size) := hide (fun W hW => by have := HS1.out; have := HBr.out.size; have := hW.size; omega)
      rcases Bool.eq_false_or_eq_true is with rfl | rfl
      · simp only [if_true] at HOO
        clear v0 v1 v2 v3 z0 z1 zf c0 c1 c2
        go_wp2
        refine wp_region_noPanic ?_
        refine wp_region_held_drew (S := (fun W => W.cell? ⟨w.heap.size, 2, none⟩ = some (.func (.func 76) #[] #[]) ∧ W.cell? ⟨w.heap.size, 3, none⟩ = some (.int .i64 1) ∧ W.cell? ⟨b, off + k * 3, none⟩ = some (.slice x.ka x.e.key.length x.kc))) (by kernel_rfl) HS0.out (fun _hS => ?_)
        refine wtk (i := 0) (oi := zopcx1) (v := ?v0x1001) rfl ⟨by rfl, ?hy0x1001⟩ (by assumption) ?_
        case hy0x1001 => (intro w s; (try dsimp only at s); first | (go_simp; with_reducible rfl) | go_simp)
        try simp only [Act.put, zps]
        refine wtk (i := 1) (oi := zopcx2) (v := ?v1x1002) rfl ⟨by rfl, ?hy1x1002⟩ (by assumption) ?_
        case hy1x1002 => (intro w s; (try dsimp only at s); first | (go_simp; with_reducible rfl) | go_simp)
        try simp only [Act.put, zps]
        refine wtk (i := 2) (oi := zopcx3) (v := ?v2x1003) rfl ⟨by rfl, ?hy2x1003⟩ (by assumption) ?_
        case hy2x1003 => (intro w s; (try dsimp only at s); first | (go_simp; with_reducible rfl) | go_simp)
        try simp only [Act.put, zps]
        refine wtk (i := 3) (oi := zopcx4) (v := ?v3x1004) rfl ⟨by rfl, ?hy3x1004⟩ (by assumption) ?_
        case hy3x1004 => (intro w s; (try dsimp only at s); first | (go_simp; with_reducible rfl) | go_simp)
        try simp only [Act.put, zps]
        refine wtk (i := 4) (oi := zopcx5) (v := ?v4x1005) rfl ⟨by rfl, ?hy4x1005⟩ (by assumption) ?_
        case hy4x1005 => (intro w s; (try dsimp only at s); first | (go_simp; with_reducible rfl) | go_simp)
        try simp only [Act.put, zps]
        refine wtk (i := 5) (oi := zopcx6) (v := ?v5x1006) rfl ⟨by rfl, ?hy5x1006⟩ (by assumption) ?_
        case hy5x1006 => (intro w s; (try dsimp only at s); first | (go_simp; with_reducible rfl) | go_simp)
        try simp only [Act.put, zps]
        refine wtk (i := 6) (oi := zopcx7) (v := ?v6x1007) rfl ⟨by rfl, ?hy6x1007⟩ (by assumption) ?_
        case hy6x1007 => (intro w s; (try dsimp only at s); first | (go_simp; with_reducible rfl) | go_simp)
        try simp only [Act.put, zps]
        refine wtk (i := 7) (oi := zopcx8) (v := ?v7x1008) rfl ⟨by rfl, ?hy7x1008⟩ (by assumption) ?_
        case hy7x1008 => (intro w s; (try dsimp only at s); first | (go_simp; with_reducible rfl) | go_simp)
        try simp only [Act.put, zps]
        refine wtk (i := 8) (oi := zopcx9) (v := ?v8x1009) rfl ⟨by rfl, ?hy8x1009⟩ (by assumption) ?_
        case hy8x1009 => (intro w s; (try dsimp only at s); first | (go_simp; with_reducible rfl) | go_simp)
        try simp only [Act.put, zps]
        refine wtk (i := 9) (oi := zopcx10) (v := ?v9x1010) rfl ⟨by rfl, ?hy9x1010⟩ (by assumption) ?_
        case hy9x1010 => (intro w s; (try dsimp only at s); first | (go_simp; with_reducible rfl) | go_simp)
        try simp only [Act.put, zps]
        refine wpAnyH_ready (rs := [10]) (by kernel_rfl) (by simp) ?_
        refine AllReadyH.cons (o := zopcx11) rfl (fun K hK => ?_) (AllReadyH.nil)
        go_simp
        go_at_call 96
        refine (HBeh.out _ (Below.refl _ _).drew).mono ?_
        rintro e w3 ⟨rfl, hb3⟩
        have HBW := hide ((Below.refl wr.heap.size wr).drew.trans hb3)
        have HS3 := hide (HSk.out w3 ((Below.refl wr.heap.size wr).drew.trans hb3))
        clear hb3
        go_simp
        refine hK.out _ _ ?_ (fun _hS => ?_)
        · exact HS3.out
        clear hK K
        try simp only [Act.put, zps]
        refine wtk (i := 11) (oi := zopcx12) (v := ?v11x1011) rfl ⟨by rfl, ?hy11x1011⟩ (by assumption) ?_
        case hy11x1011 => (intro w s; (try dsimp only at s); first | (go_simp; with_reducible rfl) | go_simp)
        try simp only [Act.put, zps]
        refine wpAnyH_done (by kernel_rfl) ?_ _
        refine NoPanic.normal ?_
        obtain ⟨jv, jz, j0, j1, j2⟩ := HQ.out w3 HBW.out
        obtain ⟨v0, v1, v2, v3⟩ := cells_four4 jv
        obtain ⟨z0, z1, zf⟩ := cells_two jz
        have zf1 : World.frozen? w3 ⟨w.heap.size + 1, 1, none⟩ = false := by simp [World.frozen?, jz]
        have HJZ := hide jz
        have HCx := hide (HC.out w3 HBW.out)
        clear jv jz
        rcases Bool.eq_false_or_eq_true (bhU x.e.key lst false) with hp | hp
        · have hoo : o = none := by rw [HOO.out, scan, if_pos (by rw [past, hp])]
          subst hoo
          rw [hp]
          clear hp
          go_wp2
          have hf := two_set2 (u := .slice none 0 0) (v := .slice none 0 0) HJZ.out
          obtain ⟨q0, q1, -⟩ := cells_two hf
          refine bodyPost_ret (v := .tuple #[.agg #[.slice none 0 0, .slice none 0 0], .bool false]) ?_ rfl ?_
          · simp [results, Try.results89, go_sem, q0, q1]
          · exact pair_zero (two_set_below (HBall.out _ HBW.out) (by omega))
        · have hp2 : ¬ past bhU (some lst) x.e.key = true := by rw [past, hp]; decide
          rw [hp]
          clear hp
          by_cases hd : x.e.del = true
          · have hoo : o = scan bhU (some lst) ((ers xs).drop (k + 1)) := by rw [HOO.out, scan, if_neg hp2, if_pos hd]
            rw [hd] at j2
            clear hd
            go_wp2
            refine ⟨⟨k + 1, by omega, by go_num, by simpa using hoo, HBr.out.trans (Below.mono HBW.out HBr.out.size)⟩, ?_⟩
            simp [intOf]; omega
          · have hoo : o = some x.e := by rw [HOO.out, scan, if_neg hp2, if_neg hd]
            subst hoo
            have hd2 : x.e.del = false := by simpa using hd
            rw [hd2] at j2 HCx
            clear hd hd2
            go_wp2_with (go_at_call 41; refine HCx.out.mono ?_; rintro e w4 ⟨y, rfl, hye, hyo, hb4⟩; simp only [En.v]; have hz := (hb4.block _ (lt_of_block HJZ.out)).trans HJZ.out; obtain ⟨y0, y1, yf⟩ := cells_two hz; have yf1 : w4.frozen? ⟨w.heap.size + 1, 1, none⟩ = false := (by simp [World.frozen?, hz]); have hz4 := (Below.heap_alloc w4 (.cells #[.slice y.ka y.e.key.length y.kc, .slice y.va y.e.val.length y.vc, .bool y.e.del] 85) _ (lt_of_block hz)).trans hz; obtain ⟨x0, x1, xf⟩ := cells_two hz4; have xf1 : (w4.alloc (.cells #[.slice y.ka y.e.key.length y.kc, .slice y.va y.e.val.length y.vc, .bool y.e.del] 85)).frozen? ⟨w.heap.size + 1, 1, none⟩ = false := (by simp only [World.frozen?, hz4]; simp); have HZ4 := hide hz4; have HYe := hide hye; have HYo := hide hyo; have HB4 := hide hb4; clear hz hz4 hye hyo hb4)
            have hf := two_set2 (u := .slice y.ka y.e.key.length y.kc) (v := .slice y.va y.e.val.length y.vc) HZ4.out
            obtain ⟨q0, q1, -⟩ := cells_two hf
            refine bodyPost_ret (v := .tuple #[.agg #[.slice y.ka y.e.key.length y.kc, .slice y.va y.e.val.length y.vc], .bool true]) ?_ rfl ?_
            · simp [results, Try.results89, go_sem, q0, q1]
            · have hbs2 := HBsz.out _ HBW.out
              have hbx := HBall.out _ HBW.out
              exact ⟨y, rfl, by rw [HYe.out]; rfl, by rw [HYe.out]; rfl, ((HYo.out.below (below_alloc w4 _)).move fun k hk1 hk2 => two_other (by omega)).mono (by omega), two_set_below ((hbx.trans (HB4.out.mono hbx.size)).alloc (Nat.le_trans hbx.size HB4.out.size) _) (by omega)⟩
      · simp only [Bool.false_eq_true, if_false] at HOO
        clear v0 v1 v2 v3 z0 z1 zf c0 c1 c2
        go_wp2
        refine wp_region_noPanic ?_
        refine wp_region_held_drew (S := (fun W => W.cell? ⟨w.heap.size, 2, none⟩ = some (.func (.func 76) #[] #[]) ∧ W.cell? ⟨w.heap.size, 3, none⟩ = some (.int .i64 1) ∧ W.cell? ⟨b, off + k * 3, none⟩ = some (.slice x.ka x.e.key.length x.kc))) (by kernel_rfl) HS0.out (fun _hS => ?_)
        refine wtk (i := 0) (oi := zopcx1) (v := ?v0x3001) rfl ⟨by rfl, ?hy0x3001⟩ (by assumption) ?_
        case hy0x3001 => (intro w s; (try dsimp only at s); first | (go_simp; with_reducible rfl) | go_simp)
        try simp only [Act.put, zps]
        refine wtk (i := 1) (oi := zopcx2) (v := ?v1x3002) rfl ⟨by rfl, ?hy1x3002⟩ (by assumption) ?_
        case hy1x3002 => (intro w s; (try dsimp only at s); first | (go_simp; with_reducible rfl) | go_simp)
        try simp only [Act.put, zps]
        refine wpAnyH_take (i := 2) (oi := zopcx3) (v := undef) rfl (by kernel_rfl) (by kernel_rfl) (by kernel_rfl) (fun _ _ _ h => h) (Or.inr ⟨by rfl, rfl⟩) (by assumption) ?rest2x3003
        try simp only [Act.put, zps]
        refine wpAnyH_take (i := 3) (oi := zopcx4) (v := undef) rfl (by kernel_rfl) (by kernel_rfl) (by kernel_rfl) (fun _ _ _ h => h) (Or.inr ⟨by rfl, rfl⟩) (by assumption) ?rest3x3004
        try simp only [Act.put, zps]
        refine wpAnyH_take (i := 4) (oi := zopcx5) (v := undef) rfl (by kernel_rfl) (by kernel_rfl) (by kernel_rfl) (fun _ _ _ h => h) (Or.inr ⟨by rfl, rfl⟩) (by assumption) ?rest4x3005
        try simp only [Act.put, zps]
        refine wpAnyH_take (i := 5) (oi := zopcx6) (v := undef) rfl (by kernel_rfl) (by kernel_rfl) (by kernel_rfl) (fun _ _ _ h => h) (Or.inr ⟨by rfl, rfl⟩) (by assumption) ?rest5x3006
        try simp only [Act.put, zps]
        refine wpAnyH_take (i := 6) (oi := zopcx7) (v := undef) rfl (by kernel_rfl) (by kernel_rfl) (by kernel_rfl) (fun _ _ _ h => h) (Or.inr ⟨by rfl, rfl⟩) (by assumption) ?rest6x3007
        try simp only [Act.put, zps]
        refine wpAnyH_take (i := 7) (oi := zopcx8) (v := undef) rfl (by kernel_rfl) (by kernel_rfl) (by kernel_rfl) (fun _ _ _ h => h) (Or.inr ⟨by rfl, rfl⟩) (by assumption) ?rest7x3008
        try simp only [Act.put, zps]
        refine wpAnyH_take (i := 8) (oi := zopcx9) (v := undef) rfl (by kernel_rfl) (by kernel_rfl) (by kernel_rfl) (fun _ _ _ h => h) (Or.inr ⟨by rfl, rfl⟩) (by assumption) ?rest8x3009
        try simp only [Act.put, zps]
        refine wpAnyH_take (i := 9) (oi := zopcx10) (v := undef) rfl (by kernel_rfl) (by kernel_rfl) (by kernel_rfl) (fun _ _ _ h => h) (Or.inr ⟨by rfl, rfl⟩) (by assumption) ?rest9x3010
        try simp only [Act.put, zps]
        refine wpAnyH_take (i := 10) (oi := zopcx11) (v := undef) rfl (by kernel_rfl) (by kernel_rfl) (by kernel_rfl) (fun _ _ _ h => h) (Or.inr ⟨by rfl, rfl⟩) (by assumption) ?rest10x3011
        try simp only [Act.put, zps]
        refine wtk (i := 11) (oi := zopcx12) (v := ?v11x3012) rfl ⟨by rfl, ?hy11x3012⟩ (by assumption) ?_
        case hy11x3012 => (intro w s; (try dsimp only at s); first | (go_simp; with_reducible rfl) | go_simp)
        try simp only [Act.put, zps]
        refine wpAnyH_done (by kernel_rfl) ?_ _
        refine NoPanic.normal ?_
        have HBW := hide ((Below.refl wr.heap.size wr).drew)
        obtain ⟨jv, jz, j0, j1, j2⟩ := HQ.out wr.drew HBW.out
        obtain ⟨v0, v1, v2, v3⟩ := cells_four4 jv
        obtain ⟨z0, z1, zf⟩ := cells_two jz
        have zf1 : World.frozen? wr.drew ⟨w.heap.size + 1, 1, none⟩ = false := by simp [World.frozen?, jz]
        have HJZ := hide jz
        have HCx := hide (HC.out wr.drew HBW.out)
        clear jv jz
        have hp2 : ¬ past bhU none x.e.key = true := by rw [past]; decide
        by_cases hd : x.e.del = true
        · have hoo : o = scan bhU (none) ((ers xs).drop (k + 1)) := by rw [HOO.out, scan, if_neg hp2, if_pos hd]
          rw [hd] at j2
          clear hd
          go_wp2
          refine ⟨⟨k + 1, by omega, by go_num, by simpa using hoo, HBr.out.trans (Below.mono HBW.out HBr.out.size)⟩, ?_⟩
          simp [intOf]; omega
        · have hoo : o = some x.e := by rw [HOO.out, scan, if_neg hp2, if_neg hd]
          subst hoo
          have hd2 : x.e.del = false := by simpa using hd
          rw [hd2] at j2 HCx
          clear hd hd2
          go_wp2_with (go_at_call 41; refine HCx.out.mono ?_; rintro e w4 ⟨y, rfl, hye, hyo, hb4⟩; simp only [En.v]; have hz := (hb4.block _ (lt_of_block HJZ.out)).trans HJZ.out; obtain ⟨y0, y1, yf⟩ := cells_two hz; have yf1 : w4.frozen? ⟨w.heap.size + 1, 1, none⟩ = false := (by simp [World.frozen?, hz]); have hz4 := (Below.heap_alloc w4 (.cells #[.slice y.ka y.e.key.length y.kc, .slice y.va y.e.val.length y.vc, .bool y.e.del] 85) _ (lt_of_block hz)).trans hz; obtain ⟨x0, x1, xf⟩ := cells_two hz4; have xf1 : (w4.alloc (.cells #[.slice y.ka y.e.key.length y.kc, .slice y.va y.e.val.length y.vc, .bool y.e.del] 85)).frozen? ⟨w.heap.size + 1, 1, none⟩ = false := (by simp only [World.frozen?, hz4]; simp); have HZ4 := hide hz4; have HYe := hide hye; have HYo := hide hyo; have HB4 := hide hb4; clear hz hz4 hye hyo hb4)
          have hf := two_set2 (u := .slice y.ka y.e.key.length y.kc) (v := .slice y.va y.e.val.length y.vc) HZ4.out
          obtain ⟨q0, q1, -⟩ := cells_two hf
          refine bodyPost_ret (v := .tuple #[.agg #[.slice y.ka y.e.key.length y.kc, .slice y.va y.e.val.length y.vc], .bool true]) ?_ rfl ?_
          · simp [results, Try.results89, go_sem, q0, q1]
          · have hbs2 := HBsz.out _ HBW.out
            have hbx := HBall.out _ HBW.out
            exact ⟨y, rfl, by rw [HYe.out]; rfl, by rw [HYe.out]; rfl, ((HYo.out.below (below_alloc w4 _)).move fun k hk1 hk2 => two_other (by omega)).mono (by omega), two_set_below ((hbx.trans (HB4.out.mono hbx.size)).alloc (Nat.le_trans hbx.size HB4.out.size) _) (by omega)⟩
    · have ek : k = xs.length := by omega
      subst ek
      have hnil : (ers xs).drop xs.length = [] := List.drop_of_length_le (by rw [ers_len]; exact Nat.le_refl _)
      have d1 : ¬ ((xs.length : Int) < (xs.length : Int)) := by omega
      have d0 : (0 : Int) ≤ (xs.length : Int) := by omega
      rw [hnil] at HOO
      have hoo : o = none := HOO.out
      subst hoo
      have HJZ := HbZ
      have zf1 : wr.frozen? ⟨w.heap.size + 1, 1, none⟩ = false := by simp [World.frozen?, HbZ.out]
      clear hb
      go_wp2
      have hf := two_set2 (u := .slice none 0 0) (v := .slice none 0 0) HJZ.out
      obtain ⟨q0, q1, -⟩ := cells_two hf
      refine bodyPost_ret (v := .tuple #[.agg #[.slice none 0 0, .slice none 0 0], .bool false]) ?_ rfl ?_
      · simp [results, Try.results89, go_sem, q0, q1]
      · exact pair_zero (two_set_below (HB1.out.trans (HBr.out.mono HB1.out.size)) (by omega))
set_option maxHeartbeats 6400000 in
set_option maxRecDepth 1000000 in
theorem putD_any {w : World} {p B : Nat} {sv uv : Value} {xs : List En} {us : List Value} (h : Bf w p B sv uv xs us) (hr : Ris (ers xs)) (bl : Value) (fa la : Option Addr) (fn fc ln lc : Nat) (frm lst : List Int) (inn is : Bool) (hf : Inn w fa fn fc frm) (hl : Inn w la ln lc lst) (hn : xs.length ≤ 900000) (hw : ∀ x ∈ xs, x.e.key.length ≤ 140737488351232 ∧ x.e.val.length ≤ 140737488351232)
    (o : Option Ee) (ho : o = putD (ers xs) frm inn (if is then some lst else none)) :
    Calls Try.prog 89 #[.agg #[.pointer (some ⟨p, 0, none⟩), bl, .func (.func 78) #[] #[], .int .i64 (-1)], .slice fa fn fc, .bool inn, .slice la ln lc, .bool is] w (PairOut w o) := by
  obtain ⟨w1, hw1⟩ : ∃ w1, w1 = (w.alloc (.cells #[.pointer (some ⟨p, 0, none⟩), bl, .func (.func 78) #[] #[], .int .i64 (-1)] 126)).alloc (.cells #[.slice none 0 0, .slice none 0 0] 74) := ⟨_, rfl⟩
  have hB1 : Below w.heap.size w w1 := by rw [hw1]; exact two_alloc _ _
  have hv1 : w1.heap[w.heap.size]? = some (.cells #[.pointer (some ⟨p, 0, none⟩), bl, .func (.func 78) #[] #[], .int .i64 (-1)] 126 (0, 0)) := by rw [hw1]; exact (Below.heap_alloc _ _ _ (by simp)).trans (heap_alloc_new w _)
  have hz1 : w1.heap[w.heap.size + 1]? = some (.cells #[.slice none 0 0, .slice none 0 0] 74 (0, 0)) := by
    rw [hw1]
    have := heap_alloc_new (w.alloc (.cells #[.pointer (some ⟨p, 0, none⟩), bl, .func (.func 78) #[] #[], .int .i64 (-1)] 126)) (.cells #[.slice none 0 0, .slice none 0 0] 74)
    rwa [World.size_alloc] at this
  have hs1 : w1.heap.size = w.heap.size + 2 := by rw [hw1]; simp
  have hf1 := h.below hB1
  obtain ⟨a, c, rfl, hE⟩ := hf1.ens
  obtain ⟨s0, s1, f0⟩ := cells_two hf1.blk
  obtain ⟨v0, v1, v2, v3⟩ := cells_four4 hv1
  have HA := hide (fun W (hW : Below w1.heap.size w1 W) => under_any (hf1.below hW) fa fn fc frm inn ((hf.below hB1).below hW) hn)
  have HR := hide hr
  have HO := hide ho
  have HFl := hide hf.len
  have HB1 := hide hB1
  have Hv1 := hide hv1
  have Hz1 := hide hz1
  have HS1 := hide hs1
  have HF1 := hide hf1
  have HE := hide hE
  have HL := hide (hl.below hB1)
  have HW := hide hw
  clear h hr ho hB1 hv1 hz1 hs1 hf1 hE hf hl hw
  subst hw1
  have hcap := HE.out.cap
  have hmax := HE.out.max
  go_enter Try.func89, Try.ntmps89
  go_wp2_with (go_at_call 78; refine (HA.out _ (Below.refl _ _)).mono ?_; rintro e w2 ⟨i, m, rfl, hat, hb2⟩; have HM := hide (startD HR.out (i := i) (m := m) (frm := frm) (inn := inn) (by rw [HFl.out]; exact hat)); have HB2 := hide hb2; clear hat hb2)
  obtain ⟨W1, hW1⟩ : ∃ W1, Hid (W1 = (w.alloc (.cells #[.pointer (some ⟨p, 0, none⟩), bl, .func (.func 78) #[] #[], .int .i64 (-1)] 126)).alloc (.cells #[.slice none 0 0, .slice none 0 0] 74)) := ⟨_, hide rfl⟩
  rw [← hW1.out] at HA HB1 Hv1 Hz1 HS1 HF1 HE HL HB2
  clear s0 s1 f0 v0 v1 v2 v3
  go_loopw [13] (fun vi wr => ∃ (k : Nat), k ≤ xs.length ∧ vi = .int .i64 ((k : Int) - 1) ∧ o = scan bhD (if is then some lst else none) (((ers xs).take k).reverse) ∧ Below W1.heap.size W1 wr) (fun vi _ => (intOf vi + 1).toNat)
  case atStart => exact ⟨m, HM.out.1, rfl, by rw [HO.out, putD, HM.out.2], HB2.out⟩
  case round =>
    obtain ⟨k, hk, rfl, hoo, hb⟩ := hrel
    have HOO := hide hoo
    have HBr := hide hb
    have hbv := (hb.block _ (lt_of_block Hv1.out)).trans Hv1.out
    have hbz := (hb.block _ (lt_of_block Hz1.out)).trans Hz1.out
    obtain ⟨v0, v1, v2, v3⟩ := cells_four4 hbv
    obtain ⟨z0, z1, zf⟩ := cells_two hbz
    have HbV := hide hbv
    have HbZ := hide hbz
    clear hoo hbv hbz
    by_cases hlt : 0 < k
    · obtain ⟨k, rfl⟩ : ∃ j, k = j + 1 := ⟨k - 1, by omega⟩
      obtain ⟨x, hx, hok⟩ := (HE.out.below hb).at (k := k) (by omega)
      obtain ⟨b, off, rfl, hbs, c0, c1, c2⟩ := (HE.out.below hb).cells hx
      have ek : (((k + 1 : Nat) : Int) - 1) = (k : Int) := by omega
      rw [ek]
      have d1 : (k : Int) < (xs.length : Int) := by omega
      have d0 : (0 : Int) ≤ (k : Int) := by omega
      have hrem : ((ers xs).take (k + 1)).reverse = x.e :: ((ers xs).take k).reverse := by rw [take_at (ers_at hx), List.reverse_append]; rfl
      rw [hrem] at HOO
      have HX := hide hx
      have HC := hide (fun W (hW : Below wr.heap.size wr W) => centry_any x W (hok.below hW) (HW.out x (List.mem_of_getElem? hx)).1 (HW.out x (List.mem_of_getElem? hx)).2)
      have HBeh := hide (fun W (hW : Below wr.heap.size wr W) => behindD (.func (.func 78) #[] #[]) x.ka la x.e.key.length x.kc ln lc x.e.key lst false W (hok.key.below hW) ((HL.out.below hb).below hW))
      have HSk : Hid (∀ W, Below wr.heap.size wr W → W.cell? ⟨w.heap.size, 2, none⟩ = some (.func (.func 78) #[] #[]) ∧ W.cell? ⟨w.heap.size, 3, none⟩ = some (.int .i64 (-1)) ∧ W.cell? ⟨b, off + k * 3, none⟩ = some (.slice x.ka x.e.key.length x.kc)) := hide (fun W hW => by
        have h4 := cells_four4 ((hW.block _ (lt_of_block HbV.out)).trans HbV.out)
        exact ⟨h4.2.2.1, h4.2.2.2, (hW.cell (p := ⟨b, off + k * 3, none⟩) hbs).trans c0⟩)
      have HS0 := hide (HSk.out wr (Below.refl _ _))
      have HQ : Hid (∀ W, Below wr.heap.size wr W → W.heap[w.heap.size]? = some (.cells #[.pointer (some ⟨p, 0, none⟩), bl, .func (.func 78) #[] #[], .int .i64 (-1)] 126 (0, 0)) ∧ W.heap[w.heap.size + 1]? = some (.cells #[.slice none 0 0, .slice none 0 0] 74 (0, 0)) ∧ W.cell? ⟨b, off + k * 3, none⟩ = some (.slice x.ka x.e.key.length x.kc) ∧ W.cell? ⟨b, off + k * 3 + 1, none⟩ = some (.slice x.va x.e.val.length x.vc) ∧ W.cell? ⟨b, off + k * 3 + 2, none⟩ = some (.bool x.e.del)) := hide (fun W hW => ⟨(hW.block _ (lt_of_block HbV.out)).trans HbV.out, (hW.block _ (lt_of_block HbZ.out)).trans HbZ.out, (hW.cell (p := ⟨b, off + k * 3, none⟩) hbs).trans c0, (hW.cell (p := ⟨b, off + k * 3 + 1, none⟩) hbs).trans c1, (hW.cell (p := ⟨b, off + k * 3 + 2, none⟩) hbs).trans c2⟩)
      clear hb hx hok hrem
      have HBall : Hid (∀ W, Below wr.heap.size wr W → Below w.heap.size w W) := hide (fun W hW => HB1.out.trans ((HBr.out.trans (hW.mono HBr.out.size)).mono HB1.out.size))
      have HBsz : Hid (∀ W, Below wr.heap.size wr W → w.heap.size + 2 ≤ W.heap.size) := hide (fun W hW => by have := HS1.out; have := HBr.out.size; have := hW.size; omega)
      rcases Bool.eq_false_or_eq_true is with rfl | rfl
      · simp only [if_true] at HOO
        clear v0 v1 v2 v3 z0 z1 zf c0 c1 c2
        go_wp2
        refine wp_region_noPanic ?_
        refine wp_region_held_drew (S := (fun W => W.cell? ⟨w.heap.size, 2, none⟩ = some (.func (.func 78) #[] #[]) ∧ W.cell? ⟨w.heap.size, 3, none⟩ = some (.int .i64 (-1)) ∧ W.cell? ⟨b, off + k * 3, none⟩ = some (.slice x.ka x.e.key.length x.kc))) (by kernel_rfl) HS0.out (fun _hS => ?_)
        refine wtk (i := 0) (oi := zopcx1) (v := ?v0x1001) rfl ⟨by rfl, ?hy0x1001⟩ (by assumption) ?_
        case hy0x1001 => (intro w s; (try dsimp only at s); first | (go_simp; with_reducible rfl) | go_simp)
        try simp only [Act.put, zps]
        refine wtk (i := 1) (oi := zopcx2) (v := ?v1x1002) rfl ⟨by rfl, ?hy1x1002⟩ (by assumption) ?_
        case hy1x1002 => (intro w s; (try dsimp only at s); first | (go_simp; with_reducible rfl) | go_simp)
        try simp only [Act.put, zps]
        refine wtk (i := 2) (oi := zopcx3) (v := ?v2x1003) rfl ⟨by rfl, ?hy2x1003⟩ (by assumption) ?_
        case hy2x1003 => (intro w s; (try dsimp only at s); first | (go_simp; with_reducible rfl) | go_simp)
        try simp only [Act.put, zps]
        refine wtk (i := 3) (oi := zopcx4) (v := ?v3x1004) rfl ⟨by rfl, ?hy3x1004⟩ (by assumption) ?_
        case hy3x1004 => (intro w s; (try dsimp only at s); first | (go_simp; with_reducible rfl) | go_simp)
        try simp only [Act.put, zps]
        refine wtk (i := 4) (oi := zopcx5) (v := ?v4x1005) rfl ⟨by rfl, ?hy4x1005⟩ (by assumption) ?_
        case hy4x1005 => (intro w s; (try dsimp only at s); first | (go_simp; with_reducible rfl) | go_simp)
        try simp only [Act.put, zps]
        refine wtk (i := 5) (oi := zopcx6) (v := ?v5x1006) rfl ⟨by rfl, ?hy5x1006⟩ (by assumption) ?_
        case hy5x1006 => (intro w s; (try dsimp only at s); first | (go_simp; with_reducible rfl) | go_simp)
        try simp only [Act.put, zps]
        refine wtk (i := 6) (oi := zopcx7) (v := ?v6x1007) rfl ⟨by rfl, ?hy6x1007⟩ (by assumption) ?_
        case hy6x1007 => (intro w s; (try dsimp only at s); first | (go_simp; with_reducible rfl) | go_simp)
        try simp only [Act.put, zps]
        refine wtk (i := 7) (oi := zopcx8) (v := ?v7x1008) rfl ⟨by rfl, ?hy7x1008⟩ (by assumption) ?_
        case hy7x1008 => (intro w s; (try dsimp only at s); first | (go_simp; with_reducible rfl) | go_simp)
        try simp only [Act.put, zps]
        refine wtk (i := 8) (oi := zopcx9) (v := ?v8x1009) rfl ⟨by rfl, ?hy8x1009⟩ (by assumption) ?_
        case hy8x1009 => (intro w s; (try dsimp only at s); first | (go_simp; with_reducible rfl) | go_simp)
        try simp only [Act.put, zps]
        refine wtk (i := 9) (oi := zopcx10) (v := ?v9x1010) rfl ⟨by rfl, ?hy9x1010⟩ (by assumption) ?_
        case hy9x1010 => (intro w s; (try dsimp only at s); first | (go_simp; with_reducible rfl) | go_simp)
        try simp only [Act.put, zps]
        refine wpAnyH_ready (rs := [10]) (by kernel_rfl) (by simp) ?_
        refine AllReadyH.cons (o := zopcx11) rfl (fun K hK => ?_) (AllReadyH.nil)
        go_simp
        go_at_call 96
        refine (HBeh.out _ (Below.refl _ _).drew).mono ?_
        rintro e w3 ⟨rfl, hb3⟩
        have HBW := hide ((Below.refl wr.heap.size wr).drew.trans hb3)
        have HS3 := hide (HSk.out w3 ((Below.refl wr.heap.size wr).drew.trans hb3))
        clear hb3
        go_simp
        refine hK.out _ _ ?_ (fun _hS => ?_)
        · exact HS3.out
        clear hK K
        try simp only [Act.put, zps]
        refine wtk (i := 11) (oi := zopcx12) (v := ?v11x1011) rfl ⟨by rfl, ?hy11x1011⟩ (by assumption) ?_
        case hy11x1011 => (intro w s; (try dsimp only at s); first | (go_simp; with_reducible rfl) | go_simp)
        try simp only [Act.put, zps]
        refine wpAnyH_done (by kernel_rfl) ?_ _
        refine NoPanic.normal ?_
        obtain ⟨jv, jz, j0, j1, j2⟩ := HQ.out w3 HBW.out
        obtain ⟨v0, v1, v2, v3⟩ := cells_four4 jv
        obtain ⟨z0, z1, zf⟩ := cells_two jz
        have zf1 : World.frozen? w3 ⟨w.heap.size + 1, 1, none⟩ = false := by simp [World.frozen?, jz]
        have HJZ := hide jz
        have HCx := hide (HC.out w3 HBW.out)
        clear jv jz
        rcases Bool.eq_false_or_eq_true (bhD x.e.key lst false) with hp | hp
        · have hoo : o = none := by rw [HOO.out, scan, if_pos (by rw [past, hp])]
          subst hoo
          rw [hp]
          clear hp
          go_wp2
          have hf := two_set2 (u := .slice none 0 0) (v := .slice none 0 0) HJZ.out
          obtain ⟨q0, q1, -⟩ := cells_two hf
          refine bodyPost_ret (v := .tuple #[.agg #[.slice none 0 0, .slice none 0 0], .bool false]) ?_ rfl ?_
          · simp [results, Try.results89, go_sem, q0, q1]
          · exact pair_zero (two_set_below (HBall.out _ HBW.out) (by omega))
        · have hp2 : ¬ past bhD (some lst) x.e.key = true := by rw [past, hp]; decide
          rw [hp]
          clear hp
          by_cases hd : x.e.del = true
          · have hoo : o = scan bhD (some lst) (((ers xs).take k).reverse) := by rw [HOO.out, scan, if_neg hp2, if_pos hd]
            rw [hd] at j2
            clear hd
            go_wp2
            refine ⟨⟨k, by omega, by go_num, by simpa using hoo, HBr.out.trans (Below.mono HBW.out HBr.out.size)⟩, ?_⟩
            simp [intOf]; omega
          · have hoo : o = some x.e := by rw [HOO.out, scan, if_neg hp2, if_neg hd]
            subst hoo
            have hd2 : x.e.del = false := by simpa using hd
            rw [hd2] at j2 HCx
            clear hd hd2
            go_wp2_with (go_at_call 41; refine HCx.out.mono ?_; rintro e w4 ⟨y, rfl, hye, hyo, hb4⟩; simp only [En.v]; have hz := (hb4.block _ (lt_of_block HJZ.out)).trans HJZ.out; obtain ⟨y0, y1, yf⟩ := cells_two hz; have yf1 : w4.frozen? ⟨w.heap.size + 1, 1, none⟩ = false := (by simp [World.frozen?, hz]); have hz4 := (Below.heap_alloc w4 (.cells #[.slice y.ka y.e.key.length y.kc, .slice y.va y.e.val.length y.vc, .bool y.e.del] 85) _ (lt_of_block hz)).trans hz; obtain ⟨x0, x1, xf⟩ := cells_two hz4; have xf1 : (w4.alloc (.cells #[.slice y.ka y.e.key.length y.kc, .slice y.va y.e.val.length y.vc, .bool y.e.del] 85)).frozen? ⟨w.heap.size + 1, 1, none⟩ = false := (by simp only [World.frozen?, hz4]; simp); have HZ4 := hide hz4; have HYe := hide hye; have HYo := hide hyo; have HB4 := hide hb4; clear hz hz4 hye hyo hb4)
            have hf := two_set2 (u := .slice y.ka y.e.key.length y.kc) (v := .slice y.va y.e.val.length y.vc) HZ4.out
            obtain ⟨q0, q1, -⟩ := cells_two hf
            refine bodyPost_ret (v := .tuple #[.agg #[.slice y.ka y.e.key.length y.kc, .slice y.va y.e.val.length y.vc], .bool true]) ?_ rfl ?_
            · simp [results, Try.results89, go_sem, q0, q1]
            · have hbs2 := HBsz.out _ HBW.out
              have hbx := HBall.out _ HBW.out
              exact ⟨y, rfl, by rw [HYe.out]; rfl, by rw [HYe.out]; rfl, ((HYo.out.below (below_alloc w4 _)).move fun k hk1 hk2 => two_other (by omega)).mono (by omega), two_set_below ((hbx.trans (HB4.out.mono hbx.size)).alloc (Nat.le_trans hbx.size HB4.out.size) _) (by omega)⟩
      · simp only [Bool.false_eq_true, if_false] at HOO
        clear v0 v1 v2 v3 z0 z1 zf c0 c1 c2
        go_wp2
        refine wp_region_noPanic ?_
        refine wp_region_held_drew (S := (fun W => W.cell? ⟨w.heap.size, 2, none⟩ = some (.func (.func 78) #[] #[]) ∧ W.cell? ⟨w.heap.size, 3, none⟩ = some (.int .i64 (-1)) ∧ W.cell? ⟨b, off + k * 3, none⟩ = some (.slice x.ka x.e.key.length x.kc))) (by kernel_rfl) HS0.out (fun _hS => ?_)
        refine wtk (i := 0) (oi := zopcx1) (v := ?v0x3001) rfl ⟨by rfl, ?hy0x3001⟩ (by assumption) ?_
        case hy0x3001 => (intro w s; (try dsimp only at s); first | (go_simp; with_reducible rfl) | go_simp)
        try simp only [Act.put, zps]
        refine wtk (i := 1) (oi := zopcx2) (v := ?v1x3002) rfl ⟨by rfl, ?hy1x3002⟩ (by assumption) ?_
        case hy1x3002 => (intro w s; (try dsimp only at s); first | (go_simp; with_reducible rfl) | go_simp)
        try simp only [Act.put, zps]
        refine wpAnyH_take (i := 2) (oi := zopcx3) (v := undef) rfl (by kernel_rfl) (by kernel_rfl) (by kernel_rfl) (fun _ _ _ h => h) (Or.inr ⟨by rfl, rfl⟩) (by assumption) ?rest2x3003
        try simp only [Act.put, zps]
        refine wpAnyH_take (i := 3) (oi := zopcx4) (v := undef) rfl (by kernel_rfl) (by kernel_rfl) (by kernel_rfl) (fun _ _ _ h => h) (Or.inr ⟨by rfl, rfl⟩) (by assumption) ?rest3x3004
        try simp only [Act.put, zps]
        refine wpAnyH_take (i := 4) (oi := zopcx5) (v := undef) rfl (by kernel_rfl) (by kernel_rfl) (by kernel_rfl) (fun _ _ _ h => h) (Or.inr ⟨by rfl, rfl⟩) (by assumption) ?rest4x3005
        try simp only [Act.put, zps]
        refine wpAnyH_take (i := 5) (oi := zopcx6) (v := undef) rfl (by kernel_rfl) (by kernel_rfl) (by kernel_rfl) (fun _ _ _ h => h) (Or.inr ⟨by rfl, rfl⟩) (by assumption) ?rest5x3006
        try simp only [Act.put, zps]
        refine wpAnyH_take (i := 6) (oi := zopcx7) (v := undef) rfl (by kernel_rfl) (by kernel_rfl) (by kernel_rfl) (fun _ _ _ h => h) (Or.inr ⟨by rfl, rfl⟩) (by assumption) ?rest6x3007
        try simp only [Act.put, zps]
        refine wpAnyH_take (i := 7) (oi := zopcx8) (v := undef) rfl (by kernel_rfl) (by kernel_rfl) (by kernel_rfl) (fun _ _ _ h => h) (Or.inr ⟨by rfl, rfl⟩) (by assumption) ?rest7x3008
        try simp only [Act.put, zps]
        refine wpAnyH_take (i := 8) (oi := zopcx9) (v := undef) rfl (by kernel_rfl) (by kernel_rfl) (by kernel_rfl) (fun _ _ _ h => h) (Or.inr ⟨by rfl, rfl⟩) (by assumption) ?rest8x3009
        try simp only [Act.put, zps]
        refine wpAnyH_take (i := 9) (oi := zopcx10) (v := undef) rfl (by kernel_rfl) (by kernel_rfl) (by kernel_rfl) (fun _ _ _ h => h) (Or.inr ⟨by rfl, rfl⟩) (by assumption) ?rest9x3010
        try simp only [Act.put, zps]
        refine wpAnyH_take (i := 10) (oi := zopcx11) (v := undef) rfl (by kernel_rfl) (by kernel_rfl) (by kernel_rfl) (fun _ _ _ h => h) (Or.inr ⟨by rfl, rfl⟩) (by assumption) ?rest10x3011
        try simp only [Act.put, zps]
        refine wtk (i := 11) (oi := zopcx12) (v := ?v11x3012) rfl ⟨by rfl, ?hy11x3012⟩ (by assumption) ?_
        case hy11x3012 => (intro w s; (try dsimp only at s); first | (go_simp; with_reducible rfl) | go_simp)
        try simp only [Act.put, zps]
        refine wpAnyH_done (by kernel_rfl) ?_ _
        refine NoPanic.normal ?_
        have HBW := hide ((Below.refl wr.heap.size wr).drew)
        obtain ⟨jv, jz, j0, j1, j2⟩ := HQ.out wr.drew HBW.out
        obtain ⟨v0, v1, v2, v3⟩ := cells_four4 jv
        obtain ⟨z0, z1, zf⟩ := cells_two jz
        have zf1 : World.frozen? wr.drew ⟨w.heap.size + 1, 1, none⟩ = false := by simp [World.frozen?, jz]
        have HJZ := hide jz
        have HCx := hide (HC.out wr.drew HBW.out)
        clear jv jz
        have hp2 : ¬ past bhD none x.e.key = true := by rw [past]; decide
        by_cases hd : x.e.del = true
        · have hoo : o = scan bhD (none) (((ers xs).take k).reverse) := by rw [HOO.out, scan, if_neg hp2, if_pos hd]
          rw [hd] at j2
          clear hd
          go_wp2
          refine ⟨⟨k, by omega, by go_num, by simpa using hoo, HBr.out.trans (Below.mono HBW.out HBr.out.size)⟩, ?_⟩
          simp [intOf]; omega
        · have hoo : o = some x.e := by rw [HOO.out, scan, if_neg hp2, if_neg hd]
          subst hoo
          have hd2 : x.e.del = false := by simpa using hd
          rw [hd2] at j2 HCx
          clear hd hd2
          go_wp2_with (go_at_call 41; refine HCx.out.mono ?_; rintro e w4 ⟨y, rfl, hye, hyo, hb4⟩; simp only [En.v]; have hz := (hb4.block _ (lt_of_block HJZ.out)).trans HJZ.out; obtain ⟨y0, y1, yf⟩ := cells_two hz; have yf1 : w4.frozen? ⟨w.heap.size + 1, 1, none⟩ = false := (by simp [World.frozen?, hz]); have hz4 := (Below.heap_alloc w4 (.cells #[.slice y.ka y.e.key.length y.kc, .slice y.va y.e.val.length y.vc, .bool y.e.del] 85) _ (lt_of_block hz)).trans hz; obtain ⟨x0, x1, xf⟩ := cells_two hz4; have xf1 : (w4.alloc (.cells #[.slice y.ka y.e.key.length y.kc, .slice y.va y.e.val.length y.vc, .bool y.e.del] 85)).frozen? ⟨w.heap.size + 1, 1, none⟩ = false := (by simp only [World.frozen?, hz4]; simp); have HZ4 := hide hz4; have HYe := hide hye; have HYo := hide hyo; have HB4 := hide hb4; clear hz hz4 hye hyo hb4)
          have hf := two_set2 (u := .slice y.ka y.e.key.length y.kc) (v := .slice y.va y.e.val.length y.vc) HZ4.out
          obtain ⟨q0, q1, -⟩ := cells_two hf
          refine bodyPost_ret (v := .tuple #[.agg #[.slice y.ka y.e.key.length y.kc, .slice y.va y.e.val.length y.vc], .bool true]) ?_ rfl ?_
          · simp [results, Try.results89, go_sem, q0, q1]
          · have hbs2 := HBsz.out _ HBW.out
            have hbx := HBall.out _ HBW.out
            exact ⟨y, rfl, by rw [HYe.out]; rfl, by rw [HYe.out]; rfl, ((HYo.out.below (below_alloc w4 _)).move fun k hk1 hk2 => two_other (by omega)).mono (by omega), two_set_below ((hbx.trans (HB4.out.mono hbx.size)).alloc (Nat.le_trans hbx.size HB4.out.size) _) (by omega)⟩
    · obtain rfl : k = 0 := by omega
      have hnil : ((ers xs).take 0).reverse = [] := rfl
      have d0 : ¬ ((0 : Int) ≤ ((0 : Nat) : Int) - 1) := by omega
      rw [hnil] at HOO
      have hoo : o = none := HOO.out
      subst hoo
      have HJZ := HbZ
      have zf1 : wr.frozen? ⟨w.heap.size + 1, 1, none⟩ = false := by simp [World.frozen?, HbZ.out]
      clear hb
      go_wp2
      have hf := two_set2 (u := .slice none 0 0) (v := .slice none 0 0) HJZ.out
      obtain ⟨q0, q1, -⟩ := cells_two hf
      refine bodyPost_ret (v := .tuple #[.agg #[.slice none 0 0, .slice none 0 0], .bool false]) ?_ rfl ?_
      · simp [results, Try.results89, go_sem, q0, q1]
      · exact pair_zero (two_set_below (HB1.out.trans (HBr.out.mono HB1.out.size)) (by omega))
end Go.Proofs.Ytgohhlngnnmknaa
