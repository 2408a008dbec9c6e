/- The document's reader in memory: a number, so many bytes. -/
import Derived.Test.YtjojpohnmfkanaaRL
namespace Go.Proofs.Ytjojpohnmfkanaa
open Go.RowKit
set_option linter.unusedVariables false

/-- the document's reader: its block p lies above all that was there in W0. -/
structure Dr (W0 w : World) (p : Nat) (a : Option Addr) (n c o : Nat) (b : Bool) : Prop where
  blk : w.heap[p]? = some (.cells #[.slice a n c, .int .i64 (o : Int), .bool b] 75 (0, 0))
  low : W0.heap.size ≤ p
  bel : Below W0.heap.size W0 w
theorem cells_three {w : World} {p t : Nat} {x y z : Value} (h : w.heap[p]? = some (.cells #[x, y, z] t (0, 0))) : w.cell? ⟨p, 0, none⟩ = some x ∧ w.cell? ⟨p, 1, none⟩ = some y ∧ w.cell? ⟨p, 2, none⟩ = some z := by
  refine ⟨by simp [World.cell?, h], by simp [World.cell?, h], by simp [World.cell?, h]⟩
theorem Dr.on {W0 w w' : World} {p : Nat} {a : Option Addr} {n c o : Nat} {b : Bool} (h : Dr W0 w p a n c o b) (hb : Below w.heap.size w w') : Dr W0 w' p a n c o b :=
  ⟨(hb.block _ (lt_of_block h.blk)).trans h.blk, h.low, h.bel.trans (hb.mono h.bel.size)⟩
theorem Dr.bad {W0 w : World} {p : Nat} {a : Option Addr} {n c o : Nat} {b : Bool} (h : Dr W0 w p a n c o b) : Dr W0 (w.setCell ⟨p, 2, none⟩ (.bool true)) p a n c o true :=
  ⟨by rw [heap_setCell_same _ p 2 _ _ _ h.blk]; rfl, h.low, h.bel.setCell (p := ⟨p, 2, none⟩) h.low _⟩
theorem Dr.go {W0 w : World} {p : Nat} {a : Option Addr} {n c o : Nat} {b : Bool} (h : Dr W0 w p a n c o b) (o' : Nat) : Dr W0 (w.setCell ⟨p, 1, none⟩ (.int .i64 (o' : Int))) p a n c o' b :=
  ⟨by rw [heap_setCell_same _ p 1 _ _ _ h.blk]; rfl, h.low, h.bel.setCell (p := ⟨p, 1, none⟩) h.low _⟩
/-- what the reader gives and where it stands behind it. -/
def NumO (W0 w : World) (p : Nat) (a : Option Addr) (n c o : Nat) (b : Bool) (zs : List Int) (k : Nat) (e : Ending) (w' : World) : Prop :=
  ∃ (v o' : Nat) (b' : Bool), e = .returned (.int .i64 (v : Int)) ∧ Hid (numF zs k o b = (v, o', b')) ∧ Dr W0 w' p a n c o' b' ∧ w.grownBy w' (some p)
set_option maxHeartbeats 1600000 in
set_option maxRecDepth 1000000 in
theorem rnum_bad (W0 w : World) (p : Nat) (a : Option Addr) (n c o k : Nat) (b : Bool) (zs : List Int) (h : Dr W0 w p a n c o b) (hn : n ≤ 100000) (ho : o ≤ 100000) (hk : k ≤ 100000) (hl : zs.length = n) (hb : b = true ∨ n < o + k) :
    Calls Try.prog 19 #[.pointer (some ⟨p, 0, none⟩), .int .i64 (k : Int)] w fun e w' => NumO W0 w p a n c o b zs k e w' := by
  have HD := hide h
  have HF : Hid (numF zs k o b = (0, o, true)) := by
    rw [Hid]
    unfold numF
    rw [if_pos]
    rcases hb with hb | hb
    · exact .inl hb
    · exact .inr (by omega)
  have HBb := hide hb
  obtain ⟨c0, c1, c2⟩ := cells_three h.blk
  clear h hb
  cases b with
  | true =>
    go_enter Try.func19, Try.ntmps19
    go_wp2
    go_quiet (fail)
    clear c0 c1 c2
    generalize hW : w.drewN _ = W1
    have HB1 : Hid (Below w.heap.size w W1) := by rw [← hW]; exact below_drewN (Below.refl _ _) _
    clear hW
    have HD1 := hide (HD.out.on HB1.out)
    obtain ⟨c0, c1, c2⟩ := cells_three HD1.out.blk
    have f2 := frozen_blk (j := 2) HD1.out.blk
    go_wp2
    go_ret
    exact ⟨0, o, true, rfl, HF, HD1.out.bad, grown_trans (grown_below HB1.out) (grown_setCell _ _ _ _)⟩
  | false =>
    have hlt : n < o + k := by rcases HBb.out with h | h; exact absurd h (by simp); exact h
    have d1 : (n : Int) < (o : Int) + (k : Int) := by omega
    have d2 : decide (n < o + k) = true := decide_eq_true hlt
    go_enter Try.func19, Try.ntmps19
    go_wp2
    go_quiet (fail)
    clear c0 c1 c2
    generalize hW : w.drewN _ = W1
    have HB1 : Hid (Below w.heap.size w W1) := by rw [← hW]; exact below_drewN (Below.refl _ _) _
    clear hW
    have HD1 := hide (HD.out.on HB1.out)
    obtain ⟨c0, c1, c2⟩ := cells_three HD1.out.blk
    have f2 := frozen_blk (j := 2) HD1.out.blk
    go_wp2
    go_ret
    exact ⟨0, o, true, rfl, HF, HD1.out.bad, grown_trans (grown_below HB1.out) (grown_setCell _ _ _ _)⟩
theorem leV_back (xs : List Int) (j : Nat) (h : j < xs.length) (hb : Byts xs) : Crc.leV (xs.drop j) = (xs.getD j 0).toNat + 256 * Crc.leV (xs.drop (j + 1)) := by
  rw [List.drop_eq_getElem_cons h, List.getD_eq_getElem?_getD, List.getElem?_eq_getElem h]
  rfl
set_option maxHeartbeats 3200000 in
set_option maxRecDepth 1000000 in
theorem rnum_ok (W0 w : World) (p : Nat) (a : Option Addr) (n c o k : Nat) (zs : List Int) (h : Dr W0 w p a n c o false) (hin : Inn W0 a n c zs) (hn : n ≤ 100000) (hk : k ≤ 4) (hok : o + k ≤ n) :
    Calls Try.prog 19 #[.pointer (some ⟨p, 0, none⟩), .int .i64 (k : Int)] w fun e w' => NumO W0 w p a n c o false zs k e w' := by
  have hl := hin.len
  obtain ⟨xs, hxs⟩ : ∃ xs, xs = (zs.drop o).take k := ⟨_, rfl⟩
  have hxl : xs.length = k := by rw [hxs]; simp; omega
  have hx8 : Byts xs := by rw [hxs]; exact byts_cut hin.byts o k
  have HF : Hid (numF zs k o false = (Crc.leV xs, o + k, false)) := by
    rw [Hid, hxs]
    unfold numF
    rw [if_neg (by simp; omega)]
  have HXg : Hid (∀ j, j < k → xs.getD j 0 = zs.getD (o + j) 0) := hide fun j hj => by
    rw [hxs]
    simp only [List.getD_eq_getElem?_getD]
    rw [List.getElem?_take_of_lt hj, List.getElem?_drop]
  have HXl := hide hxl
  have HX8 := hide hx8
  have HXb : Hid (∀ j, Crc.leV (xs.drop j) < 4294967296) := hide fun j => by
    have h1 := Crc.leV_lt (xs.drop j) (fun c hc => hx8 c (List.mem_of_mem_drop hc))
    have h2 : (xs.drop j).length ≤ 4 := by simp; omega
    exact Nat.lt_of_lt_of_le h1 (Nat.pow_le_pow_right (by omega) h2)
  have HD := hide h
  have HIn := hide hin
  obtain ⟨c0, c1, c2⟩ := cells_three h.blk
  have d1 : ¬ (n : Int) < (o : Int) + (k : Int) := by omega
  have HSt : Hid (∀ V, Below w.heap.size w V → V.cell? ⟨p, 0, none⟩ = some (.slice a n c) ∧ V.cell? ⟨p, 1, none⟩ = some (.int .i64 (o : Int)) ∧ V.cell? ⟨p, 2, none⟩ = some (.bool false)) := hide fun V hV => cells_three ((hV.block _ (lt_of_block HD.out.blk)).trans HD.out.blk)
  clear h hin hxs hxl hx8 hl
  have d2 : decide (n < o + k) = false := decide_eq_false (by omega)
  go_enter Try.func19, Try.ntmps19
  go_wp2
  go_quiet (fail)
  clear c0 c1 c2
  generalize hW : w.drewN _ = W1
  have HB1 : Hid (Below w.heap.size w W1) := by rw [← hW]; exact below_drewN (Below.refl _ _) _
  clear hW
  obtain ⟨c0, c1, c2⟩ := HSt.out W1 HB1.out
  go_wp2
  go_loopw [5, 6] (fun nv iv wr => ∃ j : Nat, j ≤ k ∧ iv = .int .i64 ((j : Int) - 1) ∧ nv = .int .i64 ((Crc.leV (xs.drop j) : Nat) : Int) ∧ Below w.heap.size w wr) (fun _ iv _ => (intOf iv + 1).toNat)
  case atStart =>
    refine ⟨k, Nat.le_refl _, by go_num, ?_, HB1.out⟩
    rw [List.drop_of_length_le (by rw [HXl.out]; exact Nat.le_refl _)]
    rfl
  case round =>
    obtain ⟨j, hj, rfl, rfl, hbl⟩ := hrel
    have HBl := hide hbl
    clear hbl c0 c1 c2
    obtain ⟨c0, c1, c2⟩ := HSt.out wr HBl.out
    by_cases hj0 : 1 ≤ j
    · obtain ⟨bb, off, rfl, hcell⟩ : ∃ bb off, a = some ⟨bb, off, none⟩ ∧ wr.cell? ⟨bb, off + (o + (j - 1)), none⟩ = some (.int .u8 (zs.getD (o + (j - 1)) 0)) := by
        have hl := HIn.out.len
        rcases HIn.out.row with h0 | ⟨bb, off, e, hlt, hc⟩
        · rw [h0] at hl; simp at hl; omega
        · exact ⟨bb, off, e, by
            have h1 := ((HD.out.on HBl.out).bel.cell (p := ⟨bb, off + (o + (j - 1)), none⟩) hlt)
            rw [h1]
            exact hc _ (by omega)⟩
      have hv8 : 0 ≤ zs.getD (o + (j - 1)) 0 ∧ zs.getD (o + (j - 1)) 0 ≤ 255 := by
        have hl := HIn.out.len
        rw [List.getD_eq_getElem?_getD, List.getElem?_eq_getElem (by omega)]
        exact HIn.out.byts _ (List.getElem_mem (by omega))
      have hback := leV_back xs (j - 1) (by rw [HXl.out]; omega) HX8.out
      rw [HXg.out (j - 1) (by omega), show j - 1 + 1 = j by omega] at hback
      have hb1 := HXb.out j
      have hb2 := HXb.out (j - 1)
      obtain ⟨z, hz⟩ : ∃ z, z = zs.getD (o + (j - 1)) 0 := ⟨_, rfl⟩
      rw [← hz] at hcell hv8 hback
      obtain ⟨zn, rfl⟩ := Int.eq_ofNat_of_zero_le hv8.1
      obtain ⟨L1, hL1⟩ : ∃ L1, L1 = Crc.leV (xs.drop j) := ⟨_, rfl⟩
      obtain ⟨i, rfl⟩ : ∃ i, j = i + 1 := ⟨j - 1, by omega⟩
      simp only [Nat.add_sub_cancel] at hcell hback hb2
      rw [← hL1] at hback hb1 ⊢
      have HBk : Hid (Crc.leV (xs.drop i) = zn + 256 * L1) := by rw [Hid, hback]; simp
      have e1 : ((i + 1 : Nat) : Int) - 1 = (i : Int) := by omega
      rw [e1]
      have i1 : (0 : Int) ≤ (i : Int) := by omega
      have i2 : (0 : Int) ≤ (o : Int) + (i : Int) := by omega
      have i3 : (o : Int) + (i : Int) < (n : Int) := by omega
      have i4 : zn ≤ 255 := by have := hv8.2; omega
      clear hback hv8 hz hL1 hb2 hj0 e1
      go_wp2
      go_quiet (fail)
      go_wp2
      go_roundw
      case rel => exact ⟨i, by omega, by go_num, by rw [HBk.out]; go_num, below_drewN HBl.out _⟩
      case measure => simp [intOf]
    · obtain rfl : j = 0 := by omega
      have HB2 := hide HBl.out
      have f1 := frozen_blk (j := 1) ((HBl.out.block _ (lt_of_block HD.out.blk)).trans HD.out.blk)
      have i1 : ¬ (0 : Int) ≤ ((0 : Nat) : Int) - 1 := by omega
      clear hj0
      go_wp2
      go_ret
      have hd := (HD.out.on HBl.out).go (o + k)
      rw [Int.natCast_add] at hd
      exact ⟨Crc.leV xs, o + k, false, rfl, HF, hd, grown_trans (grown_below HBl.out) (grown_setCell _ _ _ _)⟩
theorem rnum_any (W0 w : World) (p : Nat) (a : Option Addr) (n c o k : Nat) (b : Bool) (zs : List Int) (h : Dr W0 w p a n c o b) (hin : Inn W0 a n c zs) (hn : n ≤ 100000) (ho : o ≤ n) (hk : k ≤ 4) :
    Calls Try.prog 19 #[.pointer (some ⟨p, 0, none⟩), .int .i64 (k : Int)] w fun e w' => NumO W0 w p a n c o b zs k e w' := by
  by_cases hb : b = true ∨ n < o + k
  · exact rnum_bad W0 w p a n c o k b zs h hn (by omega) (by omega) hin.len hb
  · have hf : b = false := by cases b; rfl; exact absurd (.inl rfl) hb
    subst hf
    exact rnum_ok W0 w p a n c o k zs h hin hn hk (by
      have : ¬ n < o + k := fun h => hb (.inr h)
      omega)
/-- what the reader gives of so many bytes. -/
def BytO (W0 w : World) (p : Nat) (a : Option Addr) (n c o : Nat) (b : Bool) (zs : List Int) (k : Nat) (e : Ending) (w' : World) : Prop :=
  ∃ (a' : Option Addr) (c' : Nat) (xs : List Int) (o' : Nat) (b' : Bool), e = .returned (.slice a' xs.length c') ∧ Hid (bytF zs k o b = (xs, o', b')) ∧ Own w' (.slice a' xs.length c') xs ∧ (∀ j, (Value.slice a' xs.length c').ownBlock = some j → w.heap.size ≤ j) ∧ Dr W0 w' p a n c o' b' ∧ w.grownBy w' (some p)
set_option maxHeartbeats 1600000 in
set_option maxRecDepth 1000000 in
theorem rbytes_bad (W0 w : World) (p : Nat) (a : Option Addr) (n c o k : Nat) (b : Bool) (zs : List Int) (h : Dr W0 w p a n c o b) (hn : n ≤ 100000) (ho : o ≤ 100000) (hk : k ≤ 100000) (hl : zs.length = n) (hb : b = true ∨ n < o + k) :
    Calls Try.prog 20 #[.pointer (some ⟨p, 0, none⟩), .int .i64 (k : Int)] w fun e w' => BytO W0 w p a n c o b zs k e w' := by
  have HD := hide h
  have HF : Hid (bytF zs k o b = ([], o, true)) := by
    rw [Hid]
    unfold bytF
    rw [if_pos]
    rcases hb with hb | hb
    · exact .inl hb
    · exact .inr (by omega)
  have HBb := hide hb
  obtain ⟨c0, c1, c2⟩ := cells_three h.blk
  clear h hb
  cases b with
  | true =>
    go_enter Try.func20, Try.ntmps20
    go_wp2
    go_quiet (fail)
    clear c0 c1 c2
    generalize hW : w.drewN _ = W1
    have HB1 : Hid (Below w.heap.size w W1) := by rw [← hW]; exact below_drewN (Below.refl _ _) _
    clear hW
    have HD1 := hide (HD.out.on HB1.out)
    obtain ⟨c0, c1, c2⟩ := cells_three HD1.out.blk
    have f2 := frozen_blk (j := 2) HD1.out.blk
    go_wp2
    go_ret
    exact ⟨none, 0, [], o, true, rfl, HF, Own.nil _, by intro j hj; simp [Value.ownBlock] at hj, HD1.out.bad, grown_trans (grown_below HB1.out) (grown_setCell _ _ _ _)⟩
  | false =>
    have hlt : n < o + k := by rcases HBb.out with h | h; exact absurd h (by simp); exact h
    have d1 : (n : Int) < (o : Int) + (k : Int) := by omega
    have d2 : decide (n < o + k) = true := decide_eq_true hlt
    go_enter Try.func20, Try.ntmps20
    go_wp2
    go_quiet (fail)
    clear c0 c1 c2
    generalize hW : w.drewN _ = W1
    have HB1 : Hid (Below w.heap.size w W1) := by rw [← hW]; exact below_drewN (Below.refl _ _) _
    clear hW
    have HD1 := hide (HD.out.on HB1.out)
    obtain ⟨c0, c1, c2⟩ := cells_three HD1.out.blk
    have f2 := frozen_blk (j := 2) HD1.out.blk
    go_wp2
    go_ret
    exact ⟨none, 0, [], o, true, rfl, HF, Own.nil _, by intro j hj; simp [Value.ownBlock] at hj, HD1.out.bad, grown_trans (grown_below HB1.out) (grown_setCell _ _ _ _)⟩
theorem row_sub {w : World} {a : Option Addr} {zs : List Int} {o k : Nat} (h : Row w a zs) (ho : o + k ≤ zs.length) : Row w (Option.map (fun x => x.add o) a) ((zs.drop o).take k) := by
  rcases h with h0 | ⟨b, off, rfl, hlt, hc⟩
  · subst h0; exact .inl (by simp)
  · refine .inr ⟨b, off + o, by rw [Option.map_some, Addr.add_lit], hlt, fun i hi => ?_⟩
    have hik : i < k := by simp at hi; omega
    rw [Nat.add_assoc, hc (o + i) (by omega)]
    simp only [List.getD_eq_getElem?_getD]
    rw [List.getElem?_take_of_lt hik, List.getElem?_drop]
set_option maxHeartbeats 1600000 in
set_option maxRecDepth 1000000 in
theorem rbytes_ok (W0 w : World) (p : Nat) (a : Option Addr) (n c o k : Nat) (zs : List Int) (h : Dr W0 w p a n c o false) (hin : Inn W0 a n c zs) (hn : n ≤ 100000) (hok : o + k ≤ n) :
    Calls Try.prog 20 #[.pointer (some ⟨p, 0, none⟩), .int .i64 (k : Int)] w fun e w' => BytO W0 w p a n c o false zs k e w' := by
  obtain ⟨i0, hi, hz0, hz1, hz2⟩ := info_parts Try.info5
  have hl := hin.len
  have HF : Hid (bytF zs k o false = ((zs.drop o).take k, o + k, false)) := by
    rw [Hid]
    unfold bytF
    rw [if_neg (by simp; omega)]
  have HD := hide h
  have HIn := hide hin
  have hcap := hin.cap
  have hmax := hin.max
  obtain ⟨c0, c1, c2⟩ := cells_three h.blk
  have d1 : ¬ (n : Int) < (o : Int) + (k : Int) := by omega
  have d2 : decide (n < o + k) = false := decide_eq_false (by omega)
  have HSt : Hid (∀ V, Below w.heap.size w V → V.cell? ⟨p, 0, none⟩ = some (.slice a n c) ∧ V.cell? ⟨p, 1, none⟩ = some (.int .i64 (o : Int)) ∧ V.cell? ⟨p, 2, none⟩ = some (.bool false)) := hide fun V hV => cells_three ((hV.block _ (lt_of_block HD.out.blk)).trans HD.out.blk)
  clear h hin hl
  go_enter Try.func20, Try.ntmps20
  go_wp2
  go_quiet (fail)
  clear c0 c1 c2
  generalize hW : w.drewN _ = W1
  have HB1 : Hid (Below w.heap.size w W1) := by rw [← hW]; exact below_drewN (Below.refl _ _) _
  clear hW
  obtain ⟨c0, c1, c2⟩ := HSt.out W1 HB1.out
  go_wp2
  obtain ⟨E, hE⟩ : ∃ E, E = o + k := ⟨_, rfl⟩
  have hwr : IntKind.i64.wrap ((o : Int) + (k : Int)) = (E : Int) := by rw [IntKind.wrap_i64] <;> omega
  have i1 : (0 : Int) ≤ (o : Int) := by omega
  have i2 : (0 : Int) ≤ (E : Int) := by omega
  have i3 : (E : Int) ≤ (c : Int) := by omega
  have i4 : o ≤ E := by omega
  have i5 : E - o = k := by omega
  have hrow : Row W0 a zs := HIn.out.row
  have HE := hide hE
  clear hE
  have HSr : Hid (Src Try.prog 1 22 (.slice (if c = o then a else Option.map (fun x => x.add o) a) k (c - o)) k (((zs.drop o).take k).map (Value.int .u8)) W1.drew) := by
    by_cases hco : c = o
    · have hk0 : k = 0 := by omega
      rw [if_pos hco]
      exact src_row _ a k (c - o) _ (by rw [hk0]; simp) (fun _ => ⟨hk0, by omega⟩) (.inl (by rw [hk0]; simp))
    · rw [if_neg hco]
      exact src_row _ _ k (c - o) _ (by have := HIn.out.len; simp; omega) (fun e => by
        have h0 : a = none := by cases a with
          | none => rfl
          | some x => simp at e
        have := HIn.out.bare h0
        omega) ((row_sub hrow (by rw [HIn.out.len]; exact hok)).below (by have h1 := (HD.out.on HB1.out).bel.drew; exact h1))
  clear hrow
  refine wp_region_noPanic ?_
  refine wp_region_held_drew (S := (fun V => V.cell? ⟨p, 0, none⟩ = some (.slice a n c) ∧ V.cell? ⟨p, 1, none⟩ = some (.int .i64 (o : Int)))) (by kernel_rfl) (by have h1 := HSt.out W1.drew HB1.out.drew; exact ⟨h1.1, h1.2.1⟩) (fun _hS => ?_)
  refine wpAnyH_take (i := 0) (v := ?v0x1) rfl (by kernel_rfl) (by kernel_rfl) (by kernel_rfl) (fun _ _ _ h => h) (Or.inl ⟨by rfl, ?hy0x1⟩) (by assumption) ?rest0x1
  case hy0x1 => (intro w hSw; (try dsimp only at hSw); (first | (go_simp; with_reducible rfl) | go_simp))
  try simp only [Act.put, List.getElem_toArray, List.getElem_cons_zero, List.setIfInBounds_toArray, List.set_cons_zero, List.set_cons_succ]
  refine wpAnyH_take (i := 1) (v := ?v1x2) rfl (by kernel_rfl) (by kernel_rfl) (by kernel_rfl) (fun _ _ _ h => h) (Or.inl ⟨by rfl, ?hy1x2⟩) (by assumption) ?rest1x2
  case hy1x2 => (intro w hSw; (try dsimp only at hSw); (first | (go_simp; with_reducible rfl) | go_simp))
  try simp only [Act.put, List.getElem_toArray, List.getElem_cons_zero, List.getElem_cons_succ, List.setIfInBounds_toArray, List.set_cons_zero, List.set_cons_succ]
  refine wpAnyH_take (i := 2) (v := ?v2x3) rfl (by kernel_rfl) (by kernel_rfl) (by kernel_rfl) (fun _ _ _ h => h) (Or.inl ⟨by rfl, ?hy2x3⟩) (by assumption) ?rest2x3
  case hy2x3 => (intro w hSw; (try dsimp only at hSw); (first | (go_simp; with_reducible rfl) | go_simp))
  try simp only [Act.put, List.getElem_toArray, List.getElem_cons_zero, List.getElem_cons_succ, List.setIfInBounds_toArray, List.set_cons_zero, List.set_cons_succ]
  refine wpAnyH_take (i := 3) (v := ?v3x4) rfl (by kernel_rfl) (by kernel_rfl) (by kernel_rfl) (fun _ _ _ h => h) (Or.inl ⟨by rfl, ?hy3x4⟩) (by assumption) ?rest3x4
  case hy3x4 => (intro w hSw; (try dsimp only at hSw); (first | (go_simp; with_reducible rfl) | go_simp))
  try simp only [Act.put, List.getElem_toArray, List.getElem_cons_zero, List.getElem_cons_succ, List.setIfInBounds_toArray, List.set_cons_zero, List.set_cons_succ]
  refine wpAnyH_take (i := 4) (v := ?v4x5) rfl (by kernel_rfl) (by kernel_rfl) (by kernel_rfl) (fun _ _ _ h => h) (Or.inl ⟨by rfl, ?hy4x5⟩) (by assumption) ?rest4x5
  case hy4x5 => (intro w hSw; (try dsimp only at hSw); (first | (go_simp; with_reducible rfl) | go_simp))
  try simp only [Act.put, List.getElem_toArray, List.getElem_cons_zero, List.getElem_cons_succ, List.setIfInBounds_toArray, List.set_cons_zero, List.set_cons_succ]
  refine wpAnyH_take (i := 5) (v := ?v5x6) rfl (by kernel_rfl) (by kernel_rfl) (by kernel_rfl) (fun _ _ _ h => h) (Or.inl ⟨by rfl, ?hy5x6⟩) (by assumption) ?rest5x6
  case hy5x6 => (intro w hSw; (try dsimp only at hSw); (first | (go_simp; with_reducible rfl) | go_simp))
  try simp only [Act.put, List.getElem_toArray, List.getElem_cons_zero, List.getElem_cons_succ, List.setIfInBounds_toArray, List.set_cons_zero, List.set_cons_succ]
  refine wpAnyH_take (i := 6) (v := ?v6x7) rfl (by kernel_rfl) (by kernel_rfl) (by kernel_rfl) (fun _ _ _ h => h) (Or.inl ⟨by rfl, ?hy6x7⟩) (by assumption) ?rest6x7
  case hy6x7 => (intro w hSw; (try dsimp only at hSw); (first | (go_simp; with_reducible rfl) | go_simp))
  try simp only [Act.put, List.getElem_toArray, List.getElem_cons_zero, List.getElem_cons_succ, List.setIfInBounds_toArray, List.set_cons_zero, List.set_cons_succ]
  refine wpAnyH_take (i := 7) (v := ?v7x8) rfl (by kernel_rfl) (by kernel_rfl) (by kernel_rfl) (fun _ _ _ h => h) (Or.inl ⟨by rfl, ?hy7x8⟩) (by assumption) ?rest7x8
  case hy7x8 => (intro w hSw; (try dsimp only at hSw); (first | (go_simp; with_reducible rfl) | go_simp))
  try simp only [Act.put, List.getElem_toArray, List.getElem_cons_zero, List.getElem_cons_succ, List.setIfInBounds_toArray, List.set_cons_zero, List.set_cons_succ]
  refine wpAnyH_take (i := 8) (v := ?v8x9) rfl (by kernel_rfl) (by kernel_rfl) (by kernel_rfl) (fun _ _ _ h => h) (Or.inl ⟨by rfl, ?hy8x9⟩) (by assumption) ?rest8x9
  case hy8x9 => (intro w hSw; (try dsimp only at hSw); (first | (go_simp; with_reducible rfl) | go_simp))
  try simp only [Act.put, List.getElem_toArray, List.getElem_cons_zero, List.getElem_cons_succ, List.setIfInBounds_toArray, List.set_cons_zero, List.set_cons_succ]
  refine wpAnyH_take (i := 9) (v := ?v9x10) rfl (by kernel_rfl) (by kernel_rfl) (by kernel_rfl) (fun _ _ _ h => h) (Or.inl ⟨by rfl, ?hy9x10⟩) (by assumption) ?rest9x10
  case hy9x10 => (intro w hSw; (try dsimp only at hSw); (first | (go_simp; with_reducible rfl) | go_simp))
  try simp only [Act.put, List.getElem_toArray, List.getElem_cons_zero, List.getElem_cons_succ, List.setIfInBounds_toArray, List.set_cons_zero, List.set_cons_succ]
  refine wpAnyH_take (i := 10) (v := ?v10x11) rfl (by kernel_rfl) (by kernel_rfl) (by kernel_rfl) (fun _ _ _ h => h) (Or.inl ⟨by rfl, ?hy10x11⟩) (by assumption) ?rest10x11
  case hy10x11 => (intro w hSw; (try dsimp only at hSw); (first | (go_simp; with_reducible rfl) | go_simp))
  try simp only [Act.put, List.getElem_toArray, List.getElem_cons_zero, List.getElem_cons_succ, List.setIfInBounds_toArray, List.set_cons_zero, List.set_cons_succ]
  refine wpAnyH_take (i := 11) (v := ?v11x12) rfl (by kernel_rfl) (by kernel_rfl) (by kernel_rfl) (fun _ _ _ h => h) (Or.inl ⟨by rfl, ?hy11x12⟩) (by assumption) ?rest11x12
  case hy11x12 => (intro w hSw; (try dsimp only at hSw); (first | (go_simp; with_reducible rfl) | go_simp))
  try simp only [Act.put, List.getElem_toArray, List.getElem_cons_zero, List.getElem_cons_succ, List.setIfInBounds_toArray, List.set_cons_zero, List.set_cons_succ]
  refine wpAnyH_take (i := 12) (v := ?v12x13) rfl (by kernel_rfl) (by kernel_rfl) (by kernel_rfl) (fun _ _ _ h => h) (Or.inl ⟨by rfl, ?hy12x13⟩) (by assumption) ?rest12x13
  case hy12x13 => (intro w hSw; (try dsimp only at hSw); (first | (go_simp; with_reducible rfl) | go_simp))
  try simp only [Act.put, List.getElem_toArray, List.getElem_cons_zero, List.getElem_cons_succ, List.setIfInBounds_toArray, List.set_cons_zero, List.set_cons_succ]
  refine wpAnyH_take (i := 13) (v := ?v13x14) rfl (by kernel_rfl) (by kernel_rfl) (by kernel_rfl) (fun _ _ _ h => h) (Or.inl ⟨by rfl, ?hy13x14⟩) (by assumption) ?rest13x14
  case hy13x14 => (intro w hSw; (try dsimp only at hSw); (first | (go_simp; with_reducible rfl) | go_simp))
  try simp only [Act.put, List.getElem_toArray, List.getElem_cons_zero, List.getElem_cons_succ, List.setIfInBounds_toArray, List.set_cons_zero, List.set_cons_succ]
  refine wpAnyH_take (i := 14) (v := ?v14x15) rfl (by kernel_rfl) (by kernel_rfl) (by kernel_rfl) (fun _ _ _ h => h) (Or.inl ⟨by rfl, ?hy14x15⟩) (by assumption) ?rest14x15
  case hy14x15 => (intro w hSw; (try dsimp only at hSw); (first | (go_simp; with_reducible rfl) | go_simp))
  try simp only [Act.put, List.getElem_toArray, List.getElem_cons_zero, List.getElem_cons_succ, List.setIfInBounds_toArray, List.set_cons_zero, List.set_cons_succ]
  refine wpAnyH_take (i := 15) (v := ?v15x16) rfl (by kernel_rfl) (by kernel_rfl) (by kernel_rfl) (fun _ _ _ h => h) (Or.inl ⟨by rfl, ?hy15x16⟩) (by assumption) ?rest15x16
  case hy15x16 => (intro w hSw; (try dsimp only at hSw); (first | (go_simp; with_reducible rfl) | go_simp))
  try simp only [Act.put, List.getElem_toArray, List.getElem_cons_zero, List.getElem_cons_succ, List.setIfInBounds_toArray, List.set_cons_zero, List.set_cons_succ]
  refine wpAnyH_ready (rs := [16]) (by kernel_rfl) (by simp) ?_
  refine AllReadyH.cons rfl (fun K' hK => ?_) AllReadyH.nil
  refine step_append_src (by rfl) (.tmp 27) (.tmp 42) 22 22 (by rfl) i0 Try.underlying22 hi hz0 hz1 hz2 (.slice none 0 0) [] (by rfl) (Own.nil _) (.slice (if c = o then a else Option.map (fun x => x.add o) a) k (c - o)) k ((zs.drop o).take k) (by rfl) HSr.out (by simp; omega) ?_
  intro v' w2 hown hg hf
  obtain ⟨a2, n2, c2', rfl, hn2⟩ := hown.shape2
  rw [List.nil_append] at hown hn2
  have HN2 := hide hn2.out
  have HOw := hide hown
  have HB2 : Hid (Below w.heap.size w w2) := (HB1.out.drew).grown hg (by have := HB1.out.size; exact this) (fun j hj => by simp [Value.ownBlock] at hj)
  have HF2 : Hid (∀ j, (Value.slice a2 n2 c2').ownBlock = some j → w.heap.size ≤ j) := hide fun j hj => by
    rcases hf j hj with h | h
    · simp [Value.ownBlock] at h
    · have := HB1.out.size
      exact Nat.le_trans this h
  have h3 := HSt.out w2 HB2.out
  refine hK.out _ _ (by exact ⟨h3.1, h3.2.1⟩) (fun _hS => ?_)
  clear hK K' hown hg hf hn2
  try simp only [Act.put, List.getElem_toArray, List.getElem_cons_zero, List.getElem_cons_succ, List.setIfInBounds_toArray, List.set_cons_zero, List.set_cons_succ]
  refine wpAnyH_take (i := 17) (v := ?v17x17) rfl (by kernel_rfl) (by kernel_rfl) (by kernel_rfl) (fun _ _ _ h => h) (Or.inl ⟨by rfl, ?hy17x17⟩) (by assumption) ?rest17x17
  case hy17x17 => (intro w hSw; (try dsimp only at hSw); (first | (go_simp; with_reducible rfl) | go_simp))
  try simp only [Act.put, List.getElem_toArray, List.getElem_cons_zero, List.getElem_cons_succ, List.setIfInBounds_toArray, List.set_cons_zero, List.set_cons_succ]
  refine wpAnyH_done (by kernel_rfl) ?_ _
  refine NoPanic.normal ?_
  clear c0 c1 c2 _hS h3
  obtain ⟨c0, c1, c2⟩ := HSt.out w2 HB2.out
  have f1 := frozen_blk (j := 1) ((HB2.out.block _ (lt_of_block HD.out.blk)).trans HD.out.blk)
  clear HSr
  generalize (if c = o then a else Option.map (fun x => x.add o) a) = sl
  go_wp2
  go_ret
  have hd := (HD.out.on HB2.out).go E
  have hbk : ∀ j, (Value.slice a2 n2 c2').ownBlock = some j → (w2.setCell ⟨p, 1, none⟩ (.int .i64 (E : Int))).heap[j]? = w2.heap[j]? := fun j hj => Below.heap_setCell _ _ _ _ (fun e => by
    have h1 := HF2.out j hj
    have h2 := lt_of_block HD.out.blk
    have h3 : j = p := e
    omega)
  have ho2 := HOw.out.of_block hbk
  have hn2 := HN2.out
  subst hn2
  have hf := HF.out
  rw [← HE.out] at hf
  exact ⟨a2, c2', _, E, false, rfl, hf, ho2, HF2.out, hd, grown_trans (grown_below HB2.out) (grown_setCell _ _ _ _)⟩
theorem rbytes_any (W0 w : World) (p : Nat) (a : Option Addr) (n c o k : Nat) (b : Bool) (zs : List Int) (h : Dr W0 w p a n c o b) (hin : Inn W0 a n c zs) (hn : n ≤ 100000) (ho : o ≤ n) (hk : k ≤ 100000) :
    Calls Try.prog 20 #[.pointer (some ⟨p, 0, none⟩), .int .i64 (k : Int)] w fun e w' => BytO W0 w p a n c o b zs k e w' := by
  by_cases hb : b = true ∨ n < o + k
  · exact rbytes_bad W0 w p a n c o k b zs h hn (by omega) (by omega) hin.len hb
  · have hf : b = false := by cases b; rfl; exact absurd (.inl rfl) hb
    subst hf
    exact rbytes_ok W0 w p a n c o k zs h hin hn (by
      have : ¬ n < o + k := fun h => hb (.inr h)
      omega)
end Go.Proofs.Ytjojpohnmfkanaa
