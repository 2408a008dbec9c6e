/- The document's own: a node as bytes. -/
import Derived.Test.YtfpojfohlmhklaaZE
import Derived.Test.YtfpojfohlmhklaaX
namespace Go.Proofs.Ytfpojfohlmhklaa
open Go.RowKit
set_option linter.unusedVariables false

/-- bytes under way beside an entry's own cells at p: nothing below B has turned. -/
structure Bs (B p : Nat) (cs : Array Value) (w0 W : World) (v : Value) (zs : List Int) : Prop where
  own : Own W v zs
  blk : ∀ b, v.ownBlock = some b → B ≤ b ∧ b ≠ p
  bel : Below B w0 W
  box : W.heap[p]? = some (.cells cs 67 (0, 0))
theorem Bs.next {B p : Nat} {cs : Array Value} {w0 W W' : World} {v v' : Value} {zs ys : List Int} (h : Bs B p cs w0 W v zs) (hB : B ≤ W.heap.size) (hg : W.grownBy W' v.ownBlock) (ho : Own W' v' ys) (hf : ∀ b, v'.ownBlock = some b → v.ownBlock = some b ∨ W.heap.size ≤ b) : Bs B p cs w0 W' v' ys :=
  ⟨ho, fun b hb => (hf b hb).elim (h.blk b) (fun g => ⟨by omega, by have := lt_of_block h.box; omega⟩), h.bel.grown hg hB (fun k hk => (h.blk k hk).1), (hg.block p (lt_of_block h.box) (fun e => (h.blk p e.symm).2 rfl)).trans h.box⟩
theorem Bs.alloc {B p : Nat} {cs : Array Value} {w0 W : World} {v : Value} {zs : List Int} (h : Bs B p cs w0 W v zs) (hB : B ≤ W.heap.size) (o : Obj) : Bs B p cs w0 (W.alloc o) v zs :=
  ⟨h.own.alloc o, h.blk, h.bel.alloc hB o, (Below.heap_alloc W o p (lt_of_block h.box)).trans h.box⟩
theorem src_one2 (w : World) (o : Obj) (x : Int) : Src Try.prog 1 27 (.slice (some ⟨w.heap.size + 1, 0, none⟩) 1 1) 1 ([x].map (Value.int .u8)) ((w.alloc o).alloc (.cells #[.int .u8 x] 5)) := by
  have := src_one (w.alloc o) x
  simpa using this
set_option maxHeartbeats 800000 in
set_option maxRecDepth 1000000 in
theorem rencode_no (leaf : Bool) (a : Option Addr) (n c : Nat) (xs : List En) (w : World) (h : Ens w a n c xs) (hn : n ≤ 1000000) (hw : wts (ers xs) ≤ 1000000) (hc : chk leaf (ers xs) ≠ 0) :
    Calls Try.prog 11 #[.agg #[.bool leaf, .slice a n c]] w fun e w' => e = .returned (.tuple #[.slice none 0 0, .int .u16 ((chk leaf (ers xs) : Nat) : Int)]) ∧ Below w.heap.size w w' := by
  have hb0 := heap_alloc_new w (.cells #[.bool leaf, .slice a n c] 24)
  obtain ⟨n0, n1, -⟩ := cells_two hb0
  have HB0 := hide (below_alloc w (.cells #[.bool leaf, .slice a n c] 24))
  have HC := hide (rcheck_any leaf a n c xs _ (h.below HB0.out) hn hw)
  have hcc : (((chk leaf (ers xs) : Nat) : Int) != 0) = true := by simp; omega
  clear h hc hb0
  generalize chk leaf (ers xs) = C at *
  go_enter Try.func11, Try.ntmps11
  go_wp2_with (go_at_call 14; refine HC.out.mono ?_; rintro e w2 ⟨rfl, hb2⟩)
  go_ret2
  exact ⟨rfl, HB0.out.trans (hb2.mono HB0.out.size)⟩
set_option maxHeartbeats 3200000 in
set_option maxRecDepth 1000000 in
theorem rencode_ok (leaf : Bool) (a : Option Addr) (n c : Nat) (xs : List En) (w : World) (h : Ens w a n c xs) (hc : chk leaf (ers xs) = 0) (hw : wts (ers xs) ≤ 1000000) :
    Calls Try.prog 11 #[.agg #[.bool leaf, .slice a n c]] w fun e w' => ∃ v, e = .returned (.tuple #[v, .int .u16 0]) ∧ Made w v (nenc leaf (ers xs)) w' := by
  obtain ⟨i0, hi, hz0, hz1, hz2⟩ := info_parts Try.info5
  obtain ⟨hmy, hsz⟩ := chk_zero hc
  have hn : n ≤ 504 := by have := len_le_esum leaf (ers xs); rw [ers_len, h.len] at this; unfold nsz at hsz; omega
  have hb0 := heap_alloc_new w (.cells #[.bool leaf, .slice a n c] 24)
  obtain ⟨n0, n1, -⟩ := cells_two hb0
  have HB0 := hide (below_alloc w (.cells #[.bool leaf, .slice a n c] 24))
  have HBk := hide hb0
  have HE := hide (h.below HB0.out)
  have HC := hide (rcheck_any leaf a n c xs _ HE.out (by omega) hw)
  rw [hc] at HC
  have HMy := hide hmy
  have HSz := hide hsz
  clear h hb0 hmy hsz hc
  go_enter Try.func11, Try.ntmps11
  go_wp2_with (first | (go_at_call 14; refine HC.out.mono ?_; rintro e w2 ⟨rfl, hb2⟩; have HB2 := hide hb2; have m1 := cstays hb2 n1; clear hb2) | (go_at_call 26; refine (rput_any (.slice none 0 0) [] n 2 w2 (Own.nil _) (by omega) (by omega) (by simp)).mono ?_; rintro e w3 ⟨v3, rfl, ho3, hg3, hf3⟩; have HO3 := hide ho3; have HG3 := hide hg3; have HF3 := hide hf3; clear ho3 hg3 hf3))
  have HM0 : Hid (w2.cell? ⟨w.heap.size, 0, none⟩ = some (.bool leaf)) := hide (cstays HB2.out n0)
  have HM1 := hide m1
  have HBx := hide (HB0.out.trans (HB2.out.mono HB0.out.size))
  have HE2 := hide (HE.out.below HB2.out)
  clear n0 n1 m1
  go_loopw [5, 6] (fun b i wr => ∃ (k : Nat) (v : Value), k ≤ n ∧ i = .int .i64 (k : Int) ∧ b = v ∧ Own wr v (Crc.le 2 n ++ encs leaf (ers (xs.take k))) ∧ (∀ b, v.ownBlock = some b → w2.heap.size ≤ b) ∧ Below w2.heap.size w2 wr) (fun _ i _ => n - (intOf i).toNat)
  case atStart =>
    refine ⟨0, v3, Nat.zero_le _, rfl, rfl, by simpa [ers, encs] using HO3.out, fun b hb => ?_, (Below.refl _ _).grown HG3.out (Nat.le_refl _) (fun k hk => by cases hk)⟩
    rcases HF3.out b hb with h | h
    · cases h
    · exact h
  case round =>
    obtain ⟨k, v, hk, rfl, rfl, ho, hf, hbl⟩ := hrel
    obtain ⟨a1, l1, c1, rfl, -⟩ := ho.shape2
    have HO := hide ho
    have HF := hide hf
    have HBl := hide hbl
    have g1 := cstays hbl HM1.out
    clear ho hf
    by_cases hlt : k < n
    · obtain ⟨x, hx, -⟩ := (HE2.out.below hbl).at hlt
      obtain ⟨b, off, rfl, hbs, c0', c1', c2', c3'⟩ := (HE2.out.below hbl).cells hx
      have hmem := List.mem_of_getElem? hx
      obtain ⟨q1, q2, q3⟩ := mayB_mem HMy.out x.e (List.mem_map.2 ⟨x, hmem, rfl⟩)
      have HOk : Hid (∀ W, Below w2.heap.size w2 W → x.Ok W) := hide fun W hW => (HE2.out.below hW).each x hmem
      have HSn : Hid (Crc.le 2 n ++ encs leaf (ers (xs.take (k + 1))) = (Crc.le 2 n ++ encs leaf (ers (xs.take k))) ++ x.e.enc leaf) := by rw [Hid, encs_snoc leaf xs k x hx, List.append_assoc]
      have hZl : (Crc.le 2 n ++ encs leaf (ers (xs.take k))).length ≤ 1008 := by rw [List.length_append, Crc.le_length, encs_length]; have h1 := esum_take_le leaf xs k; have h2 := HSz.out; unfold nsz at h2; omega
      have HBs : Hid (Bs w2.heap.size wr.heap.size #[.slice x.ka x.e.key.length x.kc, .slice x.va x.e.val.length x.vc, .int .u32 (x.e.page : Int), .int .u32 (x.e.size : Int)] w2 (wr.alloc (.cells #[.slice x.ka x.e.key.length x.kc, .slice x.va x.e.val.length x.vc, .int .u32 (x.e.page : Int), .int .u32 (x.e.size : Int)] 67)) (.slice a1 l1 c1) (Crc.le 2 n ++ encs leaf (ers (xs.take k)))) :=
        hide ⟨HO.out.alloc _, fun b hb => ⟨HF.out b hb, by have := HO.out.lt hb; omega⟩, hbl.alloc hbl.size _, heap_alloc_new _ _⟩
      have hszl : w2.heap.size ≤ wr.heap.size := hbl.size
      obtain ⟨e0, e1, e2, e3⟩ := box4 wr (.slice x.ka x.e.key.length x.kc) (.slice x.va x.e.val.length x.vc) (.int .u32 (x.e.page : Int)) (.int .u32 (x.e.size : Int)) 67
      have q0 := cstays HBs.out.bel HM0.out
      have hpg := (HOk.out w2 (Below.refl _ _)).page
      have hsx := (HOk.out w2 (Below.refl _ _)).size
      have HQ2 := hide q2
      have HQ3 := hide q3
      clear hx hmem hbl q2 q3
      generalize Crc.le 2 n ++ encs leaf (ers (xs.take k)) = Z at *
      have M1 := hide trivial
      cases leaf with
      | false =>
        go_wp2_with (first | (at_builtin; have hmk := M1; clear hmk M1; refine wpList_append_src (by rfl) (.tmp 30) (.tmp 35) 27 27 (by rfl) i0 Try.underlying27 hi hz0 hz1 hz2 _ _ (by rfl) (HBs.out.own.alloc _) _ 1 [_] (by rfl) (src_one2 _ _ _) (by simp; omega) ?_; intro v2 W2 ho1 hg1 hf1; obtain ⟨a2, l2, c2, rfl, -⟩ := ho1.shape2; have HBn := hide (Bs.next (HBs.out.alloc HBs.out.bel.size _) (Bs.bel (HBs.out.alloc HBs.out.bel.size _)).size hg1 ho1 hf1); clear HBs ho1 hg1 hf1 e0 e1 e2 e3 q0; have HBs := HBn; clear HBn; obtain ⟨e0, e1, e2, e3, -⟩ := cells_four HBs.out.box; have q0 := cstays HBs.out.bel HM0.out; have M2 := hide trivial) | (at_builtin; have hmk := M2; clear hmk M2; have HIn := (HOk.out _ HBs.out.bel).key; refine wpList_append_src (by rfl) (.tmp 37) (.tmp 39) 27 27 (by rfl) i0 Try.underlying27 hi hz0 hz1 hz2 _ _ (by rfl) HBs.out.own (.slice x.ka x.e.key.length x.kc) x.e.key.length x.e.key (by rfl) (src_row _ x.ka x.e.key.length x.kc x.e.key rfl HIn.bare HIn.row) (by simp; omega) ?_; intro v2 W2 ho1 hg1 hf1; clear HIn; obtain ⟨a2, l2, c2, rfl, -⟩ := ho1.shape2; have HBn := hide (Bs.next HBs.out (Bs.bel HBs.out).size hg1 ho1 hf1); clear HBs ho1 hg1 hf1 e0 e1 e2 e3 q0; have HBs := HBn; clear HBn; obtain ⟨e0, e1, e2, e3, -⟩ := cells_four HBs.out.box; have q0 := cstays HBs.out.bel HM0.out; have M3 := hide trivial) | (go_at_call 26; have hmk := M3; clear hmk M3; refine (rput_any _ _ x.e.page 4 _ HBs.out.own (by omega) (by omega) (by simp; omega)).mono ?_; rintro e W2 ⟨v2, rfl, ho1, hg1, hf1⟩; obtain ⟨a2, l2, c2, rfl, -⟩ := ho1.shape2; have HBn := hide (Bs.next HBs.out (Bs.bel HBs.out).size hg1 ho1 hf1); clear HBs ho1 hg1 hf1 e0 e1 e2 e3 q0; have HBs := HBn; clear HBn; obtain ⟨e0, e1, e2, e3, -⟩ := cells_four HBs.out.box; have q0 := cstays HBs.out.bel HM0.out; have M4 := hide trivial))
        go_roundw
        case rel =>
          refine ⟨k + 1, _, by omega, by go_num, rfl, ?_, fun b hb => (HBs.out.blk b hb).1, HBs.out.bel⟩
          rw [HSn.out]
          have := HBs.out.own
          simp only [Ee.enc]
          simpa using this
        case measure => simp [intOf]; omega
      | true =>
        by_cases hp : x.e.page = 0
        · have hpb : ((x.e.page : Int) == 0) = true := by simp [hp]
          have hv64 : x.e.val.length < 256 := valOk_short (HQ2.out rfl) hp
          have HPg := hide hp
          clear hp
          go_wp2_with (first | (at_builtin; have hmk := M1; clear hmk M1; refine wpList_append_src (by rfl) (.tmp 30) (.tmp 35) 27 27 (by rfl) i0 Try.underlying27 hi hz0 hz1 hz2 _ _ (by rfl) (HBs.out.own.alloc _) _ 1 [_] (by rfl) (src_one2 _ _ _) (by simp; omega) ?_; intro v2 W2 ho1 hg1 hf1; obtain ⟨a2, l2, c2, rfl, -⟩ := ho1.shape2; have HBn := hide (Bs.next (HBs.out.alloc HBs.out.bel.size _) (Bs.bel (HBs.out.alloc HBs.out.bel.size _)).size hg1 ho1 hf1); clear HBs ho1 hg1 hf1 e0 e1 e2 e3 q0; have HBs := HBn; clear HBn; obtain ⟨e0, e1, e2, e3, -⟩ := cells_four HBs.out.box; have q0 := cstays HBs.out.bel HM0.out; have M2 := hide trivial) | (at_builtin; have hmk := M2; clear hmk M2; have HIn := (HOk.out _ HBs.out.bel).key; refine wpList_append_src (by rfl) (.tmp 37) (.tmp 39) 27 27 (by rfl) i0 Try.underlying27 hi hz0 hz1 hz2 _ _ (by rfl) HBs.out.own (.slice x.ka x.e.key.length x.kc) x.e.key.length x.e.key (by rfl) (src_row _ x.ka x.e.key.length x.kc x.e.key rfl HIn.bare HIn.row) (by simp; omega) ?_; intro v2 W2 ho1 hg1 hf1; clear HIn; obtain ⟨a2, l2, c2, rfl, -⟩ := ho1.shape2; have HBn := hide (Bs.next HBs.out (Bs.bel HBs.out).size hg1 ho1 hf1); clear HBs ho1 hg1 hf1 e0 e1 e2 e3 q0; have HBs := HBn; clear HBn; obtain ⟨e0, e1, e2, e3, -⟩ := cells_four HBs.out.box; have q0 := cstays HBs.out.bel HM0.out; have M3 := hide trivial) | (at_builtin; have hmk := M3; clear hmk M3; refine wpList_append_src (by rfl) (.tmp 67) (.tmp 72) 27 27 (by rfl) i0 Try.underlying27 hi hz0 hz1 hz2 _ _ (by rfl) (HBs.out.own.alloc _) _ 1 [_] (by rfl) (src_one _ _) (by simp; omega) ?_; intro v2 W2 ho1 hg1 hf1; obtain ⟨a2, l2, c2, rfl, -⟩ := ho1.shape2; have HBn := hide (Bs.next (HBs.out.alloc HBs.out.bel.size _) (Bs.bel (HBs.out.alloc HBs.out.bel.size _)).size hg1 ho1 hf1); clear HBs ho1 hg1 hf1 e0 e1 e2 e3 q0; have HBs := HBn; clear HBn; obtain ⟨e0, e1, e2, e3, -⟩ := cells_four HBs.out.box; have q0 := cstays HBs.out.bel HM0.out; have M4 := hide trivial) | (at_builtin; have hmk := M4; clear hmk M4; have HIn := (HOk.out _ HBs.out.bel).val; refine wpList_append_src (by rfl) (.tmp 74) (.tmp 76) 27 27 (by rfl) i0 Try.underlying27 hi hz0 hz1 hz2 _ _ (by rfl) HBs.out.own (.slice x.va x.e.val.length x.vc) x.e.val.length x.e.val (by rfl) (src_row _ x.va x.e.val.length x.vc x.e.val rfl HIn.bare HIn.row) (by simp; omega) ?_; intro v2 W2 ho1 hg1 hf1; clear HIn; obtain ⟨a2, l2, c2, rfl, -⟩ := ho1.shape2; have HBn := hide (Bs.next HBs.out (Bs.bel HBs.out).size hg1 ho1 hf1); clear HBs ho1 hg1 hf1 e0 e1 e2 e3 q0; have HBs := HBn; clear HBn; obtain ⟨e0, e1, e2, e3, -⟩ := cells_four HBs.out.box; have q0 := cstays HBs.out.bel HM0.out; have M5 := hide trivial))
          go_roundw
          case rel =>
            refine ⟨k + 1, _, by omega, by go_num, rfl, ?_, fun b hb => (HBs.out.blk b hb).1, HBs.out.bel⟩
            rw [HSn.out]
            have := HBs.out.own
            simp only [Ee.enc, HPg.out, if_true]
            simpa using this
          case measure => simp [intOf]; omega
        · have hpb : ((x.e.page : Int) == 0) = false := by simp; omega
          have HPg := hide hp
          clear hp
          go_wp2_with (first | (at_builtin; have hmk := M1; clear hmk M1; refine wpList_append_src (by rfl) (.tmp 30) (.tmp 35) 27 27 (by rfl) i0 Try.underlying27 hi hz0 hz1 hz2 _ _ (by rfl) (HBs.out.own.alloc _) _ 1 [_] (by rfl) (src_one2 _ _ _) (by simp; omega) ?_; intro v2 W2 ho1 hg1 hf1; obtain ⟨a2, l2, c2, rfl, -⟩ := ho1.shape2; have HBn := hide (Bs.next (HBs.out.alloc HBs.out.bel.size _) (Bs.bel (HBs.out.alloc HBs.out.bel.size _)).size hg1 ho1 hf1); clear HBs ho1 hg1 hf1 e0 e1 e2 e3 q0; have HBs := HBn; clear HBn; obtain ⟨e0, e1, e2, e3, -⟩ := cells_four HBs.out.box; have q0 := cstays HBs.out.bel HM0.out; have M2 := hide trivial) | (at_builtin; have hmk := M2; clear hmk M2; have HIn := (HOk.out _ HBs.out.bel).key; refine wpList_append_src (by rfl) (.tmp 37) (.tmp 39) 27 27 (by rfl) i0 Try.underlying27 hi hz0 hz1 hz2 _ _ (by rfl) HBs.out.own (.slice x.ka x.e.key.length x.kc) x.e.key.length x.e.key (by rfl) (src_row _ x.ka x.e.key.length x.kc x.e.key rfl HIn.bare HIn.row) (by simp; omega) ?_; intro v2 W2 ho1 hg1 hf1; clear HIn; obtain ⟨a2, l2, c2, rfl, -⟩ := ho1.shape2; have HBn := hide (Bs.next HBs.out (Bs.bel HBs.out).size hg1 ho1 hf1); clear HBs ho1 hg1 hf1 e0 e1 e2 e3 q0; have HBs := HBn; clear HBn; obtain ⟨e0, e1, e2, e3, -⟩ := cells_four HBs.out.box; have q0 := cstays HBs.out.bel HM0.out; have M3 := hide trivial) | (at_builtin; have hmk := M3; clear hmk M3; refine wpList_append_src (by rfl) (.tmp 41) (.tmp 42) 27 27 (by rfl) i0 Try.underlying27 hi hz0 hz1 hz2 _ _ (by rfl) (HBs.out.own.alloc _) _ 1 [_] (by rfl) (src_one _ _) (by simp; omega) ?_; intro v2 W2 ho1 hg1 hf1; obtain ⟨a2, l2, c2, rfl, -⟩ := ho1.shape2; have HBn := hide (Bs.next (HBs.out.alloc HBs.out.bel.size _) (Bs.bel (HBs.out.alloc HBs.out.bel.size _)).size hg1 ho1 hf1); clear HBs ho1 hg1 hf1 e0 e1 e2 e3 q0; have HBs := HBn; clear HBn; obtain ⟨e0, e1, e2, e3, -⟩ := cells_four HBs.out.box; have q0 := cstays HBs.out.bel HM0.out; have M4 := hide trivial) | (go_at_call 26; have hmk := M4; clear hmk M4; refine (rput_any _ _ x.e.size 4 _ HBs.out.own (by omega) (by omega) (by simp; omega)).mono ?_; rintro e W2 ⟨v2, rfl, ho1, hg1, hf1⟩; obtain ⟨a2, l2, c2, rfl, -⟩ := ho1.shape2; have HBn := hide (Bs.next HBs.out (Bs.bel HBs.out).size hg1 ho1 hf1); clear HBs ho1 hg1 hf1 e0 e1 e2 e3 q0; have HBs := HBn; clear HBn; obtain ⟨e0, e1, e2, e3, -⟩ := cells_four HBs.out.box; have q0 := cstays HBs.out.bel HM0.out; have M5 := hide trivial) | (go_at_call 26; have hmk := M5; clear hmk M5; refine (rput_any _ _ x.e.page 4 _ HBs.out.own (by omega) (by omega) (by simp [Crc.le_length]; omega)).mono ?_; rintro e W2 ⟨v2, rfl, ho1, hg1, hf1⟩; obtain ⟨a2, l2, c2, rfl, -⟩ := ho1.shape2; have HBn := hide (Bs.next HBs.out (Bs.bel HBs.out).size hg1 ho1 hf1); clear HBs ho1 hg1 hf1 e0 e1 e2 e3 q0; have HBs := HBn; clear HBn; obtain ⟨e0, e1, e2, e3, -⟩ := cells_four HBs.out.box; have q0 := cstays HBs.out.bel HM0.out; have M6 := hide trivial))
          go_roundw
          case rel =>
            refine ⟨k + 1, _, by omega, by go_num, rfl, ?_, fun b hb => (HBs.out.blk b hb).1, HBs.out.bel⟩
            rw [HSn.out]
            have := HBs.out.own
            simp only [Ee.enc, if_neg HPg.out, if_true]
            simpa using this
          case measure => simp [intOf]; omega
    · have HF2 : Hid (xs.take k = xs) := hide (List.take_of_length_le (by rw [HE2.out.len]; omega))
      have HLn := hide HE2.out.len
      go_wp2
      go_ret2
      refine ⟨_, rfl, ?_, fun b hb => Nat.le_trans HBx.out.size (HF.out b hb), HBx.out.trans (HBl.out.mono HBx.out.size)⟩
      have := HO.out
      rw [HF2.out] at this
      unfold nenc
      rw [ers_len, HLn.out]
      exact this
end Go.Proofs.Ytfpojfohlmhklaa
