/- The document's own: whether a node may be a page; a number in so many bytes. -/
import Derived.Test.YtjojpohnmfkanaaZD
import Derived.Test.YtjojpohnmfkanaaW
import Derived.Test.YtjojpohnmfkanaaX
namespace Go.Proofs.Ytjojpohnmfkanaa
open Go.RowKit
set_option linter.unusedVariables false

set_option maxHeartbeats 800000 in
set_option maxRecDepth 1000000 in
theorem rmay_none (leaf : Bool) (a : Option Addr) (c : Nat) (w : World) :
    Calls Try.prog 74 #[.agg #[.bool leaf, .slice a 0 c]] w fun e w' => e = .returned (.bool (mayB leaf [])) ∧ Below w.heap.size w w' := by
  obtain ⟨n0, n1, -⟩ := cells_two (heap_alloc_new w (.cells #[.bool leaf, .slice a 0 c] 25))
  go_enter Try.func74, Try.ntmps74
  go_wp2
  go_ret
  exact ⟨rfl, below_alloc _ _⟩
theorem rmay_all (leaf : Bool) (a : Option Addr) (n c : Nat) (xs : List En) (w : World) (h : Ens w a n c xs) (hn : n ≤ 1000000) :
    Calls Try.prog 74 #[.agg #[.bool leaf, .slice a n c]] w fun e w' => e = .returned (.bool (mayB leaf (ers xs))) ∧ Below w.heap.size w w' := by
  cases xs with
  | nil =>
    have hl := h.len
    simp at hl
    subst hl
    exact rmay_none leaf a c w
  | cons x xs => exact rmay_any leaf a n c (x :: xs) w h hn (by have := h.len; simp at this; omega)
set_option maxHeartbeats 1600000 in
set_option maxRecDepth 1000000 in
theorem rcheck_any (leaf : Bool) (a : Option Addr) (n c : Nat) (xs : List En) (w : World) (h : Ens w a n c xs) (hn : n ≤ 1000000) (hw : wts (ers xs) ≤ 1000000) :
    Calls Try.prog 59 #[.agg #[.bool leaf, .slice a n c]] w fun e w' => e = .returned (.int .u16 ((chk leaf (ers xs) : Nat) : Int)) ∧ Below w.heap.size w w' := by
  have hb := heap_alloc_new w (.cells #[.bool leaf, .slice a n c] 25)
  obtain ⟨n0, n1, -⟩ := cells_two hb
  have hB0 := below_alloc w (.cells #[.bool leaf, .slice a n c] 25)
  have HB0 := hide hB0
  have HE := hide (h.below hB0)
  have HB := hide hb
  have HM := hide (rmay_all leaf a n c xs _ HE.out hn)
  have HS := hide (fun (W : World) (e : Ens W a n c xs) => rsize_any leaf a n c xs W e hn hw)
  have HD : Hid (chk leaf (ers xs) = if mayB leaf (ers xs) then (if nsz leaf (ers xs) ≤ 1008 then 0 else 91) else 90) := hide rfl
  have hz : nsz leaf (ers xs) ≤ 11000002 := by have := esum_le leaf (ers xs); rw [ers_len, h.len] at this; unfold nsz; omega
  clear h hB0 hb
  generalize chk leaf (ers xs) = C at *
  generalize mayB leaf (ers xs) = M at *
  generalize nsz leaf (ers xs) = Z at *
  cases M with
  | false =>
    go_enter Try.func59, Try.ntmps59
    go_wp2_with (go_at_call 74; refine HM.out.mono ?_; rintro e w2 ⟨rfl, hb2⟩)
    go_ret
    exact ⟨by rw [HD.out]; rfl, HB0.out.trans (hb2.mono HB0.out.size)⟩
  | true =>
    go_enter Try.func59, Try.ntmps59
    go_wp2_with fail
    refine HM.out.mono ?_
    rintro e w2 ⟨rfl, hb2⟩
    have hbk := (hb2.block _ (lt_of_block HB.out)).trans HB.out
    obtain ⟨m0, m1, -⟩ := cells_two hbk
    have HE2 := hide (HE.out.below hb2)
    have HB2 := hide (HB0.out.trans (hb2.mono HB0.out.size))
    clear hb2 hbk HM
    by_cases hl : Z ≤ 1008
    · have d1 : ¬ (1008 : Int) < (Z : Int) := by omega
      have HL := hide hl
      clear hl
      go_wp2_with (go_at_call 75; refine (HS.out _ HE2.out).mono ?_; rintro e w3 ⟨rfl, hb3⟩)
      go_ret
      exact ⟨by rw [HD.out, if_pos trivial, if_pos HL.out]; rfl, HB2.out.trans (hb3.mono HB2.out.size)⟩
    · have d1 : (1008 : Int) < (Z : Int) := by omega
      have HL := hide hl
      clear hl
      go_wp2_with (go_at_call 75; refine (HS.out _ HE2.out).mono ?_; rintro e w3 ⟨rfl, hb3⟩)
      go_ret
      exact ⟨by rw [HD.out, if_pos trivial, if_neg HL.out]; rfl, HB2.out.trans (hb3.mono HB2.out.size)⟩

theorem le_snoc (j N : Nat) : Crc.le (j + 1) N = Crc.le j N ++ [((N / 256 ^ j % 256 : Nat) : Int)] := by
  induction j generalizing N with
  | zero => simp [Crc.le]
  | succ j ih =>
    rw [Crc.le, ih, Crc.le, Nat.div_div_eq_div_mul, Nat.pow_succ, Nat.mul_comm 256]
    rfl
theorem grown_next {a b c : World} {r r' : Option Nat} (h : a.grownBy b r) (k : b.grownBy c r') (hr : ∀ x, r' = some x → r = some x ∨ a.heap.size ≤ x) : a.grownBy c r :=
  ⟨k.os.trans h.os, k.tape.trans h.tape, k.output.trans h.output, Nat.le_trans h.size k.size, fun i hi hn => (k.block i (Nat.lt_of_lt_of_le hi h.size) (fun e => by rcases hr i e.symm with g | g; exact hn g.symm; omega)).trans (h.block i hi hn)⟩
set_option maxHeartbeats 1600000 in
set_option maxRecDepth 1000000 in
theorem rput_any (v : Value) (zs : List Int) (N k : Nat) (w : World) (hv : Own w v zs) (hN : N ≤ 18446744073709551615) (hk : k ≤ 8) (hl : zs.length ≤ 1000000) :
    Calls Try.prog 60 #[v, .int .u64 (N : Int), .int .i64 (k : Int)] w fun e w' => ∃ v', e = .returned v' ∧ Own w' v' (zs ++ Crc.le k N) ∧ w.grownBy w' v.ownBlock ∧ ∀ b, v'.ownBlock = some b → v.ownBlock = some b ∨ w.heap.size ≤ b := by
  obtain ⟨i0, hi, hz0, hz1, hz2⟩ := info_parts Try.info5
  have HV := hide hv
  have HL := hide hl
  clear hv hl
  go_enter Try.func60, Try.ntmps60
  go_wp2
  go_loopw [0, 1, 7] (fun b n i wr => ∃ (j : Nat) (v' : Value), j ≤ k ∧ i = .int .i64 (j : Int) ∧ n = .int .u64 ((N / 256 ^ j : Nat) : Int) ∧ b = v' ∧ Own wr v' (zs ++ Crc.le j N) ∧ w.grownBy wr v.ownBlock ∧ ∀ b, v'.ownBlock = some b → v.ownBlock = some b ∨ w.heap.size ≤ b) (fun _ _ i _ => k - (intOf i).toNat)
  case atStart => exact ⟨0, v, Nat.zero_le _, rfl, by simp, rfl, by simpa [Crc.le] using HV.out, ⟨rfl, rfl, rfl, Nat.le_refl _, fun _ _ _ => rfl⟩, fun b hb => .inl hb⟩
  case round =>
    obtain ⟨j, v', hj, rfl, rfl, rfl, ho, hg, hf⟩ := hrel
    have HG := hide hg
    have HF := hide hf
    have HO := hide ho
    have hM : N / 256 ^ j ≤ 18446744073709551615 := Nat.le_trans (Nat.div_le_self _ _) hN
    have HLe := hide (le_snoc j N)
    have HDv : Hid (N / 256 ^ (j + 1) = N / 256 ^ j / 256) := by rw [Hid, Nat.pow_succ, Nat.div_div_eq_div_mul]
    have HLl : Hid ((zs ++ Crc.le j N).length + 1 ≤ 140737488355328) := by rw [Hid, List.length_append, Crc.le_length]; have := HL.out; omega
    obtain ⟨a1, n1, c1, rfl, -⟩ := ho.shape2
    generalize hMM : N / 256 ^ j = M at *
    clear hg hf ho hMM
    by_cases hlt : j < k
    · go_wp2_with (at_builtin; refine wpList_append_src (by rfl) (.tmp 13) (.tmp 17) 22 22 (by rfl) i0 Try.underlying22 hi hz0 hz1 hz2 (.slice a1 n1 c1) (zs ++ Crc.le j N) (by rfl) (HO.out.alloc _) (.slice (some ⟨wr.heap.size, 0, none⟩) 1 1) 1 [(M : Int) % 256] (by rfl) (src_one wr _) HLl.out ?_; intro v2 w1 ho1 hg1 hf1; obtain ⟨a2, n2, c2, rfl, -⟩ := ho1.shape2; have HO1 := hide ho1; have HG1 := hide hg1; have HF1 := hide hf1; clear ho1 hg1 hf1)
      go_roundw
      case rel =>
        refine ⟨j + 1, _, by omega, by go_num, by rw [HDv.out]; simp, rfl, ?_, grown_next (grown_next HG.out (World.grownBy_alloc wr _ none) (fun x hx => by cases hx)) HG1.out HF.out, fun b hb => ?_⟩
        · have := HO1.out
          rw [HLe.out, ← List.append_assoc]
          simpa using this
        · rcases HF1.out b hb with h | h
          · exact HF.out b h
          · simp at h
            have := HG.out.size
            exact .inr (by omega)
      case measure => simp [intOf]; omega
    · have HJ : Hid (j = k) := hide (by omega)
      go_wp2
      go_ret
      refine ⟨_, rfl, ?_, HG.out, HF.out⟩
      have := HO.out
      rw [HJ.out] at this
      exact this
end Go.Proofs.Ytjojpohnmfkanaa
/- The document's own: a node as bytes. -/
namespace Go.Proofs.Ytjojpohnmfkanaa
open Go.RowKit
set_option linter.unusedVariables false

/-- bytes under way beside an entry's own cells at p: nothing below B has turned. -/
structure Bs (B p : Nat) (cs : Array Value) (w0 W : World) (v : Value) (zs : List Int) : Prop where
  own : Own W v zs
  blk : ∀ b, v.ownBlock = some b → B ≤ b ∧ b ≠ p
  bel : Below B w0 W
  box : W.heap[p]? = some (.cells cs 68 (0, 0))
theorem Bs.next {B p : Nat} {cs : Array Value} {w0 W W' : World} {v v' : Value} {zs ys : List Int} (h : Bs B p cs w0 W v zs) (hB : B ≤ W.heap.size) (hg : W.grownBy W' v.ownBlock) (ho : Own W' v' ys) (hf : ∀ b, v'.ownBlock = some b → v.ownBlock = some b ∨ W.heap.size ≤ b) : Bs B p cs w0 W' v' ys :=
  ⟨ho, fun b hb => (hf b hb).elim (h.blk b) (fun g => ⟨by omega, by have := lt_of_block h.box; omega⟩), h.bel.grown hg hB (fun k hk => (h.blk k hk).1), (hg.block p (lt_of_block h.box) (fun e => (h.blk p e.symm).2 rfl)).trans h.box⟩
theorem Bs.alloc {B p : Nat} {cs : Array Value} {w0 W : World} {v : Value} {zs : List Int} (h : Bs B p cs w0 W v zs) (hB : B ≤ W.heap.size) (o : Obj) : Bs B p cs w0 (W.alloc o) v zs :=
  ⟨h.own.alloc o, h.blk, h.bel.alloc hB o, (Below.heap_alloc W o p (lt_of_block h.box)).trans h.box⟩
theorem src_one2 (w : World) (o : Obj) (x : Int) : Src Try.prog 1 22 (.slice (some ⟨w.heap.size + 1, 0, none⟩) 1 1) 1 ([x].map (Value.int .u8)) ((w.alloc o).alloc (.cells #[.int .u8 x] 5)) := by
  have := src_one (w.alloc o) x
  simpa using this
set_option maxHeartbeats 800000 in
set_option maxRecDepth 1000000 in
theorem rencode_no (leaf : Bool) (a : Option Addr) (n c : Nat) (xs : List En) (w : World) (h : Ens w a n c xs) (hn : n ≤ 1000000) (hw : wts (ers xs) ≤ 1000000) (hc : chk leaf (ers xs) ≠ 0) :
    Calls Try.prog 21 #[.agg #[.bool leaf, .slice a n c]] w fun e w' => e = .returned (.tuple #[.slice none 0 0, .int .u16 ((chk leaf (ers xs) : Nat) : Int)]) ∧ Below w.heap.size w w' := by
  have hb0 := heap_alloc_new w (.cells #[.bool leaf, .slice a n c] 25)
  obtain ⟨n0, n1, -⟩ := cells_two hb0
  have HB0 := hide (below_alloc w (.cells #[.bool leaf, .slice a n c] 25))
  have HC := hide (rcheck_any leaf a n c xs _ (h.below HB0.out) hn hw)
  have hcc : (((chk leaf (ers xs) : Nat) : Int) != 0) = true := by simp; omega
  clear h hc hb0
  generalize chk leaf (ers xs) = C at *
  go_enter Try.func21, Try.ntmps21
  go_wp2_with (go_at_call 59; refine HC.out.mono ?_; rintro e w2 ⟨rfl, hb2⟩)
  go_ret2
  exact ⟨rfl, HB0.out.trans (hb2.mono HB0.out.size)⟩
set_option maxHeartbeats 3200000 in
set_option maxRecDepth 1000000 in
theorem rencode_ok (leaf : Bool) (a : Option Addr) (n c : Nat) (xs : List En) (w : World) (h : Ens w a n c xs) (hc : chk leaf (ers xs) = 0) (hw : wts (ers xs) ≤ 1000000) :
    Calls Try.prog 21 #[.agg #[.bool leaf, .slice a n c]] w fun e w' => ∃ v, e = .returned (.tuple #[v, .int .u16 0]) ∧ Made w v (nenc leaf (ers xs)) w' := by
  obtain ⟨i0, hi, hz0, hz1, hz2⟩ := info_parts Try.info5
  obtain ⟨hmy, hsz⟩ := chk_zero hc
  have hn : n ≤ 504 := by have := len_le_esum leaf (ers xs); rw [ers_len, h.len] at this; unfold nsz at hsz; omega
  have hb0 := heap_alloc_new w (.cells #[.bool leaf, .slice a n c] 25)
  obtain ⟨n0, n1, -⟩ := cells_two hb0
  have HB0 := hide (below_alloc w (.cells #[.bool leaf, .slice a n c] 25))
  have HBk := hide hb0
  have HE := hide (h.below HB0.out)
  have HC := hide (rcheck_any leaf a n c xs _ HE.out (by omega) hw)
  rw [hc] at HC
  have HMy := hide hmy
  have HSz := hide hsz
  clear h hb0 hmy hsz hc
  go_enter Try.func21, Try.ntmps21
  go_wp2_with (first | (go_at_call 59; refine HC.out.mono ?_; rintro e w2 ⟨rfl, hb2⟩; have HB2 := hide hb2; have m1 := cstays hb2 n1; clear hb2) | (go_at_call 60; refine (rput_any (.slice none 0 0) [] n 2 w2 (Own.nil _) (by omega) (by omega) (by simp)).mono ?_; rintro e w3 ⟨v3, rfl, ho3, hg3, hf3⟩; have HO3 := hide ho3; have HG3 := hide hg3; have HF3 := hide hf3; clear ho3 hg3 hf3))
  have HM0 : Hid (w2.cell? ⟨w.heap.size, 0, none⟩ = some (.bool leaf)) := hide (cstays HB2.out n0)
  have HM1 := hide m1
  have HBx := hide (HB0.out.trans (HB2.out.mono HB0.out.size))
  have HE2 := hide (HE.out.below HB2.out)
  clear n0 n1 m1
  go_loopw [5, 6] (fun b i wr => ∃ (k : Nat) (v : Value), k ≤ n ∧ i = .int .i64 (k : Int) ∧ b = v ∧ Own wr v (Crc.le 2 n ++ encs leaf (ers (xs.take k))) ∧ (∀ b, v.ownBlock = some b → w2.heap.size ≤ b) ∧ Below w2.heap.size w2 wr) (fun _ i _ => n - (intOf i).toNat)
  case atStart =>
    refine ⟨0, v3, Nat.zero_le _, rfl, rfl, by simpa [ers, encs] using HO3.out, fun b hb => ?_, (Below.refl _ _).grown HG3.out (Nat.le_refl _) (fun k hk => by cases hk)⟩
    rcases HF3.out b hb with h | h
    · cases h
    · exact h
  case round =>
    obtain ⟨k, v, hk, rfl, rfl, ho, hf, hbl⟩ := hrel
    obtain ⟨a1, l1, c1, rfl, -⟩ := ho.shape2
    have HO := hide ho
    have HF := hide hf
    have HBl := hide hbl
    have g1 := cstays hbl HM1.out
    clear ho hf
    by_cases hlt : k < n
    · obtain ⟨x, hx, -⟩ := (HE2.out.below hbl).at hlt
      obtain ⟨b, off, rfl, hbs, c0', c1', c2', c3'⟩ := (HE2.out.below hbl).cells hx
      have hmem := List.mem_of_getElem? hx
      obtain ⟨q1, q2, q3⟩ := mayB_mem HMy.out x.e (List.mem_map.2 ⟨x, hmem, rfl⟩)
      have HOk : Hid (∀ W, Below w2.heap.size w2 W → x.Ok W) := hide fun W hW => (HE2.out.below hW).each x hmem
      have HSn : Hid (Crc.le 2 n ++ encs leaf (ers (xs.take (k + 1))) = (Crc.le 2 n ++ encs leaf (ers (xs.take k))) ++ x.e.enc leaf) := by rw [Hid, encs_snoc leaf xs k x hx, List.append_assoc]
      have hZl : (Crc.le 2 n ++ encs leaf (ers (xs.take k))).length ≤ 1008 := by rw [List.length_append, Crc.le_length, encs_length]; have h1 := esum_take_le leaf xs k; have h2 := HSz.out; unfold nsz at h2; omega
      have HBs : Hid (Bs w2.heap.size wr.heap.size #[.slice x.ka x.e.key.length x.kc, .slice x.va x.e.val.length x.vc, .int .u32 (x.e.page : Int), .int .u32 (x.e.size : Int)] w2 (wr.alloc (.cells #[.slice x.ka x.e.key.length x.kc, .slice x.va x.e.val.length x.vc, .int .u32 (x.e.page : Int), .int .u32 (x.e.size : Int)] 68)) (.slice a1 l1 c1) (Crc.le 2 n ++ encs leaf (ers (xs.take k)))) :=
        hide ⟨HO.out.alloc _, fun b hb => ⟨HF.out b hb, by have := HO.out.lt hb; omega⟩, hbl.alloc hbl.size _, heap_alloc_new _ _⟩
      have hszl : w2.heap.size ≤ wr.heap.size := hbl.size
      obtain ⟨e0, e1, e2, e3⟩ := box4 wr (.slice x.ka x.e.key.length x.kc) (.slice x.va x.e.val.length x.vc) (.int .u32 (x.e.page : Int)) (.int .u32 (x.e.size : Int)) 68
      have q0 := cstays HBs.out.bel HM0.out
      have hpg := (HOk.out w2 (Below.refl _ _)).page
      have hsx := (HOk.out w2 (Below.refl _ _)).size
      have HQ2 := hide q2
      have HQ3 := hide q3
      clear hx hmem hbl q2 q3
      generalize Crc.le 2 n ++ encs leaf (ers (xs.take k)) = Z at *
      have M1 := hide trivial
      cases leaf with
      | false =>
        go_wp2_with (first | (at_builtin; have hmk := M1; clear hmk M1; refine wpList_append_src (by rfl) (.tmp 30) (.tmp 35) 22 22 (by rfl) i0 Try.underlying22 hi hz0 hz1 hz2 _ _ (by rfl) (HBs.out.own.alloc _) _ 1 [_] (by rfl) (src_one2 _ _ _) (by simp; omega) ?_; intro v2 W2 ho1 hg1 hf1; obtain ⟨a2, l2, c2, rfl, -⟩ := ho1.shape2; have HBn := hide (Bs.next (HBs.out.alloc HBs.out.bel.size _) (Bs.bel (HBs.out.alloc HBs.out.bel.size _)).size hg1 ho1 hf1); clear HBs ho1 hg1 hf1 e0 e1 e2 e3 q0; have HBs := HBn; clear HBn; obtain ⟨e0, e1, e2, e3, -⟩ := cells_four HBs.out.box; have q0 := cstays HBs.out.bel HM0.out; have M2 := hide trivial) | (at_builtin; have hmk := M2; clear hmk M2; have HIn := (HOk.out _ HBs.out.bel).key; refine wpList_append_src (by rfl) (.tmp 37) (.tmp 39) 22 22 (by rfl) i0 Try.underlying22 hi hz0 hz1 hz2 _ _ (by rfl) HBs.out.own (.slice x.ka x.e.key.length x.kc) x.e.key.length x.e.key (by rfl) (src_row _ x.ka x.e.key.length x.kc x.e.key rfl HIn.bare HIn.row) (by simp; omega) ?_; intro v2 W2 ho1 hg1 hf1; clear HIn; obtain ⟨a2, l2, c2, rfl, -⟩ := ho1.shape2; have HBn := hide (Bs.next HBs.out (Bs.bel HBs.out).size hg1 ho1 hf1); clear HBs ho1 hg1 hf1 e0 e1 e2 e3 q0; have HBs := HBn; clear HBn; obtain ⟨e0, e1, e2, e3, -⟩ := cells_four HBs.out.box; have q0 := cstays HBs.out.bel HM0.out; have M3 := hide trivial) | (go_at_call 60; have hmk := M3; clear hmk M3; refine (rput_any _ _ x.e.page 4 _ HBs.out.own (by omega) (by omega) (by simp; omega)).mono ?_; rintro e W2 ⟨v2, rfl, ho1, hg1, hf1⟩; obtain ⟨a2, l2, c2, rfl, -⟩ := ho1.shape2; have HBn := hide (Bs.next HBs.out (Bs.bel HBs.out).size hg1 ho1 hf1); clear HBs ho1 hg1 hf1 e0 e1 e2 e3 q0; have HBs := HBn; clear HBn; obtain ⟨e0, e1, e2, e3, -⟩ := cells_four HBs.out.box; have q0 := cstays HBs.out.bel HM0.out; have M4 := hide trivial))
        go_roundw
        case rel =>
          refine ⟨k + 1, _, by omega, by go_num, rfl, ?_, fun b hb => (HBs.out.blk b hb).1, HBs.out.bel⟩
          rw [HSn.out]
          have := HBs.out.own
          simp only [Ee.enc]
          simpa using this
        case measure => simp [intOf]; omega
      | true =>
        by_cases hp : x.e.page = 0
        · have hpb : ((x.e.page : Int) == 0) = true := by simp [hp]
          have hv64 : x.e.val.length < 256 := valOk_short (HQ2.out rfl) hp
          have HPg := hide hp
          clear hp
          go_wp2_with (first | (at_builtin; have hmk := M1; clear hmk M1; refine wpList_append_src (by rfl) (.tmp 30) (.tmp 35) 22 22 (by rfl) i0 Try.underlying22 hi hz0 hz1 hz2 _ _ (by rfl) (HBs.out.own.alloc _) _ 1 [_] (by rfl) (src_one2 _ _ _) (by simp; omega) ?_; intro v2 W2 ho1 hg1 hf1; obtain ⟨a2, l2, c2, rfl, -⟩ := ho1.shape2; have HBn := hide (Bs.next (HBs.out.alloc HBs.out.bel.size _) (Bs.bel (HBs.out.alloc HBs.out.bel.size _)).size hg1 ho1 hf1); clear HBs ho1 hg1 hf1 e0 e1 e2 e3 q0; have HBs := HBn; clear HBn; obtain ⟨e0, e1, e2, e3, -⟩ := cells_four HBs.out.box; have q0 := cstays HBs.out.bel HM0.out; have M2 := hide trivial) | (at_builtin; have hmk := M2; clear hmk M2; have HIn := (HOk.out _ HBs.out.bel).key; refine wpList_append_src (by rfl) (.tmp 37) (.tmp 39) 22 22 (by rfl) i0 Try.underlying22 hi hz0 hz1 hz2 _ _ (by rfl) HBs.out.own (.slice x.ka x.e.key.length x.kc) x.e.key.length x.e.key (by rfl) (src_row _ x.ka x.e.key.length x.kc x.e.key rfl HIn.bare HIn.row) (by simp; omega) ?_; intro v2 W2 ho1 hg1 hf1; clear HIn; obtain ⟨a2, l2, c2, rfl, -⟩ := ho1.shape2; have HBn := hide (Bs.next HBs.out (Bs.bel HBs.out).size hg1 ho1 hf1); clear HBs ho1 hg1 hf1 e0 e1 e2 e3 q0; have HBs := HBn; clear HBn; obtain ⟨e0, e1, e2, e3, -⟩ := cells_four HBs.out.box; have q0 := cstays HBs.out.bel HM0.out; have M3 := hide trivial) | (at_builtin; have hmk := M3; clear hmk M3; refine wpList_append_src (by rfl) (.tmp 67) (.tmp 72) 22 22 (by rfl) i0 Try.underlying22 hi hz0 hz1 hz2 _ _ (by rfl) (HBs.out.own.alloc _) _ 1 [_] (by rfl) (src_one _ _) (by simp; omega) ?_; intro v2 W2 ho1 hg1 hf1; obtain ⟨a2, l2, c2, rfl, -⟩ := ho1.shape2; have HBn := hide (Bs.next (HBs.out.alloc HBs.out.bel.size _) (Bs.bel (HBs.out.alloc HBs.out.bel.size _)).size hg1 ho1 hf1); clear HBs ho1 hg1 hf1 e0 e1 e2 e3 q0; have HBs := HBn; clear HBn; obtain ⟨e0, e1, e2, e3, -⟩ := cells_four HBs.out.box; have q0 := cstays HBs.out.bel HM0.out; have M4 := hide trivial) | (at_builtin; have hmk := M4; clear hmk M4; have HIn := (HOk.out _ HBs.out.bel).val; refine wpList_append_src (by rfl) (.tmp 74) (.tmp 76) 22 22 (by rfl) i0 Try.underlying22 hi hz0 hz1 hz2 _ _ (by rfl) HBs.out.own (.slice x.va x.e.val.length x.vc) x.e.val.length x.e.val (by rfl) (src_row _ x.va x.e.val.length x.vc x.e.val rfl HIn.bare HIn.row) (by simp; omega) ?_; intro v2 W2 ho1 hg1 hf1; clear HIn; obtain ⟨a2, l2, c2, rfl, -⟩ := ho1.shape2; have HBn := hide (Bs.next HBs.out (Bs.bel HBs.out).size hg1 ho1 hf1); clear HBs ho1 hg1 hf1 e0 e1 e2 e3 q0; have HBs := HBn; clear HBn; obtain ⟨e0, e1, e2, e3, -⟩ := cells_four HBs.out.box; have q0 := cstays HBs.out.bel HM0.out; have M5 := hide trivial))
          go_roundw
          case rel =>
            refine ⟨k + 1, _, by omega, by go_num, rfl, ?_, fun b hb => (HBs.out.blk b hb).1, HBs.out.bel⟩
            rw [HSn.out]
            have := HBs.out.own
            simp only [Ee.enc, HPg.out, if_true]
            simpa using this
          case measure => simp [intOf]; omega
        · have hpb : ((x.e.page : Int) == 0) = false := by simp; omega
          have HPg := hide hp
          clear hp
          go_wp2_with (first | (at_builtin; have hmk := M1; clear hmk M1; refine wpList_append_src (by rfl) (.tmp 30) (.tmp 35) 22 22 (by rfl) i0 Try.underlying22 hi hz0 hz1 hz2 _ _ (by rfl) (HBs.out.own.alloc _) _ 1 [_] (by rfl) (src_one2 _ _ _) (by simp; omega) ?_; intro v2 W2 ho1 hg1 hf1; obtain ⟨a2, l2, c2, rfl, -⟩ := ho1.shape2; have HBn := hide (Bs.next (HBs.out.alloc HBs.out.bel.size _) (Bs.bel (HBs.out.alloc HBs.out.bel.size _)).size hg1 ho1 hf1); clear HBs ho1 hg1 hf1 e0 e1 e2 e3 q0; have HBs := HBn; clear HBn; obtain ⟨e0, e1, e2, e3, -⟩ := cells_four HBs.out.box; have q0 := cstays HBs.out.bel HM0.out; have M2 := hide trivial) | (at_builtin; have hmk := M2; clear hmk M2; have HIn := (HOk.out _ HBs.out.bel).key; refine wpList_append_src (by rfl) (.tmp 37) (.tmp 39) 22 22 (by rfl) i0 Try.underlying22 hi hz0 hz1 hz2 _ _ (by rfl) HBs.out.own (.slice x.ka x.e.key.length x.kc) x.e.key.length x.e.key (by rfl) (src_row _ x.ka x.e.key.length x.kc x.e.key rfl HIn.bare HIn.row) (by simp; omega) ?_; intro v2 W2 ho1 hg1 hf1; clear HIn; obtain ⟨a2, l2, c2, rfl, -⟩ := ho1.shape2; have HBn := hide (Bs.next HBs.out (Bs.bel HBs.out).size hg1 ho1 hf1); clear HBs ho1 hg1 hf1 e0 e1 e2 e3 q0; have HBs := HBn; clear HBn; obtain ⟨e0, e1, e2, e3, -⟩ := cells_four HBs.out.box; have q0 := cstays HBs.out.bel HM0.out; have M3 := hide trivial) | (at_builtin; have hmk := M3; clear hmk M3; refine wpList_append_src (by rfl) (.tmp 41) (.tmp 42) 22 22 (by rfl) i0 Try.underlying22 hi hz0 hz1 hz2 _ _ (by rfl) (HBs.out.own.alloc _) _ 1 [_] (by rfl) (src_one _ _) (by simp; omega) ?_; intro v2 W2 ho1 hg1 hf1; obtain ⟨a2, l2, c2, rfl, -⟩ := ho1.shape2; have HBn := hide (Bs.next (HBs.out.alloc HBs.out.bel.size _) (Bs.bel (HBs.out.alloc HBs.out.bel.size _)).size hg1 ho1 hf1); clear HBs ho1 hg1 hf1 e0 e1 e2 e3 q0; have HBs := HBn; clear HBn; obtain ⟨e0, e1, e2, e3, -⟩ := cells_four HBs.out.box; have q0 := cstays HBs.out.bel HM0.out; have M4 := hide trivial) | (go_at_call 60; have hmk := M4; clear hmk M4; refine (rput_any _ _ x.e.size 4 _ HBs.out.own (by omega) (by omega) (by simp; omega)).mono ?_; rintro e W2 ⟨v2, rfl, ho1, hg1, hf1⟩; obtain ⟨a2, l2, c2, rfl, -⟩ := ho1.shape2; have HBn := hide (Bs.next HBs.out (Bs.bel HBs.out).size hg1 ho1 hf1); clear HBs ho1 hg1 hf1 e0 e1 e2 e3 q0; have HBs := HBn; clear HBn; obtain ⟨e0, e1, e2, e3, -⟩ := cells_four HBs.out.box; have q0 := cstays HBs.out.bel HM0.out; have M5 := hide trivial) | (go_at_call 60; have hmk := M5; clear hmk M5; refine (rput_any _ _ x.e.page 4 _ HBs.out.own (by omega) (by omega) (by simp [Crc.le_length]; omega)).mono ?_; rintro e W2 ⟨v2, rfl, ho1, hg1, hf1⟩; obtain ⟨a2, l2, c2, rfl, -⟩ := ho1.shape2; have HBn := hide (Bs.next HBs.out (Bs.bel HBs.out).size hg1 ho1 hf1); clear HBs ho1 hg1 hf1 e0 e1 e2 e3 q0; have HBs := HBn; clear HBn; obtain ⟨e0, e1, e2, e3, -⟩ := cells_four HBs.out.box; have q0 := cstays HBs.out.bel HM0.out; have M6 := hide trivial))
          go_roundw
          case rel =>
            refine ⟨k + 1, _, by omega, by go_num, rfl, ?_, fun b hb => (HBs.out.blk b hb).1, HBs.out.bel⟩
            rw [HSn.out]
            have := HBs.out.own
            simp only [Ee.enc, if_neg HPg.out, if_true]
            simpa using this
          case measure => simp [intOf]; omega
    · have HF2 : Hid (xs.take k = xs) := hide (List.take_of_length_le (by rw [HE2.out.len]; omega))
      have HLn := hide HE2.out.len
      go_wp2
      go_ret2
      refine ⟨_, rfl, ?_, fun b hb => Nat.le_trans HBx.out.size (HF.out b hb), HBx.out.trans (HBl.out.mono HBx.out.size)⟩
      have := HO.out
      rw [HF2.out] at this
      unfold nenc
      rw [ers_len, HLn.out]
      exact this
end Go.Proofs.Ytjojpohnmfkanaa
