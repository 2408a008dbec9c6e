/- math/bits.TrailingZeros64, where its table reads as its text lays it; the pages that are marked. -/
import Derived.Test.YtlahkeapfcfbbaaDoorTM
import Derived.Test.YtlahkeapfcfbbaaDoorNA
import Derived.Test.YtlahkeapfcfbbaaDoorLG
import Derived.Shelf.Spec.TrailingZeros
namespace Go.Proofs.YtlahkeapfcfbbaaDoor
open Go.RowKit Go.Maps
set_option linter.unusedVariables false
variable {w w' : World}
/-- the table of the trailing zeros in its variable, which is the first one. -/
def Tb (w : World) : Prop := Go.Proofs.TabAt 0 Lib.deBruijn64tab w ∧ 0 < w.heap.size
theorem Tb.below (h : Tb w) (hb : Below w.heap.size w w') : Tb w' := ⟨fun j hj => (hb.cell (p := ⟨0, j, none⟩) h.2).trans (h.1 j hj), Nat.lt_of_lt_of_le h.2 hb.size⟩
set_option maxHeartbeats 1600000 in
set_option maxRecDepth 1000000 in
theorem tz_core (x k idx : Nat) (w : World) (hx0 : ((x : Int) == 0) = false)
    (key : IntKind.u64.wrap (bits BinOp.and IntKind.u64 (x : Int) (IntKind.u64.wrap (-(x : Int))) * 285870213051353865) / 288230376151711744 = (idx : Int))
    (hi : idx < 64) (hk : k < 64) (hcell : w.cell? ⟨0, idx, none⟩ = some (.int .u8 (k : Int))) :
    Calls Tryd.prog 67 #[.int .u64 (x : Int)] w fun e w' => e = .returned (.int .i64 (k : Int)) ∧ w' = w := by
  go_enter Tryd.func67, Tryd.ntmps67
  go_wp2_with (simp only [key])
  go_ret
  exact ⟨rfl, rfl⟩
theorem tz_any (x : Nat) (h0 : x ≠ 0) (hx : x < 18446744073709551616) (h : Tb w) :
    Calls Tryd.prog 67 #[.int .u64 (x : Int)] w fun e w' => e = .returned (.int .i64 ((Lib.ctz 64 x : Nat) : Int)) ∧ w' = w := by
  obtain ⟨hlow, hk⟩ := Lib.lowest_bit 64 x h0 hx
  obtain ⟨hi, htab⟩ := Lib.deBruijn64_at _ hk
  have hcell := h.1 _ hi
  rw [htab] at hcell
  exact tz_core x _ _ w (by rw [beq_eq_false_iff_ne]; omega) (Go.Proofs.tz64_key x _ hx h0 hlow) hi hk hcell
/-- the words zs lie in a row of the call's own. -/
def OwnW (w : World) (v : Value) (zs : List Nat) : Prop := w.ownsRow 0 56 1 v zs.length (zs.map fun (z : Nat) => Value.int .u32 (z : Int))
theorem OwnW.lt {v : Value} {zs : List Nat} (h : OwnW w v zs) {k : Nat} (hk : v.ownBlock = some k) : k < w.heap.size := (World.ownsRow.lt h k hk).2
theorem OwnW.shape {v : Value} {zs : List Nat} (h : OwnW w v zs) : ∃ a c, v = .slice a zs.length c ∧ zs.length ≤ c ∧ c ≤ maxLen ∧ Rw w a zs ∧ ∀ k, (∃ ad, a = some ad ∧ ad.block = k) ↔ v.ownBlock = some k := by
  rcases h.2 with ⟨rfl, h0⟩ | ⟨g, cap, cur, rfl, _, hg, hn, hm, _⟩
  · exact ⟨none, 0, by rw [h0], by omega, by omega, .inl (List.eq_nil_of_length_eq_zero h0), fun k => by simp [Value.ownBlock]⟩
  · refine ⟨_, cap, rfl, hn, hm, .inr ⟨g, 0, rfl, lt_of_block hg, fun i hi => ?_⟩, fun k => by simp [Value.ownBlock]⟩
    have := World.ownsRow.cells h (g := g) rfl i (.int .u32 ((zs.getD i 0 : Nat) : Int)) (by simp [hi])
    rwa [Addr.add_lit] at this
theorem infoU32 : (Tryd.prog.info? 56).map (fun i => (i.zero, i.size, i.bytes)) = some (some (.int .u32 0), 1, 4) := by kernel_rfl
set_option maxHeartbeats 1600000 in
set_option maxRecDepth 1000000 in
theorem numbers_any (w : World) (l : Nat) (ms : List Nat) (hm : Mk ms) (hc : ∀ i, i < 256 → w.cell? ⟨l, i, none⟩ = some (.int .u64 ((ms.getD i 0 : Nat) : Int))) (hl : l < w.heap.size) (ht : Tb w) (n : Nat) (hn : n ≤ 1000000) :
    Calls Tryd.prog 32 #[.pointer (some ⟨l, 0, none⟩), .int .i64 (n : Int)] w fun e w' => ∃ v, e = .returned v ∧ OwnW w' v (nums ms 256) ∧ (∀ k, v.ownBlock = some k → w.heap.size ≤ k) ∧ Below w.heap.size w w' := by
  obtain ⟨i0, hi, hz0, hz1, hz2⟩ := info_parts infoU32
  obtain ⟨w1, hmk, ho1, hg1⟩ := run_make_own (P := Tryd.prog) w 0 65 56 i0 (.int .u32 0) 1 Tryd.underlying65 hi hz0 hz1 .i64 .i64 n (by rw [hz2]; omega) (by unfold maxLen; omega) (Nat.zero_le _)
  have HO1 : Hid (OwnW w1 (.slice (some ⟨w.heap.size, 0, none⟩) 0 n) []) := ho1
  have HB1 : Hid (Below w.heap.size w w1) := ⟨hg1.os, hg1.tape, hg1.output, hg1.size, fun k hk => hg1.block k hk (by simp)⟩
  have HT := hide ht
  have HC := hide hc
  have HM := hide hm
  clear ho1 hg1 ht hc hm
  go_enter Tryd.func32, Tryd.ntmps32
  go_wp2
  have HO2 : Hid (∀ k, (Value.slice (some ⟨w.heap.size, 0, none⟩) 0 n).ownBlock = some k → w.heap.size ≤ k) := fun k hk => by
    have : w.heap.size = k := by simpa [Value.ownBlock] using hk
    omega
  clear hmk
  go_loopw [11, 5] (fun i u wr => ∃ (k : Nat) (v : Value), k ≤ 256 ∧ i = .int .i64 k ∧ u = v ∧ OwnW wr v (nums ms k) ∧ (∀ k, v.ownBlock = some k → w.heap.size ≤ k) ∧ Below w.heap.size w wr) (fun i _ _ => 256 - (intOf i).toNat)
  case atStart => exact ⟨0, _, by omega, rfl, rfl, HO1.out, HO2.out, HB1.out⟩
  case round =>
    obtain ⟨k, v, hk, rfl, rfl, hown, hlow, hbel⟩ := hrel
    have HOw := hide hown
    have HLo := hide hlow
    have HBe := hide hbel
    clear hown hlow hbel
    by_cases hlt : k < 256
    · have e1 : wr.cell? ⟨l, k, none⟩ = some (.int .u64 ((ms.getD k 0 : Nat) : Int)) := (HBe.out.cell (p := ⟨l, k, none⟩) hl).trans (HC.out k hlt)
      have hx := HM.out.at k
      have HNs := hide (nums_succ ms k)
      have hkk : (k : Int) < 256 := by omega
      generalize ms.getD k 0 = x0 at *
      go_wp2
      go_quiet (fail)
      go_wp2
      go_loopw [7, 5] (fun x u wr2 => ∃ (y : Nat) (v : Value) (pre : List Nat), x = .int .u64 y ∧ y < 18446744073709551616 ∧ u = v ∧ OwnW wr2 v pre ∧ pre ++ (bitsOf y).map (fun j => 64 * k + j) = nums ms (k + 1) ∧ (∀ k, v.ownBlock = some k → w.heap.size ≤ k) ∧ Below w.heap.size w wr2) (fun x _ _ => (intOf x).toNat)
      case atStart => exact ⟨x0, _, nums ms k, rfl, hx, rfl, HOw.out, HNs.out.symm, HLo.out, below_drewN HBe.out _⟩
      case round =>
        obtain ⟨y, v2, pre, rfl, hy, rfl, hown2, hpre2, hlow2, hbel2⟩ := hrel
        have HOw2 := hide hown2
        have HPr2 := hide hpre2
        have HLo2 := hide hlow2
        have HBe2 := hide hbel2
        clear hown2 hpre2 hlow2 hbel2
        by_cases hy0 : y = 0
        · subst hy0
          go_wp2
          go_roundw
          case rel =>
            refine ⟨k + 1, _, by omega, by go_num, rfl, ?_, HLo2.out, HBe2.out⟩
            have := HPr2.out
            rw [bitsOf_zero, List.map_nil, List.append_nil] at this
            rw [← this]; exact HOw2.out
          case measure => simp [intOf]; omega
        · have HTz := hide (tz_any y hy0 hy (HT.out.below HBe2.out))
          have hst := bitsOf_step y hy0 hy
          have htl := (ctz_form y hy0 hy).1
          have hyb : ((y : Int) != 0) = true := by rw [bne_iff_ne]; omega
          have hpl : pre.length ≤ 20000 := by
            have h1 := congrArg List.length HPr2.out
            have h2 : (nums ms (k + 1)).length ≤ (List.range (64 * (k + 1))).length := List.length_filter_le ..
            rw [List.length_append] at h1
            rw [List.length_range] at h2
            omega
          have HPL := hide hpl
          clear hpl
          have hbits : bits BinOp.and IntKind.u64 (y : Int) ((y : Int) - 1) = ((y &&& (y - 1) : Nat) : Int) := by
            rw [show ((y : Int) - 1) = ((y - 1 : Nat) : Int) by omega, bits_and_u64_nat _ _ hy (by omega)]
          have hless := and_less y hy0
          generalize y &&& (y - 1) = y' at *
          generalize Lib.ctz 64 y = t at *
          have HSt := hide hst
          clear hst
          obtain ⟨a2, c2, rfl, -⟩ := HOw2.out.shape
          go_wp2_with (first
            | (go_at_call 67; refine HTz.out.mono ?_; rintro e w3 ⟨rfl, hw3⟩; rw [hw3]; clear hw3)
            | (at_builtin; refine wpList_append_own_at _ (by rfl) (.tmp 23) (.tmp 30) 65 (by rfl) 0 56 i0 (.int .u32 0) 1 4 Tryd.underlying65 hi hz0 hz1 hz2 rfl (by omega) (.slice a2 pre.length c2) pre.length (pre.map fun (z : Nat) => Value.int .u32 (z : Int)) (by rfl) (World.ownsRow.alloc HOw2.out _) ⟨wr.heap.size, 0, none⟩ 1 1 [.int .u32 ((k : Int) * 64 + (t : Int))] (by rfl) (by rfl) (cell_one_new _ _ _) (fun u hu => by rw [List.mem_singleton.1 hu]; rfl) (by have := HPL.out; unfold maxLen; omega) (by have := HPL.out; omega) (Nat.zero_le _) ?_; intro v4 w4 h1 h2 h3 h4; have H1 := hide h1; have H2 := hide h2; have H4 := hide h4; clear h1 h2 h3 h4))
          go_roundw
          case rel =>
            refine ⟨y', v4, pre ++ [64 * k + t], rfl, by omega, rfl, ?_, ?_, fun j hj => ?_, ?_⟩
            · have := H1.out
              unfold OwnW
              rw [List.length_append, List.map_append, List.length_singleton]
              rw [show ((k : Int) * 64 + (t : Int)) = ((64 * k + t : Nat) : Int) by omega] at this
              exact this
            · rw [← HPr2.out, HSt.out, List.map_cons, List.append_assoc, List.singleton_append]
            · rcases H4.out with e | e
              · rw [e] at hj; exact HLo2.out j hj
              · rw [e] at hj; cases hj; have := HBe2.out.size; simp; omega
            · exact HBe2.out.trans ((Mv.below (((Mv.refl (fun k => (Value.slice a2 pre.length c2).ownBlock = some k) wr).alloc _).grown H2.out (fun k hk => .inl hk)) HBe2.out.size (fun k hk => HLo2.out k hk)))
          case measure => simp [intOf]; omega
    · obtain rfl : k = 256 := by omega
      have hkk : ¬ ((256 : Nat) : Int) < 256 := by omega
      go_wp2
      go_ret
      exact ⟨_, rfl, HOw.out, HLo.out, HBe.out⟩
/-- Z are the pages of M, rising. -/
structure Told (Z : List Nat) (M : List Pg) : Prop where
  sorted : Z.Pairwise (· < ·)
  mem : ∀ n : Nat, n ∈ Z ↔ (n : Int) ∈ M.map (·.1)
  perm : (Z.map fun (n : Nat) => (n : Int)).Perm (M.map (·.1))
theorem Told.len {Z : List Nat} {M : List Pg} (h : Told Z M) : Z.length = M.length := by
  have := h.perm.length_eq
  simpa using this
theorem told_of {ms : List Nat} {M : List Pg} (hb : ∀ n : Nat, n < 16384 → (bt ms n = true ↔ (n : Int) ∈ M.map (·.1))) (hn : (M.map (·.1)).Nodup) (hr : ∀ x ∈ M, 2 ≤ x.1 ∧ x.1 ≤ 16383) : Told (nums ms 256) M := by
  have hm : ∀ n : Nat, n ∈ nums ms 256 ↔ (n : Int) ∈ M.map (·.1) := fun n => by
    rw [nums_mem]
    constructor
    · rintro ⟨h1, h2⟩
      exact (hb n (by omega)).1 h2
    · intro h
      obtain ⟨x, hx, e⟩ := List.mem_map.1 h
      have := hr x hx
      have hlt : n < 16384 := by omega
      exact ⟨by omega, (hb n hlt).2 h⟩
  refine ⟨nums_sorted ms 256, hm, ?_⟩
  refine (List.perm_ext_iff_of_nodup ?_ hn).2 fun a => ?_
  · exact List.Pairwise.map _ (fun a b h => by omega) (nums_nodup ms 256)
  · constructor
    · intro h
      obtain ⟨n, h1, rfl⟩ := List.mem_map.1 h
      exact (hm n).1 h1
    · intro h
      obtain ⟨x, hx, e⟩ := List.mem_map.1 h
      have := hr x hx
      have e2 : a = ((a.toNat : Nat) : Int) := by omega
      rw [e2] at h ⊢
      exact List.mem_map.2 ⟨a.toNat, (hm _).2 h, rfl⟩
set_option maxHeartbeats 1600000 in
set_option maxRecDepth 1000000 in
theorem all_any {l : Nat} {M : List Pg} {O : Nat → Prop} (h : LsAt w l M O) (ht : Tb w) (hf : M.length ≤ 900000) : Calls Tryd.prog 10 #[.pointer (some ⟨l, 0, none⟩)] w fun e w' => ∃ v Z, e = .returned v ∧ OwnW w' v Z ∧ Told Z M ∧ (∀ k, v.ownBlock = some k → w.heap.size ≤ k) ∧ Below w.heap.size w w' := by
  have HL := hide (len_any (h.same (Same.refl w).drew) hf)
  obtain ⟨pw, pr, vw, vr, ms, R, A, B, h1, h2, h3, h4⟩ := h
  have hll := h1.lt (k := l) (.inl rfl)
  have HTo := hide (told_of (ms := ms) (M := M) (fun n hn => by rw [h2.bts n hn]; exact (h3.map _).mem_iff) ((h3.map _).nodup_iff.1 h2.nd) (fun x hx => h2.rg x (h3.mem_iff.2 hx)))
  have HNu := hide (fun W (hW : Same w W) => numbers_any W l ms h1.mks (h1.same hW).c.1 (by rw [hW.heap]; exact hll) (ht.below hW.below) M.length (by omega))
  clear h1 h2 h3 h4 ht
  go_enter Tryd.func10, Tryd.ntmps10
  go_wp2
  go_region_with (first
    | (go_at_call 18; refine HL.out.mono ?_; rintro e w1 ⟨rfl, hs1⟩; have HS1 := hide ((Same.refl w).drew.trans hs1); clear hs1)
    | (go_at_call 32; refine (HNu.out _ HS1.out).mono ?_; rintro e w2 ⟨v2, rfl, h1, h2, h3⟩; have H1 := hide h1; have H2 := hide h2; have H3 := hide h3; clear h1 h2 h3))
  all_goals
    go_wp2
    go_ret
    refine ⟨v2, _, rfl, H1.out, HTo.out, fun k hk => ?_, ?_⟩
    · have := H2.out k hk
      rw [HS1.out.heap] at this; exact this
    · have := H3.out
      rw [HS1.out.heap] at this
      exact HS1.out.below.trans this
end Go.Proofs.YtlahkeapfcfbbaaDoor
