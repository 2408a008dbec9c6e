/- Contracts of the bytes by definition: each is a new row that holds what the writer writes. -/
import Derived.Test.YtobkmjkcbihfbaaF
namespace Go.Proofs.Ytobkmjkcbihfbaa
open Go.RowKit
set_option linter.unusedVariables false

theorem and255 (n : Nat) (hn : n < 18446744073709551616) : bits .and .u64 (n : Int) 255 = ((n % 256 : Nat) : Int) := by
  have h := u64_and_nat n 255 hn (by omega)
  have e := Nat.and_two_pow_sub_one_eq_mod n 8
  rw [show (2 : Nat) ^ 8 - 1 = 255 from rfl, show (2 : Nat) ^ 8 = 256 from rfl] at e
  rw [e] at h
  exact h
theorem fixed_byte (v m : Nat) (hv : v < 18446744073709551616) : bits .and .u64 ((v : Int) / 2 ^ (8 * m)) 255 = ((v / 256 ^ m % 256 : Nat) : Int) := by
  have e : (2 : Int) ^ (8 * m) = ((256 ^ m : Nat) : Int) := by rw [← pow256]; exact (Int.natCast_pow 2 (8 * m)).symm
  rw [e, ← Int.natCast_ediv]
  exact and255 _ (Nat.lt_of_le_of_lt (Nat.div_le_self _ _) hv)
/-- v is a row of the call's own that was not there in w; nothing that was there has turned. -/
def Fresh (w w' : World) (v : Value) (zs : List Int) : Prop := Own w' v zs ∧ (∀ k, v.ownBlock = some k → w.heap.size ≤ k) ∧ Below w.heap.size w w'
theorem Fresh.nil (w : World) : Fresh w w (.slice none 0 0) [] := ⟨Own.nil w, fun k hk => by simp [Value.ownBlock] at hk, Below.refl _ _⟩
theorem Fresh.append {w w1 w0 w2 : World} {v v' : Value} {zs ys : List Int} (h : Fresh w w1 v zs) (h0 : Below w1.heap.size w1 w0) (hown : Own w2 v' ys) (hg : w0.grownBy w2 v.ownBlock) (hf : ∀ k, v'.ownBlock = some k → v.ownBlock = some k ∨ w0.heap.size ≤ k) : Fresh w w2 v' ys := by
  obtain ⟨h1, h2, h3⟩ := h
  have hz : w.heap.size ≤ w0.heap.size := Nat.le_trans h3.size h0.size
  refine ⟨hown, fun k hk => (hf k hk).elim (h2 k) (fun h => Nat.le_trans hz h), ?_⟩
  exact (h3.trans (h0.mono h3.size)).grown hg hz h2

set_option maxHeartbeats 800000 in
set_option maxRecDepth 1000000 in
theorem ref_varint_any (v : Nat) (w : World) (hv : v < 18446744073709551616) :
    Calls Try.prog 42 #[.int .u64 (v : Int)] w fun e w' => ∃ x, e = .returned x ∧ Fresh w w' x (vb v) := by
  obtain ⟨i0, hi, hz0, hz1, hz2⟩ := info_parts Try.info5
  have HT := hide (vb_ten v hv)
  go_enter Try.func42, Try.ntmps42
  go_wp2
  go_loopw [0, 3] (fun x y wr => ∃ (u : Nat) (pre : List Int), x = .int .u64 (u : Int) ∧ u ≤ v ∧ pre ++ vb u = vb v ∧ Fresh w wr y pre) (fun x _ _ => (intOf x).toNat)
  case atStart => exact ⟨v, [], rfl, Nat.le_refl _, rfl, Fresh.nil w⟩
  case round =>
    obtain ⟨u, pre, rfl, hu, hpre, hfr⟩ := hrel
    obtain ⟨a1, n1, c1, rfl, HN1⟩ := hfr.1.shape2
    have HPre := hide hpre
    have HFr := hide hfr
    have HO := hide hfr.1
    clear hpre hfr
    have HL : Hid (pre.length + 1 ≤ 140737488355328) := by
      have h1 := congrArg List.length HPre.out
      have h2 := vb_pos u
      have h3 := HT.out
      rw [List.length_append] at h1
      rw [Hid]; omega
    by_cases hlt : u < 128
    · have HV : Hid (vb v = pre ++ [(u : Int)]) := by rw [Hid, ← HPre.out, vb_small u hlt]
      go_wp2_with (at_builtin; refine wpList_append_src (by rfl) (.tmp 15) (.tmp 18) 27 27 (by rfl) i0 Try.underlying27 hi hz0 hz1 hz2 (.slice a1 n1 c1) pre (by rfl) (HO.out.alloc _) (.slice (some ⟨wr.heap.size, 0, none⟩) 1 1) 1 [(u : Int)] (by rfl) (src_one _ _) HL.out ?_; intro v' w1 hown1 hg1 hf1; obtain ⟨a2, n2, c2, rfl, HN2⟩ := hown1.shape2; have HR := hide (HFr.out.append (below_alloc _ _) hown1 hg1 hf1); clear hown1 hg1 hf1)
      go_ret
      exact ⟨_, rfl, by rw [HV.out]; exact HR.out⟩
    · have HV := hide (vb_big u hlt)
      have e2 : ((u : Int) % 128 + 128) = ((u % 128 + 128 : Nat) : Int) := by omega
      have HE2 := hide e2
      clear e2
      go_wp2_with (at_builtin; refine wpList_append_src (by rfl) (.tmp 6) (.tmp 11) 27 27 (by rfl) i0 Try.underlying27 hi hz0 hz1 hz2 (.slice a1 n1 c1) pre (by rfl) (HO.out.alloc _) (.slice (some ⟨wr.heap.size, 0, none⟩) 1 1) 1 [(u : Int) % 128 + 128] (by rfl) (src_one _ _) HL.out ?_; intro v' w1 hown1 hg1 hf1; obtain ⟨a2, n2, c2, rfl, HN2⟩ := hown1.shape2; have HR := hide (HFr.out.append (below_alloc _ _) hown1 hg1 hf1); clear hown1 hg1 hf1)
      go_roundw
      case rel => exact ⟨u / 128, pre ++ [(u : Int) % 128 + 128], by go_num, by omega, by rw [HE2.out, List.append_assoc, List.singleton_append, ← HV.out]; exact HPre.out, HR.out⟩
      case measure => simp [intOf]; omega

set_option maxHeartbeats 800000 in
set_option maxRecDepth 1000000 in
theorem ref_zigzag_any (v : Int) (w : World) (h1 : -9223372036854775808 ≤ v) (h2 : v ≤ 9223372036854775807) :
    Calls Try.prog 43 #[.int .i64 v] w fun e w' => e = .returned (.int .u64 ((zz v : Nat) : Int)) ∧ w' = w := by
  by_cases hv : v < 0
  · have HE : Hid (2 * (-(v + 1)) + 1 = ((zz v : Nat) : Int)) := by rw [Hid]; unfold zz; rw [if_pos hv]; omega
    go_enter Try.func43, Try.ntmps43
    go_wp2
    go_ret
    exact ⟨ret_int HE.out, rfl⟩
  · have HE : Hid (2 * v = ((zz v : Nat) : Int)) := by rw [Hid]; unfold zz; rw [if_neg hv]; omega
    go_enter Try.func43, Try.ntmps43
    go_wp2
    go_ret
    exact ⟨ret_int HE.out, rfl⟩

set_option maxHeartbeats 800000 in
set_option maxRecDepth 1000000 in
theorem ref_text_any (s : ByteArray) (w : World) (hs : s.size ≤ 1000000) :
    Calls Try.prog 45 #[.string s] w fun e w' => ∃ x, e = .returned x ∧ Fresh w w' x (vb s.size ++ sb s) := by
  obtain ⟨i0, hi, hz0, hz1, hz2⟩ := info_parts Try.info5
  go_enter Try.func45, Try.ntmps45
  go_wp2_with fail
  refine (ref_varint_any s.size _ (by omega)).mono ?_
  rintro e w1 ⟨x, rfl, hfr⟩
  obtain ⟨a1, n1, c1, rfl, HN1⟩ := hfr.1.shape2
  have HFr := hide hfr
  have HO := hide hfr.1
  have HB : Hid ((vb s.size).length + s.size ≤ 140737488355328) := by
    have := vb_ten s.size (by omega)
    rw [Hid]; omega
  clear hfr
  go_wp2_with (at_builtin; refine wpList_append_src (by rfl) (.tmp 8) (.tmp 9) 27 9 (by rfl) i0 Try.underlying27 hi hz0 hz1 hz2 (.slice a1 n1 c1) (vb s.size) (by rfl) HO.out (.string s) s.size (sb s) (by rfl) (src_text _ s) HB.out ?_; intro v' w1 hown1 hg1 hf1; obtain ⟨a2, n2, c2, rfl, HN2⟩ := hown1.shape2; have HR := hide (HFr.out.append (Below.refl _ _) hown1 hg1 hf1); clear hown1 hg1 hf1)
  go_ret
  exact ⟨_, rfl, HR.out⟩

set_option maxHeartbeats 800000 in
set_option maxRecDepth 1000000 in
theorem ref_fixed_any (v n : Nat) (w : World) (hv : v < 18446744073709551616) (hn : n ≤ 8) :
    Calls Try.prog 39 #[.int .u64 (v : Int), .int .i64 (n : Int)] w fun e w' => ∃ x, e = .returned x ∧ Fresh w w' x (fb v n) := by
  obtain ⟨i0, hi, hz0, hz1, hz2⟩ := info_parts Try.info5
  go_enter Try.func39, Try.ntmps39
  go_wp2
  go_loopw [5, 6] (fun y x wr => ∃ (k : Nat) (pre : List Int), x = .int .i64 ((k : Int) - 1) ∧ k ≤ n ∧ pre ++ fb v k = fb v n ∧ Fresh w wr y pre) (fun _ x _ => (intOf x + 1).toNat)
  case atStart => exact ⟨n, [], rfl, Nat.le_refl _, rfl, Fresh.nil w⟩
  case round =>
    obtain ⟨k, pre, rfl, hk, hpre, hfr⟩ := hrel
    obtain ⟨a1, n1, c1, rfl, HN1⟩ := hfr.1.shape2
    have HPre := hide hpre
    have HFr := hide hfr
    have HO := hide hfr.1
    clear hpre hfr
    cases k with
    | zero =>
      have HF : Hid (pre = fb v n) := by have := HPre.out; rw [fb, List.append_nil] at this; exact this
      go_wp2
      go_ret
      exact ⟨_, rfl, by rw [← HF.out]; exact HFr.out⟩
    | succ m =>
      have HL : Hid (pre.length + 1 ≤ 140737488355328) := by
        have h1 := congrArg List.length HPre.out
        rw [List.length_append, fb_len, fb_len] at h1
        rw [Hid]
        omega
      have hm1 : ((m + 1 : Nat) : Int) - 1 = (m : Int) := by omega
      rw [hm1]
      have e1 := fixed_byte v m (by omega)
      have HQ : Hid (fb v (m + 1) = [((v / 256 ^ m % 256 : Nat) : Int)] ++ fb v m) := by rw [Hid, fb, List.singleton_append]
      have hq : v / 256 ^ m % 256 < 256 := Nat.mod_lt _ (by omega)
      generalize v / 256 ^ m % 256 = q at *
      have e3 : (q : Int) % 256 = (q : Int) := by omega
      go_wp2_with (at_builtin; refine wpList_append_src (by rfl) (.tmp 13) (.tmp 21) 27 27 (by rfl) i0 Try.underlying27 hi hz0 hz1 hz2 (.slice a1 n1 c1) pre (by rfl) (HO.out.alloc _) (.slice (some ⟨wr.heap.size, 0, none⟩) 1 1) 1 [(q : Int)] (by rfl) (src_one _ _) HL.out ?_; intro v' w1 hown1 hg1 hf1; obtain ⟨a2, n2, c2, rfl, HN2⟩ := hown1.shape2; have HR := hide (HFr.out.append (below_alloc _ _) hown1 hg1 hf1); clear hown1 hg1 hf1)
      go_roundw
      case rel => exact ⟨m, pre ++ [(q : Int)], by go_num, by omega, by rw [List.append_assoc, ← HQ.out]; exact HPre.out, HR.out⟩
      case measure => simp [intOf]
end Go.Proofs.Ytobkmjkcbihfbaa
