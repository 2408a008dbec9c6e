/- The Go function CrcLinear answers true for every two texts that are handed in, and leaves them as they were: the sums of two texts of one length, of their exclusive or, and of as many noughts come to nought. No condition. -/
import Derived.Test.YtahimokgidnbcaaF
import Derived.Deep.OwnRows
import Derived.Deep.RegionHeld3
import Derived.Deep.DrawnRows
import Derived.RegionTactic
namespace Go.Proofs.Ytahimokgidnbcaa.Linear
open Go.ChangeShapes Go.WideShapes Go.ChangeAt Go.RowKit
open Go.ChangeMaps (open_string shut_string)
set_option linter.unusedVariables false
attribute [local go_sem ↓] Go.wp_at_zero Go.wp_at_succ

def xorI (a b : Int) : Int := ((a.toNat ^^^ b.toNat : Nat) : Int)
def xorL (A B : List Int) : List Int := List.zipWith xorI A B
/-- the text that is being written: k bytes are done. -/
def part (A B : List Int) (k : Nat) : List Int := (xorL A B).take k ++ List.replicate ((xorL A B).length - k) 0

theorem xorI_bd (a b : Int) (ha : 0 ≤ a ∧ a ≤ 255) (hb : 0 ≤ b ∧ b ≤ 255) : 0 ≤ xorI a b ∧ xorI a b ≤ 255 := by
  unfold xorI
  have : a.toNat ^^^ b.toNat < 2 ^ 8 := Nat.xor_lt_two_pow (by omega) (by omega)
  omega
theorem xorI_is (a b : Int) (ha : 0 ≤ a ∧ a ≤ 255) (hb : 0 ≤ b ∧ b ≤ 255) : bits .xor .u8 a b = xorI a b := by
  unfold xorI; exact u8_xor a b ha.1 (by omega) hb.1 (by omega)
theorem mul_xor (x y : Nat) : 256 * (x ^^^ y) = 256 * x ^^^ 256 * y := by
  have h := Nat.shiftLeft_xor_distrib (a := x) (b := y) (i := 8)
  simp only [Nat.shiftLeft_eq] at h
  have e : (2 : Nat) ^ 8 = 256 := by decide
  rw [e] at h
  rw [Nat.mul_comm 256 (x ^^^ y), Nat.mul_comm 256 x, Nat.mul_comm 256 y]
  exact h
theorem xor_swap (a b c d : Nat) : (a ^^^ b) ^^^ (c ^^^ d) = (a ^^^ c) ^^^ (b ^^^ d) := by
  apply Nat.eq_of_testBit_eq; intro i; simp only [Nat.testBit_xor]
  cases a.testBit i <;> cases b.testBit i <;> cases c.testBit i <;> cases d.testBit i <;> rfl
theorem num_xorL (A B : List Int) (h : A.length = B.length) : Crc.num (xorL A B) = Crc.num A ^^^ Crc.num B := by
  induction A generalizing B with
  | nil =>
    cases B with
    | nil => rfl
    | cons b t => simp at h
  | cons a s ih =>
    cases B with
    | nil => simp at h
    | cons b t =>
      have e : xorL (a :: s) (b :: t) = xorI a b :: xorL s t := rfl
      have e2 : (xorI a b).toNat = a.toNat ^^^ b.toNat := by unfold xorI; exact Int.toNat_natCast _
      rw [e, Crc.num_cons, Crc.num_cons, Crc.num_cons, ih t (by simpa using h), mul_xor, e2]
      exact xor_swap _ _ _ _
theorem num_zeros (n : Nat) : Crc.num (List.replicate n 0) = 0 := by
  induction n with
  | zero => rfl
  | succ n ih => rw [List.replicate_succ, Crc.num_cons, ih]; rfl
theorem xorL_len (A B : List Int) (n : Nat) (hA : A.length = n) (hB : B.length = n) : (xorL A B).length = n := by
  simp [xorL, hA, hB]
theorem xorL_byts (A B : List Int) (hA : Byts A) (hB : Byts B) : Byts (xorL A B) := by
  intro c hc
  induction A generalizing B with
  | nil => simp [xorL] at hc
  | cons a s ih =>
    cases B with
    | nil => simp [xorL] at hc
    | cons b t =>
      have e : xorL (a :: s) (b :: t) = xorI a b :: xorL s t := rfl
      rw [e] at hc
      rcases List.mem_cons.1 hc with rfl | hc
      · exact xorI_bd a b (hA a (by simp)) (hB b (by simp))
      · exact ih t (fun d hd => hA d (by simp [hd])) (fun d hd => hB d (by simp [hd])) hc
theorem zeros_byts (n : Nat) : Byts (List.replicate n 0) := by
  intro c hc
  obtain ⟨_, rfl⟩ := List.mem_replicate.1 hc
  omega
theorem part_zero (A B : List Int) (n : Nat) (h : (xorL A B).length = n) : part A B 0 = List.replicate n 0 := by
  simp [part, h]
theorem part_full (A B : List Int) (n : Nat) (h : (xorL A B).length = n) : part A B n = xorL A B := by
  simp [part, h]
  exact List.take_of_length_le (by omega)
theorem part_len (A B : List Int) (n k : Nat) (h : (xorL A B).length = n) (hk : k ≤ n) : (part A B k).length = n := by
  simp [part, h]; omega
theorem part_at (A B : List Int) (n k : Nat) (h : (xorL A B).length = n) (hk : k < n) : (part A B k)[k]? = some 0 := by
  unfold part
  have e : ((xorL A B).take k).length = k := by rw [List.length_take, h]; omega
  rw [List.getElem?_append_right (by omega), e, Nat.sub_self, List.getElem?_replicate, h, if_pos (by omega)]
theorem part_next (A B : List Int) (n k : Nat) (hA : A.length = n) (hB : B.length = n) (hk : k < n) : (part A B k).set k (xorI (A.getD k 0) (B.getD k 0)) = part A B (k + 1) := by
  have h := xorL_len A B n hA hB
  apply List.ext_getElem?
  intro j
  have hx : (xorL A B)[k]? = some (xorI (A.getD k 0) (B.getD k 0)) := by
    simp [xorL, hA, hB, hk]
  rw [List.getElem?_set]
  by_cases e : k = j
  · subst e
    rw [if_pos rfl, if_pos (by rw [part_len A B n k h (by omega)]; exact hk)]
    unfold part
    rw [List.getElem?_append_left (by simp; omega), List.getElem?_take, if_pos (by omega), hx]
  · rw [if_neg e]
    unfold part
    by_cases l : j < k
    · rw [List.getElem?_append_left (by simp; omega), List.getElem?_append_left (by simp; omega), List.getElem?_take, List.getElem?_take, if_pos l, if_pos (by omega)]
    · rw [List.getElem?_append_right (by simp; omega), List.getElem?_append_right (by simp; omega)]
      simp only [List.getElem?_replicate, List.length_take, h]
      by_cases l2 : j < n
      · rw [if_pos (by omega), if_pos (by omega)]
      · rw [if_neg (by omega), if_neg (by omega)]
theorem made_toList (n : Nat) : (madeCells #[Value.int .u8 0] n).toList = (List.replicate n (0 : Int)).map (Value.int .u8) := by
  apply List.ext_getElem?
  intro j
  by_cases h : j < n
  · simp [madeCells, h, Nat.mod_one]
  · simp [madeCells, h]
theorem owns_made (w : World) (base n : Nat) (hb : base ≤ w.heap.size) (hm : n ≤ maxLen) :
    (w.alloc (.cells (madeCells #[Value.int .u8 0] n) 5)).ownsRow base 5 1 (.slice (some ⟨w.heap.size, 0, none⟩) n n) n ((List.replicate n (0 : Int)).map (Value.int .u8)) := by
  refine ⟨by simp, .inr ⟨w.heap.size, n, _, rfl, hb, heap_alloc_new w _, Nat.le_refl _, hm, by simp [size_madeCells], ?_⟩⟩
  rw [made_toList]; simp

theorem Row.drew {w : World} {a : Option Addr} {zs : List Int} (h : Row w a zs) : Row w.drew a zs := h
theorem Row.alloc {w : World} {a : Option Addr} {zs : List Int} (h : Row w a zs) (o : Obj) : Row (w.alloc o) a zs := h.below ((Below.refl _ _).alloc (Nat.le_refl _) o)
theorem row_take {w : World} {a : Option Addr} {zs : List Int} (h : Row w a zs) (n : Nat) : Row w a (zs.take n) := by
  rw [← List.take_append_drop n zs] at h
  exact h.left
theorem row_zero (w : World) (n : Nat) : Row (w.alloc (.cells (madeCells #[Value.int .u8 0] n) 5)) (some ⟨w.heap.size, 0, none⟩) (List.replicate n 0) :=
  row_new w _ _ _ (by rw [← made_toList])
theorem below_step {w W W' : World} (h : Below w.heap.size w W) (hs : Below W.heap.size W W') : Below w.heap.size w W' := h.trans (hs.mono h.size)
theorem below_made {w W : World} (h : Below w.heap.size w W) (o : Obj) : Below w.heap.size w (W.alloc o) := h.alloc h.size o

theorem four (A B : List Int) (n : Nat) (hA : A.length = n) (hB : B.length = n) (bA : Byts A) (bB : Byts B) :
    bits .xor .u32 (bits .xor .u32 (bits .xor .u32 ((Crc.more 0 A : Nat) : Int) ((Crc.more 0 B : Nat) : Int)) ((Crc.more 0 (xorL A B) : Nat) : Int)) ((Crc.more 0 (List.replicate n 0) : Nat) : Int) = 0 := by
  have h1 := Crc.more_lt 0 A (by omega) bA
  have h2 := Crc.more_lt 0 B (by omega) bB
  have h3 := Crc.more_lt 0 (xorL A B) (by omega) (xorL_byts A B bA bB)
  have h4 := Crc.more_lt 0 (List.replicate n 0) (by omega) (zeros_byts n)
  have h := Crc.more_four A B (xorL A B) (List.replicate n 0) n hA hB (xorL_len A B n hA hB) List.length_replicate (num_xorL A B (by omega)) (num_zeros n)
  rw [xor_is _ _ h1 h2, xor_is _ _ (Crc.xor_lt32 _ _ h1 h2) h3, xor_is _ _ (Crc.xor_lt32 _ _ (Crc.xor_lt32 _ _ h1 h2) h3) h4, h]
  rfl

set_option maxHeartbeats 1600000 in
theorem walkA (a0 : Option Addr) (n cap0 : Nat) (a1 : Option Addr) (len1 cap1 : Nat) (A B : List Int) (w : World) (hbig : n ≤ 100000) (hle : n ≤ len1) (hc0 : n ≤ cap0) (hc1 : n ≤ cap1)
    (h00 : n ≤ cap0) (h11 : len1 ≤ cap1) (h0m : cap0 ≤ 9223372036854775807) (h1m : cap1 ≤ 9223372036854775807)
    (hA : A.length = n) (hB : B.length = n) (hr0 : Row w a0 A) (hr1 : Row w a1 B) (hb0 : Byts A) (hb1 : Byts B) :
    Calls Try.prog 5 #[.slice a0 n cap0, .slice a1 len1 cap1] w fun e w' => e = .returned (.bool true) ∧ Below w.heap.size w w' := by
  have hX := xorL_len A B n hA hB
  have R0 := hide hr0
  have R1 := hide hr1
  have B0 := hide hb0
  have B1 := hide hb1
  have LA := hide hA
  have LB := hide hB
  have LX := hide hX
  clear hr0 hr1 hb0 hb1 hA hB hX
  have hmk := run_make_row' (P := Try.prog) 23 5 (.int .u8 0) 1 Try.underlying23 Try.info5 rfl .i64 .i64 n (by omega) (by omega)
  go_enter Try.func5, Try.ntmps5
  go_wp2_with fail
  have hown := hide (owns_made w w.heap.size n (Nat.le_refl _) (by unfold maxLen; omega))
  have hbel := hide ((Below.refl w.heap.size w).alloc (Nat.le_refl _) (.cells (madeCells #[Value.int .u8 0] n) 5))
  generalize w.alloc (.cells (madeCells #[Value.int .u8 0] n) 5) = W at *
  go_loopw [7] (fun i wr => ∃ k : Nat, k ≤ n ∧ i = .int .i64 k ∧ wr.ownsRow w.heap.size 5 1 (.slice (some ⟨w.heap.size, 0, none⟩) n n) n ((part A B k).map (Value.int .u8)) ∧ Below w.heap.size w wr) (fun i _ => n - (intOf i).toNat)
  case atStart => exact ⟨0, Nat.zero_le _, rfl, by rw [part_zero A B n LX.out]; exact hown.out, hbel.out⟩
  case round =>
    clear hown hbel
    obtain ⟨k, hk, rfl, hown, hbel⟩ := hrel
    by_cases hlt : k < n
    · have hkA : k < A.length := by have := LA.out; omega
      have hkB : k < B.length := by have := LB.out; omega
      rcases R0.out.below hbel with h0 | ⟨p0, o0, rfl, q0, c0⟩
      · subst h0; simp at hkA
      rcases R1.out.below hbel with h0 | ⟨p1, o1, rfl, q1, c1⟩
      · subst h0; simp at hkB
      have g0 := c0 k hkA
      have g1 := c1 k hkB
      have g2 : wr.cell? ⟨w.heap.size, k, none⟩ = some (.int .u8 0) := by
        rw [hown.cellAt k (by omega), List.getElem?_map, part_at A B n k LX.out hlt]; rfl
      have g3 := hown.frozenAt k
      have HX := hide (xorI_is (A.getD k 0) (B.getD k 0) (B0.out.at k) (B1.out.at k))
      have HN := hide (part_next A B n k LA.out LB.out hlt)
      have d0 := B0.out.at k
      have d1 := B1.out.at k
      generalize A.getD k 0 = x at *
      generalize B.getD k 0 = y at *
      clear c0 c1
      have HO := hide hown
      have HB := hide hbel
      clear hown hbel
      go_wp2
      go_region
      go_wp2
      go_roundw
      case rel => exact ⟨k + 1, by omega, by go_num, by rw [HX.out, ← HN.out, List.map_set]; exact ((HO.out.stored k _).1).drew, (HB.out.setCell (Nat.le_refl _) _).drew⟩
      case measure => simp [intOf]; omega
    · obtain rfl : k = n := by omega
      have hrx := hide (row_of_owns (part_full A B k LX.out ▸ hown))
      have r0 := hide (R0.out.below hbel)
      have r1 := hide (R1.out.below hbel)
      have bx := hide (xorL_byts A B B0.out B1.out)
      have bz := hide (zeros_byts k)
      have lz : Hid ((List.replicate k (0 : Int)).length = k) := List.length_replicate
      have hfin := four A B k LA.out LB.out B0.out B1.out
      have HB := hide hbel
      have h63 : k ≤ 9223372036854775807 := by omega
      clear hown hbel R0 R1
      go_wp2
      go_region_held3 (fun _ => True) (trivial) ((first | (go_at_call 11; refine (known_any _).mono ?_; rintro e w' ⟨rfl, hbk⟩) | (go_at_call_of 8 (Value.slice a0 k cap0); refine (sum_any a0 k cap0 A _ LA.out h63 ?_ B0.out).mono ?_; (repeat (first | with_reducible exact r0.out | with_reducible exact r1.out | with_reducible exact hrx.out | with_reducible exact row_zero _ _ | with_reducible refine Row.drew ?_ | with_reducible refine Row.alloc ?_ _ | with_reducible refine Row.below ?_ (by with_reducible assumption))); rintro e w' ⟨rfl, hbk⟩) | (go_at_call_of 8 (Value.slice a1 k cap1); refine (sum_any a1 k cap1 B _ LB.out h63 ?_ B1.out).mono ?_; (repeat (first | with_reducible exact r0.out | with_reducible exact r1.out | with_reducible exact hrx.out | with_reducible exact row_zero _ _ | with_reducible refine Row.drew ?_ | with_reducible refine Row.alloc ?_ _ | with_reducible refine Row.below ?_ (by with_reducible assumption))); rintro e w' ⟨rfl, hbk⟩) | (go_at_call_of 8 (Value.slice (some (Addr.mk w.heap.size 0 none)) k k); refine (sum_any _ k k (xorL A B) _ LX.out h63 ?_ bx.out).mono ?_; (repeat (first | with_reducible exact r0.out | with_reducible exact r1.out | with_reducible exact hrx.out | with_reducible exact row_zero _ _ | with_reducible refine Row.drew ?_ | with_reducible refine Row.alloc ?_ _ | with_reducible refine Row.below ?_ (by with_reducible assumption))); rintro e w' ⟨rfl, hbk⟩) | (go_at_call 8; refine (sum_any _ k k (List.replicate k 0) _ lz.out h63 ?_ bz.out).mono ?_; (repeat (first | with_reducible exact r0.out | with_reducible exact r1.out | with_reducible exact hrx.out | with_reducible exact row_zero _ _ | with_reducible refine Row.drew ?_ | with_reducible refine Row.alloc ?_ _ | with_reducible refine Row.below ?_ (by with_reducible assumption))); rintro e w' ⟨rfl, hbk⟩)))
      all_goals
        go_wp2
        go_ret
        refine ⟨rfl, ?_⟩
        repeat (first | with_reducible exact HB.out | with_reducible refine Below.drew ?_ | with_reducible refine below_made ?_ _ | with_reducible refine below_step ?_ (by with_reducible assumption))

set_option maxHeartbeats 1600000 in
theorem walkB (a0 : Option Addr) (len0 cap0 : Nat) (a1 : Option Addr) (n cap1 : Nat) (A B : List Int) (w : World) (hbig : n ≤ 100000) (hle : n < len0) (hc0 : n ≤ cap0) (hc1 : n ≤ cap1)
    (h00 : len0 ≤ cap0) (h11 : n ≤ cap1) (h0m : cap0 ≤ 9223372036854775807) (h1m : cap1 ≤ 9223372036854775807)
    (hA : A.length = n) (hB : B.length = n) (hr0 : Row w a0 A) (hr1 : Row w a1 B) (hb0 : Byts A) (hb1 : Byts B) :
    Calls Try.prog 5 #[.slice a0 len0 cap0, .slice a1 n cap1] w fun e w' => e = .returned (.bool true) ∧ Below w.heap.size w w' := by
  have hX := xorL_len A B n hA hB
  have R0 := hide hr0
  have R1 := hide hr1
  have B0 := hide hb0
  have B1 := hide hb1
  have LA := hide hA
  have LB := hide hB
  have LX := hide hX
  clear hr0 hr1 hb0 hb1 hA hB hX
  have hmk := run_make_row' (P := Try.prog) 23 5 (.int .u8 0) 1 Try.underlying23 Try.info5 rfl .i64 .i64 n (by omega) (by omega)
  go_enter Try.func5, Try.ntmps5
  go_wp2_with fail
  have hown := hide (owns_made w w.heap.size n (Nat.le_refl _) (by unfold maxLen; omega))
  have hbel := hide ((Below.refl w.heap.size w).alloc (Nat.le_refl _) (.cells (madeCells #[Value.int .u8 0] n) 5))
  generalize w.alloc (.cells (madeCells #[Value.int .u8 0] n) 5) = W at *
  go_loopw [7] (fun i wr => ∃ k : Nat, k ≤ n ∧ i = .int .i64 k ∧ wr.ownsRow w.heap.size 5 1 (.slice (some ⟨w.heap.size, 0, none⟩) n n) n ((part A B k).map (Value.int .u8)) ∧ Below w.heap.size w wr) (fun i _ => n - (intOf i).toNat)
  case atStart => exact ⟨0, Nat.zero_le _, rfl, by rw [part_zero A B n LX.out]; exact hown.out, hbel.out⟩
  case round =>
    clear hown hbel
    obtain ⟨k, hk, rfl, hown, hbel⟩ := hrel
    by_cases hlt : k < n
    · have hkA : k < A.length := by have := LA.out; omega
      have hkB : k < B.length := by have := LB.out; omega
      rcases R0.out.below hbel with h0 | ⟨p0, o0, rfl, q0, c0⟩
      · subst h0; simp at hkA
      rcases R1.out.below hbel with h0 | ⟨p1, o1, rfl, q1, c1⟩
      · subst h0; simp at hkB
      have g0 := c0 k hkA
      have g1 := c1 k hkB
      have g2 : wr.cell? ⟨w.heap.size, k, none⟩ = some (.int .u8 0) := by
        rw [hown.cellAt k (by omega), List.getElem?_map, part_at A B n k LX.out hlt]; rfl
      have g3 := hown.frozenAt k
      have HX := hide (xorI_is (A.getD k 0) (B.getD k 0) (B0.out.at k) (B1.out.at k))
      have HN := hide (part_next A B n k LA.out LB.out hlt)
      have d0 := B0.out.at k
      have d1 := B1.out.at k
      generalize A.getD k 0 = x at *
      generalize B.getD k 0 = y at *
      clear c0 c1
      have HO := hide hown
      have HB := hide hbel
      clear hown hbel
      go_wp2
      go_region
      go_wp2
      go_roundw
      case rel => exact ⟨k + 1, by omega, by go_num, by rw [HX.out, ← HN.out, List.map_set]; exact ((HO.out.stored k _).1).drew, (HB.out.setCell (Nat.le_refl _) _).drew⟩
      case measure => simp [intOf]; omega
    · obtain rfl : k = n := by omega
      have hrx := hide (row_of_owns (part_full A B k LX.out ▸ hown))
      have r0 := hide (R0.out.below hbel)
      have r1 := hide (R1.out.below hbel)
      have bx := hide (xorL_byts A B B0.out B1.out)
      have bz := hide (zeros_byts k)
      have lz : Hid ((List.replicate k (0 : Int)).length = k) := List.length_replicate
      have hfin := four A B k LA.out LB.out B0.out B1.out
      have HB := hide hbel
      have h63 : k ≤ 9223372036854775807 := by omega
      clear hown hbel R0 R1
      go_wp2
      go_region_held3 (fun _ => True) (trivial) ((first | (go_at_call 11; refine (known_any _).mono ?_; rintro e w' ⟨rfl, hbk⟩) | (go_at_call_of 8 (Value.slice a0 k cap0); refine (sum_any a0 k cap0 A _ LA.out h63 ?_ B0.out).mono ?_; (repeat (first | with_reducible exact r0.out | with_reducible exact r1.out | with_reducible exact hrx.out | with_reducible exact row_zero _ _ | with_reducible refine Row.drew ?_ | with_reducible refine Row.alloc ?_ _ | with_reducible refine Row.below ?_ (by with_reducible assumption))); rintro e w' ⟨rfl, hbk⟩) | (go_at_call_of 8 (Value.slice a1 k cap1); refine (sum_any a1 k cap1 B _ LB.out h63 ?_ B1.out).mono ?_; (repeat (first | with_reducible exact r0.out | with_reducible exact r1.out | with_reducible exact hrx.out | with_reducible exact row_zero _ _ | with_reducible refine Row.drew ?_ | with_reducible refine Row.alloc ?_ _ | with_reducible refine Row.below ?_ (by with_reducible assumption))); rintro e w' ⟨rfl, hbk⟩) | (go_at_call_of 8 (Value.slice (some (Addr.mk w.heap.size 0 none)) k k); refine (sum_any _ k k (xorL A B) _ LX.out h63 ?_ bx.out).mono ?_; (repeat (first | with_reducible exact r0.out | with_reducible exact r1.out | with_reducible exact hrx.out | with_reducible exact row_zero _ _ | with_reducible refine Row.drew ?_ | with_reducible refine Row.alloc ?_ _ | with_reducible refine Row.below ?_ (by with_reducible assumption))); rintro e w' ⟨rfl, hbk⟩) | (go_at_call 8; refine (sum_any _ k k (List.replicate k 0) _ lz.out h63 ?_ bz.out).mono ?_; (repeat (first | with_reducible exact r0.out | with_reducible exact r1.out | with_reducible exact hrx.out | with_reducible exact row_zero _ _ | with_reducible refine Row.drew ?_ | with_reducible refine Row.alloc ?_ _ | with_reducible refine Row.below ?_ (by with_reducible assumption))); rintro e w' ⟨rfl, hbk⟩)))
      all_goals
        go_wp2
        go_ret
        refine ⟨rfl, ?_⟩
        repeat (first | with_reducible exact HB.out | with_reducible refine Below.drew ?_ | with_reducible refine below_made ?_ _ | with_reducible refine below_step ?_ (by with_reducible assumption))

set_option maxHeartbeats 800000 in
theorem walk (a0 : Option Addr) (len0 cap0 : Nat) (z0 : List Int) (a1 : Option Addr) (len1 cap1 : Nat) (z1 : List Int) (w : World) (w0 : IsRow .u8 w a0 len0 cap0 z0) (w1 : IsRow .u8 w a1 len1 cap1 z1) :
    Calls Try.prog 5 #[.slice a0 len0 cap0, .slice a1 len1 cap1] w fun e w' => e = .returned (.bool true) ∧ Below w.heap.size w w' := by
  obtain ⟨hrow0, hbyt0, hlen0, hlc0, hcm0, hnil0⟩ := isrow_row w0
  obtain ⟨hrow1, hbyt1, hlen1, hlc1, hcm1, hnil1⟩ := isrow_row w1
  generalize z0.take len0 = zs at *
  generalize z1.take len1 = ys at *
  unfold maxLen at hcm0 hcm1
  clear w0 w1 hnil0 hnil1
  by_cases hle : len0 ≤ len1
  · by_cases hbig : len0 ≤ 100000
    · exact walkA a0 len0 cap0 a1 len1 cap1 zs (ys.take len0) w hbig hle hlc0 (by omega) hlc0 hlc1 hcm0 hcm1 hlen0 (by rw [List.length_take]; omega) hrow0 (row_take hrow1 _) hbyt0 (hbyt1.take _)
    · clear hrow0 hrow1 hbyt0 hbyt1 hlen0 hlen1
      go_enter Try.func5, Try.ntmps5
      go_wp2
      go_ret
      exact ⟨rfl, Below.refl _ _⟩
  · by_cases hbig : len1 ≤ 100000
    · exact walkB a0 len0 cap0 a1 len1 cap1 (zs.take len1) ys w hbig (by omega) (by omega) hlc1 hlc0 hlc1 hcm0 hcm1 (by rw [List.length_take]; omega) hlen1 (row_take hrow0 _) hrow1 (hbyt0.take _) hbyt1
    · clear hrow0 hrow1 hbyt0 hbyt1 hlen0 hlen1
      go_enter Try.func5, Try.ntmps5
      go_wp2
      go_ret
      exact ⟨rfl, Below.refl _ _⟩

set_option maxRecDepth 100000 in
theorem lifted (os : Os) (started : os.Started) (H : Type) (enc : TypeId × Value → H) :
    ReturnsInHanded {} Try.checked os 5 .any (Rows.crcLinearSpec.pre6 enc Try.prog Try.f5 Rows.crcLinearRow.domain false) (Rows.crcLinearSpec.post enc Try.prog Try.f5 false true false false) := by
  refine returnsInHanded_of_change (C := Try.checked) own started (by kernel_rfl) Try.func5
    (ChangeSpec.witness6 (enc := enc) (C := Try.checked) false ⟨#[], #[.slice none 0 0, .slice none 0 0], []⟩ 8 (by kernel_rfl) (by kernel_rfl) (by kernel_rfl) (by kernel_rfl)) ?_
  intro W base args ds gs before hval0 hW hcnd _
  have hval : ∀ (j : Nat) t v, Try.f5.params[j]? = some t → args[j]? = some v → Value.okWide Try.prog W .any base t v := hval0
  have hW' := hW
  obtain ⟨p, q, hA0, hV, rfl, hfz, hnd⟩ := hW
  have hA : DataW.TrodAll enc Try.prog W 0 (fun _ => true) true Try.f5.params.toList args.toList ds p := hA0
  rw [Try.params5] at hA hval
  obtain ⟨v0, vs0, d0, ds0, p0, q0, hargs, rfl, rfl, h0, r0⟩ := trodAll_cons hA
  obtain ⟨v1, vs1, d1, ds1, p1, q1, rfl, rfl, rfl, h1, r1⟩ := trodAll_cons r0
  obtain ⟨rfl, rfl, rfl⟩ := trodAll_nil r1
  obtain rfl : args = #[v0, v1] := by cases args; simp_all
  obtain ⟨rfl, rfl⟩ := trodVars_none hV
  obtain ⟨a0, len0, cap0, rfl⟩ := okWide_slice Try.underlying23 (hval 0 23 v0 rfl rfl)
  have k0 := h0
  have lt0 : ∀ x ∈ p0, x.block < W.heap.size := by obtain ⟨m, hm⟩ := k0; exact DataW.trod_lt m _ _ _ hm
  obtain ⟨z0, w0⟩ : ∃ zs, IsRow .u8 W a0 len0 cap0 zs := by
    obtain ⟨fuel, hf⟩ := h0
    rcases open_ints Try.underlying23 Try.underlying5 (by kernel_rfl) hf with ⟨hcs, _⟩ | ⟨x, l, c, zs, hcs, _, hl, hm, hz, _, hcell, hwz⟩
    · simp [Value.cells] at hcs
      obtain ⟨rfl, rfl, rfl⟩ := hcs
      exact ⟨[], .inl ⟨rfl, rfl, rfl, rfl⟩⟩
    · simp [Value.cells] at hcs
      obtain ⟨rfl, rfl, rfl⟩ := hcs
      exact ⟨zs, .inr ⟨_, rfl, hl, hm, by simpa using hz, hcell, hwz⟩⟩
  obtain ⟨a1, len1, cap1, rfl⟩ := okWide_slice Try.underlying23 (hval 1 23 v1 rfl rfl)
  have k1 := h1
  have lt1 : ∀ x ∈ p1, x.block < W.heap.size := by obtain ⟨m, hm⟩ := k1; exact DataW.trod_lt m _ _ _ hm
  obtain ⟨z1, w1⟩ : ∃ zs, IsRow .u8 W a1 len1 cap1 zs := by
    obtain ⟨fuel, hf⟩ := h1
    rcases open_ints Try.underlying23 Try.underlying5 (by kernel_rfl) hf with ⟨hcs, _⟩ | ⟨x, l, c, zs, hcs, _, hl, hm, hz, _, hcell, hwz⟩
    · simp [Value.cells] at hcs
      obtain ⟨rfl, rfl, rfl⟩ := hcs
      exact ⟨[], .inl ⟨rfl, rfl, rfl, rfl⟩⟩
    · simp [Value.cells] at hcs
      obtain ⟨rfl, rfl, rfl⟩ := hcs
      exact ⟨zs, .inr ⟨_, rfl, hl, hm, by simpa using hz, hcell, hwz⟩⟩
  clear hA0 hval0
  refine (walk a0 len0 cap0 z0 a1 len1 cap1 z1 W w0 w1).mono fun e W' ⟨he, bel⟩ => ?_
  subst he
  exact ⟨_, rfl, _, _, _, [], _, [], hW', trodAll_mk1 (shut_bool Try.underlying4 _), (trodAll_cons_mk (Below.trod laidOut (by kernel_rfl) (of_decide_eq_true (by kernel_rfl)) k0 bel lt0) (trodAll_cons_mk (Below.trod laidOut (by kernel_rfl) (of_decide_eq_true (by kernel_rfl)) k1 bel lt1) trodAll_mk0)), rfl, bel.frame _, fun h => by cases h⟩

theorem over : Rows.crcLinearRow.holds Try.pinned (OpenSpec.ofChange Rows.crcLinearSpec) :=
  OpenClaim.holds_of_wide 5 Try.f5 rfl rfl rfl rfl rfl rfl rfl ⟨rfl, rfl, rfl, rfl, rfl⟩ rfl rfl rfl rfl rfl (by kernel_rfl) Try.func5 (by kernel_rfl)
    (of_decide_eq_true (by kernel_rfl)) (by unfold Func.isWrapper; first | (rw [if_pos (by decide +kernel)]; kernel_rfl) | (rw [if_neg (by decide +kernel)]; exact ⟨rfl, rfl⟩))
    (fun os started H enc _ => lifted os started H enc)

end Go.Proofs.Ytahimokgidnbcaa.Linear
namespace Go.Proofs.Ytahimokgidnbcaa
theorem crcLinear_holds : Rows.CrcLinearSaid := Linear.over
#print axioms crcLinear_holds
end Go.Proofs.Ytahimokgidnbcaa
