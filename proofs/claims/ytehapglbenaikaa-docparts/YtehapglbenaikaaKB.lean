/- Contracts of the writer: each call writes one field behind what is there. -/
import Derived.Test.YtehapglbenaikaaChecked
import Derived.Test.YtehapglbenaikaaKM
import Derived.Test.YtehapglbenaikaaKA
import Derived.KernelRfl
import Derived.WalkKit
import Derived.Handy
import Derived.LoopTactic
import Derived.Deep.RegionLaw
import Derived.Deep.QuietTactic
import Derived.BigQuiet
import Derived.WalkSmall
import Derived.Laws.CopyOwn
import Derived.Deep.OwnRows
import Derived.Deep.RegionHeld3
namespace Go.Proofs.Ytehapglbenaikaa
open Go.RowKit
set_option linter.unusedVariables false

theorem Try.info5 : (Try.prog.info? 5).map (fun i => (i.zero, i.size, i.bytes)) = some (some (.int .u8 0), 1, 1) := by kernel_rfl

/-- the one-element slice that is laid for what is appended. -/
theorem src_one (w : World) (x : Int) : Src Try.prog 1 23 (.slice (some ⟨w.heap.size, 0, none⟩) 1 1) 1 ([x].map (Value.int .u8)) (w.alloc (.cells #[.int .u8 x] 5)) :=
  Src.ofSlice _ Try.underlying23 ⟨w.heap.size, 0, none⟩ 1 1 [.int .u8 x] rfl (by intro j u hj; match j, hj with | 0, hj => simp at hj; subst hj; simp [Addr.add]) (by intro u hu; simp at hu; subst hu; rfl)

theorem src_one' (w : World) (x : Int) : Src Try.prog 1 23 (.slice (some ⟨w.heap.size, 0, none⟩) 1 1) 1 ([x].map (Value.int .u8)) (w.alloc (.cells #[.int .u8 x] 5)).drew :=
  Src.ofSlice _ Try.underlying23 ⟨w.heap.size, 0, none⟩ 1 1 [.int .u8 x] rfl (by intro j u hj; match j, hj with | 0, hj => simp at hj; subst hj; simp [Addr.add]) (by intro u hu; simp at hu; subst hu; rfl)
theorem Own.drew {w : World} {v : Value} {zs : List Int} (h : Own w v zs) : Own w.drew v zs := h
theorem Own.alloc {w : World} {v : Value} {zs : List Int} (h : Own w v zs) (o : Obj) : Own (w.alloc o) v zs := h.of_block fun k hk => Below.heap_alloc w o k (h.lt hk)

theorem Row.news {w : World} {a : Option Addr} {zs : List Int} (h : Row w a zs) : ∀ ad, a = some ad → ∀ j u, (zs.map (Value.int .u8))[j]? = some u → w.cell? (ad.add j) = some u := by
  intro ad had j u hu
  have hj : j < zs.length := by have := (List.getElem?_eq_some_iff.1 hu).1; simpa using this
  rcases h with rfl | ⟨b, off, rfl, _, hc⟩
  · simp at hj
  · obtain rfl := Option.some.inj had
    rw [Addr.add_lit, hc j hj]
    rw [← hu]; simp [hj]
theorem src_row (w : World) (a : Option Addr) (n c : Nat) (ys : List Int) (hl : ys.length = n) (hn : a = none → n = 0 ∧ c = 0) (hr : Row w a ys) : Src Try.prog 1 23 (.slice a n c) n (ys.map (Value.int .u8)) w := by
  cases a with
  | none =>
    obtain ⟨rfl, rfl⟩ := hn rfl
    have e : ys = [] := List.eq_nil_of_length_eq_zero hl
    subst e
    exact Src.ofNil w Try.underlying23 0
  | some ad => exact Src.ofSlice w Try.underlying23 ad n c _ (by simp [hl]) (hr.news ad rfl) (ints_oneCell _ _)
theorem src_text (w : World) (s : ByteArray) : Src Try.prog 1 9 (.string s) s.size ((sb s).map (Value.int .u8)) w := by
  have e : (sb s).map (Value.int .u8) = byteCells s := by unfold sb byteCells; rw [List.map_map]; rfl
  rw [e]
  exact Src.ofString w Try.underlying9 s

set_option maxHeartbeats 800000 in
set_option maxRecDepth 1000000 in
theorem new_any (w : World) : Calls Try.prog 22 #[] w fun e w' => e = .returned (.pointer (some ⟨w.heap.size, 0, none⟩)) ∧ w' = w.alloc (.cells #[.slice none 0 0] 63) := by
  go_enter Try.func22, Try.ntmps22
  go_wp2
  go_ret
  exact ⟨rfl, rfl⟩

set_option maxHeartbeats 800000 in
set_option maxRecDepth 1000000 in
theorem wvarint_any (p v : Nat) (zs : List Int) (w : World) (hw : Wr w p zs) (hv : v < 18446744073709551616) (hb : zs.length + 10 ≤ 140737488355328) :
    Calls Try.prog 48 #[.pointer (some ⟨p, 0, none⟩), .int .u64 (v : Int)] w fun e w' => e = .returned (.tuple #[]) ∧ Wr w' p (zs ++ vb v) ∧ Wrote p w w' := by
  obtain ⟨i0, hi, hz0, hz1, hz2⟩ := info_parts Try.info5
  have HT := hide (vb_ten v hv)
  have HW := hide hw
  clear hw
  go_enter Try.func48, Try.ntmps48
  go_wp2
  go_loopw [1] (fun x wr => ∃ (u : Nat) (pre : List Int), x = .int .u64 (u : Int) ∧ u ≤ v ∧ pre ++ vb u = vb v ∧ Wr wr p (zs ++ pre) ∧ Wrote p w wr) (fun x _ => (intOf x).toNat)
  case atStart => exact ⟨v, [], rfl, Nat.le_refl _, rfl, by simpa using HW.out, Wrote.refl _ _⟩
  case round =>
    obtain ⟨u, pre, rfl, hu, hpre, hwr, hwrote⟩ := hrel
    have HPre := hide hpre
    have HWr := hide hwr
    have HWo := hide hwrote
    clear hpre hwr hwrote
    obtain ⟨va, hcell, hown, hap⟩ := HWr.out
    obtain ⟨a1, n1, c1, rfl, HN1⟩ := hown.shape2
    have k0 := cell_of_one hcell
    have f0 := free_of_one hcell
    have HC := hide hcell
    have HO := hide hown
    have HA := hide hap
    clear hcell hown hap
    have HL : Hid ((zs ++ pre).length + 1 ≤ 140737488355328) := by
      have h1 := congrArg List.length HPre.out
      have h2 := vb_pos u
      have h3 := HT.out
      rw [List.length_append] at h1
      rw [Hid, List.length_append]
      omega
    by_cases hlt : u < 128
    · have HV : Hid (vb v = pre ++ [(u : Int)]) := by rw [Hid, ← HPre.out, vb_small u hlt]
      go_wp2_with (at_builtin; refine wpList_append_src (by rfl) (.tmp 25) (.tmp 28) 23 23 (by rfl) i0 Try.underlying23 hi hz0 hz1 hz2 (.slice a1 n1 c1) (zs ++ pre) (by rfl) (HO.out.alloc _) (.slice (some ⟨wr.heap.size, 0, none⟩) 1 1) 1 [(u : Int)] (by rfl) (src_one _ _) HL.out ?_; intro v' w1 hown1 hg1 hf1; obtain ⟨k1, f1⟩ := after_cell HC.out HA.out (below_alloc _ _) hg1; obtain ⟨a2, n2, c2, rfl, HN2⟩ := hown1.shape2; have HR := hide (wrote_append HC.out HA.out (below_alloc _ _) hown1 hg1 hf1); clear hown1 hg1 hf1)
      go_end0
      refine ⟨rfl, ?_, HWo.out.trans HR.out.2⟩
      rw [HV.out, ← List.append_assoc]
      exact HR.out.1
    · have HV := hide (vb_big u hlt)
      have e1 : bits .and .u64 (u : Int) 127 = (u : Int) % 128 := and127 u (by omega)
      have e2 : bits .or .u8 ((u : Int) % 128) 128 = ((u % 128 + 128 : Nat) : Int) := or128 (u % 128) (by omega)
      go_wp2_with (at_builtin; refine wpList_append_src (by rfl) (.tmp 10) (.tmp 15) 23 23 (by rfl) i0 Try.underlying23 hi hz0 hz1 hz2 (.slice a1 n1 c1) (zs ++ pre) (by rfl) (HO.out.alloc _) (.slice (some ⟨wr.heap.size, 0, none⟩) 1 1) 1 [((u % 128 + 128 : Nat) : Int)] (by rfl) (src_one _ _) HL.out ?_; intro v' w1 hown1 hg1 hf1; obtain ⟨k1, f1⟩ := after_cell HC.out HA.out (below_alloc _ _) hg1; obtain ⟨a2, n2, c2, rfl, HN2⟩ := hown1.shape2; have HR := hide (wrote_append HC.out HA.out (below_alloc _ _) hown1 hg1 hf1); clear hown1 hg1 hf1)
      go_roundw
      case rel => exact ⟨u / 128, pre ++ [((u % 128 + 128 : Nat) : Int)], by go_num, by omega, by rw [List.append_assoc, List.singleton_append, ← HV.out]; exact HPre.out, by rw [← List.append_assoc]; exact HR.out.1, HWo.out.trans HR.out.2⟩
      case measure => simp [intOf]; omega

set_option maxHeartbeats 800000 in
set_option maxRecDepth 1000000 in
theorem wtext_any (p : Nat) (s : ByteArray) (zs : List Int) (w : World) (hw : Wr w p zs) (hs : s.size ≤ 10000000) (hb : zs.length ≤ 100000000000000) :
    Calls Try.prog 47 #[.pointer (some ⟨p, 0, none⟩), .string s] w fun e w' => e = .returned (.tuple #[]) ∧ Wr w' p (zs ++ (vb s.size ++ sb s)) ∧ Wrote p w w' := by
  obtain ⟨i0, hi, hz0, hz1, hz2⟩ := info_parts Try.info5
  have HW := hide hw
  clear hw
  go_enter Try.func47, Try.ntmps47
  go_wp2_with fail
  refine (wvarint_any p s.size zs _ HW.out (by omega) (by omega)).mono ?_
  rintro e w1 ⟨rfl, hw1, hwo1⟩
  have HW1 := hide hw1
  have HWo1 := hide hwo1
  have HB : Hid ((zs ++ vb s.size).length + s.size ≤ 140737488355328) := by
    have := vb_ten s.size (by omega)
    rw [Hid, List.length_append]; omega
  clear hw1 hwo1
  obtain ⟨va, hcell, hown, hap⟩ := HW1.out
  obtain ⟨a1, n1, c1, rfl, HN1⟩ := hown.shape2
  have k0 := cell_of_one hcell
  have f0 := free_of_one hcell
  have HC := hide hcell
  have HO := hide hown
  have HA := hide hap
  clear hcell hown hap
  go_wp2_with (at_builtin; refine wpList_append_src (by rfl) (.tmp 13) (.tmp 14) 23 9 (by rfl) i0 Try.underlying23 hi hz0 hz1 hz2 (.slice a1 n1 c1) (zs ++ vb s.size) (by rfl) HO.out (.string s) s.size (sb s) (by rfl) (src_text _ s) HB.out ?_; intro v' w1 hown1 hg1 hf1; obtain ⟨k1, f1⟩ := after_cell HC.out HA.out (Below.refl _ _) hg1; obtain ⟨a2, n2, c2, rfl, HN2⟩ := hown1.shape2; have HR := hide (wrote_append HC.out HA.out (Below.refl _ _) hown1 hg1 hf1); clear hown1 hg1 hf1)
  go_end0
  exact ⟨rfl, by rw [← List.append_assoc]; exact HR.out.1, HWo1.out.trans HR.out.2⟩

set_option maxHeartbeats 800000 in
set_option maxRecDepth 1000000 in
theorem wsigned_any (p : Nat) (v : Int) (zs : List Int) (w : World) (hw : Wr w p zs) (h1 : -9223372036854775808 ≤ v) (h2 : v ≤ 9223372036854775807) (hb : zs.length + 10 ≤ 140737488355328) :
    Calls Try.prog 46 #[.pointer (some ⟨p, 0, none⟩), .int .i64 v] w fun e w' => e = .returned (.tuple #[]) ∧ Wr w' p (zs ++ vb (zz v)) ∧ Wrote p w w' := by
  have HC := hide (wvarint_any p (zz v) zs w hw (zz_lt v h1 h2) hb)
  clear hw
  go_enter Try.func46, Try.ntmps46
  by_cases hv : v < 0
  · have HE := hide (zz_neg v h1 hv)
    go_wp2_with fail
    rw [HE.out]
    refine HC.out.mono ?_
    rintro e w1 ⟨rfl, hw1, hwo1⟩
    have HR := hide (And.intro hw1 hwo1)
    clear hw1 hwo1
    go_wp2
    go_returns
    exact ⟨rfl, HR.out.1, HR.out.2⟩
  · have HE : Hid (v * 2 = ((zz v : Nat) : Int)) := by rw [Hid]; unfold zz; rw [if_neg hv]; omega
    go_wp2_with fail
    rw [HE.out]
    refine HC.out.mono ?_
    rintro e w1 ⟨rfl, hw1, hwo1⟩
    have HR := hide (And.intro hw1 hwo1)
    clear hw1 hwo1
    go_wp2
    go_end0
    exact ⟨rfl, HR.out.1, HR.out.2⟩

set_option maxHeartbeats 800000 in
set_option maxRecDepth 1000000 in
theorem wlen_any (p : Nat) (zs : List Int) (w : World) (hw : Wr w p zs) :
    Calls Try.prog 15 #[.pointer (some ⟨p, 0, none⟩)] w fun e w' => e = .returned (.int .i64 (zs.length : Int)) ∧ w' = w := by
  obtain ⟨va, hcell, hown, hap⟩ := hw
  obtain ⟨a1, n1, c1, rfl, HN1⟩ := hown.shape2
  have k0 := cell_of_one hcell
  clear hcell hown hap
  go_enter Try.func15, Try.ntmps15
  go_wp2
  go_ret
  exact ⟨by rw [HN1.out]; rfl, rfl⟩

set_option maxHeartbeats 800000 in
set_option maxRecDepth 1000000 in
theorem copied_any (a : Option Addr) (n c : Nat) (zs : List Int) (w : World) (hl : zs.length = n) (hr : Row w a zs) (hb : n ≤ 140737488355328) :
    Calls Try.prog 25 #[.slice a n c] w fun e w' => ∃ a', e = .returned (.slice a' n n) ∧ Own w' (.slice a' n n) zs ∧ (a' = none ∨ a' = some ⟨w.heap.size, 0, none⟩) ∧ Below w.heap.size w w' := by
  have HR := hide hr
  have HL := hide hl
  clear hr hl
  by_cases h0 : n = 0
  · subst h0
    have hz : zs = [] := List.eq_nil_of_length_eq_zero HL.out
    go_enter Try.func25, Try.ntmps25
    go_wp2
    go_ret
    exact ⟨none, rfl, by rw [hz]; exact Own.nil _, .inl rfl, Below.refl _ _⟩
  · rcases HR.out with h | ⟨b, off, rfl, hlt, hc⟩
    · have := HL.out; rw [h] at this; simp at this; omega
    have hmk := run_make_row' (P := Try.prog) 23 5 (.int .u8 0) 1 Try.underlying23 Try.info5 rfl .i64 .i64 n (by omega) (by omega)
    have hne : ((n : Int) == 0) = false := by simp; omega
    have hs1 : (Try.prog.info? 5).map (·.size) = some 1 := by kernel_rfl
    have HQ1 : Hid ((zs.map (Value.int .u8)).length = Nat.min n n) := by rw [Hid, List.length_map, HL.out]; simp
    have HQ2 : Hid (∀ j v, (zs.map (Value.int .u8))[j]? = some v → (w.alloc (.cells (madeCells #[Value.int .u8 0] n) 5)).cell? ((⟨b, off, none⟩ : Addr).add j) = some v) := (HR.out.below (below_alloc _ _)).news _ rfl
    have HQ3 : Hid (0 + (zs.map (Value.int .u8)).length ≤ (madeCells #[Value.int .u8 0] n).size) := by rw [Hid, List.length_map, HL.out, size_madeCells]; simp
    have HQ4 : Hid ((madeCells #[Value.int .u8 0] n).toList.take 0 ++ (zs.map (Value.int .u8) ++ (madeCells #[Value.int .u8 0] n).toList.drop (0 + (zs.map (Value.int .u8)).length)) = zs.map (Value.int .u8)) := by
      rw [Hid, List.take_zero, List.nil_append, List.drop_of_length_le (by rw [Array.length_toList, size_madeCells, List.length_map, HL.out]; simp), List.append_nil]
    clear hc
    go_enter Try.func25, Try.ntmps25
    have HCp := hide (run_copy_row (P := Try.prog) (w.alloc (.cells (madeCells #[Value.int .u8 0] n) 5)) 23 23 3 5 w.heap.size 0 n n ⟨b, off, none⟩ n c (madeCells #[Value.int .u8 0] n) 5 (zs.map (Value.int .u8)) Try.underlying23 hs1 (heap_alloc_new w _) HQ1.out HQ2.out HQ3.out (ints_oneCell _ _))
    go_wp2_with fail
    rw [HCp.out, List.append_assoc, HQ4.out]
    go_wp2
    go_ret
    have hrow := setRow_heap (w.alloc (.cells (madeCells #[Value.int .u8 0] n) 5)) w.heap.size (madeCells #[Value.int .u8 0] n) (zs.map (Value.int .u8)).toArray 5 _ (heap_alloc_new w _)
    refine ⟨_, rfl, ⟨by simp, .inr ⟨w.heap.size, n, _, by rw [HL.out], Nat.zero_le _, hrow, by rw [HL.out]; exact Nat.le_refl _, by unfold maxLen; omega, by simp [HL.out], by rw [Nat.mul_one, List.take_of_length_le (by simp)]⟩⟩, .inr rfl, below_setRow (below_alloc _ _) (Nat.le_refl _) _⟩

set_option maxHeartbeats 800000 in
set_option maxRecDepth 1000000 in
theorem wbytes_any (p : Nat) (zs : List Int) (w : World) (hw : Wr w p zs) (hb : zs.length ≤ 140737488355328) :
    Calls Try.prog 16 #[.pointer (some ⟨p, 0, none⟩)] w fun e w' => ∃ a', e = .returned (.slice a' zs.length zs.length) ∧ Own w' (.slice a' zs.length zs.length) zs ∧ (a' = none ∨ a' = some ⟨w.heap.size, 0, none⟩) ∧ Below w.heap.size w w' := by
  obtain ⟨va, hcell, hown, hap⟩ := hw
  obtain ⟨a1, c1, rfl, _, _, _, hrow, _⟩ := hown.shape
  have k0 := cell_of_one hcell
  have H := hide (copied_any a1 zs.length c1 zs w rfl hrow hb)
  clear hcell hown hap hrow
  generalize zs.length = n at *
  go_enter Try.func16, Try.ntmps16
  go_wp2_with fail
  refine H.out.mono ?_
  rintro e w1 ⟨a', rfl, hr⟩
  have HR := hide hr
  clear hr
  go_wp2
  go_ret
  exact ⟨a', rfl, HR.out⟩

set_option maxHeartbeats 1600000 in
set_option maxRecDepth 1000000 in
theorem wfixed_any (p v n : Nat) (zs : List Int) (w : World) (hw : Wr w p zs) (hv : v < 18446744073709551616) (hn : n ≤ 8) (hb : zs.length + 8 ≤ 140737488355328) :
    Calls Try.prog 58 #[.pointer (some ⟨p, 0, none⟩), .int .u64 (v : Int), .int .i64 (n : Int)] w fun e w' => e = .returned (.tuple #[]) ∧ Wr w' p (zs ++ fb v n) ∧ Wrote p w w' := by
  obtain ⟨i0, hi, hz0, hz1, hz2⟩ := info_parts Try.info5
  have HW := hide hw
  have HB := hide hb
  clear hw hb
  go_enter Try.func58, Try.ntmps58
  go_wp2
  go_loopw [6] (fun x wr => ∃ (k : Nat) (pre : List Int), x = .int .i64 ((k : Int) - 1) ∧ k ≤ n ∧ pre ++ fb v k = fb v n ∧ Wr wr p (zs ++ pre) ∧ Wrote p w wr) (fun x _ => (intOf x + 1).toNat)
  case atStart => exact ⟨n, [], rfl, Nat.le_refl _, rfl, by simpa using HW.out, Wrote.refl _ _⟩
  case round =>
    obtain ⟨k, pre, rfl, hk, hpre, hwr, hwrote⟩ := hrel
    have HPre := hide hpre
    have HWr := hide hwr
    have HWo := hide hwrote
    clear hpre hwr hwrote
    cases k with
    | zero =>
      have HF : Hid (pre = fb v n) := by have := HPre.out; rw [fb, List.append_nil] at this; exact this
      go_wp2
      go_returns
      exact ⟨rfl, by rw [← HF.out]; exact HWr.out, HWo.out⟩
    | succ m =>
      obtain ⟨va, hcell, hown, hap⟩ := HWr.out
      obtain ⟨a1, n1, c1, rfl, HN1⟩ := hown.shape2
      have k0 := cell_of_one hcell
      have f0 := free_of_one hcell
      have HC := hide hcell
      have HO := hide hown
      have HA := hide hap
      clear hcell hown hap
      have HL : Hid ((zs ++ pre).length + 1 ≤ 140737488355328) := by
        have h1 := congrArg List.length HPre.out
        have h3 := HB.out
        rw [List.length_append, fb_len, fb_len] at h1
        rw [Hid, List.length_append]
        omega
      have hsh := shr_run Try.prog v m (by omega)
      have HQ : Hid (fb v (m + 1) = [IntKind.u8.wrap ((v / 256 ^ m : Nat) : Int)] ++ fb v m) := by rw [Hid, fb, List.singleton_append, wrap8]
      have hq : v / 256 ^ m < 18446744073709551616 := Nat.lt_of_le_of_lt (Nat.div_le_self _ _) hv
      generalize v / 256 ^ m = q at *
      have kx : (wr.alloc (.cells #[.int .u8 (IntKind.u8.wrap (q : Int))] 5)).cell? ⟨p, 0, none⟩ = some (.slice a1 n1 c1) := (World.cell?_of_block (a := ⟨p, 0, none⟩) (Below.heap_alloc wr _ p (lt_of_block HC.out))).trans k0
      have hm1 : ((m + 1 : Nat) : Int) - 1 = (m : Int) := by omega
      go_wp2
      rw [hm1]
      go_region_law (refine step_append_src (by rfl) (.tmp 17) (.tmp 23) 23 23 (by rfl) i0 Try.underlying23 hi hz0 hz1 hz2 (.slice a1 n1 c1) (zs ++ pre) (by rfl) (HO.out.alloc _).drew (.slice (some ⟨wr.heap.size, 0, none⟩) 1 1) 1 [IntKind.u8.wrap (q : Int)] (by rfl) (src_one' _ _) HL.out ?_; intro v' w1 hown1 hg1 hf1; obtain ⟨k1, f1⟩ := after_cell HC.out HA.out (below_alloc _ _).drew hg1; obtain ⟨a2, n2, c2, rfl, HN2⟩ := hown1.shape2; have HR := hide (wrote_append HC.out HA.out (below_alloc _ _).drew hown1 hg1 hf1); clear hown1 hg1 hf1)
      all_goals
        go_wp2
        go_roundw
        case rel => exact ⟨m, pre ++ [IntKind.u8.wrap (q : Int)], by go_num, by omega, by rw [List.append_assoc, ← HQ.out]; exact HPre.out, by rw [← List.append_assoc]; exact HR.out.1, HWo.out.trans HR.out.2⟩
        case measure => simp [intOf]

set_option maxHeartbeats 800000 in
set_option maxRecDepth 1000000 in
theorem wu8_any (p v : Nat) (zs : List Int) (w : World) (hw : Wr w p zs) (hv : v < 256) (hb : zs.length + 8 ≤ 140737488355328) :
    Calls Try.prog 44 #[.pointer (some ⟨p, 0, none⟩), .int .u8 (v : Int)] w fun e w' => e = .returned (.tuple #[]) ∧ Wr w' p (zs ++ fb v 1) ∧ Wrote p w w' := by
  have H := hide (wfixed_any p v 1 zs w hw (by omega) (by omega) hb)
  clear hw
  go_enter Try.func44, Try.ntmps44
  go_wp2_with fail
  refine H.out.mono ?_
  rintro e w1 ⟨rfl, hw1, hwo1⟩
  have HR := hide (And.intro hw1 hwo1)
  clear hw1 hwo1
  go_wp2
  go_returns
  exact ⟨rfl, HR.out.1, HR.out.2⟩
end Go.Proofs.Ytehapglbenaikaa
