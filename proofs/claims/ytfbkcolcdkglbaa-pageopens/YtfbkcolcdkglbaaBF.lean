/- Contract of asking a book of lists of bytes whether they are their owner's alone. -/
import Derived.Test.YtfbkcolcdkglbaaBD
import Derived.Test.YtfbkcolcdkglbaaBE
namespace Go.Proofs.Ytfbkcolcdkglbaa
open Go.RowKit
set_option linter.unusedVariables false

set_option maxHeartbeats 1600000 in
set_option maxRecDepth 1000000 in
theorem own35_nil (w : World) : Calls Try.prog 35 #[.slice none 0 0] w fun r w' => r = .returned (.bool true) ∧ w' = w := by
  go_enter Try.func35, Try.ntmps35
  go_wp2
  go_loopw [3] (fun i wr' => i = .int .i64 0 ∧ wr' = w) (fun _ _ => 0)
  case atStart => exact ⟨rfl, rfl⟩
  case round =>
    obtain ⟨rfl, rfl⟩ := hrel
    go_wp2
    go_loopw [6] (fun i wr' => i = .int .i64 0 ∧ wr' = wr) (fun _ _ => 0)
    case atStart => exact ⟨rfl, rfl⟩
    case round =>
      obtain ⟨rfl, rfl⟩ := hrel
      go_wp2
      go_loopw [9] (fun i wr' => i = .int .i64 0 ∧ wr' = wr) (fun _ _ => 0)
      case atStart => exact ⟨rfl, rfl⟩
      case round =>
        obtain ⟨rfl, rfl⟩ := hrel
        go_wp2
        go_ret
        exact ⟨rfl, rfl⟩
theorem ownBytes_any (v : Value) (n : Nat) (A : Nat → Option Addr) (C : Nat → Nat) (Z : Nat → List Int) (w : World) (h : Fam w v n A C Z) (hn : n ≤ 100000) (hz : ∀ i, i < n → (Z i).length ≤ 10000000) :
    Calls Try.prog 35 #[v] w fun r w' => r = .returned (.bool true) ∧ Kp (rft n A) w w' := by
  rcases h.list.2 with ⟨rfl, h0⟩ | ⟨g, cap, cur, rfl, _⟩
  · refine (own35_nil w).mono ?_
    rintro r w' ⟨rfl, rfl⟩
    exact ⟨rfl, Kp.refl _ _⟩
  · exact ownBytes_some g n cap A C Z w h hn hz
theorem Try.info152 : (Try.prog.info? 152).map (fun i => (i.zero, i.size, i.bytes)) = some (some (.slice none 0 0), 1, 24) := by kernel_rfl
set_option maxHeartbeats 1600000 in
set_option maxRecDepth 1000000 in
theorem own52_nil (w : World) : Calls Try.prog 52 #[.slice none 0 0] w fun r w' => r = .returned (.bool true) ∧ Below w.heap.size w w' := by
  have hmk := run_make_row' (P := Try.prog) 49 152 (.slice none 0 0) 24 Try.underlying49 Try.info152 rfl .i64 .i64 0 (by omega) (by omega)
  simp only [Int.ofNat_zero] at hmk
  go_enter Try.func52, Try.ntmps52
  go_wp2
  go_loopw [4] (fun i wr' => i = .int .i64 0 ∧ Below w.heap.size w wr') (fun _ _ => 0)
  case atStart => exact ⟨rfl, below_alloc _ _⟩
  case round =>
    obtain ⟨rfl, hb⟩ := hrel
    have hsh : (Op.shift .shl .i64 1 .u64 0).run Try.prog wr = .ok (.int .i64 1) wr := by kernel_rfl
    go_wp2
    go_ret
    exact ⟨rfl, hb⟩
theorem Bk.cs {w : World} {q : Nat} {v : Value} (h : Bk w q v) (j : Nat) (h1 : 0 < j) (h2 : j < 23) : w.cell? ⟨q, j, none⟩ = some (.slice none 0 0) := by
  unfold Bk at h
  simp only [World.cell?, h]
  match j, h1, h2 with
  | 0, h, _ => omega
  | 1, _, _ => rfl
  | 2, _, _ => rfl
  | 3, _, _ => rfl
  | 4, _, _ => rfl
  | 5, _, _ => rfl
  | 6, _, _ => rfl
  | 7, _, _ => rfl
  | 8, _, _ => rfl
  | 9, _, _ => rfl
  | 10, _, _ => rfl
  | 11, _, _ => rfl
  | 12, _, _ => rfl
  | 13, _, _ => rfl
  | 14, _, _ => rfl
  | 15, _, _ => rfl
  | 16, _, _ => rfl
  | 17, _, _ => rfl
  | 18, _, _ => rfl
  | 19, _, _ => rfl
  | 20, _, _ => rfl
  | 21, _, _ => rfl
  | 22, _, _ => rfl
  | k + 23, _, h => omega
set_option maxHeartbeats 3200000 in
set_option maxRecDepth 1000000 in
theorem own_any (q : Nat) (v : Value) (n : Nat) (A : Nat → Option Addr) (C : Nat → Nat) (Z : Nat → List Int) (w : World) (hb : Bk w q v) (h : Fam w v n A C Z) (hn : n ≤ 100000) (hz : ∀ i, i < n → (Z i).length ≤ 10000000) :
    Calls Try.prog 17 #[.pointer (some ⟨q, 0, none⟩)] w fun r w' => r = .returned (.bool true) ∧ Kp (rft n A) w w' := by
  have c0 := hb.c0
  have HB := hide hb
  have H := hide (ownBytes_any v n A C Z w h hn hz)
  have HQ : Hid (¬ rft n A q) := by
    rintro ⟨i, hi, hk⟩
    exact book_ne_row hb (h.rows i hi) ((blks_rv _ _ _ q).2 hk)
  clear hb h hz
  go_enter Try.func17, Try.ntmps17
  go_wp2_with fail
  refine H.out.mono ?_
  rintro r W1 ⟨rfl, hk⟩
  have hb1 : Bk W1 q v := (hk.block q HB.out.lt HQ.out).trans HB.out
  have HB1 := hide hb1
  have HK := hide hk
  have c1 := hb1.cs 1 (by omega) (by omega)
  have c2 := hb1.cs 2 (by omega) (by omega)
  have c3 := hb1.cs 3 (by omega) (by omega)
  have c4 := hb1.cs 4 (by omega) (by omega)
  have c5 := hb1.cs 5 (by omega) (by omega)
  have c6 := hb1.cs 6 (by omega) (by omega)
  have c7 := hb1.cs 7 (by omega) (by omega)
  have c8 := hb1.cs 8 (by omega) (by omega)
  have c9 := hb1.cs 9 (by omega) (by omega)
  have c10 := hb1.cs 10 (by omega) (by omega)
  have c11 := hb1.cs 11 (by omega) (by omega)
  have c12 := hb1.cs 12 (by omega) (by omega)
  have c13 := hb1.cs 13 (by omega) (by omega)
  have c14 := hb1.cs 14 (by omega) (by omega)
  have c15 := hb1.cs 15 (by omega) (by omega)
  have c16 := hb1.cs 16 (by omega) (by omega)
  have c17 := hb1.cs 17 (by omega) (by omega)
  clear hb1 hk c0 H
  go_wp2_with fail
  refine (own36_nil _).mono ?_
  rintro r W2 ⟨rfl, hw⟩
  cases hw
  go_wp2_with fail
  refine (own37_nil _).mono ?_
  rintro r W2 ⟨rfl, hw⟩
  cases hw
  go_wp2_with fail
  refine (own38_nil _).mono ?_
  rintro r W2 ⟨rfl, hw⟩
  cases hw
  go_wp2_with fail
  refine (own39_nil _).mono ?_
  rintro r W2 ⟨rfl, hw⟩
  cases hw
  go_wp2_with fail
  refine (own40_nil _).mono ?_
  rintro r W2 ⟨rfl, hw⟩
  cases hw
  go_wp2_with fail
  refine (own41_nil _).mono ?_
  rintro r W2 ⟨rfl, hw⟩
  cases hw
  go_wp2_with fail
  refine (own42_nil _).mono ?_
  rintro r W2 ⟨rfl, hw⟩
  cases hw
  go_wp2_with fail
  refine (own43_nil _).mono ?_
  rintro r W2 ⟨rfl, hw⟩
  cases hw
  go_wp2_with fail
  refine (own44_nil _).mono ?_
  rintro r W2 ⟨rfl, hw⟩
  cases hw
  go_wp2_with fail
  refine (own45_nil _).mono ?_
  rintro r W2 ⟨rfl, hw⟩
  cases hw
  go_wp2_with fail
  refine (own46_nil _).mono ?_
  rintro r W2 ⟨rfl, hw⟩
  cases hw
  go_wp2_with fail
  refine (own47_nil _).mono ?_
  rintro r W2 ⟨rfl, hw⟩
  cases hw
  go_wp2_with fail
  refine (own48_nil _).mono ?_
  rintro r W2 ⟨rfl, hw⟩
  cases hw
  go_wp2_with fail
  refine (own49_nil _).mono ?_
  rintro r W2 ⟨rfl, hw⟩
  cases hw
  go_wp2_with fail
  refine (own50_nil _).mono ?_
  rintro r W2 ⟨rfl, hw⟩
  cases hw
  go_wp2_with fail
  refine (own51_nil _).mono ?_
  rintro r W2 ⟨rfl, hw⟩
  cases hw
  go_wp2_with fail
  refine (own52_nil _).mono ?_
  rintro r W2 ⟨rfl, hbl⟩
  have hb2 : Bk W2 q v := (hbl.block q HB1.out.lt).trans HB1.out
  have HK2 : Hid (Kp (rft n A) w W2) := HK.out.trans (Kp.of_below hbl)
  clear c1 c2 c3 c4 c5 c6 c7 c8 c9 c10 c11 c12 c13 c14 c15 c16 c17 hbl
  have c18 := hb2.cs 18 (by omega) (by omega)
  have c19 := hb2.cs 19 (by omega) (by omega)
  have c20 := hb2.cs 20 (by omega) (by omega)
  have c21 := hb2.cs 21 (by omega) (by omega)
  have c22 := hb2.cs 22 (by omega) (by omega)
  clear hb2
  go_wp2_with fail
  refine (own53_nil _).mono ?_
  rintro r W3 ⟨rfl, hw⟩
  cases hw
  go_wp2_with fail
  refine (own54_nil _).mono ?_
  rintro r W3 ⟨rfl, hw⟩
  cases hw
  go_wp2_with fail
  refine (own55_nil _).mono ?_
  rintro r W3 ⟨rfl, hw⟩
  cases hw
  go_wp2_with fail
  refine (own56_nil _).mono ?_
  rintro r W3 ⟨rfl, hw⟩
  cases hw
  go_wp2_with fail
  refine (own57_nil _).mono ?_
  rintro r W3 ⟨rfl, hw⟩
  cases hw
  go_wp2
  go_ret
  exact ⟨rfl, HK2.out⟩
end Go.Proofs.Ytfbkcolcdkglbaa
