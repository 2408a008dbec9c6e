/- A value in pieces of 1004 bytes. -/
import Derived.Test.YtpcckaahfaobeaaOR
import Derived.Test.YtpcckaahfaobeaaOB
import Derived.Shelf.Abstract
import Derived.Shelf.RegionOpen
import Derived.OwnWalkIn
import Derived.TacticsInMore
import Derived.LoopNIn
import Derived.LoopIn
import Derived.Sort.BigQuietIn
namespace Go.Proofs.Ytpcckaahfaobeaa
open Go.RowKit Go.Shelf
attribute [local go_sem] Oper.semAt_some
set_option linter.unusedVariables false
variable {w w' : World}
set_option maxHeartbeats 800000 in
theorem chunk_any (a : Option Addr) (n c : Nat) (w : World) :
    Calls Try.prog 16 #[.slice a n c, .int .i64 1004] w fun e w' => e = .returned (.func (.func 26) #[] #[.pointer (some ⟨w.heap.size, 0, none⟩), .pointer (some ⟨w.heap.size + 1, 0, none⟩)]) ∧ w' = (w.alloc (.cells #[.slice a n c] 22)).alloc (.cells #[.int .i64 1004] 3) := by
  go_enter Try.func16, Try.ntmps16
  go_wp2
  go_ret
  exact ⟨rfl, rfl⟩
/-- the boxes of what is ranged over. -/
structure Cb (b : Nat) (v : Value) (W : World) : Prop where
  s : W.heap[b]? = some (.cells #[v] 22 (0, 0))
  n : W.heap[b + 1]? = some (.cells #[.int .i64 1004] 3 (0, 0))
/-- the k-th piece. -/
def pc (b0 off n k : Nat) : Value := .slice (some ⟨b0, off + 1004 * k, none⟩) (min 1004 (n - 1004 * k)) (min 1004 (n - 1004 * k))
set_option maxHeartbeats 3200000 in
set_option maxRecDepth 1000000 in
theorem chunk1_goes (b b0 off n c : Nat) (hn : n ≤ 8192) (hc : n ≤ c) (hcm : c ≤ 9223372036854775807) :
    GoesS Try.prog 26 #[.pointer (some ⟨b, 0, none⟩), .pointer (some ⟨b + 1, 0, none⟩)] (fun k => #[pc b0 off n k]) (List.range ((n + 1003) / 1004)) (Cb b (.slice (some ⟨b0, off, none⟩) n c)) := by
  intro l J Jx W hJ hJx hM hY h0
  have HM := hide hM
  have HJ := hide hJ
  have HY := hide hY
  have H0 := hide h0
  obtain ⟨m, hm⟩ : ∃ m, m = (n + 1003) / 1004 := ⟨_, rfl⟩
  rw [← hm] at HY ⊢
  have HMm := hide hm
  have hc0 := (hM [] W h0)
  have q0 := cell_of_one hc0.s
  have q1 := cell_of_one hc0.n
  clear hM hJ hY h0 hJx hm hc0
  refine (callsIn_wide (n := 9)).1 ?_
  refine callsIn_of_wp Try.func26 rfl trivial ?_ rfl
  simp only [Try.ntmps26, List.size_toArray, List.length_cons, List.length_nil, Nat.reduceAdd, Nat.reduceSub, Array.replicate_succ, Array.replicate_zero, List.push_toArray, List.append_toArray, List.nil_append, List.cons_append]
  gi_wp2
  gi_loopw [4] (fun i wr => ∃ j : Nat, j ≤ m ∧ i = .int .i64 (1004 * j : Nat) ∧ J (List.range j) wr) (fun i _ => 10000 - (intOf i).toNat)
  case atStart => exact ⟨0, by omega, rfl, H0.out⟩
  case round =>
    obtain ⟨j, hj, rfl, hJs⟩ := hrel
    have hmm := HMm.out
    have hc1 := HM.out _ _ hJs
    have q2 := cell_of_one hc1.s
    have q3 := cell_of_one hc1.n
    clear q0 q1 hc1
    by_cases hlt : j < m
    · have hi : ((1004 * j : Nat) : Int) < (n : Int) := by omega
      have HR : Hid (List.range m = List.range j ++ j :: (List.range m).drop (j + 1)) := by
        rw [Hid]
        conv => lhs; rw [← List.take_append_drop j (List.range m)]
        rw [List.take_range, Nat.min_eq_left (by omega), List.drop_eq_getElem_cons (by simpa using hlt), List.getElem_range]
      have HS : Hid (List.range (j + 1) = List.range j ++ [j]) := List.range_succ
      have hb1 : 1004 * j ≤ 10000 := by omega
      have HJs := hide hJs
      clear hJs
      by_cases hfull : 1004 ≤ n - 1004 * j
      · have HE : Hid (pc b0 off n j = .slice (some ⟨b0, off + 1004 * j, none⟩) 1004 1004) := by
          rw [Hid, pc, Nat.min_eq_left hfull]
        have HNx : Hid ((((1004 * j : Nat) : Int) + 1004) = ((1004 * (j + 1) : Nat) : Int)) := by rw [Hid]; omega
        have hf1 : (1004 : Int) ≤ ((n - 1004 * j : Nat) : Int) := by omega
        have hf2 : ¬ ((n - 1004 * j : Nat) : Int) < 1004 := by omega
        clear hmm
        generalize hI : 1004 * j = I at *
        have HI := hide hI
        clear hI
        gi_wp2
        gi_big_quiet_th (fail)
        obtain ⟨fn, tmps, assign, body, hy, hR⟩ := HY.out (List.range j) j _ (wr.drewN nq) HR.out (HJ.out _ _ _ HJs.out ((Same.refl wr).drewN nq).below)
        rw [HE.out] at hy
        gi_wp2
        refine (RoundIn.anyDepth rfl hR).mono ?_
        rintro e W3 (⟨rfl, hJ3⟩ | ⟨rfl, hJx3⟩)
        · have hc3 := HM.out _ _ hJ3
          have q4 := cell_of_one hc3.n
          clear q2 q3 hc3
          gi_wp2
          go_roundw
          case rel => exact ⟨j + 1, by omega, by rw [← HNx.out], by rw [HS.out]; exact hJ3⟩
          case measure => simp [intOf]; omega
        · gi_wp2
          refine bodyPost_ret (results_none rfl _ _ _) rfl ?_
          exact ⟨⟨_, rfl⟩, .inr hJx3⟩
      · have HE : Hid (pc b0 off n j = .slice (some ⟨b0, off + 1004 * j, none⟩) (n - 1004 * j) (n - 1004 * j)) := by
          rw [Hid, pc, Nat.min_eq_right (by omega)]
        have HNx : Hid ((((1004 * j : Nat) : Int) + 1004) = ((1004 * (j + 1) : Nat) : Int)) := by rw [Hid]; omega
        have hf1 : ¬ (1004 : Int) ≤ ((n - 1004 * j : Nat) : Int) := by omega
        have hf2 : ((n - 1004 * j : Nat) : Int) < 1004 := by omega
        clear hmm
        generalize hI : 1004 * j = I at *
        have HI := hide hI
        clear hI
        gi_wp2
        gi_big_quiet_th (fail)
        obtain ⟨fn, tmps, assign, body, hy, hR⟩ := HY.out (List.range j) j _ (wr.drewN nq) HR.out (HJ.out _ _ _ HJs.out ((Same.refl wr).drewN nq).below)
        rw [HE.out] at hy
        gi_wp2
        refine (RoundIn.anyDepth rfl hR).mono ?_
        rintro e W3 (⟨rfl, hJ3⟩ | ⟨rfl, hJx3⟩)
        · have hc3 := HM.out _ _ hJ3
          have q4 := cell_of_one hc3.n
          clear q2 q3 hc3
          gi_wp2
          go_roundw
          case rel => exact ⟨j + 1, by omega, by rw [← HNx.out], by rw [HS.out]; exact hJ3⟩
          case measure => simp [intOf]; omega
        · gi_wp2
          refine bodyPost_ret (results_none rfl _ _ _) rfl ?_
          exact ⟨⟨_, rfl⟩, .inr hJx3⟩
    · obtain rfl : j = m := by omega
      have hi : ¬ ((1004 * j : Nat) : Int) < (n : Int) := by omega
      have HJs := hide hJs
      clear hJs hmm
      generalize hI : 1004 * j = I at *
      have HI := hide hI
      clear hI
      gi_wp2
      go_end0
      exact ⟨⟨_, rfl⟩, .inl HJs.out⟩
end Go.Proofs.Ytpcckaahfaobeaa
