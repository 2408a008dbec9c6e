/- A list: how many may be taken, what is added, what is taken. -/
import Derived.Test.YtlahkeapfcfbbaaDoorLE
namespace Go.Proofs.YtlahkeapfcfbbaaDoor
open Go.RowKit Go.Maps
set_option linter.unusedVariables false
variable {w w' : World} {l pw pr : Nat} {vw vr vw' vr' : Value} {ms : List Nat} {R : Int} {A B A' B' M : List Pg} {O : Nat → Prop}
set_option maxHeartbeats 1600000 in
set_option maxRecDepth 1000000 in
theorem may_any (h : LsAt w l M O) (hf : M.length ≤ 900000) (G : Int) : Calls Tryd.prog 12 #[.pointer (some ⟨l, 0, none⟩), .int .u64 G] w fun e w' => e = .returned (.int .i64 ((M.countP (fun x => decide (x.2 ≤ G)) : Nat) : Int)) ∧ Below w.heap.size w w' := by
  obtain ⟨pw, pr, vw, vr, ms, R, A, B, h1, h2, h3, h4⟩ := h
  obtain ⟨-, -, c2, c3⟩ := h1.c
  have hl2 : A.length + B.length ≤ 900000 := by rw [← List.length_append, h3.length_eq]; exact hf
  have HA := hide (fun W (hW : Below w.heap.size w W) => count_any (h1.below hW).rd (by omega) G)
  have HB := hide (fun W (hW : Below w.heap.size w W) => count_any (h1.below hW).wt (by omega) G)
  have hl : (M.countP (fun x => decide (x.2 ≤ G))) = A.countP (fun x => decide (x.2 ≤ G)) + B.countP (fun x => decide (x.2 ≤ G)) := by rw [← h3.countP_eq, List.countP_append]
  have ha : A.countP (fun x => decide (x.2 ≤ G)) ≤ A.length := List.countP_le_length
  have hb : B.countP (fun x => decide (x.2 ≤ G)) ≤ B.length := List.countP_le_length
  have HCl := hide (fun W (hW : Below w.heap.size w W) => (h1.below hW).c)
  rw [hl]
  have M1 : True := trivial
  clear hl h2 h3 h4
  generalize A.countP (fun x => decide (x.2 ≤ G)) = m at *
  generalize B.countP (fun x => decide (x.2 ≤ G)) = n at *
  go_enter Tryd.func12, Tryd.ntmps12
  go_wp2
  go_region_with (first
    | (clear M1; go_at_call 33; refine (HA.out _ (Below.refl _ _).drew).mono ?_; rintro e w2 ⟨rfl, hb2⟩; have HB2 := hide ((Below.refl w.heap.size w).drew.trans hb2); obtain ⟨-, -, d2, d3⟩ := HCl.out w2 HB2.out; clear hb2)
    | (go_at_call 33; refine (HB.out _ HB2.out).mono ?_; rintro e w3 ⟨rfl, hb3⟩; have HB3 := hide (HB2.out.trans (hb3.mono HB2.out.size)); clear hb3))
  all_goals
    go_wp2
    go_ret
    refine ⟨?_, HB3.out⟩
    show Ending.returned (Value.int .i64 (IntKind.i64.wrap ((m : Int) + (n : Int)))) = _
    rw [IntKind.wrap_i64, show ((m : Int) + (n : Int) + 9223372036854775808) % 18446744073709551616 - 9223372036854775808 = ((m + n : Nat) : Int) by omega]
set_option maxHeartbeats 1600000 in
set_option maxRecDepth 1000000 in
theorem add_off (h : LsAt w l M O) (n : Nat) (hn : n ≤ 4294967295) (G : Int) (ho : ¬ (2 ≤ n ∧ n ≤ 16383)) : Calls Tryd.prog 6 #[.pointer (some ⟨l, 0, none⟩), .int .u32 (n : Int), .int .u64 G] w fun e w' => e = .returned (.int .u16 110) ∧ Same w w' := by
  have HM := hide (mayBe_any w n hn)
  have hd : (decide (2 ≤ n) && decide (n ≤ 16383)) = false := by
    rw [Bool.and_eq_false_iff, decide_eq_false_iff_not, decide_eq_false_iff_not]; omega
  rw [hd] at HM
  clear h
  go_enter Tryd.func6, Tryd.ntmps6
  go_wp2_with (go_at_call 24; refine HM.out.mono ?_; rintro e w1 ⟨rfl, hw1⟩; rw [hw1]; clear hw1)
  go_ret
  exact ⟨rfl, Same.refl w⟩
theorem nat_mem {M : List Pg} {n : Nat} : (n : Int) ∈ M.map (·.1) ↔ ∃ x ∈ M, x.1 = (n : Int) := by simp
set_option maxHeartbeats 1600000 in
set_option maxRecDepth 1000000 in
theorem add_there (h : LsAt w l M O) (n : Nat) (hn : 2 ≤ n ∧ n ≤ 16383) (G : Int) (ho : (n : Int) ∈ M.map (·.1)) : Calls Tryd.prog 6 #[.pointer (some ⟨l, 0, none⟩), .int .u32 (n : Int), .int .u64 G] w fun e w' => e = .returned (.int .u16 110) ∧ Same w w' := by
  have HM := hide (mayBe_any w n (by omega))
  have hd : (decide (2 ≤ n) && decide (n ≤ 16383)) = true := by
    rw [Bool.and_eq_true, decide_eq_true_iff, decide_eq_true_iff]; exact hn
  rw [hd] at HM
  obtain ⟨pw, pr, vw, vr, ms, R, A, B, h1, h2, h3, h4⟩ := h
  have HH := hide (has_any w l 0 (ms.getD (n / 64) 0) n (by omega) (h1.mks.at _) (by rw [Nat.zero_add]; exact h1.c.1 (n / 64) (by omega)))
  have hb : (ms.getD (n / 64) 0).testBit (n % 64) = true := (h2.bts n (by omega)).2 ((h3.map _).mem_iff.2 ho)
  rw [hb] at HH
  clear h1 h2 h3 h4 hb
  go_enter Tryd.func6, Tryd.ntmps6
  go_wp2_with (first
    | (go_at_call 24; refine HM.out.mono ?_; rintro e w1 ⟨rfl, hw1⟩; rw [hw1]; clear hw1)
    | (go_at_call 25; refine HH.out.mono ?_; rintro e w1 ⟨rfl, hw1⟩; rw [hw1]; clear hw1))
  go_ret
  exact ⟨rfl, Same.refl w⟩
set_option maxHeartbeats 1600000 in
set_option maxRecDepth 1000000 in
theorem add_ok (h : LsAt w l M O) (n : Nat) (hn : 2 ≤ n ∧ n ≤ 16383) (G : Int) (ho : (n : Int) ∉ M.map (·.1)) (hf : M.length ≤ 900000) : Calls Tryd.prog 6 #[.pointer (some ⟨l, 0, none⟩), .int .u32 (n : Int), .int .u64 G] w fun e w' => e = .returned (.int .u16 0) ∧ ∃ O', LsAt w' l (((n : Int), G) :: M) O' ∧ Go1 O w O' w' := by
  have HM := hide (mayBe_any w n (by omega))
  have hd : (decide (2 ≤ n) && decide (n ≤ 16383)) = true := by
    rw [Bool.and_eq_true, decide_eq_true_iff, decide_eq_true_iff]; exact hn
  rw [hd] at HM
  obtain ⟨pw, pr, vw, vr, ms, R, A, B, h1, h2, h3, h4⟩ := h
  have hc : w.cell? ⟨l, 0 + n / 64, none⟩ = some (.int .u64 ((ms.getD (n / 64) 0 : Nat) : Int)) := by rw [Nat.zero_add]; exact h1.c.1 (n / 64) (by omega)
  have HH := hide (has_any w l 0 (ms.getD (n / 64) 0) n (by omega) (h1.mks.at _) hc)
  have ho' : (n : Int) ∉ (A ++ B).map (·.1) := fun e => ho ((h3.map _).mem_iff.1 e)
  have hb : (ms.getD (n / 64) 0).testBit (n % 64) = false := by
    have := mt (h2.bts n (by omega)).1 ho'
    simpa [bt] using this
  rw [hb] at HH
  have HSt := hide (set_any w l 0 (ms.getD (n / 64) 0) n (by omega) (h1.mks.at _) hc (h1.fz _))
  obtain ⟨g1, g2⟩ := h1.struct (n / 64) (.int .u64 ((ms.getD (n / 64) 0 ||| 2 ^ (n % 64) : Nat) : Int)) (ms' := son ms n) (R' := R) (h1.mks.son n) (lcl_mark h1.mks R pw pr (n / 64) _ (by omega))
  rw [Nat.zero_add] at HSt
  have hl2 : A.length + B.length ≤ 900000 := by rw [← List.length_append, h3.length_eq]; exact hf
  have HLy := hide (fun W (hW : Same _ W) => lay_any (g1.same hW) ((n : Int), G) (by omega))
  have HMv := hide g2
  have HFin : Hid (∀ A' B' : List Pg, A'.Perm (if G ≤ R then ((n : Int), G) :: A else A) → B'.Perm (if G ≤ R then B else ((n : Int), G) :: B) → Dat (son ms n) R A' B' ∧ (A' ++ B').Perm (((n : Int), G) :: M)) := by
    intro A' B' hA hB
    have hp : (A' ++ B').Perm (((n : Int), G) :: (A ++ B)) := by
      refine (hA.append hB).trans ?_
      split
      · exact List.Perm.refl _
      · exact List.perm_middle
    refine ⟨⟨?_, ?_, ?_, ?_, ?_⟩, hp.trans (h3.cons _)⟩
    · refine (hp.map _).nodup_iff.2 ?_
      rw [List.map_cons, List.nodup_cons]
      exact ⟨ho', h2.nd⟩
    · intro x hx
      rcases List.mem_cons.1 (hp.mem_iff.1 hx) with rfl | hx
      · exact ⟨by show (2 : Int) ≤ (n : Int); omega, by show (n : Int) ≤ 16383; omega⟩
      · exact h2.rg x hx
    · intro m hm
      rw [bt_son h1.mks n m (by omega), (hp.map _).mem_iff, List.map_cons, List.mem_cons]
      by_cases e : m = n
      · subst e; simp
      · rw [if_neg e, h2.bts m hm]
        constructor
        · exact fun h => .inr h
        · rintro (h | h)
          · exact absurd (show m = n by have h' : (m : Int) = (n : Int) := h; omega) e
          · exact h
    · intro x hx
      have := hA.mem_iff.1 hx
      split at this
      · rename_i hle
        rcases List.mem_cons.1 this with rfl | hx
        · exact hle
        · exact h2.ra x hx
      · exact h2.ra x this
    · intro x hx
      have := hB.mem_iff.1 hx
      split at this
      · exact h2.rb x this
      · rename_i hle
        rcases List.mem_cons.1 this with rfl | hx
        · exact Int.not_le.1 hle
        · exact h2.rb x hx
  have HO4 := hide h4
  clear h1 h2 h3 h4 hb g1 g2 hc
  unfold pgv at *
  go_enter Tryd.func6, Tryd.ntmps6
  go_wp2_with (first
    | (go_at_call 24; refine HM.out.mono ?_; rintro e w1 ⟨rfl, hw1⟩; rw [hw1]; clear hw1)
    | (go_at_call 25; refine HH.out.mono ?_; rintro e w1 ⟨rfl, hw1⟩; rw [hw1]; clear hw1)
    | (go_at_call 26; refine HSt.out.mono ?_; rintro e w2 ⟨rfl, hs2⟩; have HS2 := hide hs2; clear hs2)
    | (go_at_call 27; refine (HLy.out _ HS2.out).mono ?_; rintro e w3 ⟨rfl, vw3, vr3, A3, B3, q1, q2, q3, q4⟩; have HQ1 := hide q1; have HQ2 := hide q2; have HQ3 := hide q3; have HQ4 := hide q4; clear q1 q2 q3 q4))
  go_ret
  obtain ⟨f1, f2⟩ := HFin.out _ _ HQ2.out HQ3.out
  refine ⟨rfl, OwL l pw pr vw3 vr3, ⟨pw, pr, vw3, vr3, _, R, A3, B3, HQ1.out, f1, f2, fun k => Iff.rfl⟩, ?_⟩
  refine Go1.iff (O1 := OwL l pw pr vw vr) (O2 := OwL l pw pr vw3 vr3) ?_ HO4.out (fun k => Iff.rfl)
  exact Go1.trans ⟨HMv.out.mono (fun k hk => .inl hk), fun k hk => .inl hk⟩ (Go1.trans ⟨HS2.out.mv, fun k hk => .inl hk⟩ HQ4.out)
set_option maxHeartbeats 1600000 in
set_option maxRecDepth 1000000 in
theorem take_none (h : LsAt w l M O) (G : Int) (ho : ∀ x ∈ M, G < x.2) (hf : M.length ≤ 900000) : Calls Tryd.prog 8 #[.pointer (some ⟨l, 0, none⟩), .int .u64 G] w fun e w' => e = .returned (.tuple #[.int .u32 0, .bool false]) ∧ ∃ O', LsAt w' l M O' ∧ Go1 O w O' w' := by
  obtain ⟨pw, pr, vw, vr, ms, R, A, B, h1, h2, h3, h4⟩ := h
  have hl2 : A.length + B.length ≤ 900000 := by rw [← List.length_append, h3.length_eq]; exact hf
  have HC := hide (moveTo_any h1 h2.ra h2.rb (by omega) G)
  obtain ⟨-, -, c2, c3⟩ := h1.c
  have HFin : Hid (∀ A' B' : List Pg, (A' ++ B').Perm (A ++ B) → (∀ x ∈ A', x.2 ≤ G) → (∀ x ∈ B', G < x.2) → Dat ms G A' B' ∧ (A' ++ B').Perm M ∧ A' = []) := by
    intro A' B' hp ha hb
    refine ⟨⟨(hp.map _).nodup_iff.2 h2.nd, fun x hx => h2.rg x (hp.mem_iff.1 hx), fun n hn => by rw [(hp.map _).mem_iff]; exact h2.bts n hn, ha, hb⟩, hp.trans h3, ?_⟩
    cases A' with
    | nil => rfl
    | cons x A' =>
      have h5 := ho x ((hp.trans h3).mem_iff.1 (by simp))
      have h6 := ha x (by simp)
      omega
  have HO4 := hide h4
  clear h1 h2 h3 h4
  go_enter Tryd.func8, Tryd.ntmps8
  go_wp2_with (first
    | (go_at_call 28; refine HC.out.mono ?_; rintro e w1 ⟨rfl, vw1, vr1, A1, B1, q1, q2, q3, q4, q5⟩; obtain ⟨f1, f2, rfl⟩ := HFin.out _ _ q2 q3 q4; obtain ⟨-, -, d2, d3⟩ := q1.c; have HQ1 := hide q1; have HQ5 := hide q5; have HF1 := hide f1; have HF2 := hide f2; clear q1 q2 q3 q4 q5 f1 f2)
    | (go_at_call 29; refine (plen_any HQ1.out.rd).mono ?_; rintro e w2 ⟨rfl, hw2⟩; rw [hw2]; clear hw2))
  go_ret2
  refine ⟨rfl, OwL l pw pr vw1 vr1, ⟨pw, pr, vw1, vr1, ms, G, [], B1, HQ1.out, HF1.out, HF2.out, fun k => Iff.rfl⟩, ?_⟩
  exact Go1.iff HQ5.out HO4.out (fun k => Iff.rfl)
set_option maxHeartbeats 1600000 in
set_option maxRecDepth 1000000 in
theorem take_some (h : LsAt w l M O) (G : Int) (ho : ∃ x ∈ M, x.2 ≤ G) (hf : M.length ≤ 900000) : Calls Tryd.prog 8 #[.pointer (some ⟨l, 0, none⟩), .int .u64 G] w fun e w' => ∃ x M', e = .returned (.tuple #[.int .u32 x.1, .bool true]) ∧ M.Perm (x :: M') ∧ x.2 ≤ G ∧ (∀ y ∈ M, y.2 ≤ G → x.1 ≤ y.1) ∧ ∃ O', LsAt w' l M' O' ∧ Go1 O w O' w' := by
  obtain ⟨pw, pr, vw, vr, ms, R, A, B, h1, h2, h3, h4⟩ := h
  have hl2 : A.length + B.length ≤ 900000 := by rw [← List.length_append, h3.length_eq]; exact hf
  have HC := hide (moveTo_any h1 h2.ra h2.rb (by omega) G)
  obtain ⟨-, -, c2, c3⟩ := h1.c
  have HFin : Hid (∀ A' B' : List Pg, (A' ++ B').Perm (A ++ B) → (∀ x ∈ A', x.2 ≤ G) → (∀ x ∈ B', G < x.2) → Dat ms G A' B' ∧ (A' ++ B').Perm M ∧ 0 < A'.length ∧ A'.length ≤ 900000 ∧ ((A'.length : Int) == 0) = false) := by
    intro A' B' hp ha hb
    have hpos : 0 < A'.length := by
      obtain ⟨x, hx, hg⟩ := ho
      rcases List.mem_append.1 ((hp.trans h3).mem_iff.2 hx) with hm | hm
      · exact List.length_pos_of_mem hm
      · have := hb x hm; omega
    refine ⟨⟨(hp.map _).nodup_iff.2 h2.nd, fun x hx => h2.rg x (hp.mem_iff.1 hx), fun n hn => by rw [(hp.map _).mem_iff]; exact h2.bts n hn, ha, hb⟩, hp.trans h3, hpos, ?_, by rw [beq_eq_false_iff_ne]; omega⟩
    have := hp.length_eq
    simp only [List.length_append] at this
    omega
  have HO4 := hide h4
  have hfl := field0
  have HNN : Hid (∀ A' B' : List Pg, Dat ms G A' B' → 0 < A'.length → ∃ N : Nat, (pat A' 0).1 = (N : Int) ∧ 2 ≤ N ∧ N ≤ 16383) := fun A' B' hd hp => by
    have := hd.rg (pat A' 0) (List.mem_append_left _ (pat_mem hp))
    exact ⟨(pat A' 0).1.toNat, by omega, by omega, by omega⟩
  clear h1 h2 h3 h4 ho
  go_enter Tryd.func8, Tryd.ntmps8
  go_wp2_with (first
    | (go_at_call 28; refine HC.out.mono ?_; rintro e w1 ⟨rfl, vw1, vr1, A1, B1, q1, q2, q3, q4, q5⟩; obtain ⟨f1, f2, f3, f4, f5⟩ := HFin.out _ _ q2 q3 q4; obtain ⟨-, -, d2, d3⟩ := q1.c; have HQ1 := hide q1; have HQ5 := hide q5; have HF1 := hide f1; have HF2 := hide f2; clear q1 q2 q3 q4 q5 f1 f2)
    | (go_at_call 29; refine (plen_any HQ1.out.rd).mono ?_; rintro e w2 ⟨rfl, hw2⟩; rw [hw2]; clear hw2)
    | (go_at_call 30; refine (takeFirst_any HQ1.out.rd HQ1.out.hr f3 (by omega)).mono ?_; unfold pgv; obtain ⟨N, hN, hN1, hN2⟩ := HNN.out _ _ HF1.out f3; rw [hN]; rintro e w3 ⟨rfl, v3, ys3, g1, g2, g3, g4⟩; obtain ⟨r1, r2⟩ := HQ1.out.ready g1 g3 g4; have HR1 := hide r1; have HR2 := hide r2; have HG2 := hide g2; clear g1 g2 g3 g4 r1 r2))
  have hl3 := HR1.out.lt (k := l) (.inl rfl)
  have HR3 := hide ((HR1.out.below (below_alloc w3 (.cells #[.int .u32 (N : Int), .int .u64 (pat A1 0).2] 87))).same (Same.refl _).drew)
  have hc3 : (w3.alloc (.cells #[.int .u32 (N : Int), .int .u64 (pat A1 0).2] 87)).drew.cell? ⟨l, 0 + N / 64, none⟩ = some (.int .u64 ((ms.getD (N / 64) 0 : Nat) : Int)) := by rw [Nat.zero_add]; exact HR3.out.c.1 (N / 64) (by omega)
  have HUn := hide (unset_any _ l 0 (ms.getD (N / 64) 0) N (by omega) (HR3.out.mks.at _) hc3 (HR3.out.fz _))
  obtain ⟨g1, g2⟩ := HR3.out.struct (N / 64) (.int .u64 ((ms.getD (N / 64) 0 &&& (18446744073709551615 - 2 ^ (N % 64)) : Nat) : Int)) (ms' := soff ms N) (R' := G) (HR3.out.mks.soff N) (lcl_mark HR3.out.mks G pw pr (N / 64) _ (by omega))
  rw [Nat.zero_add] at HUn
  have HW5 : Hid (∀ w5, Same ((w3.alloc (.cells #[.int .u32 (N : Int), .int .u64 (pat A1 0).2] 87)).drew.setCell ⟨l, N / 64, none⟩ (.int .u64 ((ms.getD (N / 64) 0 &&& (18446744073709551615 - 2 ^ (N % 64)) : Nat) : Int))) w5 → w5.cell? ⟨w3.heap.size, 0, none⟩ = some (.int .u32 (N : Int))) := by
    intro w5 hs
    rw [World.cell?_of_block (w := w3.alloc (.cells #[.int .u32 (N : Int), .int .u64 (pat A1 0).2] 87)) (a := ⟨w3.heap.size, 0, none⟩), cell_of_row _ _ 0 _ _ _ (heap_alloc_new w3 _)]
    · rfl
    · rw [hs.heap, set_other _ _ _ _ _ (by show w3.heap.size ≠ l; omega)]; rfl
  have HG1 := hide g1
  have HG2' := hide g2
  clear g1 g2 hc3
  go_region_with (go_at_call 31; refine HUn.out.mono ?_; rintro e w5 ⟨rfl, hs5⟩; have k5 := HW5.out w5 hs5; have HS5 := hide hs5; clear hs5)
  all_goals
    go_wp2
    go_ret2
    have hp : M.Perm (pat A1 0 :: (ys3 ++ B1)) := HF2.out.symm.trans (HG2.out.append (List.Perm.refl B1))
    have hp2 : (A1 ++ B1).Perm (pat A1 0 :: (ys3 ++ B1)) := HG2.out.append (List.Perm.refl B1)
    have hnd := (hp2.map (·.1)).nodup_iff.1 HF1.out.nd
    rw [List.map_cons, List.nodup_cons, hN] at hnd
    have hsub : ∀ x ∈ ys3, x ∈ A1 := fun x hx => HG2.out.mem_iff.2 (List.mem_cons_of_mem _ hx)
    refine ⟨pat A1 0, ys3 ++ B1, by rw [hN]; rfl, hp, HF1.out.ra _ (pat_mem f3), fun y hy hg => ?_, OwL l pw pr vw1 v3, ⟨pw, pr, vw1, v3, soff ms N, G, ys3, B1, HG1.out.same HS5.out, ⟨hnd.2, ?_, ?_, fun x hx => HF1.out.ra x (hsub x hx), HF1.out.rb⟩, List.Perm.refl _, fun k => Iff.rfl⟩, ?_⟩
    · rcases List.mem_append.1 (HF2.out.mem_iff.2 hy) with hm | hm
      · exact HQ1.out.hr.least_mem hm
      · have := HF1.out.rb y hm; omega
    · intro x hx
      exact HF1.out.rg x (hp2.mem_iff.2 (List.mem_cons_of_mem _ hx))
    · intro m hm
      rw [bt_soff HR3.out.mks N m (by omega)]
      by_cases e : m = N
      · subst e
        rw [if_pos rfl]
        exact ⟨fun h => (by cases h), fun h => absurd h hnd.1⟩
      · rw [if_neg e, HF1.out.bts m hm, (hp2.map _).mem_iff, List.map_cons, List.mem_cons, hN]
        constructor
        · rintro (h | h)
          · exact absurd (show m = N by omega) e
          · exact h
        · exact fun h => .inr h
    · refine Go1.iff (O1 := OwL l pw pr vw vr) (O2 := OwL l pw pr vw1 v3) ?_ HO4.out (fun k => Iff.rfl)
      refine (HQ5.out.trans HR2.out).trans ((Go1.of_below (below_alloc w3 _).drew).trans (Go1.trans (O1 := OwL l pw pr vw1 v3) ⟨HG2'.out.mono (fun k hk => .inl hk), fun k hk => .inl hk⟩ ⟨HS5.out.mv, fun k hk => .inl hk⟩))
end Go.Proofs.YtlahkeapfcfbbaaDoor
