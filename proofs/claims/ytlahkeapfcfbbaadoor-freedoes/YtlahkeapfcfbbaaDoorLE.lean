/- A list, told: the pages that it has, each with its generation; what is added, what is taken, how many there are. -/
import Derived.Test.YtlahkeapfcfbbaaDoorLD
import Derived.Deep.WholeRow
namespace Go.Proofs.YtlahkeapfcfbbaaDoor
open Go.RowKit Go.Maps
set_option linter.unusedVariables false
/-- what the marks, the reach and the piles have in common. -/
structure Dat (ms : List Nat) (R : Int) (A B : List Pg) : Prop where
  nd : ((A ++ B).map (·.1)).Nodup
  rg : ∀ x ∈ A ++ B, 2 ≤ x.1 ∧ x.1 ≤ 16383
  bts : ∀ n : Nat, n < 16384 → (bt ms n = true ↔ (n : Int) ∈ (A ++ B).map (·.1))
  ra : ∀ x ∈ A, x.2 ≤ R
  rb : ∀ x ∈ B, R < x.2
/-- a list at block l has the pages M, and owns the blocks O. -/
def LsAt (w : World) (l : Nat) (M : List Pg) (O : Nat → Prop) : Prop :=
  ∃ pw pr vw vr ms R A B, Lm w l pw pr vw vr ms R A B ∧ Dat ms R A B ∧ (A ++ B).Perm M ∧ ∀ k, O k ↔ OwL l pw pr vw vr k
variable {w w' : World} {l pw pr : Nat} {vw vr vw' vr' : Value} {ms : List Nat} {R : Int} {A B A' B' M : List Pg} {O : Nat → Prop}
theorem LsAt.lt (h : LsAt w l M O) {k : Nat} (hk : O k) : k < w.heap.size := by
  obtain ⟨pw, pr, vw, vr, ms, R, A, B, h1, h2, h3, h4⟩ := h
  exact h1.lt ((h4 k).1 hk)
theorem LsAt.stays (h : LsAt w l M O) (hm : ∀ k, O k → w'.heap[k]? = w.heap[k]?) : LsAt w' l M O := by
  obtain ⟨pw, pr, vw, vr, ms, R, A, B, h1, h2, h3, h4⟩ := h
  exact ⟨pw, pr, vw, vr, ms, R, A, B, h1.stays fun k hk => hm k ((h4 k).2 hk), h2, h3, h4⟩
theorem LsAt.below (h : LsAt w l M O) (hb : Below w.heap.size w w') : LsAt w' l M O := h.stays fun k hk => hb.block k (h.lt hk)
theorem LsAt.same (h : LsAt w l M O) (hb : Same w w') : LsAt w' l M O := h.stays fun k hk => by rw [hb.heap]
theorem LsAt.perm {M' : List Pg} (h : LsAt w l M O) (hp : M.Perm M') : LsAt w l M' O := by
  obtain ⟨pw, pr, vw, vr, ms, R, A, B, h1, h2, h3, h4⟩ := h
  exact ⟨pw, pr, vw, vr, ms, R, A, B, h1, h2, h3.trans hp, h4⟩
theorem LsAt.rg (h : LsAt w l M O) : ∀ x ∈ M, 2 ≤ x.1 ∧ x.1 ≤ 16383 := by
  obtain ⟨pw, pr, vw, vr, ms, R, A, B, h1, h2, h3, h4⟩ := h
  exact fun x hx => h2.rg x (h3.mem_iff.2 hx)
theorem LsAt.nd (h : LsAt w l M O) : (M.map (·.1)).Nodup := by
  obtain ⟨pw, pr, vw, vr, ms, R, A, B, h1, h2, h3, h4⟩ := h
  exact (h3.map _).nodup_iff.1 h2.nd
theorem Go1.iff {O1 O2 O1' O2' : Nat → Prop} (h : Go1 O1 w O2 w') (h1 : ∀ k, O1' k ↔ O1 k) (h2 : ∀ k, O2' k ↔ O2 k) : Go1 O1' w O2' w' :=
  ⟨h.mv.mono fun k hk => (h1 k).2 hk, fun k hk => (h.own k ((h2 k).1 hk)).imp (h1 k).2 id⟩
/-- a list's zero value. -/
def zl : Array Value := (List.replicate 257 (Value.int .u64 0) ++ [Value.pointer none, Value.pointer none]).toArray
theorem zl_size : zl.size = 259 := by
  unfold zl
  rw [List.size_toArray, List.length_append, List.length_replicate]; rfl
set_option maxRecDepth 1000000 in
theorem zeroL : ∀ w, (zeroValue 78).run Tryd.prog w = .ok (.agg zl) w := (zero_of_info (P := Tryd.prog) (t := 78) (v := .agg zl) (n := 259) (by kernel_rfl)).1
/-- no marks. -/
def m0 : List Nat := List.replicate 256 0
theorem zl_set (a b : Nat) : (zl.setIfInBounds 257 (.pointer (some ⟨a, 0, none⟩))).setIfInBounds 258 (.pointer (some ⟨b, 0, none⟩)) = (lcl m0 0 a b).toArray := by
  unfold zl lcl m0
  have e : List.replicate 257 (Value.int .u64 0) = (List.replicate 256 (0 : Nat)).map (fun (x : Nat) => Value.int .u64 (x : Int)) ++ [Value.int .u64 0] := by
    rw [List.map_replicate]
    show _ = List.replicate 256 (Value.int .u64 0) ++ [Value.int .u64 0]
    rw [← List.replicate_succ']
  rw [e, List.append_assoc, List.setIfInBounds_toArray, List.setIfInBounds_toArray, List.set_append_right _ _ (by rw [List.length_map, List.length_replicate]; omega), List.set_append_right _ _ (by rw [List.length_map, List.length_replicate]; omega), List.length_map, List.length_replicate]
  rfl
theorem mk0 : Mk m0 := ⟨List.length_replicate .., fun x hx => by rw [List.eq_of_mem_replicate hx]; decide⟩
theorem bt0 (n : Nat) : bt m0 n = false := by
  unfold bt m0
  rw [List.getD_eq_getElem?_getD, List.getElem?_replicate]
  split <;> exact Nat.zero_testBit _
set_option maxHeartbeats 1600000 in
set_option maxRecDepth 1000000 in
theorem new_any (w : World) : Calls Tryd.prog 4 #[] w fun e w' => ∃ l O, e = .returned (.pointer (some ⟨l, 0, none⟩)) ∧ LsAt w' l [] O ∧ Below w.heap.size w w' ∧ ∀ k, O k → w.heap.size ≤ k := by
  have HW := hide (fun W => newWaiting_any W)
  have HR := hide (fun W => newReady_any W)
  have hzl := zeroL
  have hzs := zl_size
  have hzt := zl_set
  go_enter Tryd.func4, Tryd.ntmps4
  go_wp2_with (first
    | (go_at_call 20; refine (HW.out _).mono ?_; rintro e w1 ⟨rfl, hp1, hs1, hb1⟩; have HP1 := hide hp1; have HB1 := hide hb1; clear hp1 hb1)
    | (go_at_call 21; refine (HR.out _).mono ?_; rintro e w2 ⟨rfl, hp2, hs2, hb2⟩; have HP2 := hide hp2; have HB2 := hide hb2; clear hp2 hb2))
  go_ret
  have hb : Below w.heap.size w (w2.alloc (.cells (lcl m0 0 w.heap.size (w.heap.size + 1)).toArray 78)) := HB1.out.trans ((HB2.out.trans ((below_alloc w2 _).mono HB2.out.size)).mono HB1.out.size)
  rw [hs1] at HP2 hs2
  have hp1 : Pl (w2.alloc (.cells (lcl m0 0 w.heap.size (w.heap.size + 1)).toArray 78)) w.heap.size false (.slice none 0 0) [] := HP1.out.stays (Mv.of_below (O := fun _ => False) (HB2.out.trans ((below_alloc w2 _).mono HB2.out.size))) id (fun _ _ => id)
  have hp2 : Pl (w2.alloc (.cells (lcl m0 0 w.heap.size (w.heap.size + 1)).toArray 78)) (w.heap.size + 1) true (.slice none 0 0) [] := HP2.out.stays (Mv.of_below (O := fun _ => False) (below_alloc w2 _)) id (fun _ _ => id)
  refine ⟨w.heap.size + 1 + 1, OwL (w.heap.size + 1 + 1) w.heap.size (w.heap.size + 1) (.slice none 0 0) (.slice none 0 0), rfl, ⟨_, _, _, _, m0, 0, [], [], ⟨?_, mk0, hp1, hp2, heap_nil _, heap_nil _, by omega, by omega, by omega, by simp [Value.ownBlock], by simp [Value.ownBlock], by simp [Value.ownBlock], by simp [Value.ownBlock], by simp [Value.ownBlock]⟩, ⟨by simp, by simp, fun n hn => by simp [bt0], by simp, by simp⟩, List.Perm.refl _, fun k => Iff.rfl⟩, hb, ?_⟩
  · have := heap_alloc_new w2 (.cells (lcl m0 0 w.heap.size (w.heap.size + 1)).toArray 78)
    rw [hs2] at this
    exact this
  · intro k hk
    rcases hk with hk | (hk | hk) | (hk | hk)
    · omega
    · omega
    · simp [Value.ownBlock] at hk
    · omega
    · simp [Value.ownBlock] at hk
set_option maxHeartbeats 1600000 in
set_option maxRecDepth 1000000 in
theorem len_any (h : LsAt w l M O) (hf : M.length ≤ 900000) : Calls Tryd.prog 18 #[.pointer (some ⟨l, 0, none⟩)] w fun e w' => e = .returned (.int .i64 (M.length : Int)) ∧ Same w w' := by
  obtain ⟨pw, pr, vw, vr, ms, R, A, B, h1, h2, h3, h4⟩ := h
  obtain ⟨-, -, c2, c3⟩ := h1.c
  have HA := hide (plen_any (h1.same (Same.refl w).drew).rd)
  have HB := hide (plen_any (h1.same (Same.refl w).drew).wt)
  have hl : (M.length : Int) = (A.length : Int) + (B.length : Int) := by rw [← h3.length_eq, List.length_append]; omega
  have hl2 : A.length + B.length ≤ 900000 := by rw [← List.length_append, h3.length_eq]; exact hf
  have hw : wrap64 ((A.length : Int) + (B.length : Int)) = (A.length : Int) + (B.length : Int) := by unfold wrap64; omega
  rw [hl]
  have M1 : True := trivial
  clear hl h1 h2 h3 h4
  go_enter Tryd.func18, Tryd.ntmps18
  go_wp2
  go_region_with (first
    | (clear M1; go_at_call 29; refine HA.out.mono ?_; rintro e w2 ⟨rfl, hw2⟩; rw [hw2]; clear hw2)
    | (go_at_call 29; refine HB.out.mono ?_; rintro e w2 ⟨rfl, hw2⟩; rw [hw2]; clear hw2))
  all_goals
    go_wp2
    go_ret
    refine ⟨?_, (Same.refl w).drew⟩
    show Ending.returned (Value.int .i64 (IntKind.i64.wrap ((A.length : Int) + (B.length : Int)))) = _
    rw [IntKind.wrap_i64, show ((A.length : Int) + (B.length : Int) + 9223372036854775808) % 18446744073709551616 - 9223372036854775808 = (A.length : Int) + (B.length : Int) by omega]
end Go.Proofs.YtlahkeapfcfbbaaDoor
