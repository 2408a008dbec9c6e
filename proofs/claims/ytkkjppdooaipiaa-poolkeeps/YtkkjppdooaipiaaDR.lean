/- New, Fail, Trip, Dark, Counts. -/
import Derived.Test.YtkkjppdooaipiaaDQ
namespace Go.Proofs.Ytkkjppdooaipiaa
open Go.RowKit Go.Maps
set_option linter.unusedVariables false

/-- a disk of noughts. -/
def DS.new (n : Nat) : DS := { ls := List.replicate n (List.replicate 128 0), ws := [], dk := false, ts := false, tl := 0, s1 := false, l1 := 0, s2 := false, l2 := 0, s3 := false, l3 := 0, n1 := 0, n2 := 0, n3 := 0 }
theorem DS.new_good (n : Nat) (h : n ≤ 131072) : (DS.new n).Good :=
  ⟨fun s hs => by
    simp only [DS.new, List.mem_replicate] at hs
    rw [hs.2]
    exact ⟨by simp, fun c hc => by rw [(List.mem_replicate.1 hc).2]; omega⟩, fun x hx => by simp [DS.new] at hx, by simpa [DS.new] using h, by simp [DS.new], Cd0, Cd0, Cd0, Cd0, ⟨Int.le_refl _, by show (0 : Int) ≤ 1000000; omega⟩, ⟨Int.le_refl _, by show (0 : Int) ≤ 1000000; omega⟩, ⟨Int.le_refl _, by show (0 : Int) ≤ 1000000; omega⟩⟩
theorem flat_zero : ∀ n, flat (List.replicate n (List.replicate 128 0)) = List.replicate (n * 128) (Value.int .u8 0)
  | 0 => by simp [flat]
  | n + 1 => by
    have := flat_zero n
    simp only [flat, List.map_replicate] at this ⊢
    rw [List.replicate_succ, List.flatten_cons, this]
    simp only [sv, List.map_replicate, List.replicate_append_replicate]
    congr 1
    omega
theorem made_zero (n : Nat) : madeCells z110 (n * 128) = (List.replicate (n * 128) (Value.int .u8 0)).toArray := by
  apply Array.ext'
  apply List.ext_getElem?
  intro j
  by_cases h : j < n * 128
  · have h2 : j % 128 < 128 := Nat.mod_lt _ (by omega)
    simp [madeCells, z110, h, h2]
  · simp [madeCells, h]
theorem info110 : (Try.prog.info? 93).map (fun i => (i.zero, i.size, i.bytes)) = some (some (.agg z110), 128, 128) := by kernel_rfl
theorem make90 (n : Nat) (hn : n ≤ 131072) (W : World) : (Instr.makeSlice 56 (.int .i64 (n : Int)) (.int .i64 (n : Int))).run Try.prog W = .ok (.slice (some ⟨W.heap.size, 0, none⟩) n n) (W.alloc (.cells (flat (List.replicate n (List.replicate 128 0))).toArray 93)) := by
  obtain ⟨i0, hi, hz0, hz1, hz2⟩ := info_parts info110
  have := run_make (P := Try.prog) W 56 93 i0 _ Try.underlying56 hi hz0 .i64 .i64 (n : Int) (n : Int) (by omega) (by omega) (by rw [hz2]; omega) (by omega)
  rw [hz1] at this
  simp only [Int.toNat_natCast, Value.cells] at this
  rw [this, flat_zero, made_zero]
def z100 (a : Value) : Array Value := #[a, .slice none 0 0, .map none, .bool false, .bool false, .int .i64 0, .bool false, .int .i64 0, .bool false, .int .i64 0, .bool false, .int .i64 0, .bool false, .int .i64 0, .int .i64 0, .int .i64 0, .int .i64 0, .int .i64 0]
theorem build100 (q n : Nat) (W : World) : (Instr.build 66 #[(0, .slice (some ⟨q, 0, none⟩) n n)]).run Try.prog W = .ok (.agg (z100 (.slice (some ⟨q, 0, none⟩) n n))) W := run_build W 66 _ _ (by kernel_rfl)
set_option maxHeartbeats 800000 in
set_option maxRecDepth 1000000 in
theorem new_any (pg : Nat) (w : World) (h1 : 1 ≤ pg) (h2 : pg ≤ 16384) :
    Calls Try.prog 8 #[.int .i64 (pg : Int)] w fun e w' => ∃ O p q, e = .returned (.tuple #[.pointer (some ⟨p, 0, none⟩), .int .u16 0]) ∧ DkAt w' p q (DS.new (8 * pg)) O ∧ (∀ k, O k → w.heap.size ≤ k) ∧ Below w.heap.size w w' := by
  have hmk : ∀ W, (Instr.makeSlice 56 (.int .i64 (8 * (pg : Int))) (.int .i64 (8 * (pg : Int)))).run Try.prog W = .ok (.slice (some ⟨W.heap.size, 0, none⟩) (8 * pg) (8 * pg)) (W.alloc (.cells (flat (List.replicate (8 * pg) (List.replicate 128 0))).toArray 93)) := fun W => by
    have := make90 (8 * pg) (by omega) W
    rwa [show ((8 * pg : Nat) : Int) = 8 * (pg : Int) by omega] at this
  have hw : IntKind.i64.wrap ((pg : Int) * 8) = 8 * (pg : Int) := by rw [IntKind.wrap_i64]; omega
  have hd1 : decide ((pg : Int) < 1) = false := by simp; omega
  have hd2 : decide ((16384 : Int) < (pg : Int)) = false := by simp; omega
  have hbd := fun W => build100 w.heap.size (8 * pg) W
  obtain ⟨W1, hW1⟩ : ∃ W1, W1 = w.alloc (.cells (flat (List.replicate (8 * pg) (List.replicate 128 0))).toArray 93) := ⟨_, rfl⟩
  have hs1 : W1.heap.size = w.heap.size + 1 := by rw [hW1]; exact size_al _ _
  have HF : Hid (∃ O p q, (Ending.returned (.tuple #[.pointer (some ⟨w.heap.size + 1, 0, none⟩), .int .u16 0]) : Ending) = .returned (.tuple #[.pointer (some ⟨p, 0, none⟩), .int .u16 0]) ∧ DkAt (W1.alloc (.cells (z100 (.slice (some ⟨w.heap.size, 0, none⟩) (8 * pg) (8 * pg))) 66)) p q (DS.new (8 * pg)) O ∧ (∀ k, O k → w.heap.size ≤ k) ∧ Below w.heap.size w (W1.alloc (.cells (z100 (.slice (some ⟨w.heap.size, 0, none⟩) (8 * pg) (8 * pg))) 66))) := by
    refine ⟨Ow (w.heap.size + 1) w.heap.size (.slice none 0 0) none, w.heap.size + 1, w.heap.size, rfl, ⟨.slice none 0 0, none, ⟨?_, ?_, World.ownsRow_nil _ _ _ _, rfl, by omega, by simp [Value.ownBlock], by simp [Value.ownBlock], by simp, by simp, by simp, DS.new_good _ (by omega)⟩, fun _ => Iff.rfl⟩, ?_, ?_⟩
    · have := heap_alloc_new W1 (.cells (z100 (.slice (some ⟨w.heap.size, 0, none⟩) (8 * pg) (8 * pg))) 66)
      rw [hs1] at this
      rw [this]
      simp [cells, z100, DS.new]
    · rw [Below.heap_alloc W1 _ _ (by omega), hW1]
      exact heap_alloc_new w _
    · intro k hk
      rcases hk with rfl | rfl | hk | hk
      · omega
      · exact Nat.le_refl _
      · simp [Value.ownBlock] at hk
      · cases hk
    · rw [hW1] at hs1 ⊢
      exact (below_alloc w _).trans ((below_alloc _ _).mono (by omega))
  subst hW1
  clear hs1
  go_enter Try.func8, Try.ntmps8
  go_wp2
  go_ret2
  exact HF.out

/-- a disk with a fault of writes. -/
def DS.fail2 (S : DS) (n : Int) : DS := { S with s2 := true, l2 := n }
theorem build96 (n : Int) (W : World) : (Instr.build 62 #[(0, .bool true), (1, .int .i64 n)]).run Try.prog W = .ok (.agg #[.bool true, .int .i64 n]) W := run_build W 62 _ _ (by kernel_rfl)
set_option maxHeartbeats 800000 in
set_option maxRecDepth 1000000 in
theorem fail2_any (p q : Nat) (O : Nat → Prop) (S : DS) (n : Int) (w : World) (h : DkAt w p q S O) (h0 : 0 ≤ n) (h1 : n ≤ 9223372036854775807) (hdk : S.dk = false) :
    Calls Try.prog 18 #[.pointer (some ⟨p, 0, none⟩), .int .i64 2, .int .i64 n] w fun e w' => e = .returned (.int .u16 0) ∧ DkAt w' p q (S.fail2 n) O ∧ Go1 O w O w' := by
  obtain ⟨vw, m, hd, ho⟩ := h
  have c3 := hd.c 3 (.bool S.dk) rfl
  rw [hdk] at c3
  have c10 := hd.c 10 _ rfl
  have c11 := hd.c 11 _ rfl
  have f10 := hd.f 10
  have f11 := hd.f 11
  have hbd := build96 n
  have hn : decide (n < 0) = false := by simp; omega
  have HF : Hid (DkAt (sets w p [(10, .bool true), (11, .int .i64 n)]) p q (S.fail2 n) O ∧ Go1 O w O (sets w p [(10, .bool true), (11, .int .i64 n)])) := by
    refine ⟨⟨vw, m, hd.fields (S' := S.fail2 n) rfl rfl ⟨hd.good.ls, hd.good.ws, hd.good.most, hd.good.few, hd.good.t, hd.good.f1, ⟨h0, h1⟩, hd.good.f3, hd.good.n1, hd.good.n2, hd.good.n3⟩ ?_ (fun k hk => sets_other p k hk _ w), ho⟩, Go1.of_mv (sets_mv p _ w) ((ho p).2 (.inl rfl))⟩
    rw [sets_blk p 66 _ w _ hd.blk]
    simp only [List.foldl_cons, List.foldl_nil, cells, List.setIfInBounds_toArray, List.set_cons_succ, List.set_cons_zero, DS.fail2]
  clear hd ho h0 h1
  go_enter Try.func18, Try.ntmps18
  go_wp2
  go_ret
  exact ⟨rfl, HF.out⟩
end Go.Proofs.Ytkkjppdooaipiaa
