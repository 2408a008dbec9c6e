/- GetMeta. -/
import Derived.Test.YtfbkcolcdkglbaaRK
namespace Go.Proofs.Ytfbkcolcdkglbaa
open Go.RowKit
set_option linter.unusedVariables false

set_option maxHeartbeats 800000 in
theorem catchm_panic (p : Addr) (x : Int) (older : List PanicEntry) (w : World) (hc : w.cell? p = some (.int .u16 x)) (hz : w.frozen? p = false) :
    CallsD Try.prog 81 #[.pointer (some p)] (.panicking ({ v := .iface 170 (.agg #[]), recovered := false } :: older)) w fun e u' w' =>
      e = .returned (.tuple #[]) ∧ u' = .panicking ({ v := .iface 170 (.agg #[]), recovered := true } :: older) ∧ w' = (w.alloc (.cells #[] 170)).setCell p (.int .u16 80) := by
  have hta := ta_yes170
  have hlt : p.block < w.heap.size := World.block_lt_of_cell? w _ hc
  have hc' : (w.alloc (.cells #[] 170)).cell? p = some (.int .u16 x) := ((below_alloc w _).cell hlt).trans hc
  have hz' : (w.alloc (.cells #[] 170)).frozen? p = false := ((below_alloc w _).frozen hlt).trans hz
  refine callsD_of_wpS Try.func81 rfl fun c₀ cs hu => ?_
  apply wpS_seq
  apply wpS_region
  simp [wpOpsS, go_sem, recoverD, hu, Try.ntmps81, Exit.thenS]
  have htm : (#[Value.pointer (some p)] ++ ((Array.replicate 14 undef).setIfInBounds 3 (Value.iface 170 (Value.agg #[]))).setIfInBounds 0 (Value.iface 170 (Value.agg #[]))) = #[.pointer (some p), .iface 170 (.agg #[]), undef, undef, .iface 170 (.agg #[]), undef, undef, undef, undef, undef, undef, undef, undef, undef, undef] := rfl
  rw [htm]
  refine wpS_of_wp ?_
  go_wp2
  cases c₀
  simp_all [bodyPostS, results, Try.results81]

set_option maxHeartbeats 800000 in
theorem catchm_idle (p : Addr) (w : World) :
    CallsD Try.prog 81 #[.pointer (some p)] .returning w fun e u' w' => e = .returned (.tuple #[]) ∧ u' = .returning ∧ w' = w := by
  refine callsD_of_wpS Try.func81 rfl fun c₀ cs hu => ?_
  apply wpS_seq
  apply wpS_region
  simp [wpOpsS, go_sem, recoverD, hu, Try.ntmps81, Exit.thenS]
  have htm : (#[Value.pointer (some p)] ++ ((Array.replicate 14 undef).setIfInBounds 3 Value.nilIface).setIfInBounds 0 Value.nilIface) = #[.pointer (some p), .nilIface, undef, undef, .nilIface, undef, undef, undef, undef, undef, undef, undef, undef, undef, undef] := rfl
  rw [htm]
  refine wpS_of_wp ?_
  go_wp2
  cases c₀
  simp_all [bodyPostS, results, Try.results81]

/-- no state. -/
def mz : Pg.M := ⟨0, 0, 0, 0, 0⟩
/-- what GetMeta answers. -/
def GetOut (O : Option Pg.M) (w : World) (e : Ending) (w' : World) : Prop :=
  (∀ m, O = some m → e = .returned (.tuple #[mv m, .int .u16 0])) ∧ (O = none → e = .returned (.tuple #[mv mz, .int .u16 80])) ∧ Below w.heap.size w w'

set_option maxHeartbeats 1600000 in
set_option maxRecDepth 1000000 in
theorem read_meta (a : Option Addr) (n c : Nat) (zs : List Int) (w : World)
    (hl : (zs.take 128).length = n) (hc : n ≤ c) (hm : c ≤ 9223372036854775807) (hb : a = none → n = 0 ∧ c = 0) (hr : Row w a (zs.take 128)) (h8 : Byts zs) :
    Calls Try.prog 64 #[.slice a n c, .func (.func 65) #[] #[]] w fun e w' => GetOut (Pg.get zs) w e w' := by
  have hmf : ∀ (fn : Fn) (first cap : Array Value) (w : World), (Instr.makeFunc fn first cap).run Try.prog w = .ok (.func fn first cap) w := fun _ _ _ _ => rfl
  obtain ⟨w3, hw3⟩ : ∃ w3, w3 = ((w.alloc (Obj.cells #[.int .u64 0, .int .u32 0, .int .u32 0, .int .u32 0, .int .u64 0] 64)).alloc (Obj.cells #[Value.int IntKind.u16 0] 26)).alloc (Obj.cells #[Value.slice a n c] 173) := ⟨_, rfl⟩
  have hB3 : Below w.heap.size w w3 := by rw [hw3]; exact ((((Below.refl _ _).alloc (Nat.le_refl _) _).alloc (by simp) _).alloc (by simp; omega) _)
  have hs3 : w3.heap.size = w.heap.size + 3 := by rw [hw3]; simp
  have hb0 : w3.heap[w.heap.size]? = some (.cells #[.int .u64 0, .int .u32 0, .int .u32 0, .int .u32 0, .int .u64 0] 64 (0, 0)) := by
    rw [hw3, Below.heap_alloc _ _ _ (by simp; omega), Below.heap_alloc _ _ _ (by simp)]; exact heap_alloc_new w _
  have hb1 : w3.heap[w.heap.size + 1]? = some (.cells #[.int .u16 0] 26 (0, 0)) := by
    rw [hw3, Below.heap_alloc _ _ _ (by simp)]
    have := heap_alloc_new (w.alloc (Obj.cells #[.int .u64 0, .int .u32 0, .int .u32 0, .int .u32 0, .int .u64 0] 64)) (Obj.cells #[Value.int IntKind.u16 0] 26)
    simpa using this
  have hb2 : w3.heap[w.heap.size + 1 + 1]? = some (.cells #[.slice a n c] 173 (0, 0)) := by
    rw [hw3]
    have := heap_alloc_new ((w.alloc (Obj.cells #[.int .u64 0, .int .u32 0, .int .u32 0, .int .u32 0, .int .u64 0] 64)).alloc (Obj.cells #[Value.int IntKind.u16 0] 26)) (Obj.cells #[Value.slice a n c] 173)
    simpa using this
  have hrd : Rdr w3 (w.heap.size + 1 + 1) (zs.take 128) := by
    refine ⟨a, n, c, hb2, hl, hc, hm, hb, ?_, h8.take 128⟩
    rcases hr with h | ⟨b, off, h1, h2, h3⟩
    · exact .inl h
    · exact .inr ⟨b, off, h1, by omega, by omega, fun i hi => (hB3.cell (p := ⟨b, off + i, none⟩) h2).trans (h3 i hi)⟩
  have HC := hide (meta_any (w.heap.size + 1 + 1) zs w3 hrd h8)
  rw [hw3] at HC
  have HW3 := hide hw3
  have HB0 := hide hb0
  have HB1 := hide hb1
  have HB3 := hide hB3
  have HS3 := hide hs3
  clear hw3 hB3 hs3 hb0 hb1 hb2 hrd hl hc hm hb hr h8
  generalize Pg.get zs = O at *
  go_enter_defers Try.func64, Try.ntmps64
  go_wp2_with fail
  refine HC.out.mono ?_
  rw [← HW3.out]
  rintro e w4 ⟨hy, hno, hg4⟩
  have HG4 := hide hg4
  clear hg4
  have hb1 : w4.heap[w.heap.size + 1]? = some (.cells #[.int .u16 0] 26 (0, 0)) := (HG4.out.block _ (by rw [HS3.out]; omega) (by simp)).trans HB1.out
  have hb0 : w4.heap[w.heap.size]? = some (.cells #[.int .u64 0, .int .u32 0, .int .u32 0, .int .u32 0, .int .u64 0] 64 (0, 0)) := (HG4.out.block _ (by rw [HS3.out]; omega) (by simp; omega)).trans HB0.out
  have HB4 : Hid (Below w.heap.size w w4) := hide ⟨HG4.out.os.trans HB3.out.os, HG4.out.tape.trans HB3.out.tape, HG4.out.output.trans HB3.out.output, Nat.le_trans HB3.out.size HG4.out.size, fun k hk => (HG4.out.block k (by rw [HS3.out]; omega) (by simp; omega)).trans (HB3.out.block k hk)⟩
  cases O with
  | none =>
    obtain rfl := hno rfl
    have hs4 := HG4.out.size
    rw [HS3.out] at hs4
    clear hy hno HC
    go_wp2
    refine leaves_cons (f := 81) (args := #[.pointer (some ⟨w.heap.size + 1, 0, none⟩)]) (by simp) (by simp [go_sem]) ?_
    refine (catchm_panic ⟨w.heap.size + 1, 0, none⟩ 0 [] _ (cell_of_one hb1) (free_of_one hb1)).mono ?_
    rintro e u' w'' ⟨rfl, rfl, rfl⟩
    have hc1 : (w4.alloc (.cells #[] 170)).heap[w.heap.size + 1]? = some (.cells #[.int .u16 0] 26 (0, 0)) := (Below.heap_alloc w4 _ _ (by omega)).trans hb1
    have hc0 : (w4.alloc (.cells #[] 170)).heap[w.heap.size]? = some (.cells #[.int .u64 0, .int .u32 0, .int .u32 0, .int .u32 0, .int .u64 0] 64 (0, 0)) := (Below.heap_alloc w4 _ _ (by omega)).trans hb0
    have hd1 := one_setCell (u := .int .u16 80) hc1
    have hd0 : ((w4.alloc (.cells #[] 170)).setCell ⟨w.heap.size + 1, 0, none⟩ (.int .u16 80)).heap[w.heap.size]? = some (.cells #[.int .u64 0, .int .u32 0, .int .u32 0, .int .u32 0, .int .u64 0] 64 (0, 0)) := (Below.heap_setCell _ _ _ _ (show w.heap.size ≠ w.heap.size + 1 by omega)).trans hc0
    have HB5 : Hid (Below w.heap.size w ((w4.alloc (.cells #[] 170)).setCell ⟨w.heap.size + 1, 0, none⟩ (.int .u16 80))) := hide (((HB4.out.trans ((below_alloc w4 _).mono HB4.out.size))).setCell (p := ⟨w.heap.size + 1, 0, none⟩) (show w.heap.size ≤ w.heap.size + 1 by omega) _)
    generalize (w4.alloc (.cells #[] 170)).setCell ⟨w.heap.size + 1, 0, none⟩ (.int .u16 80) = w5 at *
    obtain ⟨q0, q1, q3, q4, q5⟩ := five hd0
    have q2 := cell_of_one hd1
    simp [Leaves, settle, results, Try.results64, go_sem, q0, q1, q2, q3, q4, q5, GetOut, mv, mz]
    exact HB5.out
  | some m =>
    obtain ⟨G, Q, F, P, K⟩ := m
    obtain rfl := hy _ rfl
    simp only [mv]
    obtain ⟨q0, q1, q3, q4, q5⟩ := five hb0
    have g0 := frozen_blk (j := 0) hb0
    have g1 := frozen_blk (j := 1) hb0
    have g2 := frozen_blk (j := 2) hb0
    have g3 := frozen_blk (j := 3) hb0
    have g4 := frozen_blk (j := 4) hb0
    have q2 := cell_of_one hb1
    have f2 := free_of_one hb1
    have HB0' := hide hb0
    have HB1' := hide hb1
    clear hb1 hb0 hy hno HC
    go_wp2
    have b0 := blk_set (j := 0) (v := .int .u64 (G : Int)) HB0'.out
    have b1 := blk_set (j := 1) (v := .int .u32 (Q : Int)) b0
    have b2 := blk_set (j := 2) (v := .int .u32 (F : Int)) b1
    have b3 := blk_set (j := 3) (v := .int .u32 (P : Int)) b2
    have b4 := blk_set (j := 4) (v := .int .u64 (K : Int)) b3
    have e0 := (Below.heap_setCell w4 ⟨w.heap.size, 0, none⟩ (.int .u64 (G : Int)) (w.heap.size + 1) (show w.heap.size + 1 ≠ w.heap.size by omega)).trans HB1'.out
    have e1 := (Below.heap_setCell _ ⟨w.heap.size, 1, none⟩ (.int .u32 (Q : Int)) (w.heap.size + 1) (show w.heap.size + 1 ≠ w.heap.size by omega)).trans e0
    have e2 := (Below.heap_setCell _ ⟨w.heap.size, 2, none⟩ (.int .u32 (F : Int)) (w.heap.size + 1) (show w.heap.size + 1 ≠ w.heap.size by omega)).trans e1
    have e3 := (Below.heap_setCell _ ⟨w.heap.size, 3, none⟩ (.int .u32 (P : Int)) (w.heap.size + 1) (show w.heap.size + 1 ≠ w.heap.size by omega)).trans e2
    have e4 := (Below.heap_setCell _ ⟨w.heap.size, 4, none⟩ (.int .u64 (K : Int)) (w.heap.size + 1) (show w.heap.size + 1 ≠ w.heap.size by omega)).trans e3
    have hB := (((((HB4.out.setCell (p := ⟨w.heap.size, 0, none⟩) (Nat.le_refl _) (.int .u64 (G : Int))).setCell (p := ⟨w.heap.size, 1, none⟩) (Nat.le_refl _) (.int .u32 (Q : Int))).setCell (p := ⟨w.heap.size, 2, none⟩) (Nat.le_refl _) (.int .u32 (F : Int))).setCell (p := ⟨w.heap.size, 3, none⟩) (Nat.le_refl _) (.int .u32 (P : Int))).setCell (p := ⟨w.heap.size, 4, none⟩) (Nat.le_refl _) (.int .u64 (K : Int)))
    generalize (((((w4.setCell ⟨w.heap.size, 0, none⟩ (.int .u64 (G : Int))).setCell ⟨w.heap.size, 1, none⟩ (.int .u32 (Q : Int))).setCell ⟨w.heap.size, 2, none⟩ (.int .u32 (F : Int))).setCell ⟨w.heap.size, 3, none⟩ (.int .u32 (P : Int))).setCell ⟨w.heap.size, 4, none⟩ (.int .u64 (K : Int))) = w5 at *
    have hD := one_setCell (u := .int .u16 0) e4
    have hE : (w5.setCell ⟨w.heap.size + 1, 0, none⟩ (.int .u16 0)).heap[w.heap.size]? = some (.cells #[.int .u64 (G : Int), .int .u32 (Q : Int), .int .u32 (F : Int), .int .u32 (P : Int), .int .u64 (K : Int)] 64 (0, 0)) := (Below.heap_setCell _ _ _ _ (show w.heap.size ≠ w.heap.size + 1 by omega)).trans b4
    have HB6 : Hid (Below w.heap.size w (w5.setCell ⟨w.heap.size + 1, 0, none⟩ (.int .u16 0))) := hide (hB.setCell (p := ⟨w.heap.size + 1, 0, none⟩) (show w.heap.size ≤ w.heap.size + 1 by omega) _)
    generalize w5.setCell ⟨w.heap.size + 1, 0, none⟩ (.int .u16 0) = w6 at *
    clear q0 q1 q2 q3 q4 q5 g0 g1 g2 g3 g4 f2 b0 b1 b2 b3 b4 e0 e1 e2 e3 e4 hB
    refine leaves_cons (f := 81) (args := #[.pointer (some ⟨w.heap.size + 1, 0, none⟩)]) (by simp) (by simp [go_sem]) ?_
    refine (catchm_idle ⟨w.heap.size + 1, 0, none⟩ _).mono ?_
    rintro e u' w'' ⟨rfl, rfl, rfl⟩
    obtain ⟨q0, q1, q3, q4, q5⟩ := five hE
    have q2 := cell_of_one hD
    simp [Leaves, settle, results, Try.results64, go_sem, q0, q1, q2, q3, q4, q5, GetOut, mv]
    exact HB6.out
end Go.Proofs.Ytfbkcolcdkglbaa
