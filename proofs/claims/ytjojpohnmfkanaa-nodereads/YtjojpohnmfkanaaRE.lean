/- The reader's face: what it gives up with is taken for the answer; Decode. -/
import Derived.Test.YtjojpohnmfkanaaRD
import Derived.Defers
import Derived.Recover
namespace Go.Proofs.Ytjojpohnmfkanaa
open Go.RowKit
set_option linter.unusedVariables false

theorem ta_yes_f (v : Value) (w : World) : (Instr.typeAssert (.iface 115 v) 20 115 true).run Try.prog w = .ok (.tuple #[v, .bool true]) w := by
  simp [Instr.typeAssert, run_underlying Try.underlying115]

set_option maxHeartbeats 800000 in
theorem catch_panic (p : Addr) (x : Int) (older : List PanicEntry) (w : World) (hc : w.cell? p = some (.int .u16 x)) (hz : w.frozen? p = false) :
    CallsD Try.prog 55 #[.pointer (some p)] (.panicking ({ v := .iface 115 (.agg #[]), recovered := false } :: older)) w fun e u' w' =>
      e = .returned (.tuple #[]) ∧ u' = .panicking ({ v := .iface 115 (.agg #[]), recovered := true } :: older) ∧ w' = (w.alloc (.cells #[] 115)).setCell p (.int .u16 90) := by
  have hta := ta_yes_f
  have hlt : p.block < w.heap.size := World.block_lt_of_cell? w _ hc
  have hc' : (w.alloc (.cells #[] 115)).cell? p = some (.int .u16 x) := ((below_alloc w _).cell hlt).trans hc
  have hz' : (w.alloc (.cells #[] 115)).frozen? p = false := ((below_alloc w _).frozen hlt).trans hz
  refine callsD_of_wpS Try.func55 rfl fun c₀ cs hu => ?_
  apply wpS_seq
  apply wpS_region
  simp [wpOpsS, go_sem, recoverD, hu, Try.ntmps55, Exit.thenS]
  have htm : (#[Value.pointer (some p)] ++ ((Array.replicate 14 undef).setIfInBounds 3 (Value.iface 115 (Value.agg #[]))).setIfInBounds 0 (Value.iface 115 (Value.agg #[]))) = #[.pointer (some p), .iface 115 (.agg #[]), undef, undef, .iface 115 (.agg #[]), undef, undef, undef, undef, undef, undef, undef, undef, undef, undef] := rfl
  rw [htm]
  refine wpS_of_wp ?_
  go_wp2
  cases c₀
  simp_all [bodyPostS, results, Try.results55]

set_option maxHeartbeats 800000 in
theorem catch_idle (p : Addr) (w : World) :
    CallsD Try.prog 55 #[.pointer (some p)] .returning w fun e u' w' => e = .returned (.tuple #[]) ∧ u' = .returning ∧ w' = w := by
  refine callsD_of_wpS Try.func55 rfl fun c₀ cs hu => ?_
  apply wpS_seq
  apply wpS_region
  simp [wpOpsS, go_sem, recoverD, hu, Try.ntmps55, Exit.thenS]
  have htm : (#[Value.pointer (some p)] ++ ((Array.replicate 14 undef).setIfInBounds 3 Value.nilIface).setIfInBounds 0 Value.nilIface) = #[.pointer (some p), .nilIface, undef, undef, .nilIface, undef, undef, undef, undef, undef, undef, undef, undef, undef, undef] := rfl
  rw [htm]
  refine wpS_of_wp ?_
  go_wp2
  cases c₀
  simp_all [bodyPostS, results, Try.results55]
theorem one_setCell {w : World} {p t : Nat} {v u : Value} (h : w.heap[p]? = some (.cells #[v] t (0, 0))) : (w.setCell ⟨p, 0, none⟩ u).heap[p]? = some (.cells #[u] t (0, 0)) := by rw [heap_setCell_same w p 0 _ t _ h]; rfl
set_option maxHeartbeats 3200000 in
set_option maxRecDepth 1000000 in
theorem decode1_small (p q : Nat) (es : List Ee) (w : World) (hs : ∀ e ∈ es, e.Sm) (hc : chk true es = 0) (hw : wts es ≤ 1000000) (hn : es.length < 65536) (h : Rdr w p (nenc true es)) (hq : w.cell? ⟨q, 0, none⟩ = some (.int .u8 1)) :
    Calls Try.prog 16 #[.pointer (some ⟨p, 0, none⟩), .pointer (some ⟨q, 0, none⟩)] w fun e w' => ∃ v ys, e = .returned (.agg #[.bool true, v]) ∧ ers ys = es ∧ Cl w.heap.size w' v ys ∧ w.grownBy w' (some p) := by
  have hB := below_alloc w (.cells #[.bool false, .slice none 0 0] 25)
  have hb0 := heap_alloc_new w (.cells #[.bool false, .slice none 0 0] 25)
  have hpw := h.lt
  have HR := hide (rnode_small p es _ hs hc hw hn (h.below hB))
  have hq1 := one_below hq hB
  have HB := hide hB
  have HB0 := hide hb0
  clear h hB hb0
  go_enter Try.func16, Try.ntmps16
  go_wp2_with fail
  refine HR.out.mono ?_
  rintro e w2 ⟨v, ys, rfl, her, hcl, hg⟩
  obtain ⟨a2, c2, rfl, -⟩ := hcl.ens
  have hbz := (hg.block _ (lt_of_block HB0.out) (by simp; omega)).trans HB0.out
  obtain ⟨f0, f1, -⟩ := cells_two hbz
  have g0 := frozen_blk (j := 0) hbz
  have g1 := frozen_blk (j := 1) hbz
  have HBz := hide hbz
  have HEr := hide her
  have HCl := hide hcl
  have HG := hide hg
  clear her hcl hg hbz
  go_wp2
  have hf := two_set (u := .bool true) (v := .slice a2 ys.length c2) HBz.out
  obtain ⟨q0, q1, -⟩ := cells_two hf
  refine bodyPost_ret (v := .agg #[.bool true, .slice a2 ys.length c2]) ?_ rfl ?_
  · simp [results, Try.results16, go_sem, q0, q1]
  · have hcl : Cl (w.heap.size + 1) w2 (.slice a2 ys.length c2) ys := by have := HCl.out; simp at this; exact this
    refine ⟨_, ys, rfl, HEr.out, (hcl.other (fun k hk => two_other (by omega))).mono (by omega), ?_⟩
    refine ⟨HG.out.os.trans HB.out.os, HG.out.tape.trans HB.out.tape, HG.out.output.trans HB.out.output, by have h1 := HG.out.size; simp [World.setCell] at h1 ⊢; omega, fun k hk h1 => ?_⟩
    rw [two_other (by omega)]
    exact (HG.out.block k (by simp; omega) h1).trans (HB.out.block k hk)
set_option maxHeartbeats 3200000 in
set_option maxRecDepth 1000000 in
theorem read_small (q : Nat) (a : Option Addr) (n c : Nat) (es : List Ee) (w : World) (hs : ∀ e ∈ es, e.Sm) (hc : chk true es = 0) (hw : wts es ≤ 1000000) (hn : es.length < 65536) (h : Inn w a n c (nenc true es)) (hq : w.cell? ⟨q, 0, none⟩ = some (.int .u8 1)) :
    Calls Try.prog 15 #[.slice a n c, .func (.func 16) #[] #[.pointer (some ⟨q, 0, none⟩)]] w fun e w' => ∃ v ys, e = .returned (.tuple #[.agg #[.bool true, v], .int .u16 0]) ∧ ers ys = es ∧ Cl w.heap.size w' v ys ∧ Below w.heap.size w w' := by
  have hmf : ∀ (fn : Fn) (first cap : Array Value) (w : World), (Instr.makeFunc fn first cap).run Try.prog w = .ok (.func fn first cap) w := fun _ _ _ _ => rfl
  obtain ⟨w3, hw3⟩ : ∃ w3, w3 = ((w.alloc (Obj.cells #[.bool false, .slice none 0 0] 25)).alloc (Obj.cells #[.int .u16 0] 29)).alloc (Obj.cells #[.slice a n c] 118) := ⟨_, rfl⟩
  have hB3 : Below w.heap.size w w3 := by rw [hw3]; exact ((((Below.refl _ _).alloc (Nat.le_refl _) _).alloc (by simp) _).alloc (by simp; omega) _)
  have hs3 : w3.heap.size = w.heap.size + 3 := by rw [hw3]; simp
  have hb0 : w3.heap[w.heap.size]? = some (.cells #[.bool false, .slice none 0 0] 25 (0, 0)) := by
    rw [hw3, Below.heap_alloc _ _ _ (by simp; omega), Below.heap_alloc _ _ _ (by simp)]; exact heap_alloc_new w _
  have hb1 : w3.heap[w.heap.size + 1]? = some (.cells #[.int .u16 0] 29 (0, 0)) := by
    rw [hw3, Below.heap_alloc _ _ _ (by simp)]
    have := heap_alloc_new (w.alloc (Obj.cells #[.bool false, .slice none 0 0] 25)) (Obj.cells #[.int .u16 0] 29)
    simpa using this
  have hb2 : w3.heap[w.heap.size + 1 + 1]? = some (.cells #[.slice a n c] 118 (0, 0)) := by
    rw [hw3]
    have := heap_alloc_new ((w.alloc (Obj.cells #[.bool false, .slice none 0 0] 25)).alloc (Obj.cells #[.int .u16 0] 29)) (Obj.cells #[.slice a n c] 118)
    simpa using this
  have hrd : Rdr w3 (w.heap.size + 1 + 1) (nenc true es) := by
    refine ⟨a, n, c, hb2, h.len, h.cap, h.max, h.bare, ?_, h.byts⟩
    rcases h.row with h0 | ⟨b, off, h1, h2, h3⟩
    · exact .inl h0
    · exact .inr ⟨b, off, h1, by omega, by omega, fun i hi => (hB3.cell (p := ⟨b, off + i, none⟩) h2).trans (h3 i hi)⟩
  have HC := hide (decode1_small (w.heap.size + 1 + 1) q es w3 hs hc hw hn hrd ((hB3.cell (p := ⟨q, 0, none⟩) (World.block_lt_of_cell? w _ hq)).trans hq))
  rw [hw3] at HC
  have HW3 := hide hw3
  have HB0 := hide hb0
  have HB1 := hide hb1
  have HB3 := hide hB3
  have HS3 := hide hs3
  clear hw3 hB3 hs3 hb0 hb1 hb2 hrd h hq hs hc
  go_enter_defers Try.func15, Try.ntmps15
  go_wp2_with fail
  refine HC.out.mono ?_
  rw [← HW3.out]
  rintro e w4 ⟨v, ys, rfl, her, hcl, hg4⟩
  obtain ⟨a9, c9, rfl, -⟩ := hcl.ens
  have HG4 := hide hg4
  have HEr := hide her
  have hcl : Cl (w.heap.size + 3) w4 (.slice a9 ys.length c9) ys := by rw [HS3.out] at hcl; exact hcl
  have HCl := hide hcl
  have hb1 : w4.heap[w.heap.size + 1]? = some (.cells #[.int .u16 0] 29 (0, 0)) := (HG4.out.block _ (by rw [HS3.out]; omega) (by simp)).trans HB1.out
  have hb0 : w4.heap[w.heap.size]? = some (.cells #[.bool false, .slice none 0 0] 25 (0, 0)) := (HG4.out.block _ (by rw [HS3.out]; omega) (by simp; omega)).trans HB0.out
  have HB4 : Hid (Below w.heap.size w w4) := hide ⟨HG4.out.os.trans HB3.out.os, HG4.out.tape.trans HB3.out.tape, HG4.out.output.trans HB3.out.output, Nat.le_trans HB3.out.size HG4.out.size, fun k hk => (HG4.out.block k (by rw [HS3.out]; omega) (by simp; omega)).trans (HB3.out.block k hk)⟩
  obtain ⟨q0, q1, f0⟩ := cells_two hb0
  have f1 := frozen_blk (j := 1) hb0
  have q2 := cell_of_one hb1
  have f2 := free_of_one hb1
  have HB0' := hide hb0
  have HB1' := hide hb1
  clear hcl hb1 hb0 hg4 her HC
  go_wp2
  have hB := two_set (u := .bool true) (v := .slice a9 ys.length c9) HB0'.out
  have hC : ((w4.setCell ⟨w.heap.size, 0, none⟩ (.bool true)).setCell ⟨w.heap.size, 1, none⟩ (.slice a9 ys.length c9)).heap[w.heap.size + 1]? = some (.cells #[.int .u16 0] 29 (0, 0)) := (two_other (by omega)).trans HB1'.out
  have hD := one_setCell (u := .int .u16 0) hC
  have hE : (((w4.setCell ⟨w.heap.size, 0, none⟩ (.bool true)).setCell ⟨w.heap.size, 1, none⟩ (.slice a9 ys.length c9)).setCell ⟨w.heap.size + 1, 0, none⟩ (.int .u16 0)).heap[w.heap.size]? = some (.cells #[.bool true, .slice a9 ys.length c9] 25 (0, 0)) :=
    (Below.heap_setCell _ _ _ _ (show w.heap.size ≠ w.heap.size + 1 by omega)).trans hB
  have HB5 : Hid (Below w.heap.size w (((w4.setCell ⟨w.heap.size, 0, none⟩ (.bool true)).setCell ⟨w.heap.size, 1, none⟩ (.slice a9 ys.length c9)).setCell ⟨w.heap.size + 1, 0, none⟩ (.int .u16 0))) :=
    hide (((HB4.out.setCell (p := ⟨w.heap.size, 0, none⟩) (Nat.le_refl _) _).setCell (p := ⟨w.heap.size, 1, none⟩) (Nat.le_refl _) _).setCell (p := ⟨w.heap.size + 1, 0, none⟩) (show w.heap.size ≤ w.heap.size + 1 by omega) _)
  have HC5 : Hid (Cl w.heap.size (((w4.setCell ⟨w.heap.size, 0, none⟩ (.bool true)).setCell ⟨w.heap.size, 1, none⟩ (.slice a9 ys.length c9)).setCell ⟨w.heap.size + 1, 0, none⟩ (.int .u16 0)) (.slice a9 ys.length c9) ys) := hide ((HCl.out.other (fun k hk => by
      rw [Below.heap_setCell _ _ _ _ (show k ≠ w.heap.size + 1 by omega)]; exact two_other (by omega))).mono (by omega))
  generalize ((w4.setCell ⟨w.heap.size, 0, none⟩ (.bool true)).setCell ⟨w.heap.size, 1, none⟩ (.slice a9 ys.length c9)).setCell ⟨w.heap.size + 1, 0, none⟩ (.int .u16 0) = w5 at *
  clear q0 q1 q2 f0 f1 f2 hB hC
  refine leaves_cons (f := 55) (args := #[.pointer (some ⟨w.heap.size + 1, 0, none⟩)]) (by simp) (by simp [go_sem]) ?_
  refine (catch_idle ⟨w.heap.size + 1, 0, none⟩ _).mono ?_
  rintro e u' w'' ⟨rfl, rfl, rfl⟩
  obtain ⟨q0, q1, -⟩ := cells_two hE
  have q2 := cell_of_one hD
  simp [Leaves, settle, results, Try.results15, go_sem, q0, q1, q2]
  exact ⟨ys, HEr.out, HC5.out, HB5.out⟩
set_option maxHeartbeats 3200000 in
set_option maxRecDepth 1000000 in
theorem decode_small (a : Option Addr) (n c : Nat) (es : List Ee) (w : World) (hs : ∀ e ∈ es, e.Sm) (hc : chk true es = 0) (hw : wts es ≤ 1000000) (hn : es.length < 65536) (h : Inn w a n c (nenc true es)) :
    Calls Try.prog 6 #[.int .u8 1, .slice a n c] w fun e w' => ∃ v ys, e = .returned (.tuple #[.agg #[.bool true, v], .int .u16 0]) ∧ ers ys = es ∧ Cl w.heap.size w' v ys ∧ Below w.heap.size w w' := by
  have hmf : ∀ (fn : Fn) (first cap : Array Value) (w : World), (Instr.makeFunc fn first cap).run Try.prog w = .ok (.func fn first cap) w := fun _ _ _ _ => rfl
  have hB := two_alloc (w := w) (.cells #[.int .u8 1] 5) (.cells #[.bool false, .slice none 0 0] 25)
  have h1 := one_below (cell_of_one (heap_alloc_new w (.cells #[.int .u8 1] 5))) (below_alloc (w.alloc (.cells #[.int .u8 1] 5)) (.cells #[.bool false, .slice none 0 0] 25))
  have hb1 : ((w.alloc (.cells #[.int .u8 1] 5)).alloc (.cells #[.bool false, .slice none 0 0] 25)).heap[w.heap.size + 1]? = some (.cells #[.bool false, .slice none 0 0] 25 (0, 0)) := by
    have := heap_alloc_new (w.alloc (.cells #[.int .u8 1] 5)) (.cells #[.bool false, .slice none 0 0] 25)
    rwa [World.size_alloc] at this
  have HR := hide (read_small w.heap.size a n c es _ hs hc hw hn (h.below hB) h1)
  have HB := hide hB
  have HB1 := hide hb1
  clear h hB hb1 h1 hs hc
  go_enter Try.func6, Try.ntmps6
  go_wp2_with fail
  refine HR.out.mono ?_
  rintro e w2 ⟨v, ys, rfl, her, hcl, hb2⟩
  obtain ⟨a2, c2, rfl, -⟩ := hcl.ens
  have hbz := (hb2.block _ (lt_of_block HB1.out)).trans HB1.out
  obtain ⟨f0, f1, -⟩ := cells_two hbz
  have g0 := frozen_blk (j := 0) hbz
  have g1 := frozen_blk (j := 1) hbz
  have HBz := hide hbz
  have HEr := hide her
  have HCl := hide hcl
  have HB2 := hide (HB.out.trans (hb2.mono HB.out.size))
  clear her hcl hb2 hbz
  go_wp2
  have hf := two_set (u := .bool true) (v := .slice a2 ys.length c2) HBz.out
  obtain ⟨q0, q1, -⟩ := cells_two hf
  refine bodyPost_ret (v := .tuple #[.agg #[.bool true, .slice a2 ys.length c2], .int .u16 0]) ?_ rfl ?_
  · simp [results, Try.results6, go_sem, q0, q1]
  · have hcl : Cl (w.heap.size + 2) w2 (.slice a2 ys.length c2) ys := by have := HCl.out; simp at this; exact this
    exact ⟨_, ys, rfl, HEr.out, (hcl.other (fun k hk => two_other (by omega))).mono (by omega), (HB2.out.setCell (p := ⟨w.heap.size + 1, 0, none⟩) (show w.heap.size ≤ w.heap.size + 1 by omega) _).setCell (p := ⟨w.heap.size + 1, 1, none⟩) (show w.heap.size ≤ w.heap.size + 1 by omega) _⟩
end Go.Proofs.Ytjojpohnmfkanaa
