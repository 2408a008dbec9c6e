/- Decode of any bytes. -/
import Derived.Test.YtjojpohnmfkanaaRI
namespace Go.Proofs.Ytjojpohnmfkanaa
open Go.RowKit
set_option linter.unusedVariables false

/-- bytes that are a node's of that kind. -/
def IsK (kind : Nat) (zs : List Int) (leaf : Bool) (es : List Ee) : Prop := ((kind = 1 ∧ leaf = true) ∨ (kind = 2 ∧ leaf = false)) ∧ IsNode leaf zs es
/-- what reading a node of a kind comes to. -/
def KOut (kind p : Nat) (zs : List Int) (w : World) (e : Ending) (w' : World) : Prop :=
  w.grownBy w' (some p) ∧ ((∃ (leaf : Bool) (a2 : Option Addr) (n2 c2 : Nat) (ys : List En), e = .returned (.agg #[.bool leaf, .slice a2 n2 c2]) ∧ IsK kind zs leaf (ers ys) ∧ Cl w.heap.size w' (.slice a2 n2 c2) ys) ∨ (e = .panicked flt ∧ ∀ leaf es, ¬ IsK kind zs leaf es))
set_option maxHeartbeats 1600000 in
set_option maxRecDepth 1000000 in
theorem rnode_kind (kind p : Nat) (w : World) (h1 : kind ≠ 1) (h2 : kind ≠ 2) :
    Calls Try.prog 17 #[.pointer (some ⟨p, 0, none⟩), .int .u8 (kind : Int)] w fun e w' => e = .panicked flt ∧ Below w.heap.size w w' := by
  have hB := below_alloc w (.cells #[.bool false, .slice none 0 0] 25)
  have HB := hide hB
  have d1 : ¬ (kind : Int) = 1 := by omega
  have d2 : ¬ (kind : Int) = 2 := by omega
  have d3 : ((kind : Int) == 1) = false := by simp; omega
  have d4 : ((kind : Int) == 2) = false := by simp; omega
  have d5 : decide (kind = 1) = false := decide_eq_false h1
  have d6 : decide (kind = 2) = false := decide_eq_false h2
  clear hB
  go_enter Try.func17, Try.ntmps17
  go_wp2_with fail
  refine (must_no _ _ (by simp) _).mono ?_
  rintro e w' ⟨rfl, rfl⟩
  exact ⟨rfl, rfl, HB.out⟩
theorem rnode_any (kind p : Nat) (zs : List Int) (w : World) (hk : kind < 256) (h : Rdr w p zs) (hl : zs.length ≤ 100000) :
    Calls Try.prog 17 #[.pointer (some ⟨p, 0, none⟩), .int .u8 (kind : Int)] w fun e w' => KOut kind p zs w e w' := by
  by_cases h1 : kind = 1
  · subst h1
    refine (rnode_leaf p zs w h hl).mono ?_
    rintro e w' ⟨hg, ho⟩
    refine ⟨hg, ?_⟩
    rcases ho with ⟨v, ys, rfl, hi, hc⟩ | ⟨rfl, hno⟩
    · obtain ⟨a2, c2, rfl, -⟩ := hc.ens
      exact .inl ⟨true, a2, _, c2, ys, rfl, ⟨.inl ⟨rfl, rfl⟩, hi⟩, hc⟩
    · refine .inr ⟨rfl, fun leaf es hi => ?_⟩
      obtain ⟨h0, hi⟩ := hi
      rcases h0 with ⟨_, rfl⟩ | ⟨h0, _⟩
      · exact hno es hi
      · omega
  · by_cases h2 : kind = 2
    · subst h2
      refine (rnode_branch p zs w h hl).mono ?_
      rintro e w' ⟨hg, ho⟩
      refine ⟨hg, ?_⟩
      rcases ho with ⟨v, ys, rfl, hi, hc⟩ | ⟨rfl, hno⟩
      · obtain ⟨a2, c2, rfl, -⟩ := hc.ens
        exact .inl ⟨false, a2, _, c2, ys, rfl, ⟨.inr ⟨rfl, rfl⟩, hi⟩, hc⟩
      · refine .inr ⟨rfl, fun leaf es hi => ?_⟩
        obtain ⟨h0, hi⟩ := hi
        rcases h0 with ⟨h0, _⟩ | ⟨_, rfl⟩
        · omega
        · exact hno es hi
    · refine (rnode_kind kind p w h1 h2).mono ?_
      rintro e w' ⟨rfl, hb⟩
      refine ⟨grown_below hb, .inr ⟨rfl, fun leaf es hi => ?_⟩⟩
      rcases hi.1 with ⟨h0, _⟩ | ⟨h0, _⟩ <;> omega
set_option maxHeartbeats 3200000 in
set_option maxRecDepth 1000000 in
theorem decode1_any (kind p q : Nat) (zs : List Int) (w : World) (hk : kind < 256) (h : Rdr w p zs) (hl : zs.length ≤ 100000) (hq : w.cell? ⟨q, 0, none⟩ = some (.int .u8 (kind : Int))) :
    Calls Try.prog 16 #[.pointer (some ⟨p, 0, none⟩), .pointer (some ⟨q, 0, none⟩)] w fun e w' => KOut kind p zs w e w' := by
  have hB := below_alloc w (.cells #[.bool false, .slice none 0 0] 25)
  have hb0 := heap_alloc_new w (.cells #[.bool false, .slice none 0 0] 25)
  have hpw := h.lt
  have HR := hide (rnode_any kind p zs _ hk (h.below hB) hl)
  have hq1 := one_below hq hB
  have HB := hide hB
  have HB0 := hide hb0
  clear h hB hb0
  go_enter Try.func16, Try.ntmps16
  go_wp2_with fail
  refine HR.out.mono ?_
  rintro e w2 ⟨hg, ho⟩
  rcases ho with ⟨leaf, a2, n2, c2, ys, rfl, hi, hcl⟩ | ⟨rfl, hno⟩
  rotate_left
  · exact ⟨rfl, grown_trans (grown_below HB.out) hg, .inr ⟨rfl, hno⟩⟩
  have hbz := (hg.block _ (lt_of_block HB0.out) (by simp; omega)).trans HB0.out
  obtain ⟨f0, f1, -⟩ := cells_two hbz
  have g0 := frozen_blk (j := 0) hbz
  have g1 := frozen_blk (j := 1) hbz
  have HBz := hide hbz
  have HI := hide hi
  have HCl := hide hcl
  have HG := hide hg
  clear hi hcl hg hbz
  go_wp2
  have hf := two_set (u := .bool leaf) (v := .slice a2 n2 c2) HBz.out
  obtain ⟨q0, q1, -⟩ := cells_two hf
  refine bodyPost_ret (v := .agg #[.bool leaf, .slice a2 n2 c2]) ?_ rfl ?_
  · simp [results, Try.results16, go_sem, q0, q1]
  · have hcl : Cl (w.heap.size + 1) w2 (.slice a2 n2 c2) ys := by have := HCl.out; simp at this; exact this
    refine ⟨?_, .inl ⟨leaf, a2, n2, c2, ys, rfl, HI.out, (hcl.other (fun k hk => two_other (by omega))).mono (by omega)⟩⟩
    refine ⟨HG.out.os.trans HB.out.os, HG.out.tape.trans HB.out.tape, HG.out.output.trans HB.out.output, by have h1 := HG.out.size; simp [World.setCell] at h1 ⊢; omega, fun k hk h1 => ?_⟩
    rw [two_other (by omega)]
    exact (HG.out.block k (by simp; omega) h1).trans (HB.out.block k hk)
/-- what Decode tells of bytes. -/
def DOut (kind : Nat) (zs : List Int) (w : World) (e : Ending) (w' : World) : Prop :=
  Below w.heap.size w w' ∧ ((∃ (leaf : Bool) (a2 : Option Addr) (n2 c2 : Nat) (ys : List En), e = .returned (.tuple #[.agg #[.bool leaf, .slice a2 n2 c2], .int .u16 0]) ∧ IsK kind zs leaf (ers ys) ∧ Cl w.heap.size w' (.slice a2 n2 c2) ys) ∨ (e = .returned (.tuple #[.agg #[.bool false, .slice none 0 0], .int .u16 90]) ∧ ∀ leaf es, ¬ IsK kind zs leaf es))
theorem reader_boxes (w : World) (a : Option Addr) (n c : Nat) : ∃ w3, w3 = ((w.alloc (Obj.cells #[.bool false, .slice none 0 0] 25)).alloc (Obj.cells #[.int .u16 0] 29)).alloc (Obj.cells #[.slice a n c] 118) ∧ Below w.heap.size w w3 ∧ w3.heap.size = w.heap.size + 3 ∧ w3.heap[w.heap.size]? = some (.cells #[.bool false, .slice none 0 0] 25 (0, 0)) ∧ w3.heap[w.heap.size + 1]? = some (.cells #[.int .u16 0] 29 (0, 0)) ∧ w3.heap[w.heap.size + 1 + 1]? = some (.cells #[.slice a n c] 118 (0, 0)) := by
  refine ⟨_, rfl, (((Below.refl _ _).alloc (Nat.le_refl _) _).alloc (by simp) _).alloc (by simp; omega) _, by simp, ?_, ?_, ?_⟩
  · rw [Below.heap_alloc _ _ _ (by simp; omega), Below.heap_alloc _ _ _ (by simp)]; exact heap_alloc_new w _
  · rw [Below.heap_alloc _ _ _ (by simp)]
    have := heap_alloc_new (w.alloc (Obj.cells #[.bool false, .slice none 0 0] 25)) (Obj.cells #[.int .u16 0] 29)
    simpa using this
  · have := heap_alloc_new ((w.alloc (Obj.cells #[.bool false, .slice none 0 0] 25)).alloc (Obj.cells #[.int .u16 0] 29)) (Obj.cells #[.slice a n c] 118)
    simpa using this
set_option maxHeartbeats 3200000 in
set_option maxRecDepth 1000000 in
theorem read_any (kind q : Nat) (a : Option Addr) (n c : Nat) (zs : List Int) (w : World) (hk : kind < 256) (h : Inn w a n c zs) (hl : n ≤ 100000) (hq : w.cell? ⟨q, 0, none⟩ = some (.int .u8 (kind : Int))) :
    Calls Try.prog 15 #[.slice a n c, .func (.func 16) #[] #[.pointer (some ⟨q, 0, none⟩)]] w fun e w' => DOut kind zs w e w' := by
  have hmf : ∀ (fn : Fn) (first cap : Array Value) (w : World), (Instr.makeFunc fn first cap).run Try.prog w = .ok (.func fn first cap) w := fun _ _ _ _ => rfl
  obtain ⟨w3, hw3, hB3, hs3, hb0, hb1, hb2⟩ := reader_boxes w a n c
  have hrd : Rdr w3 (w.heap.size + 1 + 1) zs := by
    refine ⟨a, n, c, hb2, h.len, h.cap, h.max, h.bare, ?_, h.byts⟩
    rcases h.row with h0 | ⟨b, off, h1, h2, h3⟩
    · exact .inl h0
    · exact .inr ⟨b, off, h1, by omega, by omega, fun i hi => (hB3.cell (p := ⟨b, off + i, none⟩) h2).trans (h3 i hi)⟩
  have HC := hide (decode1_any kind (w.heap.size + 1 + 1) q zs w3 hk hrd (by rw [h.len]; exact hl) ((hB3.cell (p := ⟨q, 0, none⟩) (World.block_lt_of_cell? w _ hq)).trans hq))
  rw [hw3] at HC
  have HW3 := hide hw3
  have HB0 := hide hb0
  have HB1 := hide hb1
  have HB3 := hide hB3
  have HS3 := hide hs3
  clear hw3 hB3 hs3 hb0 hb1 hb2 hrd h hq
  go_enter_defers Try.func15, Try.ntmps15
  go_wp2_with fail
  refine HC.out.mono ?_
  rw [← HW3.out]
  rintro e w4 ⟨hg4, ho⟩
  have HG4 := hide hg4
  have hb1 : w4.heap[w.heap.size + 1]? = some (.cells #[.int .u16 0] 29 (0, 0)) := (HG4.out.block _ (by rw [HS3.out]; omega) (by simp)).trans HB1.out
  have hb0 : w4.heap[w.heap.size]? = some (.cells #[.bool false, .slice none 0 0] 25 (0, 0)) := (HG4.out.block _ (by rw [HS3.out]; omega) (by simp; omega)).trans HB0.out
  have HB4 : Hid (Below w.heap.size w w4) := hide ⟨HG4.out.os.trans HB3.out.os, HG4.out.tape.trans HB3.out.tape, HG4.out.output.trans HB3.out.output, Nat.le_trans HB3.out.size HG4.out.size, fun k hk => (HG4.out.block k (by rw [HS3.out]; omega) (by simp; omega)).trans (HB3.out.block k hk)⟩
  have hs4 := HG4.out.size
  rw [HS3.out] at hs4
  clear hg4 HC
  rcases ho with ⟨leaf, a9, n9, c9, ys, rfl, hi, hcl⟩ | ⟨rfl, hno⟩
  rotate_left
  · have HNo := hide hno
    clear hno
    go_wp2
    refine leaves_cons (f := 55) (args := #[.pointer (some ⟨w.heap.size + 1, 0, none⟩)]) (by simp) (by simp [go_sem]) ?_
    refine (catch_panic ⟨w.heap.size + 1, 0, none⟩ 0 [] _ (cell_of_one hb1) (free_of_one hb1)).mono ?_
    rintro e u' w'' ⟨rfl, rfl, rfl⟩
    have hc1 : (w4.alloc (.cells #[] 115)).heap[w.heap.size + 1]? = some (.cells #[.int .u16 0] 29 (0, 0)) := (Below.heap_alloc w4 _ _ (by omega)).trans hb1
    have hc0 : (w4.alloc (.cells #[] 115)).heap[w.heap.size]? = some (.cells #[.bool false, .slice none 0 0] 25 (0, 0)) := (Below.heap_alloc w4 _ _ (by omega)).trans hb0
    have hd1 := one_setCell (u := .int .u16 90) hc1
    have hd0 : ((w4.alloc (.cells #[] 115)).setCell ⟨w.heap.size + 1, 0, none⟩ (.int .u16 90)).heap[w.heap.size]? = some (.cells #[.bool false, .slice none 0 0] 25 (0, 0)) := (Below.heap_setCell _ _ _ _ (show w.heap.size ≠ w.heap.size + 1 by omega)).trans hc0
    have HB5 : Hid (Below w.heap.size w ((w4.alloc (.cells #[] 115)).setCell ⟨w.heap.size + 1, 0, none⟩ (.int .u16 90))) := hide (((HB4.out.trans ((below_alloc w4 _).mono HB4.out.size))).setCell (p := ⟨w.heap.size + 1, 0, none⟩) (show w.heap.size ≤ w.heap.size + 1 by omega) _)
    generalize (w4.alloc (.cells #[] 115)).setCell ⟨w.heap.size + 1, 0, none⟩ (.int .u16 90) = w5 at *
    obtain ⟨q0, q1, -⟩ := cells_two hd0
    have q2 := cell_of_one hd1
    have hfin : DOut kind zs w (.returned (.tuple #[.agg #[.bool false, .slice none 0 0], .int .u16 90])) w5 := ⟨HB5.out, .inr ⟨rfl, HNo.out⟩⟩
    simp [Leaves, settle, results, Try.results15, go_sem, q0, q1, q2]
    exact hfin
  have hcl : Cl (w.heap.size + 3) w4 (.slice a9 n9 c9) ys := by rw [HS3.out] at hcl; exact hcl
  have HCl := hide hcl
  have HI := hide hi
  obtain ⟨q0, q1, f0⟩ := cells_two hb0
  have f1 := frozen_blk (j := 1) hb0
  have q2 := cell_of_one hb1
  have f2 := free_of_one hb1
  have HB0' := hide hb0
  have HB1' := hide hb1
  clear hcl hb1 hb0 hi
  go_wp2
  have hB := two_set (u := .bool leaf) (v := .slice a9 n9 c9) HB0'.out
  have hC : ((w4.setCell ⟨w.heap.size, 0, none⟩ (.bool leaf)).setCell ⟨w.heap.size, 1, none⟩ (.slice a9 n9 c9)).heap[w.heap.size + 1]? = some (.cells #[.int .u16 0] 29 (0, 0)) := (two_other (by omega)).trans HB1'.out
  have hD := one_setCell (u := .int .u16 0) hC
  have hE : (((w4.setCell ⟨w.heap.size, 0, none⟩ (.bool leaf)).setCell ⟨w.heap.size, 1, none⟩ (.slice a9 n9 c9)).setCell ⟨w.heap.size + 1, 0, none⟩ (.int .u16 0)).heap[w.heap.size]? = some (.cells #[.bool leaf, .slice a9 n9 c9] 25 (0, 0)) :=
    (Below.heap_setCell _ _ _ _ (show w.heap.size ≠ w.heap.size + 1 by omega)).trans hB
  have HB5 : Hid (Below w.heap.size w (((w4.setCell ⟨w.heap.size, 0, none⟩ (.bool leaf)).setCell ⟨w.heap.size, 1, none⟩ (.slice a9 n9 c9)).setCell ⟨w.heap.size + 1, 0, none⟩ (.int .u16 0))) :=
    hide (((HB4.out.setCell (p := ⟨w.heap.size, 0, none⟩) (Nat.le_refl _) _).setCell (p := ⟨w.heap.size, 1, none⟩) (Nat.le_refl _) _).setCell (p := ⟨w.heap.size + 1, 0, none⟩) (show w.heap.size ≤ w.heap.size + 1 by omega) _)
  have HC5 : Hid (Cl w.heap.size (((w4.setCell ⟨w.heap.size, 0, none⟩ (.bool leaf)).setCell ⟨w.heap.size, 1, none⟩ (.slice a9 n9 c9)).setCell ⟨w.heap.size + 1, 0, none⟩ (.int .u16 0)) (.slice a9 n9 c9) ys) := hide ((HCl.out.other (fun k hk => by
      rw [Below.heap_setCell _ _ _ _ (show k ≠ w.heap.size + 1 by omega)]; exact two_other (by omega))).mono (by omega))
  generalize ((w4.setCell ⟨w.heap.size, 0, none⟩ (.bool leaf)).setCell ⟨w.heap.size, 1, none⟩ (.slice a9 n9 c9)).setCell ⟨w.heap.size + 1, 0, none⟩ (.int .u16 0) = w5 at *
  clear q0 q1 q2 f0 f1 f2 hB hC
  refine leaves_cons (f := 55) (args := #[.pointer (some ⟨w.heap.size + 1, 0, none⟩)]) (by simp) (by simp [go_sem]) ?_
  refine (catch_idle ⟨w.heap.size + 1, 0, none⟩ _).mono ?_
  rintro e u' w'' ⟨rfl, rfl, rfl⟩
  obtain ⟨q0, q1, -⟩ := cells_two hE
  have q2 := cell_of_one hD
  simp [Leaves, settle, results, Try.results15, go_sem, q0, q1, q2]
  exact ⟨HB5.out, .inl ⟨leaf, a9, n9, c9, ys, rfl, HI.out, HC5.out⟩⟩
set_option maxHeartbeats 3200000 in
set_option maxRecDepth 1000000 in
theorem decode_any (kind : Nat) (a : Option Addr) (n c : Nat) (zs : List Int) (w : World) (hk : kind < 256) (h : Inn w a n c zs) (hl : n ≤ 100000) :
    Calls Try.prog 6 #[.int .u8 (kind : Int), .slice a n c] w fun e w' => DOut kind zs w e w' := by
  have hmf : ∀ (fn : Fn) (first cap : Array Value) (w : World), (Instr.makeFunc fn first cap).run Try.prog w = .ok (.func fn first cap) w := fun _ _ _ _ => rfl
  have hB := two_alloc (w := w) (.cells #[.int .u8 (kind : Int)] 5) (.cells #[.bool false, .slice none 0 0] 25)
  have h1 := one_below (cell_of_one (heap_alloc_new w (.cells #[.int .u8 (kind : Int)] 5))) (below_alloc (w.alloc (.cells #[.int .u8 (kind : Int)] 5)) (.cells #[.bool false, .slice none 0 0] 25))
  have hb1 : ((w.alloc (.cells #[.int .u8 (kind : Int)] 5)).alloc (.cells #[.bool false, .slice none 0 0] 25)).heap[w.heap.size + 1]? = some (.cells #[.bool false, .slice none 0 0] 25 (0, 0)) := by
    have := heap_alloc_new (w.alloc (.cells #[.int .u8 (kind : Int)] 5)) (.cells #[.bool false, .slice none 0 0] 25)
    rwa [World.size_alloc] at this
  have HR := hide (read_any kind w.heap.size a n c zs _ hk (h.below hB) hl h1)
  have HB := hide hB
  have HB1 := hide hb1
  clear h hB hb1 h1
  go_enter Try.func6, Try.ntmps6
  go_wp2_with fail
  refine HR.out.mono ?_
  rintro e w2 ⟨hb2, ho⟩
  have hbz := (hb2.block _ (lt_of_block HB1.out)).trans HB1.out
  obtain ⟨f0, f1, -⟩ := cells_two hbz
  have g0 := frozen_blk (j := 0) hbz
  have g1 := frozen_blk (j := 1) hbz
  have HBz := hide hbz
  have HB2 := hide (HB.out.trans (hb2.mono HB.out.size))
  clear hb2 hbz
  rcases ho with ⟨leaf, a2, n2, c2, ys, rfl, hi, hcl⟩ | ⟨rfl, hno⟩
  · have HI := hide hi
    have HCl := hide hcl
    clear hi hcl
    go_wp2
    have hf := two_set (u := .bool leaf) (v := .slice a2 n2 c2) HBz.out
    obtain ⟨q0, q1, -⟩ := cells_two hf
    refine bodyPost_ret (v := .tuple #[.agg #[.bool leaf, .slice a2 n2 c2], .int .u16 0]) ?_ rfl ?_
    · simp [results, Try.results6, go_sem, q0, q1]
    · have hcl : Cl (w.heap.size + 2) w2 (.slice a2 n2 c2) ys := by have := HCl.out; simp at this; exact this
      exact ⟨(HB2.out.setCell (p := ⟨w.heap.size + 1, 0, none⟩) (show w.heap.size ≤ w.heap.size + 1 by omega) _).setCell (p := ⟨w.heap.size + 1, 1, none⟩) (show w.heap.size ≤ w.heap.size + 1 by omega) _, .inl ⟨leaf, a2, n2, c2, ys, rfl, HI.out, (hcl.other (fun k hk => two_other (by omega))).mono (by omega)⟩⟩
  · have HNo := hide hno
    clear hno
    go_wp2
    have hf := two_set (u := .bool false) (v := .slice none 0 0) HBz.out
    obtain ⟨q0, q1, -⟩ := cells_two hf
    refine bodyPost_ret (v := .tuple #[.agg #[.bool false, .slice none 0 0], .int .u16 90]) ?_ rfl ?_
    · simp [results, Try.results6, go_sem, q0, q1]
    · exact ⟨(HB2.out.setCell (p := ⟨w.heap.size + 1, 0, none⟩) (show w.heap.size ≤ w.heap.size + 1 by omega) _).setCell (p := ⟨w.heap.size + 1, 1, none⟩) (show w.heap.size ≤ w.heap.size + 1 by omega) _, .inr ⟨rfl, HNo.out⟩⟩
end Go.Proofs.Ytjojpohnmfkanaa
