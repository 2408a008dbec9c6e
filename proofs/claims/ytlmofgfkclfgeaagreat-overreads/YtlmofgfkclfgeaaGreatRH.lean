/- Open: what a page of a number has. -/
import Derived.Test.YtlmofgfkclfgeaaGreatRF
namespace Go.Proofs.YtlmofgfkclfgeaaGreat
open Go.RowKit
set_option linter.unusedVariables false

theorem two_set {w : World} {q t : Nat} {a b u v : Value} (h : w.heap[q]? = some (.cells #[a, b] t (0, 0))) :
    (w.setCell ⟨q, 0, none⟩ u).heap[q]? = some (.cells #[u, b] t (0, 0)) ∧ ((w.setCell ⟨q, 0, none⟩ u).setCell ⟨q, 1, none⟩ v).heap[q]? = some (.cells #[u, v] t (0, 0)) := by
  have h1 : (w.setCell ⟨q, 0, none⟩ u).heap[q]? = some (.cells #[u, b] t (0, 0)) := by rw [heap_setCell_same w q 0 _ t _ h]; rfl
  exact ⟨h1, by rw [heap_setCell_same _ q 1 _ t _ h1]; rfl⟩
theorem frozen_blk {w : World} {q t j : Nat} {cs : Array Value} (h : w.heap[q]? = some (.cells cs t (0, 0))) : w.frozen? ⟨q, j, none⟩ = false := by simp [World.frozen?, h]
theorem two_grown {w w' : World} {q : Nat} {u v : Value} {r : Option Nat} {B : Nat} (hg : w.grownBy w' r) (hq : w.heap.size ≤ q) : w.grownBy ((w'.setCell ⟨q, 0, none⟩ u).setCell ⟨q, 1, none⟩ v) r := by
  refine ⟨hg.os, hg.tape, hg.output, by have := hg.size; simpa [World.setCell] using this, fun k hk hne => ?_⟩
  rw [Below.heap_setCell _ _ _ _ (show k ≠ q by omega), Below.heap_setCell _ _ _ _ (show k ≠ q by omega)]
  exact hg.block k hk hne

set_option maxHeartbeats 1600000 in
set_option maxRecDepth 1000000 in
theorem open1_any (p q number : Nat) (zs : List Int) (w : World) (h : Rdr w p zs) (hn : number < 4294967296) (hq : w.cell? ⟨q, 0, none⟩ = some (.int .u32 (number : Int))) :
    Calls Tryz.prog 90 #[.pointer (some ⟨p, 0, none⟩), .pointer (some ⟨q, 0, none⟩)] w fun e w' => ContOut (Pg.opn number zs) p w e w' := by
  have hpw := h.lt
  have HA : Hid (w.grownBy (w.alloc (.cells #[.int .u8 0, .slice none 0 0] 232)) (some p)) := hide (grown_below (below_alloc _ _))
  have HQ : Hid ((w.alloc (.cells #[.int .u8 0, .slice none 0 0] 232)).heap[w.heap.size]? = some (.cells #[.int .u8 0, .slice none 0 0] 232 (0, 0))) := hide (heap_alloc_new w _)
  have HS : Hid (w.heap.size < (w.alloc (.cells #[.int .u8 0, .slice none 0 0] 232)).heap.size) := by rw [Hid]; simp
  have HC := hide (content_any p number zs _ (h.below (below_alloc w (.cells #[.int .u8 0, .slice none 0 0] 232))) hn)
  have hq0 : (w.alloc (.cells #[.int .u8 0, .slice none 0 0] 232)).cell? ⟨q, 0, none⟩ = some (.int .u32 (number : Int)) := ((below_alloc w _).cell (p := ⟨q, 0, none⟩) (World.block_lt_of_cell? w _ hq)).trans hq
  clear h
  generalize Pg.opn number zs = O at *
  go_enter Tryz.func90, Tryz.ntmps90
  go_wp2_with fail
  refine HC.out.mono ?_
  rintro e w1 ⟨hy, hno, hg1⟩
  have HG1 := hide hg1
  clear hg1
  cases O with
  | none =>
    obtain rfl := hno rfl
    exact ⟨rfl, ContOut.no rfl (grown_trans HA.out HG1.out)⟩
  | some x =>
    obtain ⟨K, pl⟩ := x
    obtain ⟨v, rfl, hown, hnew⟩ := hy K pl rfl
    obtain ⟨a9, n9, c9, rfl, -⟩ := hown.shape2
    have HOw := hide hown
    have HNew := hide hnew
    have hqp : some w.heap.size ≠ some p := by
      intro e
      have e2 : w.heap.size = p := by simpa using e
      omega
    have hb : w1.heap[w.heap.size]? = some (.cells #[.int .u8 0, .slice none 0 0] 232 (0, 0)) := (HG1.out.block w.heap.size HS.out hqp).trans HQ.out
    obtain ⟨q0, q1, f0⟩ := cells_two hb
    have f1 := frozen_blk (j := 1) hb
    have HB := hide hb
    clear hown hnew hqp hb hy hno
    go_wp2
    obtain ⟨hA, hB⟩ := two_set (u := .int .u8 (K : Int)) (v := .slice a9 n9 c9) HB.out
    obtain ⟨q0', -, -⟩ := cells_two hA
    obtain ⟨-, q1', -⟩ := cells_two hB
    refine bodyPost_ret (v := .agg #[.int .u8 (K : Int), .slice a9 n9 c9]) ?_ rfl ?_
    · simp [results, Tryz.results90, go_sem, q0', q1']
    · refine ⟨fun kind pl' h => ?_, fun h => ?_, two_grown (B := 0) (grown_trans HA.out HG1.out) (Nat.le_refl _)⟩
      · cases h
        refine ⟨_, rfl, HOw.out.of_block fun k hk => ?_, fun k hk => ?_⟩
        · have hne : k ≠ w.heap.size := by have := HNew.out k hk; have := HS.out; omega
          rw [Below.heap_setCell _ _ _ _ hne, Below.heap_setCell _ _ _ _ hne]
        · have := HNew.out k hk; have := HS.out; omega
      · cases h

/-- what opening comes to. -/
def OpenOut (O : Option (Nat × List Int)) (w : World) (e : Ending) (w' : World) : Prop :=
  (∀ kind pl, O = some (kind, pl) → ∃ v, e = .returned (.tuple #[.agg #[.int .u8 (kind : Int), v], .int .u16 0]) ∧ Made w v pl w') ∧ (O = none → e = .returned (.tuple #[.agg #[.int .u8 0, .slice none 0 0], .int .u16 80]) ∧ Below w.heap.size w w')

set_option maxHeartbeats 1600000 in
set_option maxRecDepth 1000000 in
theorem read_page (q number : Nat) (a : Option Addr) (n c : Nat) (zs : List Int) (w : World) (hn : number < 4294967296) (hq : w.cell? ⟨q, 0, none⟩ = some (.int .u32 (number : Int)))
    (hl : zs.length = n) (hc : n ≤ c) (hm : c ≤ 9223372036854775807) (hb : a = none → n = 0 ∧ c = 0) (hr : Row w a zs) (h8 : Byts zs) :
    Calls Tryz.prog 89 #[.slice a n c, .func (.func 90) #[] #[.pointer (some ⟨q, 0, none⟩)]] w fun e w' => OpenOut (Pg.opn number zs) w e w' := by
  have hmf : ∀ (fn : Fn) (first cap : Array Value) (w : World), (Instr.makeFunc fn first cap).run Tryz.prog w = .ok (.func fn first cap) w := fun _ _ _ _ => rfl
  obtain ⟨w3, hw3⟩ : ∃ w3, w3 = ((w.alloc (Obj.cells #[Value.int IntKind.u8 0, Value.slice none 0 0] 232)).alloc (Obj.cells #[Value.int IntKind.u16 0] 27)).alloc (Obj.cells #[Value.slice a n c] 246) := ⟨_, rfl⟩
  have hB3 : Below w.heap.size w w3 := by rw [hw3]; exact ((((Below.refl _ _).alloc (Nat.le_refl _) _).alloc (by simp) _).alloc (by simp; omega) _)
  have hs3 : w3.heap.size = w.heap.size + 3 := by rw [hw3]; simp
  have hb0 : w3.heap[w.heap.size]? = some (.cells #[.int .u8 0, .slice none 0 0] 232 (0, 0)) := by
    rw [hw3, Below.heap_alloc _ _ _ (by simp; omega), Below.heap_alloc _ _ _ (by simp)]; exact heap_alloc_new w _
  have hb1 : w3.heap[w.heap.size + 1]? = some (.cells #[.int .u16 0] 27 (0, 0)) := by
    rw [hw3, Below.heap_alloc _ _ _ (by simp)]
    have := heap_alloc_new (w.alloc (Obj.cells #[Value.int IntKind.u8 0, Value.slice none 0 0] 232)) (Obj.cells #[Value.int IntKind.u16 0] 27)
    simpa using this
  have hb2 : w3.heap[w.heap.size + 1 + 1]? = some (.cells #[.slice a n c] 246 (0, 0)) := by
    rw [hw3]
    have := heap_alloc_new ((w.alloc (Obj.cells #[Value.int IntKind.u8 0, Value.slice none 0 0] 232)).alloc (Obj.cells #[Value.int IntKind.u16 0] 27)) (Obj.cells #[Value.slice a n c] 246)
    simpa using this
  have hrd : Rdr w3 (w.heap.size + 1 + 1) zs := by
    refine ⟨a, n, c, hb2, hl, hc, hm, hb, ?_, h8⟩
    rcases hr with h | ⟨b, off, h1, h2, h3⟩
    · exact .inl h
    · exact .inr ⟨b, off, h1, by omega, by omega, fun i hi => (hB3.cell (p := ⟨b, off + i, none⟩) h2).trans (h3 i hi)⟩
  have HC := hide (open1_any (w.heap.size + 1 + 1) q number zs w3 hrd hn ((hB3.cell (p := ⟨q, 0, none⟩) (World.block_lt_of_cell? w _ hq)).trans hq))
  rw [hw3] at HC
  have HW3 := hide hw3
  have HB0 := hide hb0
  have HB1 := hide hb1
  have HB3 := hide hB3
  have HS3 := hide hs3
  clear hw3 hB3 hs3 hb0 hb1 hb2 hrd hl hc hm hb hr h8 hq
  generalize Pg.opn number zs = O at *
  go_enter_defers Tryz.func89, Tryz.ntmps89
  go_wp2_with fail
  refine HC.out.mono ?_
  rw [← HW3.out]
  rintro e w4 ⟨hy, hno, hg4⟩
  have HG4 := hide hg4
  clear hg4
  cases O with
  | none =>
    obtain rfl := hno rfl
    have hb1 : w4.heap[w.heap.size + 1]? = some (.cells #[.int .u16 0] 27 (0, 0)) := (HG4.out.block _ (by rw [HS3.out]; omega) (by simp)).trans HB1.out
    have hb0 : w4.heap[w.heap.size]? = some (.cells #[.int .u8 0, .slice none 0 0] 232 (0, 0)) := (HG4.out.block _ (by rw [HS3.out]; omega) (by simp; omega)).trans HB0.out
    have hs4 := HG4.out.size
    have HB4 : Hid (Below w.heap.size w w4) := hide ⟨HG4.out.os.trans HB3.out.os, HG4.out.tape.trans HB3.out.tape, HG4.out.output.trans HB3.out.output, Nat.le_trans HB3.out.size HG4.out.size, fun k hk => (HG4.out.block k (by rw [HS3.out]; omega) (by simp; omega)).trans (HB3.out.block k hk)⟩
    rw [HS3.out] at hs4
    clear hy hno HC
    go_wp2
    refine leaves_cons (f := 95) (args := #[.pointer (some ⟨w.heap.size + 1, 0, none⟩)]) (by simp) (by simp [go_sem]) ?_
    refine (catch_panic ⟨w.heap.size + 1, 0, none⟩ 0 [] _ (cell_of_one hb1) (free_of_one hb1)).mono ?_
    rintro e u' w'' ⟨rfl, rfl, rfl⟩
    have hc1 : (w4.alloc (.cells #[] 243)).heap[w.heap.size + 1]? = some (.cells #[.int .u16 0] 27 (0, 0)) := (Below.heap_alloc w4 _ _ (by omega)).trans hb1
    have hc0 : (w4.alloc (.cells #[] 243)).heap[w.heap.size]? = some (.cells #[.int .u8 0, .slice none 0 0] 232 (0, 0)) := (Below.heap_alloc w4 _ _ (by omega)).trans hb0
    have hd1 := one_setCell (u := .int .u16 80) hc1
    have hd0 : ((w4.alloc (.cells #[] 243)).setCell ⟨w.heap.size + 1, 0, none⟩ (.int .u16 80)).heap[w.heap.size]? = some (.cells #[.int .u8 0, .slice none 0 0] 232 (0, 0)) := (Below.heap_setCell _ _ _ _ (show w.heap.size ≠ w.heap.size + 1 by omega)).trans hc0
    have HB5 : Hid (Below w.heap.size w ((w4.alloc (.cells #[] 243)).setCell ⟨w.heap.size + 1, 0, none⟩ (.int .u16 80))) := hide (((HB4.out.trans ((below_alloc w4 _).mono HB4.out.size))).setCell (p := ⟨w.heap.size + 1, 0, none⟩) (show w.heap.size ≤ w.heap.size + 1 by omega) _)
    generalize (w4.alloc (.cells #[] 243)).setCell ⟨w.heap.size + 1, 0, none⟩ (.int .u16 80) = w5 at *
    obtain ⟨q0, q1, -⟩ := cells_two hd0
    have q2 := cell_of_one hd1
    simp [Leaves, settle, results, Tryz.results89, go_sem, q0, q1, q2, OpenOut]
    exact HB5.out
  | some x =>
    obtain ⟨K, pl⟩ := x
    obtain ⟨v, rfl, hown, hnew⟩ := hy K pl rfl
    obtain ⟨a9, n9, c9, rfl, -⟩ := hown.shape2
    have HOw := hide hown
    have HNew := hide hnew
    have hb1 : w4.heap[w.heap.size + 1]? = some (.cells #[.int .u16 0] 27 (0, 0)) := (HG4.out.block _ (by rw [HS3.out]; omega) (by simp)).trans HB1.out
    have hb0 : w4.heap[w.heap.size]? = some (.cells #[.int .u8 0, .slice none 0 0] 232 (0, 0)) := (HG4.out.block _ (by rw [HS3.out]; omega) (by simp; omega)).trans HB0.out
    have HB4 : Hid (Below w.heap.size w w4) := hide ⟨HG4.out.os.trans HB3.out.os, HG4.out.tape.trans HB3.out.tape, HG4.out.output.trans HB3.out.output, Nat.le_trans HB3.out.size HG4.out.size, fun k hk => (HG4.out.block k (by rw [HS3.out]; omega) (by simp; omega)).trans (HB3.out.block k hk)⟩
    obtain ⟨q0, q1, f0⟩ := cells_two hb0
    have f1 := frozen_blk (j := 1) hb0
    have q2 := cell_of_one hb1
    have f2 := free_of_one hb1
    have HB0' := hide hb0
    have HB1' := hide hb1
    clear hown hnew hb1 hb0 hy hno HC
    go_wp2
    obtain ⟨-, hB⟩ := two_set (u := .int .u8 (K : Int)) (v := .slice a9 n9 c9) HB0'.out
    have hC : ((w4.setCell ⟨w.heap.size, 0, none⟩ (.int .u8 (K : Int))).setCell ⟨w.heap.size, 1, none⟩ (.slice a9 n9 c9)).heap[w.heap.size + 1]? = some (.cells #[.int .u16 0] 27 (0, 0)) := by
      rw [Below.heap_setCell _ _ _ _ (show w.heap.size + 1 ≠ w.heap.size by omega), Below.heap_setCell _ _ _ _ (show w.heap.size + 1 ≠ w.heap.size by omega)]
      exact HB1'.out
    have hD := one_setCell (u := .int .u16 0) hC
    have hE : (((w4.setCell ⟨w.heap.size, 0, none⟩ (.int .u8 (K : Int))).setCell ⟨w.heap.size, 1, none⟩ (.slice a9 n9 c9)).setCell ⟨w.heap.size + 1, 0, none⟩ (.int .u16 0)).heap[w.heap.size]? = some (.cells #[.int .u8 (K : Int), .slice a9 n9 c9] 232 (0, 0)) :=
      (Below.heap_setCell _ _ _ _ (show w.heap.size ≠ w.heap.size + 1 by omega)).trans hB
    have HB5 : Hid (Below w.heap.size w (((w4.setCell ⟨w.heap.size, 0, none⟩ (.int .u8 (K : Int))).setCell ⟨w.heap.size, 1, none⟩ (.slice a9 n9 c9)).setCell ⟨w.heap.size + 1, 0, none⟩ (.int .u16 0))) :=
      hide (((HB4.out.setCell (p := ⟨w.heap.size, 0, none⟩) (Nat.le_refl _) _).setCell (p := ⟨w.heap.size, 1, none⟩) (Nat.le_refl _) _).setCell (p := ⟨w.heap.size + 1, 0, none⟩) (show w.heap.size ≤ w.heap.size + 1 by omega) _)
    have HOw5 : Hid (Own (((w4.setCell ⟨w.heap.size, 0, none⟩ (.int .u8 (K : Int))).setCell ⟨w.heap.size, 1, none⟩ (.slice a9 n9 c9)).setCell ⟨w.heap.size + 1, 0, none⟩ (.int .u16 0)) (.slice a9 n9 c9) pl) := hide (HOw.out.of_block fun k hk => by
      have h1 := HNew.out k hk
      have h2 := HS3.out
      rw [Below.heap_setCell _ _ _ _ (show k ≠ w.heap.size + 1 by omega), Below.heap_setCell _ _ _ _ (show k ≠ w.heap.size by omega), Below.heap_setCell _ _ _ _ (show k ≠ w.heap.size by omega)])
    have HN5 : Hid (∀ k, (Value.slice a9 n9 c9).ownBlock = some k → w.heap.size ≤ k) := hide fun k hk => by
      have h1 := HNew.out k hk
      have h2 := HS3.out
      omega
    generalize ((w4.setCell ⟨w.heap.size, 0, none⟩ (.int .u8 (K : Int))).setCell ⟨w.heap.size, 1, none⟩ (.slice a9 n9 c9)).setCell ⟨w.heap.size + 1, 0, none⟩ (.int .u16 0) = w5 at *
    clear q0 q1 q2 f0 f1 f2 hB hC
    refine leaves_cons (f := 95) (args := #[.pointer (some ⟨w.heap.size + 1, 0, none⟩)]) (by simp) (by simp [go_sem]) ?_
    refine (catch_idle ⟨w.heap.size + 1, 0, none⟩ _).mono ?_
    rintro e u' w'' ⟨rfl, rfl, rfl⟩
    obtain ⟨q0, q1, -⟩ := cells_two hE
    have q2 := cell_of_one hD
    simp [Leaves, settle, results, Tryz.results89, go_sem, q0, q1, q2, OpenOut]
    exact ⟨HOw5.out, HN5.out, HB5.out⟩
end Go.Proofs.YtlmofgfkclfgeaaGreat
/- Open. -/
namespace Go.Proofs.YtlmofgfkclfgeaaGreat
open Go.RowKit
set_option linter.unusedVariables false

theorem Made.below {w W W' : World} {v : Value} {zs : List Int} (h : Made w v zs W) (hb : Below W.heap.size W W') : Made w v zs W' :=
  ⟨h.1.below hb, h.2.1, h.2.2.trans (hb.mono h.2.2.size)⟩
/-- what Open answers. -/
def OpOut (O : Option (Nat × List Int)) (w : World) (e : Ending) (w' : World) : Prop :=
  (∀ kind pl, O = some (kind, pl) → ∃ v, e = .returned (.tuple #[.int .u8 (kind : Int), v, .int .u16 0]) ∧ Made w v pl w') ∧ (O = none → e = .returned (.tuple #[.int .u8 0, .slice none 0 0, .int .u16 80]) ∧ Below w.heap.size w w')

set_option maxHeartbeats 1600000 in
set_option maxRecDepth 1000000 in
theorem open_any (number : Nat) (a : Option Addr) (n c : Nat) (zs : List Int) (w : World) (hn : number < 4294967296)
    (hl : zs.length = n) (hc : n ≤ c) (hm : c ≤ 9223372036854775807) (hb : a = none → n = 0 ∧ c = 0) (hr : Row w a zs) (h8 : Byts zs) :
    Calls Tryz.prog 78 #[.int .u32 (number : Int), .slice a n c] w fun e w' => OpOut (Pg.opn number zs) w e w' := by
  have hmf : ∀ (fn : Fn) (first cap : Array Value) (w : World), (Instr.makeFunc fn first cap).run Tryz.prog w = .ok (.func fn first cap) w := fun _ _ _ _ => rfl
  have HB0 := hide (below_alloc w (.cells #[.int .u32 (number : Int)] 23))
  have HC := hide (read_page w.heap.size number a n c zs (w.alloc (.cells #[.int .u32 (number : Int)] 23)) hn (cell_of_one (heap_alloc_new w _)) hl hc hm hb (hr.below HB0.out) h8)
  clear hl hc hm hb hr h8
  generalize Pg.opn number zs = O at *
  go_enter Tryz.func78, Tryz.ntmps78
  go_wp2_with fail
  refine HC.out.mono ?_
  rintro e w1 ⟨hy, hno⟩
  cases O with
  | none =>
    obtain ⟨rfl, hb1⟩ := hno rfl
    have HB1 := hide (HB0.out.trans (hb1.mono HB0.out.size))
    clear hy hno hb1
    go_wp2
    go_quiet (fail)
    go_wp2
    go_ret3
    exact ⟨fun k pl h => by (cases h), fun _ => ⟨rfl, below_drewN (HB1.out.trans ((below_alloc w1 _).mono HB1.out.size)) _⟩⟩
  | some x =>
    obtain ⟨K, pl⟩ := x
    obtain ⟨v, rfl, hm1⟩ := hy K pl rfl
    have HM1 : Hid (Made w v pl w1) := hide ⟨hm1.1, fun k hk => Nat.le_trans HB0.out.size (hm1.2.1 k hk), HB0.out.trans (hm1.2.2.mono HB0.out.size)⟩
    obtain ⟨a9, n9, c9, rfl, -⟩ := hm1.1.shape2
    clear hy hno hm1
    go_wp2
    go_quiet (fail)
    go_wp2
    go_ret3
    exact ⟨fun k pl h => by (cases h; exact ⟨_, rfl, HM1.out.below (below_drewN (below_alloc w1 _) _)⟩), fun h => by (cases h)⟩
end Go.Proofs.YtlmofgfkclfgeaaGreat
