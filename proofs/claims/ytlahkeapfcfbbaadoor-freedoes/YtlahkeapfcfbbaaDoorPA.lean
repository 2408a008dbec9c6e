/- A pile in memory: its struct, its row of pages, the order that is bound to it. -/
import Derived.Test.YtlahkeapfcfbbaaDoorB
import Derived.Test.YtlahkeapfcfbbaaDoorHM
import Derived.BigQuiet
import Derived.Laws.EntriesVeiled
namespace Go.Proofs.YtlahkeapfcfbbaaDoor
open Go.RowKit Go.Maps
set_option linter.unusedVariables false

/-- a page's cells. -/
def pgc (x : Pg) : List Value := [.int .u32 x.1, .int .u64 x.2]
/-- pages, one behind the other. -/
def pflat (xs : List Pg) : List Value := (xs.map pgc).flatten
theorem pgc_len (xs : List Pg) : ∀ s ∈ xs.map pgc, s.length = 2 := by
  intro s hs
  obtain ⟨x, _, rfl⟩ := List.mem_map.1 hs
  rfl
theorem pflat_len (xs : List Pg) : (pflat xs).length = xs.length * 2 := by rw [pflat, flatten_len _ (pgc_len xs), List.length_map]
theorem pflat_at {xs : List Pg} {i : Nat} (hi : i < xs.length) (j : Nat) (v : Value) (hv : (pgc (pat xs i))[j]? = some v) : (pflat xs)[i * 2 + j]? = some v :=
  flatten_at _ (pgc_len xs) i (pgc (pat xs i)) (by simp [pat_lt hi, hi]) j v hv
theorem pflat_snoc (xs : List Pg) (x : Pg) : pflat (xs ++ [x]) = pflat xs ++ pgc x := by simp [pflat]
/-- the order of a pile: by generations, by numbers. -/
def ordFn (b : Bool) : Nat := if b then 59 else 58
def key (b : Bool) (x : Pg) : Int := if b then x.1 else x.2
def fnv (b : Bool) (p : Nat) : Value := .func (.func (ordFn b)) #[.pointer (some ⟨p, 0, none⟩)] #[]
/-- a pile at block p, its row v. -/
structure Pl (w : World) (p : Nat) (b : Bool) (v : Value) (xs : List Pg) : Prop where
  blk : w.heap[p]? = some (.cells #[v, fnv b p] 97 (0, 0))
  row : w.ownsRow 0 87 2 v xs.length (pflat xs)
  pv : v.ownBlock ≠ some p
variable {w w' : World} {p : Nat} {b : Bool} {v : Value} {xs : List Pg}
theorem Pl.c0 (h : Pl w p b v xs) : w.cell? ⟨p, 0, none⟩ = some v := by simp [World.cell?, h.blk]
theorem Pl.c1 (h : Pl w p b v xs) : w.cell? ⟨p, 1, none⟩ = some (fnv b p) := by simp [World.cell?, h.blk]
theorem Pl.fz (h : Pl w p b v xs) (i : Nat) : w.frozen? ⟨p, i, none⟩ = false := by simp [World.frozen?, h.blk]
theorem Pl.lt (h : Pl w p b v xs) : p < w.heap.size := lt_of_block h.blk
theorem Pl.vlt (h : Pl w p b v xs) {k : Nat} (hk : v.ownBlock = some k) : k < w.heap.size := (World.ownsRow.lt h.row k hk).2
/-- where the row lies: nowhere, if there is nothing. -/
theorem Pl.shape (h : Pl w p b v xs) : ∃ a c, v = .slice a xs.length c ∧ xs.length ≤ c ∧ c ≤ maxLen ∧ (0 < xs.length → ∃ g, a = some ⟨g, 0, none⟩ ∧ v.ownBlock = some g ∧ g ≠ p ∧ (∀ i, w.frozen? ⟨g, i, none⟩ = false) ∧ ∀ i, i < xs.length → w.cell? ⟨g, i * 2, none⟩ = some (.int .u32 (pat xs i).1) ∧ w.cell? ⟨g, i * 2 + 1, none⟩ = some (.int .u64 (pat xs i).2)) := by
  have hp := h.pv
  have hr := h.row
  rcases h.row.2 with ⟨rfl, h0⟩ | ⟨g, cap, cur, rfl, _, hg, hn, hm, _⟩
  · exact ⟨none, 0, by rw [h0], by omega, by omega, fun hl => by omega⟩
  · refine ⟨_, cap, rfl, hn, hm, fun _ => ⟨g, rfl, rfl, fun e => hp (by rw [← e]; rfl), fun i => by simp [World.frozen?, hg], fun i hi => ⟨?_, ?_⟩⟩⟩
    · have := hr.cells (g := g) rfl (i * 2 + 0) _ (pflat_at hi 0 _ rfl)
      simpa [Addr.add_lit] using this
    · have := hr.cells (g := g) rfl (i * 2 + 1) _ (pflat_at hi 1 _ rfl)
      simpa [Addr.add_lit] using this
theorem Pl.of_blocks (h : Pl w p b v xs) (h1 : w'.heap[p]? = w.heap[p]?) (h2 : ∀ k, v.ownBlock = some k → w'.heap[k]? = w.heap[k]?) : Pl w' p b v xs := by
  refine ⟨by rw [h1]; exact h.blk, ⟨h.row.1, ?_⟩, h.pv⟩
  rcases h.row.2 with h3 | ⟨g, cap, cur, rfl, hg, hh, r⟩
  · exact .inl h3
  · exact .inr ⟨g, cap, cur, rfl, hg, by rw [h2 g rfl]; exact hh, r⟩

theorem buildP0 (W : World) : (Instr.build 97 #[]).run Tryd.prog W = .ok (.agg #[.slice none 0 0, .nilFunc]) W := run_build W 97 _ _ (by kernel_rfl)
set_option maxHeartbeats 1600000 in
set_option maxRecDepth 1000000 in
theorem newWaiting_any (w : World) : Calls Tryd.prog 20 #[] w fun e w' => e = .returned (.pointer (some ⟨w.heap.size, 0, none⟩)) ∧ Pl w' w.heap.size false (.slice none 0 0) [] ∧ w'.heap.size = w.heap.size + 1 ∧ Below w.heap.size w w' := by
  have hbe := buildP0
  go_enter Tryd.func20, Tryd.ntmps20
  go_wp2
  go_ret
  refine ⟨rfl, ⟨?_, World.ownsRow_nil _ _ _ _, by simp [Value.ownBlock]⟩, by simp, below_alloc w _⟩
  exact heap_alloc_new w _
set_option maxHeartbeats 1600000 in
set_option maxRecDepth 1000000 in
theorem newReady_any (w : World) : Calls Tryd.prog 21 #[] w fun e w' => e = .returned (.pointer (some ⟨w.heap.size, 0, none⟩)) ∧ Pl w' w.heap.size true (.slice none 0 0) [] ∧ w'.heap.size = w.heap.size + 1 ∧ Below w.heap.size w w' := by
  have hbe := buildP0
  go_enter Tryd.func21, Tryd.ntmps21
  go_wp2
  go_ret
  refine ⟨rfl, ⟨?_, World.ownsRow_nil _ _ _ _, by simp [Value.ownBlock]⟩, by simp, below_alloc w _⟩
  exact heap_alloc_new w _
/-- nothing has turned but the drawn orders. -/
structure Same (w w' : World) : Prop where
  os : w'.os = w.os
  tape : w'.tape = w.tape
  output : w'.output = w.output
  heap : w'.heap = w.heap
theorem Same.refl (w : World) : Same w w := ⟨rfl, rfl, rfl, rfl⟩
theorem Same.drew {w w' : World} (h : Same w w') : Same w w'.drew := ⟨h.os, h.tape, h.output, h.heap⟩
theorem Same.trans {a b c : World} (h : Same a b) (k : Same b c) : Same a c := ⟨k.os.trans h.os, k.tape.trans h.tape, k.output.trans h.output, k.heap.trans h.heap⟩
theorem Same.drewN {w w' : World} (h : Same w w') (n : Nat) : Same w (w'.drewN n) := ⟨h.os, h.tape, h.output, h.heap⟩
theorem Same.mv {O : Nat → Prop} {w w' : World} (h : Same w w') : Mv O w w' := ⟨h.os, h.tape, h.output, by rw [h.heap]; exact Nat.le_refl _, fun k _ _ => by rw [h.heap]⟩
theorem Same.below {w w' : World} (h : Same w w') : Below w.heap.size w w' := ⟨h.os, h.tape, h.output, by rw [h.heap]; exact Nat.le_refl _, fun k _ => by rw [h.heap]⟩
theorem Pl.same (h : Pl w p b v xs) (hs : Same w w') : Pl w' p b v xs := h.of_blocks (by rw [hs.heap]) (fun k _ => by rw [hs.heap])
set_option maxHeartbeats 1600000 in
set_option maxRecDepth 1000000 in
theorem byGen_any (h : Pl w p b v xs) (i j : Nat) (hi : i < xs.length) (hj : j < xs.length) :
    Calls Tryd.prog 58 #[.pointer (some ⟨p, 0, none⟩), .int .i64 (i : Int), .int .i64 (j : Int)] w fun e w' => e = .returned (.bool (decide ((pat xs i).2 < (pat xs j).2))) ∧ Same w w' := by
  obtain ⟨a, c, rfl, hc1, hc2, hg⟩ := h.shape
  obtain ⟨g, rfl, -, -, -, hcell⟩ := hg (by omega)
  have c0 := h.c0
  have e1 := (hcell i hi).2
  have e2 := (hcell j hj).2
  clear hcell hg h hc1 hc2
  generalize xs.length = n at *
  generalize (pat xs i).2 = x at *
  generalize (pat xs j).2 = y at *
  go_enter Tryd.func58, Tryd.ntmps58
  go_wp2
  go_quiet (fail)
  go_wp2
  go_ret
  exact ⟨rfl, (Same.refl w).drewN _⟩
set_option maxHeartbeats 1600000 in
set_option maxRecDepth 1000000 in
theorem byNum_any (h : Pl w p b v xs) (i j : Nat) (hi : i < xs.length) (hj : j < xs.length) :
    Calls Tryd.prog 59 #[.pointer (some ⟨p, 0, none⟩), .int .i64 (i : Int), .int .i64 (j : Int)] w fun e w' => e = .returned (.bool (decide ((pat xs i).1 < (pat xs j).1))) ∧ Same w w' := by
  obtain ⟨a, c, rfl, hc1, hc2, hg⟩ := h.shape
  obtain ⟨g, rfl, -, -, -, hcell⟩ := hg (by omega)
  have c0 := h.c0
  have e1 := (hcell i hi).1
  have e2 := (hcell j hj).1
  clear hcell hg h hc1 hc2
  generalize xs.length = n at *
  generalize (pat xs i).1 = x at *
  generalize (pat xs j).1 = y at *
  go_enter Tryd.func59, Tryd.ntmps59
  go_wp2
  go_quiet (fail)
  go_wp2
  go_ret
  exact ⟨rfl, (Same.refl w).drewN _⟩
set_option maxHeartbeats 1600000 in
set_option maxRecDepth 1000000 in
theorem less_any (h : Pl w p b v xs) (i j : Nat) (hi : i < xs.length) (hj : j < xs.length) :
    Calls Tryd.prog 90 #[.pointer (some ⟨p, 0, none⟩), .int .i64 (i : Int), .int .i64 (j : Int)] w fun e w' => e = .returned (.bool (decide (key b (pat xs i) < key b (pat xs j)))) ∧ Same w w' := by
  have c1 := h.c1
  cases b with
  | false =>
    have HC := hide (byGen_any h i j hi hj)
    simp only [fnv, ordFn, key, if_neg (show ¬ (false = true) by decide)] at c1 ⊢
    clear h
    go_enter Tryd.func90, Tryd.ntmps90
    go_wp2_with (go_at_call 58; refine HC.out.mono ?_; rintro e w1 ⟨rfl, hs⟩; have HS := hide hs; clear hs)
    go_ret
    exact ⟨rfl, HS.out⟩
  | true =>
    have HC := hide (byNum_any h i j hi hj)
    simp only [fnv, ordFn, key, if_pos] at c1 ⊢
    clear h
    go_enter Tryd.func90, Tryd.ntmps90
    go_wp2_with (go_at_call 59; refine HC.out.mono ?_; rintro e w1 ⟨rfl, hs⟩; have HS := hide hs; clear hs)
    go_ret
    exact ⟨rfl, HS.out⟩
end Go.Proofs.YtlahkeapfcfbbaaDoor
