/- The bytes that were written last. -/
import Derived.Test.YtkkjppdooaipiaaDM
namespace Go.Proofs.Ytkkjppdooaipiaa
open Go.RowKit Go.Maps
set_option linter.unusedVariables false

/-- a lasting sector. -/
theorem Dk.las_at {w : World} {p q : Nat} {vw : Value} {m : Option Nat} {S : DS} (h : Dk w p q vw m S) (n : Nat) (hn : n < S.ls.length) : w.rangeAt q (n * 128) (sv (S.ls.getD n [])) := by
  intro j v hv
  rw [cell_of_row w q _ _ 93 (0, 0) h.las]
  have := flatten_at (n := 128) (S.ls.map sv) (by intro s hs; simp only [List.mem_map] at hs; obtain ⟨y, hy, rfl⟩ := hs; rw [sv_len]; exact (h.good.ls y hy).1) n (sv (S.ls.getD n [])) (by simp [hn]) j v hv
  simpa [flat] using this
theorem getD_mem {α : Type} (L : List α) (n : Nat) (d : α) (h : n < L.length) : L.getD n d ∈ L := by
  rw [List.getD_eq_getElem?_getD, List.getElem?_eq_getElem h]; exact List.getElem_mem _
theorem newest_good {S : DS} (h : S.Good) (n : Nat) (hn : n < S.ls.length) : (newest S n).length = 128 ∧ Byts (newest S n) := by
  unfold newest
  cases hl : lastAt S.ws n with
  | none => exact h.ls _ (getD_mem _ _ _ hn)
  | some i => exact (h.ws _ (getD_mem _ _ _ (lastAt_some hl).1)).2
theorem zero3 : ∀ w, (zeroValue 3).run Try.prog w = .ok (.int .i64 0) w := (zero_of_info (P := Try.prog) (t := 3) (v := .int .i64 0) (n := 1) (by kernel_rfl)).1
/-- what the map answers. -/
theorem asked (m : Option Nat) (W : World) (ws : List (Nat × List Int)) (n : Nat) (hn : n ≤ 1000000) (h : MapAt W m ws) :
    ∃ c : Int, (Instr.lookup 58 (.map m) (.int .i64 (n : Int)) true).run Try.prog W = .ok (.tuple #[.int .i64 c, .bool (lastAt ws n).isSome]) W ∧ ∀ i, lastAt ws n = some i → c = (i : Int) := by
  have hkey : keyOf Try.prog 3 (.int .i64 (n : Int)) = some (.int .i64 (n : Int)) := keyOf_int_mk Try.underlying3 (WalkArith.wf_i64 (by omega))
  cases m with
  | none =>
    have e : ws = [] := h
    subst e
    refine ⟨0, ?_, fun i hi => by simp [lastAt] at hi⟩
    rw [Maps.look_nil true law3 Try.underlying58 (zero3 W) hkey]
    rfl
  | some b =>
    obtain ⟨N, D, hN, hown, ht⟩ := h
    obtain ⟨v, ps, hrun, hv⟩ := hown.look_ok law3 Try.underlying58 (zero3 W) (plainElem_int (H := Unit) Try.underlying3 (by decide)) hkey
    obtain ⟨c, rfl, hc, _⟩ := plainElem_int_inv Try.underlying3 hv
    refine ⟨c, by rw [hrun, (ht n).1], fun i hi => ?_⟩
    have h1 := (ht n).2 i hi
    have h2 : D.atKey (.int .i64 (n : Int)) (.lit (.int .i64 0)) = .lit (.int .i64 c) := congrArg Prod.fst hc
    have h3 : (DataW.lit (.int .i64 (i : Int)) : DataW Unit) = .lit (.int .i64 c) := h1.symm.trans h2
    cases h3
    rfl

set_option maxHeartbeats 1600000 in
set_option maxRecDepth 1000000 in
theorem newest_none (p q : Nat) (vw : Value) (m : Option Nat) (S : DS) (n : Nat) (w : World) (h : Dk w p q vw m S) (hn : n < S.ls.length) (hl : lastAt S.ws n = none) :
    Calls Try.prog 39 #[.pointer (some ⟨p, 0, none⟩), .int .i64 (n : Int)] w fun e w' => e = .returned (.agg (sv (newest S n)).toArray) ∧ Below w.heap.size w w' := by
  have hd0 := h.below (below_alloc w (.cells z110 93))
  have hgd := newest_good h.good n hn
  have hmost := h.good.most
  have hfew := h.good.few
  obtain ⟨c, hlk, hci⟩ := asked m (w.alloc (.cells z110 93)) S.ws n (by omega) hd0.map
  rw [hl] at hlk
  simp only [Option.isSome_none] at hlk
  clear hci
  have c0 := hd0.c 0 (.slice (some ⟨q, 0, none⟩) S.ls.length S.ls.length) rfl
  have HR : Hid ((w.alloc (.cells z110 93)).rangeAt q (n * 128) (sv (newest S n))) := by
    have := hd0.las_at n hn
    unfold newest
    rw [hl]
    exact this
  have hnb : decide (n < S.ls.length) = true := by simp [hn]
  have hL : (sv (newest S n)).length = 128 := by rw [sv_len]; exact hgd.1
  have h1 := all_oneCell_toArray (sv_one (newest S n))
  generalize sv (newest S n) = cs at *
  have hz := zero110
  have HI : Hid ((Try.prog.info? 93).map (·.size) = some cs.length) := by rw [hL]; exact size110
  have HI2 : Hid ((Try.prog.info? 93).map (·.size) = some cs.toArray.size) := by rw [List.size_toArray, hL]; exact size110
  have HT : Hid ((w.alloc (.cells z110 93)).heap[w.heap.size]? = some (.cells z110 93 (0, 0))) := heap_alloc_new w _
  have HZ : Hid (z110.size = cs.toArray.size) := by simp only [Hid, List.size_toArray, hL]; rfl
  have H1 := hide h1
  have HN := hide (heap_alloc_new w (.cells cs.toArray 93))
  have HB := hide (below_alloc w (.cells cs.toArray 93))
  have c2 := hd0.c 2 (.map m) rfl
  clear h hd0 hgd h1 hL
  go_enter Try.func39, Try.ntmps39
  go_wp2_with (first | (refine wpList_load_mid (by rfl) 93 (.tmp 32) (by rfl) q (n * 128) (by rfl) cs _ HR.out Try.underlying93 rfl HI.out ?_) | (refine wpList_store_row (by rfl) 93 (.tmp 4) (.tmp 33) (by rfl) w.heap.size cs.toArray (by rfl) (by rfl) 93 z110 HT.out HI2.out HZ.out H1.out ?_; rw [World.setRow_alloc_new]))
  refine bodyPost_ret (v := .agg cs.toArray) ?_ rfl ?_
  · exact results_cell_row (p := 4) (ty := 93) rfl _ _ w.heap.size 93 _ (0, 0) _ rfl HN.out Try.underlying93 rfl HI2.out
  · exact ⟨rfl, HB.out⟩
set_option maxHeartbeats 1600000 in
set_option maxRecDepth 1000000 in
theorem newest_some (p q : Nat) (vw : Value) (m : Option Nat) (S : DS) (n : Nat) (w : World) (h : Dk w p q vw m S) (hn : n < S.ls.length) (i : Nat) (hl : lastAt S.ws n = some i) :
    Calls Try.prog 39 #[.pointer (some ⟨p, 0, none⟩), .int .i64 (n : Int)] w fun e w' => e = .returned (.agg (sv (newest S n)).toArray) ∧ Below w.heap.size w w' := by
  have hd0 := h.below (below_alloc w (.cells z110 93))
  have hgd := newest_good h.good n hn
  have hmost := h.good.most
  have hfew := h.good.few
  obtain ⟨c, hlk, hci⟩ := asked m (w.alloc (.cells z110 93)) S.ws n (by omega) hd0.map
  rw [hl] at hlk
  simp only [Option.isSome_some] at hlk
  have hc := hci i hl
  subst hc
  clear hci
  obtain ⟨hi, x, hx, hxn⟩ := lastAt_some hl
  obtain ⟨g, cap, rfl, hle⟩ : ∃ g cap, vw = .slice (some ⟨g, 0, none⟩) S.ws.length cap ∧ S.ws.length ≤ cap := by
    rcases h.wri.2 with ⟨e, e2⟩ | ⟨g, cap, cur, e, _, _, hle, _⟩
    · omega
    · exact ⟨g, cap, e, hle⟩
  have c1 := hd0.c 1 (.slice (some ⟨g, 0, none⟩) S.ws.length cap) rfl
  have HR : Hid ((w.alloc (.cells z110 93)).rangeAt g (i * 129 + 1) (sv (newest S n))) := by
    have hr := Dk.wr_at hd0 i x hx
    have e : newest S n = x.2 := by unfold newest; rw [hl]; simp [hx]
    rw [e]
    intro j v hv
    have := hr (j + 1) v (by simpa [wv] using hv)
    rw [← this]
    congr 2
    omega
  have hnb : decide (i < S.ws.length) = true := by simp [hi]
  clear hx hxn
  have hL : (sv (newest S n)).length = 128 := by rw [sv_len]; exact hgd.1
  have h1 := all_oneCell_toArray (sv_one (newest S n))
  generalize sv (newest S n) = cs at *
  have hz := zero110
  have HI : Hid ((Try.prog.info? 93).map (·.size) = some cs.length) := by rw [hL]; exact size110
  have HI2 : Hid ((Try.prog.info? 93).map (·.size) = some cs.toArray.size) := by rw [List.size_toArray, hL]; exact size110
  have HT : Hid ((w.alloc (.cells z110 93)).heap[w.heap.size]? = some (.cells z110 93 (0, 0))) := heap_alloc_new w _
  have HZ : Hid (z110.size = cs.toArray.size) := by simp only [Hid, List.size_toArray, hL]; rfl
  have H1 := hide h1
  have HN := hide (heap_alloc_new w (.cells cs.toArray 93))
  have HB := hide (below_alloc w (.cells cs.toArray 93))
  have c2 := hd0.c 2 (.map m) rfl
  clear h hd0 hgd h1 hL
  go_enter Try.func39, Try.ntmps39
  go_wp2_with (first | (refine wpList_load_mid (by rfl) 93 (.tmp 25) (by rfl) g (i * 129 + 1) (by rfl) cs _ HR.out Try.underlying93 rfl HI.out ?_) | (refine wpList_store_row (by rfl) 93 (.tmp 4) (.tmp 26) (by rfl) w.heap.size cs.toArray (by rfl) (by rfl) 93 z110 HT.out HI2.out HZ.out H1.out ?_; rw [World.setRow_alloc_new]))
  refine bodyPost_ret (v := .agg cs.toArray) ?_ rfl ?_
  · exact results_cell_row (p := 4) (ty := 93) rfl _ _ w.heap.size 93 _ (0, 0) _ rfl HN.out Try.underlying93 rfl HI2.out
  · exact ⟨rfl, HB.out⟩
theorem newest_any (p q : Nat) (vw : Value) (m : Option Nat) (S : DS) (n : Nat) (w : World) (h : Dk w p q vw m S) (hn : n < S.ls.length) :
    Calls Try.prog 39 #[.pointer (some ⟨p, 0, none⟩), .int .i64 (n : Int)] w fun e w' => e = .returned (.agg (sv (newest S n)).toArray) ∧ Below w.heap.size w w' := by
  cases hl : lastAt S.ws n with
  | none => exact newest_none p q vw m S n w h hn hl
  | some i => exact newest_some p q vw m S n w h hn i hl
end Go.Proofs.Ytkkjppdooaipiaa
