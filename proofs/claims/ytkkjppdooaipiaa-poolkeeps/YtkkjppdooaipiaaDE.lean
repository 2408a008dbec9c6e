/- A sector out of bytes; a write into the cache. -/
import Derived.Test.YtkkjppdooaipiaaDD
import Derived.Deep.WholeRow
namespace Go.Proofs.Ytkkjppdooaipiaa
open Go.RowKit Go.Maps
set_option linter.unusedVariables false

def z110 : Array Value := Array.replicate 128 (.int .u8 0)
theorem zero110 : ∀ w, (zeroValue 93).run Try.prog w = .ok (.agg z110) w := (zero_of_info (P := Try.prog) (t := 93) (v := .agg z110) (n := 128) (by kernel_rfl)).1
theorem size110 : (Try.prog.info? 93).map (·.size) = some 128 := by kernel_rfl
theorem Row.range {w : World} {b off : Nat} {zs : List Int} (h : Row w (some ⟨b, off, none⟩) zs) (k n : Nat) (hk : k + n ≤ zs.length) : w.rangeAt b (off + k) (sv ((zs.drop k).take n)) := by
  intro j v hv
  rcases h with h | ⟨b', off', e, hlt, hc⟩
  · subst h; simp [sv] at hv
  · cases e
    have hj : j < n := by
      have := (List.getElem?_eq_some_iff.1 hv).1
      simp only [sv, List.length_map, List.length_take] at this
      omega
    have := hc (k + j) (by omega)
    rw [Nat.add_assoc, this]
    rw [← hv]
    simp [sv, hj, show k + j < zs.length by omega]

theorem arrayAt110 (a : Option Addr) (n c : Nat) (h : 128 ≤ n) (W : World) : (Instr.arrayAt 93 (.slice a n c)).run Try.prog W = .ok (.pointer a) W := by
  simp [Instr.arrayAt, run_underlying Try.underlying93, show ¬ n < 128 by omega]
set_option maxHeartbeats 1600000 in
set_option maxRecDepth 1000000 in
theorem sectorAt_any (b off len cap : Nat) (zs : List Int) (at_ : Nat) (w : World) (hr : Row w (some ⟨b, off, none⟩) zs) (hl : zs.length = len) (hlc : len ≤ cap) (hc : cap ≤ 9223372036854775807) (ha : at_ * 128 + 128 ≤ len) :
    Calls Try.prog 51 #[.slice (some ⟨b, off, none⟩) len cap, .int .i64 (at_ : Int)] w fun e w' => e = .returned (.agg (sv ((zs.drop (at_ * 128)).take 128)).toArray) ∧ Below w.heap.size w w' := by
  have HR := hide (World.rangeAt_alloc (hr.range (at_ * 128) 128 (by omega)) (.cells z110 93))
  have hL : (sv ((zs.drop (at_ * 128)).take 128)).length = 128 := by rw [sv_len]; simp; omega
  have h1 := all_oneCell_toArray (sv_one ((zs.drop (at_ * 128)).take 128))
  have hz := zero110
  generalize sv ((zs.drop (at_ * 128)).take 128) = cs at *
  have hat := arrayAt110 (some ⟨b, off + at_ * 128, none⟩) (len - at_ * 128) (cap - at_ * 128) (by omega)
  have HI : Hid ((Try.prog.info? 93).map (·.size) = some cs.length) := by rw [hL]; exact size110
  have HI2 : Hid ((Try.prog.info? 93).map (·.size) = some cs.toArray.size) := by rw [List.size_toArray, hL]; exact size110
  have HT : Hid ((w.alloc (.cells z110 93)).heap[w.heap.size]? = some (.cells z110 93 (0, 0))) := heap_alloc_new w _
  have HZ : Hid (z110.size = cs.toArray.size) := by simp [z110, hL, Hid]
  have H1 := hide h1
  have HN := hide (heap_alloc_new w (.cells cs.toArray 93))
  have HB := hide (below_alloc w (.cells cs.toArray 93))
  clear hr h1 hL
  go_enter Try.func51, Try.ntmps51
  go_wp2_with (first | (refine wpList_load_mid (by rfl) 93 (.tmp 9) (by rfl) b (off + at_ * 128) (by rfl) cs _ HR.out Try.underlying93 rfl HI.out ?_) | (refine wpList_store_row (by rfl) 93 (.tmp 4) (.tmp 10) (by rfl) w.heap.size cs.toArray (by rfl) (by rfl) 93 z110 HT.out HI2.out HZ.out H1.out ?_; rw [World.setRow_alloc_new]))
  refine bodyPost_ret (v := .agg cs.toArray) ?_ rfl ?_
  · exact results_cell_row (p := 4) (ty := 93) rfl _ _ w.heap.size 93 _ (0, 0) _ rfl HN.out Try.underlying93 rfl HI2.out
  · exact ⟨rfl, HB.out⟩
end Go.Proofs.Ytkkjppdooaipiaa
