/- The writer of pages: each call lays bytes down behind what is there. -/
import Derived.Test.YtkkjppdooaipiaaChecked
import Derived.Test.YtkkjppdooaipiaaPN
import Derived.Test.YtkkjppdooaipiaaA
import Derived.Test.YtkkjppdooaipiaaCB
import Derived.Test.YtkkjppdooaipiaaDB
import Derived.KernelRfl
import Derived.WalkKit
import Derived.Handy
import Derived.LoopTactic
import Derived.Deep.RegionLaw
import Derived.Deep.QuietTactic
import Derived.BigQuiet
import Derived.WalkSmall
import Derived.Laws.CopyOwn
import Derived.Deep.OwnRows
import Derived.Deep.RegionHeld3
namespace Go.Proofs.Ytkkjppdooaipiaa
open Go.RowKit
set_option linter.unusedVariables false

theorem src_one (w : World) (x : Int) : Src Try.prog 1 34 (.slice (some ⟨w.heap.size, 0, none⟩) 1 1) 1 ([x].map (Value.int .u8)) (w.alloc (.cells #[.int .u8 x] 5)) :=
  Src.ofSlice _ Try.underlying34 ⟨w.heap.size, 0, none⟩ 1 1 [.int .u8 x] rfl (by intro j u hj; match j, hj with | 0, hj => simp at hj; subst hj; simp [Addr.add]) (by intro u hu; simp at hu; subst hu; rfl)
theorem Own.drew {w : World} {v : Value} {zs : List Int} (h : Own w v zs) : Own w.drew v zs := h
theorem Own.alloc {w : World} {v : Value} {zs : List Int} (h : Own w v zs) (o : Obj) : Own (w.alloc o) v zs := h.of_block fun k hk => Below.heap_alloc w o k (h.lt hk)
theorem Own.below {w w' : World} {v : Value} {zs : List Int} (h : Own w v zs) (hb : Below w.heap.size w w') : Own w' v zs := h.of_block fun k hk => hb.block k (h.lt hk)
theorem Row.news {w : World} {a : Option Addr} {zs : List Int} (h : Row w a zs) : ∀ ad, a = some ad → ∀ j u, (zs.map (Value.int .u8))[j]? = some u → w.cell? (ad.add j) = some u := by
  intro ad had j u hu
  have hj : j < zs.length := by have := (List.getElem?_eq_some_iff.1 hu).1; simpa using this
  rcases h with rfl | ⟨b, off, rfl, _, hc⟩
  · simp at hj
  · obtain rfl := Option.some.inj had
    rw [Addr.add_lit, hc j hj]
    rw [← hu]; simp [hj]
theorem src_row (w : World) (a : Option Addr) (n c : Nat) (ys : List Int) (hl : ys.length = n) (hn : a = none → n = 0 ∧ c = 0) (hr : Row w a ys) : Src Try.prog 1 34 (.slice a n c) n (ys.map (Value.int .u8)) w := by
  cases a with
  | none =>
    obtain ⟨rfl, rfl⟩ := hn rfl
    have e : ys = [] := List.eq_nil_of_length_eq_zero hl
    subst e
    exact Src.ofNil w Try.underlying34 0
  | some ad => exact Src.ofSlice w Try.underlying34 ad n c _ (by simp [hl]) (hr.news ad rfl) (ints_oneCell _ _)

/-- the blocks of the writer at p: its own cells, and its row. -/
def foot (w : World) (p k : Nat) : Prop := k = p ∨ ∃ v s, w.heap[p]? = some (.cells #[v, s] 125 (0, 0)) ∧ v.ownBlock = some k
/-- the writer at p, of so many bytes, has written zs. -/
def Wr (w : World) (p size : Nat) (zs : List Int) : Prop := ∃ v, w.heap[p]? = some (.cells #[v, .int .i64 (size : Int)] 125 (0, 0)) ∧ Own w v zs ∧ v.ownBlock ≠ some p
/-- from w to w' nothing that was there has turned but the blocks of the writer at p. -/
structure Wrote (p : Nat) (w w' : World) : Prop where
  os : w'.os = w.os
  tape : w'.tape = w.tape
  output : w'.output = w.output
  size : w.heap.size ≤ w'.heap.size
  block : ∀ k, k < w.heap.size → ¬ foot w p k → w'.heap[k]? = w.heap[k]?
  foot : ∀ k, foot w' p k → foot w p k ∨ w.heap.size ≤ k

theorem Wr.lt {w : World} {p n : Nat} {zs : List Int} (h : Wr w p n zs) : p < w.heap.size := by obtain ⟨v, h, _⟩ := h; exact lt_of_block h
theorem Wr.foot_lt {w : World} {p k n : Nat} {zs : List Int} (h : Wr w p n zs) (hf : foot w p k) : k < w.heap.size := by
  rcases hf with rfl | ⟨v, s, h1, h2⟩
  · exact h.lt
  · obtain ⟨v', h3, h4, _⟩ := h
    have e : v' = v := by rw [h1] at h3; simp at h3; exact h3.1.symm
    subst e
    exact h4.lt h2
theorem Wrote.refl (p : Nat) (w : World) : Wrote p w w := ⟨rfl, rfl, rfl, Nat.le_refl _, fun _ _ _ => rfl, fun _ h => .inl h⟩
theorem Wrote.trans {p : Nat} {a b c : World} (h : Wrote p a b) (k : Wrote p b c) : Wrote p a c :=
  ⟨k.os.trans h.os, k.tape.trans h.tape, k.output.trans h.output, Nat.le_trans h.size k.size,
    fun i hi hn => (k.block i (Nat.lt_of_lt_of_le hi h.size) (fun hf => (h.foot i hf).elim hn (by omega))).trans (h.block i hi hn),
    fun i hf => (k.foot i hf).elim (h.foot i) (fun hs => .inr (Nat.le_trans h.size hs))⟩
theorem foot_same {w w' : World} {p k : Nat} (hb : w'.heap[p]? = w.heap[p]?) : foot w' p k ↔ foot w p k := by unfold foot; rw [hb]
theorem Wrote.of_below {p : Nat} {w w' : World} (hp : p < w.heap.size) (h : Below w.heap.size w w') : Wrote p w w' :=
  ⟨h.os, h.tape, h.output, h.size, fun k hk _ => h.block k hk, fun k hf => .inl ((foot_same (h.block p hp)).1 hf)⟩
theorem Wr.of_block {w w' : World} {p n : Nat} {zs : List Int} (h : Wr w p n zs) (hb : ∀ k, foot w p k → w'.heap[k]? = w.heap[k]?) : Wr w' p n zs := by
  obtain ⟨v, h1, h2, h3⟩ := h
  exact ⟨v, (hb p (.inl rfl)).trans h1, h2.of_block (fun k hk => hb k (.inr ⟨v, _, h1, hk⟩)), h3⟩
theorem Wr.below {w w' : World} {p n : Nat} {zs : List Int} (h : Wr w p n zs) (hb : Below w.heap.size w w') : Wr w' p n zs := h.of_block fun k hk => hb.block k (h.foot_lt hk)
/-- all blocks of the writer at p lie from B on. -/
def New (B : Nat) (w : World) (p : Nat) : Prop := ∀ k, foot w p k → B ≤ k
theorem New.wrote {B p : Nat} {w w' : World} (h : New B w p) (hw : Wrote p w w') (hB : B ≤ w.heap.size) : New B w' p := fun k hk => (hw.foot k hk).elim (h k) (fun hs => Nat.le_trans hB hs)
theorem New.below {B p : Nat} {w w' : World} (h : New B w p) (hp : p < w.heap.size) (hb : Below w.heap.size w w') : New B w' p := fun k hk => h k ((foot_same (hb.block p hp)).1 hk)
theorem Wrote.below {B p : Nat} {w w' : World} (h : Wrote p w w') (hn : New B w p) (hB : B ≤ w.heap.size) : Below B w w' :=
  ⟨h.os, h.tape, h.output, h.size, fun k hk => h.block k (by omega) (fun hf => by have := hn k hf; omega)⟩
theorem cells_two {w : World} {p t : Nat} {v s : Value} (h : w.heap[p]? = some (.cells #[v, s] t (0, 0))) : w.cell? ⟨p, 0, none⟩ = some v ∧ w.cell? ⟨p, 1, none⟩ = some s ∧ w.frozen? ⟨p, 0, none⟩ = false := by
  refine ⟨by simp [World.cell?, h], by simp [World.cell?, h], by simp [World.frozen?, h]⟩
theorem after_cell {w w0 w1 : World} {p : Nat} {v s : Value} (hc : w.heap[p]? = some (.cells #[v, s] 125 (0, 0))) (hap : v.ownBlock ≠ some p) (h0 : Below w.heap.size w w0) (hg : w0.grownBy w1 v.ownBlock) :
    w1.cell? ⟨p, 0, none⟩ = some v ∧ w1.frozen? ⟨p, 0, none⟩ = false := by
  have hp : p < w.heap.size := lt_of_block hc
  have hc1 : w1.heap[p]? = some (.cells #[v, s] 125 (0, 0)) := (hg.block p (Nat.lt_of_lt_of_le hp h0.size) (fun e => hap e.symm)).trans ((h0.block p hp).trans hc)
  obtain ⟨h1, _, h2⟩ := cells_two hc1
  exact ⟨h1, h2⟩
/-- an append to the writer's row, stored into its cell. -/
theorem wrote_append {w w1 : World} {p n : Nat} {v v' : Value} {ys : List Int} (hc : w.heap[p]? = some (.cells #[v, .int .i64 (n : Int)] 125 (0, 0))) (hap : v.ownBlock ≠ some p) {w0 : World} (h0 : Below w.heap.size w w0)
    (hown : Own w1 v' ys) (hg : w0.grownBy w1 v.ownBlock) (hf : ∀ k, v'.ownBlock = some k → v.ownBlock = some k ∨ w0.heap.size ≤ k) :
    Wr (w1.setCell ⟨p, 0, none⟩ v') p n ys ∧ Wrote p w (w1.setCell ⟨p, 0, none⟩ v') := by
  have hp : p < w.heap.size := lt_of_block hc
  have hp0 : p < w0.heap.size := Nat.lt_of_lt_of_le hp h0.size
  have hc1 : w1.heap[p]? = some (.cells #[v, .int .i64 (n : Int)] 125 (0, 0)) := (hg.block p hp0 (fun e => hap e.symm)).trans ((h0.block p hp).trans hc)
  have hn : v'.ownBlock ≠ some p := fun e => (hf p e).elim hap (fun h => by omega)
  have hc2 : (w1.setCell ⟨p, 0, none⟩ v').heap[p]? = some (.cells #[v', .int .i64 (n : Int)] 125 (0, 0)) := by
    rw [heap_setCell_same w1 p 0 _ 125 _ hc1]; rfl
  refine ⟨⟨v', hc2, hown.of_block (fun k hk => Below.heap_setCell _ _ _ _ (fun e => hn (by rw [hk]; exact congrArg some e))), hn⟩, ⟨?_, ?_, ?_, ?_, ?_, ?_⟩⟩
  · exact hg.os.trans h0.os
  · exact hg.tape.trans h0.tape
  · exact hg.output.trans h0.output
  · have := h0.size; have := hg.size; simp [World.setCell]; omega
  · intro k hk hnf
    have hkp : k ≠ p := fun e => hnf (.inl e)
    rw [Below.heap_setCell _ _ _ _ hkp, hg.block k (Nat.lt_of_lt_of_le hk h0.size) (fun e => hnf (.inr ⟨v, _, hc, e.symm⟩)), h0.block k hk]
  · intro k hk
    rcases hk with rfl | ⟨u, s, h1, h2⟩
    · exact .inl (.inl rfl)
    · have e : u = v' := by rw [hc2] at h1; simp at h1; exact h1.1.symm
      subst e
      rcases hf k h2 with h | h
      · exact .inl (.inr ⟨v, _, hc, h⟩)
      · exact .inr (Nat.le_trans h0.size h)

set_option maxHeartbeats 800000 in
set_option maxRecDepth 1000000 in
theorem neww_any (n : Nat) (w : World) (hn : n ≤ 2000) :
    Calls Try.prog 44 #[.int .i64 (n : Int)] w fun e w' => ∃ p, e = .returned (.pointer (some ⟨p, 0, none⟩)) ∧ Wr w' p n [] ∧ New w.heap.size w' p ∧ Below w.heap.size w w' := by
  obtain ⟨i0, hi, hz0, hz1, hz2⟩ := info_parts Try.info5
  go_enter Try.func44, Try.ntmps44
  go_wp2_with (at_make; refine wpList_make_own _ rfl _ _ 34 rfl 0 5 i0 (.int .u8 0) 1 Try.underlying34 hi hz0 hz1 _ _ _ n rfl rfl rfl (by rw [hz2]; omega) (by unfold maxLen; omega) (Nat.zero_le _) ?_; intro w0 hown0 hgrow0)
  go_ret
  have ho : Own w0 (.slice (some ⟨w.heap.size, 0, none⟩) 0 n) [] := hown0
  have hlt : w.heap.size < w0.heap.size := ho.lt (k := w.heap.size) rfl
  have hb := (Below.refl w.heap.size w).grown hgrow0 (Nat.le_refl _) (fun k h => by cases h)
  have hc := heap_alloc_new w0 (.cells #[.slice (some ⟨w.heap.size, 0, none⟩) 0 n, .int .i64 (n : Int)] 125)
  refine ⟨w0.heap.size, rfl, ⟨_, hc, ho.alloc _, ?_⟩, ?_, hb.alloc hb.size _⟩
  · simp [Value.ownBlock]; omega
  · intro k hk
    rcases hk with rfl | ⟨v, s, h1, h2⟩
    · exact hb.size
    · rw [hc] at h1
      simp at h1
      rw [← h1.1] at h2
      simp [Value.ownBlock] at h2
      omega

set_option maxHeartbeats 800000 in
set_option maxRecDepth 1000000 in
theorem wraw_any (p size : Nat) (a : Option Addr) (n c : Nat) (zs ys : List Int) (w : World) (hw : Wr w p size zs) (hl : ys.length = n) (hn : a = none → n = 0 ∧ c = 0) (hr : Row w a ys) (hb : zs.length + n ≤ 140737488355328) :
    Calls Try.prog 45 #[.pointer (some ⟨p, 0, none⟩), .slice a n c] w fun e w' => e = .returned (.tuple #[]) ∧ Wr w' p size (zs ++ ys) ∧ Wrote p w w' := by
  obtain ⟨i0, hi, hz0, hz1, hz2⟩ := info_parts Try.info5
  have HS : Hid (Src Try.prog 1 34 (.slice a n c) n (ys.map (Value.int .u8)) w) := hide (src_row w a n c ys hl hn hr)
  have HB := hide hb
  obtain ⟨va, hcell, hown, hap⟩ := hw
  obtain ⟨a1, n1, c1, rfl, HN1⟩ := hown.shape2
  obtain ⟨k0, _, f0⟩ := cells_two hcell
  have HC := hide hcell
  have HO := hide hown
  have HA := hide hap
  clear hcell hown hap hl hn hr hb
  go_enter Try.func45, Try.ntmps45
  go_wp2_with (at_builtin; refine wpList_append_src (by rfl) (.tmp 8) (.tmp 9) 34 34 (by rfl) i0 Try.underlying34 hi hz0 hz1 hz2 (.slice a1 n1 c1) zs (by rfl) HO.out (.slice a n c) n ys (by rfl) HS.out HB.out ?_; intro v' w1 hown1 hg1 hf1; obtain ⟨k1, f1⟩ := after_cell HC.out HA.out (Below.refl _ _) hg1; obtain ⟨a2, n2, c2, rfl, HN2⟩ := hown1.shape2; have HR := hide (wrote_append HC.out HA.out (Below.refl _ _) hown1 hg1 hf1); clear hown1 hg1 hf1)
  go_end0
  exact ⟨rfl, HR.out.1, HR.out.2⟩

set_option maxHeartbeats 800000 in
set_option maxRecDepth 1000000 in
theorem wnum_any (p size v m : Nat) (zs : List Int) (w : World) (hw : Wr w p size zs) (hv : v < 18446744073709551616) (hm : m ≤ 2000) (hb : zs.length ≤ 100000000) :
    Calls Try.prog 46 #[.pointer (some ⟨p, 0, none⟩), .int .u64 (v : Int), .int .i64 (m : Int)] w fun e w' => e = .returned (.tuple #[]) ∧ Wr w' p size (zs ++ Crc.le m v) ∧ Wrote p w w' := by
  obtain ⟨i0, hi, hz0, hz1, hz2⟩ := info_parts Try.info5
  have HW := hide hw
  clear hw
  go_enter Try.func46, Try.ntmps46
  go_wp2
  go_loopw [1, 7] (fun x i wr => ∃ (k u : Nat), k ≤ m ∧ i = .int .i64 (k : Int) ∧ x = .int .u64 (u : Int) ∧ u < 18446744073709551616 ∧ (∃ pre, pre.length = k ∧ pre ++ Crc.le (m - k) u = Crc.le m v ∧ Wr wr p size (zs ++ pre)) ∧ Wrote p w wr) (fun _ i _ => m - (intOf i).toNat)
  case atStart => exact ⟨0, v, Nat.zero_le _, rfl, rfl, hv, ⟨[], rfl, rfl, by simpa using HW.out⟩, Wrote.refl _ _⟩
  case round =>
    obtain ⟨k, u, hk, rfl, rfl, hu, ⟨pre, hpl, hpre, hwr⟩, hwrote⟩ := hrel
    have HPL := hide hpl
    have HPre := hide hpre
    have HWr := hide hwr
    have HWo := hide hwrote
    clear hpl hpre hwr hwrote
    by_cases hlt : k < m
    · obtain ⟨va, hcell, hown, hap⟩ := HWr.out
      obtain ⟨a1, n1, c1, rfl, HN1⟩ := hown.shape2
      obtain ⟨k0, _, f0⟩ := cells_two hcell
      have HC := hide hcell
      have HO := hide hown
      have HA := hide hap
      clear hcell hown hap
      have HL : Hid ((zs ++ pre).length + 1 ≤ 140737488355328) := by
        have := HPL.out
        rw [Hid, List.length_append]
        omega
      have HE : Hid (Crc.le (m - k) u = [((u % 256 : Nat) : Int)] ++ Crc.le (m - (k + 1)) (u / 256)) := by
        have e : m - k = (m - (k + 1)) + 1 := by omega
        rw [Hid, e]; rfl
      go_wp2_with (at_builtin; refine wpList_append_src (by rfl) (.tmp 13) (.tmp 16) 34 34 (by rfl) i0 Try.underlying34 hi hz0 hz1 hz2 (.slice a1 n1 c1) (zs ++ pre) (by rfl) (HO.out.alloc _) (.slice (some ⟨wr.heap.size, 0, none⟩) 1 1) 1 [((u % 256 : Nat) : Int)] (by rfl) (src_one _ _) HL.out ?_; intro v' w1 hown1 hg1 hf1; obtain ⟨k1, f1⟩ := after_cell HC.out HA.out (below_alloc _ _) hg1; obtain ⟨a2, n2, c2, rfl, HN2⟩ := hown1.shape2; have HR := hide (wrote_append HC.out HA.out (below_alloc _ _) hown1 hg1 hf1); clear hown1 hg1 hf1)
      go_roundw
      case rel => exact ⟨k + 1, u / 256, by omega, by go_num, by go_num, by omega, ⟨pre ++ [((u % 256 : Nat) : Int)], by rw [List.length_append, HPL.out]; rfl, by rw [List.append_assoc, ← HE.out]; exact HPre.out, by rw [← List.append_assoc]; exact HR.out.1⟩, HWo.out.trans HR.out.2⟩
      case measure => simp [intOf]; omega
    · obtain rfl : k = m := by omega
      go_wp2
      go_end0
      have e : pre = Crc.le k v := by have := HPre.out; rw [Nat.sub_self] at this; rw [← this]; simp [Crc.le]
      exact ⟨rfl, by rw [← e]; exact HWr.out, HWo.out⟩

set_option maxHeartbeats 800000 in
set_option maxRecDepth 1000000 in
theorem wnil_any (p size m : Nat) (zs : List Int) (w : World) (hw : Wr w p size zs) (hm : m ≤ 2000) (hb : zs.length ≤ 100000000) :
    Calls Try.prog 47 #[.pointer (some ⟨p, 0, none⟩), .int .i64 (m : Int)] w fun e w' => e = .returned (.tuple #[]) ∧ Wr w' p size (zs ++ List.replicate m 0) ∧ Wrote p w w' := by
  have H := hide (wnum_any p size 0 m zs w hw (by omega) hm hb)
  clear hw
  go_enter Try.func47, Try.ntmps47
  go_wp2_with fail
  refine H.out.mono ?_
  rintro e w1 ⟨rfl, h1, h2⟩
  rw [Crc.le_zero] at h1
  have h1 := hide h1
  have h2 := hide h2
  go_wp2
  go_end0
  exact ⟨rfl, h1.out, h2.out⟩
end Go.Proofs.Ytkkjppdooaipiaa
