/- The writer of pages: each call lays bytes down behind what is there. -/
import Derived.Test.YtobokocpapfjbaaGreatChecked
import Derived.Test.YtobokocpapfjbaaGreatPN
import Derived.Test.YtobokocpapfjbaaGreatA
import Derived.Test.YtobokocpapfjbaaGreatCB
import Derived.Test.YtobokocpapfjbaaGreatDC
import Derived.KernelRfl
import Derived.WalkKit
import Derived.Handy
import Derived.LoopTactic
import Derived.Deep.RegionLaw
import Derived.Deep.QuietTactic
import Derived.BigQuiet
import Derived.WalkSmall
import Derived.Laws.CopyOwn
import Derived.Deep.OwnRows
import Derived.Deep.RegionHeld3
import Derived.Deep.RegionWith
import Derived.Lib.SlBytesConst
namespace Go.Proofs.YtobokocpapfjbaaGreat
open Go.RowKit
set_option linter.unusedVariables false

theorem src_one (w : World) (x : Int) : Src Tryz.prog 1 22 (.slice (some ⟨w.heap.size, 0, none⟩) 1 1) 1 ([x].map (Value.int .u8)) (w.alloc (.cells #[.int .u8 x] 5)) :=
  Src.ofSlice _ Tryz.underlying22 ⟨w.heap.size, 0, none⟩ 1 1 [.int .u8 x] rfl (by intro j u hj; match j, hj with | 0, hj => simp at hj; subst hj; simp [Addr.add]) (by intro u hu; simp at hu; subst hu; rfl)
theorem Own.drew {w : World} {v : Value} {zs : List Int} (h : Own w v zs) : Own w.drew v zs := h
theorem Own.alloc {w : World} {v : Value} {zs : List Int} (h : Own w v zs) (o : Obj) : Own (w.alloc o) v zs := h.of_block fun k hk => Below.heap_alloc w o k (h.lt hk)
theorem Own.below {w w' : World} {v : Value} {zs : List Int} (h : Own w v zs) (hb : Below w.heap.size w w') : Own w' v zs := h.of_block fun k hk => hb.block k (h.lt hk)
theorem Row.news {w : World} {a : Option Addr} {zs : List Int} (h : Row w a zs) : ∀ ad, a = some ad → ∀ j u, (zs.map (Value.int .u8))[j]? = some u → w.cell? (ad.add j) = some u := by
  intro ad had j u hu
  have hj : j < zs.length := by have := (List.getElem?_eq_some_iff.1 hu).1; simpa using this
  rcases h with rfl | ⟨b, off, rfl, _, hc⟩
  · simp at hj
  · obtain rfl := Option.some.inj had
    rw [Addr.add_lit, hc j hj]
    rw [← hu]; simp [hj]
theorem src_row (w : World) (a : Option Addr) (n c : Nat) (ys : List Int) (hl : ys.length = n) (hn : a = none → n = 0 ∧ c = 0) (hr : Row w a ys) : Src Tryz.prog 1 22 (.slice a n c) n (ys.map (Value.int .u8)) w := by
  cases a with
  | none =>
    obtain ⟨rfl, rfl⟩ := hn rfl
    have e : ys = [] := List.eq_nil_of_length_eq_zero hl
    subst e
    exact Src.ofNil w Tryz.underlying22 0
  | some ad => exact Src.ofSlice w Tryz.underlying22 ad n c _ (by simp [hl]) (hr.news ad rfl) (ints_oneCell _ _)

/-- the blocks of the writer at p: its own cells, and its row. -/
def foot (w : World) (p k : Nat) : Prop := k = p ∨ ∃ v s, w.heap[p]? = some (.cells #[v, s] 240 (0, 0)) ∧ v.ownBlock = some k
/-- the writer at p, of so many bytes, has written zs. -/
def Wr (w : World) (p size : Nat) (zs : List Int) : Prop := ∃ v, w.heap[p]? = some (.cells #[v, .int .i64 (size : Int)] 240 (0, 0)) ∧ Own w v zs ∧ v.ownBlock ≠ some p
/-- from w to w' nothing that was there has turned but the blocks of the writer at p. -/
structure Wrote (p : Nat) (w w' : World) : Prop where
  os : w'.os = w.os
  tape : w'.tape = w.tape
  output : w'.output = w.output
  size : w.heap.size ≤ w'.heap.size
  block : ∀ k, k < w.heap.size → ¬ foot w p k → w'.heap[k]? = w.heap[k]?
  foot : ∀ k, foot w' p k → foot w p k ∨ w.heap.size ≤ k

theorem Wr.lt {w : World} {p n : Nat} {zs : List Int} (h : Wr w p n zs) : p < w.heap.size := by obtain ⟨v, h, _⟩ := h; exact lt_of_block h
theorem Wr.foot_lt {w : World} {p k n : Nat} {zs : List Int} (h : Wr w p n zs) (hf : foot w p k) : k < w.heap.size := by
  rcases hf with rfl | ⟨v, s, h1, h2⟩
  · exact h.lt
  · obtain ⟨v', h3, h4, _⟩ := h
    have e : v' = v := by rw [h1] at h3; simp at h3; exact h3.1.symm
    subst e
    exact h4.lt h2
theorem Wrote.refl (p : Nat) (w : World) : Wrote p w w := ⟨rfl, rfl, rfl, Nat.le_refl _, fun _ _ _ => rfl, fun _ h => .inl h⟩
theorem Wrote.trans {p : Nat} {a b c : World} (h : Wrote p a b) (k : Wrote p b c) : Wrote p a c :=
  ⟨k.os.trans h.os, k.tape.trans h.tape, k.output.trans h.output, Nat.le_trans h.size k.size,
    fun i hi hn => (k.block i (Nat.lt_of_lt_of_le hi h.size) (fun hf => (h.foot i hf).elim hn (by omega))).trans (h.block i hi hn),
    fun i hf => (k.foot i hf).elim (h.foot i) (fun hs => .inr (Nat.le_trans h.size hs))⟩
theorem foot_same {w w' : World} {p k : Nat} (hb : w'.heap[p]? = w.heap[p]?) : foot w' p k ↔ foot w p k := by unfold foot; rw [hb]
theorem Wrote.of_below {p : Nat} {w w' : World} (hp : p < w.heap.size) (h : Below w.heap.size w w') : Wrote p w w' :=
  ⟨h.os, h.tape, h.output, h.size, fun k hk _ => h.block k hk, fun k hf => .inl ((foot_same (h.block p hp)).1 hf)⟩
theorem Wr.of_block {w w' : World} {p n : Nat} {zs : List Int} (h : Wr w p n zs) (hb : ∀ k, foot w p k → w'.heap[k]? = w.heap[k]?) : Wr w' p n zs := by
  obtain ⟨v, h1, h2, h3⟩ := h
  exact ⟨v, (hb p (.inl rfl)).trans h1, h2.of_block (fun k hk => hb k (.inr ⟨v, _, h1, hk⟩)), h3⟩
theorem Wr.below {w w' : World} {p n : Nat} {zs : List Int} (h : Wr w p n zs) (hb : Below w.heap.size w w') : Wr w' p n zs := h.of_block fun k hk => hb.block k (h.foot_lt hk)
/-- all blocks of the writer at p lie from B on. -/
def New (B : Nat) (w : World) (p : Nat) : Prop := ∀ k, foot w p k → B ≤ k
theorem New.wrote {B p : Nat} {w w' : World} (h : New B w p) (hw : Wrote p w w') (hB : B ≤ w.heap.size) : New B w' p := fun k hk => (hw.foot k hk).elim (h k) (fun hs => Nat.le_trans hB hs)
theorem New.below {B p : Nat} {w w' : World} (h : New B w p) (hp : p < w.heap.size) (hb : Below w.heap.size w w') : New B w' p := fun k hk => h k ((foot_same (hb.block p hp)).1 hk)
theorem Wrote.below {B p : Nat} {w w' : World} (h : Wrote p w w') (hn : New B w p) (hB : B ≤ w.heap.size) : Below B w w' :=
  ⟨h.os, h.tape, h.output, h.size, fun k hk => h.block k (by omega) (fun hf => by have := hn k hf; omega)⟩
theorem cells_two {w : World} {p t : Nat} {v s : Value} (h : w.heap[p]? = some (.cells #[v, s] t (0, 0))) : w.cell? ⟨p, 0, none⟩ = some v ∧ w.cell? ⟨p, 1, none⟩ = some s ∧ w.frozen? ⟨p, 0, none⟩ = false := by
  refine ⟨by simp [World.cell?, h], by simp [World.cell?, h], by simp [World.frozen?, h]⟩
theorem after_cell {w w0 w1 : World} {p : Nat} {v s : Value} (hc : w.heap[p]? = some (.cells #[v, s] 240 (0, 0))) (hap : v.ownBlock ≠ some p) (h0 : Below w.heap.size w w0) (hg : w0.grownBy w1 v.ownBlock) :
    w1.cell? ⟨p, 0, none⟩ = some v ∧ w1.frozen? ⟨p, 0, none⟩ = false := by
  have hp : p < w.heap.size := lt_of_block hc
  have hc1 : w1.heap[p]? = some (.cells #[v, s] 240 (0, 0)) := (hg.block p (Nat.lt_of_lt_of_le hp h0.size) (fun e => hap e.symm)).trans ((h0.block p hp).trans hc)
  obtain ⟨h1, _, h2⟩ := cells_two hc1
  exact ⟨h1, h2⟩
/-- an append to the writer's row, stored into its cell. -/
theorem wrote_append {w w1 : World} {p n : Nat} {v v' : Value} {ys : List Int} (hc : w.heap[p]? = some (.cells #[v, .int .i64 (n : Int)] 240 (0, 0))) (hap : v.ownBlock ≠ some p) {w0 : World} (h0 : Below w.heap.size w w0)
    (hown : Own w1 v' ys) (hg : w0.grownBy w1 v.ownBlock) (hf : ∀ k, v'.ownBlock = some k → v.ownBlock = some k ∨ w0.heap.size ≤ k) :
    Wr (w1.setCell ⟨p, 0, none⟩ v') p n ys ∧ Wrote p w (w1.setCell ⟨p, 0, none⟩ v') := by
  have hp : p < w.heap.size := lt_of_block hc
  have hp0 : p < w0.heap.size := Nat.lt_of_lt_of_le hp h0.size
  have hc1 : w1.heap[p]? = some (.cells #[v, .int .i64 (n : Int)] 240 (0, 0)) := (hg.block p hp0 (fun e => hap e.symm)).trans ((h0.block p hp).trans hc)
  have hn : v'.ownBlock ≠ some p := fun e => (hf p e).elim hap (fun h => by omega)
  have hc2 : (w1.setCell ⟨p, 0, none⟩ v').heap[p]? = some (.cells #[v', .int .i64 (n : Int)] 240 (0, 0)) := by
    rw [heap_setCell_same w1 p 0 _ 240 _ hc1]; rfl
  refine ⟨⟨v', hc2, hown.of_block (fun k hk => Below.heap_setCell _ _ _ _ (fun e => hn (by rw [hk]; exact congrArg some e))), hn⟩, ⟨?_, ?_, ?_, ?_, ?_, ?_⟩⟩
  · exact hg.os.trans h0.os
  · exact hg.tape.trans h0.tape
  · exact hg.output.trans h0.output
  · have := h0.size; have := hg.size; simp [World.setCell]; omega
  · intro k hk hnf
    have hkp : k ≠ p := fun e => hnf (.inl e)
    rw [Below.heap_setCell _ _ _ _ hkp, hg.block k (Nat.lt_of_lt_of_le hk h0.size) (fun e => hnf (.inr ⟨v, _, hc, e.symm⟩)), h0.block k hk]
  · intro k hk
    rcases hk with rfl | ⟨u, s, h1, h2⟩
    · exact .inl (.inl rfl)
    · have e : u = v' := by rw [hc2] at h1; simp at h1; exact h1.1.symm
      subst e
      rcases hf k h2 with h | h
      · exact .inl (.inr ⟨v, _, hc, h⟩)
      · exact .inr (Nat.le_trans h0.size h)

set_option maxHeartbeats 800000 in
set_option maxRecDepth 1000000 in
theorem neww_any (n : Nat) (w : World) (hn : n ≤ 2000) :
    Calls Tryz.prog 96 #[.int .i64 (n : Int)] w fun e w' => ∃ p, e = .returned (.pointer (some ⟨p, 0, none⟩)) ∧ Wr w' p n [] ∧ New w.heap.size w' p ∧ Below w.heap.size w w' := by
  obtain ⟨i0, hi, hz0, hz1, hz2⟩ := info_parts Tryz.info5
  go_enter Tryz.func96, Tryz.ntmps96
  go_wp2_with (at_make; refine wpList_make_own _ rfl _ _ 22 rfl 0 5 i0 (.int .u8 0) 1 Tryz.underlying22 hi hz0 hz1 _ _ _ n rfl rfl rfl (by rw [hz2]; omega) (by unfold maxLen; omega) (Nat.zero_le _) ?_; intro w0 hown0 hgrow0)
  go_ret
  have ho : Own w0 (.slice (some ⟨w.heap.size, 0, none⟩) 0 n) [] := hown0
  have hlt : w.heap.size < w0.heap.size := ho.lt (k := w.heap.size) rfl
  have hb := (Below.refl w.heap.size w).grown hgrow0 (Nat.le_refl _) (fun k h => by cases h)
  have hc := heap_alloc_new w0 (.cells #[.slice (some ⟨w.heap.size, 0, none⟩) 0 n, .int .i64 (n : Int)] 240)
  refine ⟨w0.heap.size, rfl, ⟨_, hc, ho.alloc _, ?_⟩, ?_, hb.alloc hb.size _⟩
  · simp [Value.ownBlock]; omega
  · intro k hk
    rcases hk with rfl | ⟨v, s, h1, h2⟩
    · exact hb.size
    · rw [hc] at h1
      simp at h1
      rw [← h1.1] at h2
      simp [Value.ownBlock] at h2
      omega

set_option maxHeartbeats 800000 in
set_option maxRecDepth 1000000 in
theorem wraw_any (p size : Nat) (a : Option Addr) (n c : Nat) (zs ys : List Int) (w : World) (hw : Wr w p size zs) (hl : ys.length = n) (hn : a = none → n = 0 ∧ c = 0) (hr : Row w a ys) (hb : zs.length + n ≤ 140737488355328) :
    Calls Tryz.prog 97 #[.pointer (some ⟨p, 0, none⟩), .slice a n c] w fun e w' => e = .returned (.tuple #[]) ∧ Wr w' p size (zs ++ ys) ∧ Wrote p w w' := by
  obtain ⟨i0, hi, hz0, hz1, hz2⟩ := info_parts Tryz.info5
  have HS : Hid (Src Tryz.prog 1 22 (.slice a n c) n (ys.map (Value.int .u8)) w) := hide (src_row w a n c ys hl hn hr)
  have HB := hide hb
  obtain ⟨va, hcell, hown, hap⟩ := hw
  obtain ⟨a1, n1, c1, rfl, HN1⟩ := hown.shape2
  obtain ⟨k0, _, f0⟩ := cells_two hcell
  have HC := hide hcell
  have HO := hide hown
  have HA := hide hap
  clear hcell hown hap hl hn hr hb
  go_enter Tryz.func97, Tryz.ntmps97
  go_wp2_with (at_builtin; refine wpList_append_src (by rfl) (.tmp 8) (.tmp 9) 22 22 (by rfl) i0 Tryz.underlying22 hi hz0 hz1 hz2 (.slice a1 n1 c1) zs (by rfl) HO.out (.slice a n c) n ys (by rfl) HS.out HB.out ?_; intro v' w1 hown1 hg1 hf1; obtain ⟨k1, f1⟩ := after_cell HC.out HA.out (Below.refl _ _) hg1; obtain ⟨a2, n2, c2, rfl, HN2⟩ := hown1.shape2; have HR := hide (wrote_append HC.out HA.out (Below.refl _ _) hown1 hg1 hf1); clear hown1 hg1 hf1)
  go_end0
  exact ⟨rfl, HR.out.1, HR.out.2⟩

set_option maxHeartbeats 800000 in
set_option maxRecDepth 1000000 in
theorem wnum_any (p size v m : Nat) (zs : List Int) (w : World) (hw : Wr w p size zs) (hv : v < 18446744073709551616) (hm : m ≤ 2000) (hb : zs.length ≤ 100000000) :
    Calls Tryz.prog 98 #[.pointer (some ⟨p, 0, none⟩), .int .u64 (v : Int), .int .i64 (m : Int)] w fun e w' => e = .returned (.tuple #[]) ∧ Wr w' p size (zs ++ Crc.le m v) ∧ Wrote p w w' := by
  obtain ⟨i0, hi, hz0, hz1, hz2⟩ := info_parts Tryz.info5
  have HW := hide hw
  clear hw
  go_enter Tryz.func98, Tryz.ntmps98
  go_wp2
  go_loopw [1, 7] (fun x i wr => ∃ (k u : Nat), k ≤ m ∧ i = .int .i64 (k : Int) ∧ x = .int .u64 (u : Int) ∧ u < 18446744073709551616 ∧ (∃ pre, pre.length = k ∧ pre ++ Crc.le (m - k) u = Crc.le m v ∧ Wr wr p size (zs ++ pre)) ∧ Wrote p w wr) (fun _ i _ => m - (intOf i).toNat)
  case atStart => exact ⟨0, v, Nat.zero_le _, rfl, rfl, hv, ⟨[], rfl, rfl, by simpa using HW.out⟩, Wrote.refl _ _⟩
  case round =>
    obtain ⟨k, u, hk, rfl, rfl, hu, ⟨pre, hpl, hpre, hwr⟩, hwrote⟩ := hrel
    have HPL := hide hpl
    have HPre := hide hpre
    have HWr := hide hwr
    have HWo := hide hwrote
    clear hpl hpre hwr hwrote
    by_cases hlt : k < m
    · obtain ⟨va, hcell, hown, hap⟩ := HWr.out
      obtain ⟨a1, n1, c1, rfl, HN1⟩ := hown.shape2
      obtain ⟨k0, _, f0⟩ := cells_two hcell
      have HC := hide hcell
      have HO := hide hown
      have HA := hide hap
      clear hcell hown hap
      have HL : Hid ((zs ++ pre).length + 1 ≤ 140737488355328) := by
        have := HPL.out
        rw [Hid, List.length_append]
        omega
      have HE : Hid (Crc.le (m - k) u = [((u % 256 : Nat) : Int)] ++ Crc.le (m - (k + 1)) (u / 256)) := by
        have e : m - k = (m - (k + 1)) + 1 := by omega
        rw [Hid, e]; rfl
      go_wp2_with (at_builtin; refine wpList_append_src (by rfl) (.tmp 13) (.tmp 16) 22 22 (by rfl) i0 Tryz.underlying22 hi hz0 hz1 hz2 (.slice a1 n1 c1) (zs ++ pre) (by rfl) (HO.out.alloc _) (.slice (some ⟨wr.heap.size, 0, none⟩) 1 1) 1 [((u % 256 : Nat) : Int)] (by rfl) (src_one _ _) HL.out ?_; intro v' w1 hown1 hg1 hf1; obtain ⟨k1, f1⟩ := after_cell HC.out HA.out (below_alloc _ _) hg1; obtain ⟨a2, n2, c2, rfl, HN2⟩ := hown1.shape2; have HR := hide (wrote_append HC.out HA.out (below_alloc _ _) hown1 hg1 hf1); clear hown1 hg1 hf1)
      go_roundw
      case rel => exact ⟨k + 1, u / 256, by omega, by go_num, by go_num, by omega, ⟨pre ++ [((u % 256 : Nat) : Int)], by rw [List.length_append, HPL.out]; rfl, by rw [List.append_assoc, ← HE.out]; exact HPre.out, by rw [← List.append_assoc]; exact HR.out.1⟩, HWo.out.trans HR.out.2⟩
      case measure => simp [intOf]; omega
    · obtain rfl : k = m := by omega
      go_wp2
      go_end0
      have e : pre = Crc.le k v := by have := HPre.out; rw [Nat.sub_self] at this; rw [← this]; simp [Crc.le]
      exact ⟨rfl, by rw [← e]; exact HWr.out, HWo.out⟩

set_option maxHeartbeats 800000 in
set_option maxRecDepth 1000000 in
theorem wnil_any (p size m : Nat) (zs : List Int) (w : World) (hw : Wr w p size zs) (hm : m ≤ 2000) (hb : zs.length ≤ 100000000) :
    Calls Tryz.prog 99 #[.pointer (some ⟨p, 0, none⟩), .int .i64 (m : Int)] w fun e w' => e = .returned (.tuple #[]) ∧ Wr w' p size (zs ++ List.replicate m 0) ∧ Wrote p w w' := by
  have H := hide (wnum_any p size 0 m zs w hw (by omega) hm hb)
  clear hw
  go_enter Tryz.func99, Tryz.ntmps99
  go_wp2_with fail
  refine H.out.mono ?_
  rintro e w1 ⟨rfl, h1, h2⟩
  rw [Crc.le_zero] at h1
  have h1 := hide h1
  have h2 := hide h2
  go_wp2
  go_end0
  exact ⟨rfl, h1.out, h2.out⟩
end Go.Proofs.YtobokocpapfjbaaGreat
/- The writer's end: noughts, and the sum. -/
namespace Go.Proofs.YtobokocpapfjbaaGreat
open Go.RowKit
set_option linter.unusedVariables false

theorem Wr.shape {w : World} {p n : Nat} {zs : List Int} (h : Wr w p n zs) : ∃ a m c, w.cell? ⟨p, 0, none⟩ = some (.slice a m c) ∧ w.cell? ⟨p, 1, none⟩ = some (.int .i64 (n : Int)) ∧ Hid (m = zs.length) ∧ Hid (Own w (.slice a m c) zs) ∧ Hid (∀ k, (Value.slice a m c).ownBlock = some k → foot w p k) := by
  obtain ⟨va, hcell, hown, hap⟩ := h
  obtain ⟨a1, n1, c1, rfl, HN1⟩ := hown.shape2
  obtain ⟨k0, k1, f0⟩ := cells_two hcell
  exact ⟨a1, n1, c1, k0, k1, HN1, hide hown, hide fun k hk => .inr ⟨_, _, hcell, hk⟩⟩

set_option maxHeartbeats 800000 in
set_option maxRecDepth 1000000 in
theorem sealed_any (p size : Nat) (zs : List Int) (w : World) (hw : Wr w p size zs) (hs : zs.length + 4 ≤ size) (hm : size ≤ 2000) (h8 : Byts zs) :
    Calls Tryz.prog 100 #[.pointer (some ⟨p, 0, none⟩)] w fun e w' => ∃ v, e = .returned v ∧ Own w' v (Pg.sl size zs) ∧ (∀ k, v.ownBlock = some k → foot w' p k) ∧ Wrote p w w' := by
  have HW := hide hw
  obtain ⟨a1, n1, c1, k0, k1, HN1, -, -⟩ := hw.shape
  have hn1 : n1 + 4 ≤ size := by have := HN1.out; omega
  have H31 : Hid (Calls Tryz.prog 99 #[.pointer (some ⟨p, 0, none⟩), .int .i64 (IntKind.i64.wrap (IntKind.i64.wrap ((size : Int) - 4) - (n1 : Int)))] w.drew fun e w' => e = .returned (.tuple #[]) ∧ Wr w' p size (Pg.fill size zs) ∧ Wrote p w w') := by
    have hwi : IntKind.i64.wrap ((size : Int) - 4) = (size : Int) - 4 := by simp only [IntKind.wrap, IntKind.bits, IntKind.signed]; simp; omega
    have hwx : IntKind.i64.wrap (IntKind.i64.wrap ((size : Int) - 4) - (n1 : Int)) = ((size - 4 - n1 : Nat) : Int) := by rw [hwi]; simp only [IntKind.wrap, IntKind.bits, IntKind.signed]; simp; omega
    rw [hwx]
    have hb : Below w.heap.size w w.drew := (Below.refl _ _).drew
    refine (wnil_any p size (size - 4 - n1) zs w.drew (HW.out.below hb) (by omega) (by omega)).mono ?_
    rintro e w' ⟨h1, h2, h3⟩
    refine ⟨h1, ?_, (Wrote.of_below HW.out.lt hb).trans h3⟩
    rw [Pg.fill, ← HN1.out]
    exact h2
  have HF : Hid ((Pg.fill size zs).length = size - 4) := hide (Pg.fill_length size zs hs)
  have H8 : Hid (Byts (Pg.fill size zs)) := hide (Pg.fill_b8 size zs h8)
  have HR : Hid (Pg.sl size zs = Pg.fill size zs ++ Crc.le 4 (Crc.more 0 (Pg.fill size zs))) := hide rfl
  have HSum : Hid (∀ (W : World) a n c, Row W a (Pg.fill size zs) → n = (Pg.fill size zs).length → Calls Tryz.prog 113 #[.slice a n c] W fun e w' => e = .returned (.int .u32 ((Crc.more 0 (Pg.fill size zs) : Nat) : Int)) ∧ Below W.heap.size W w') :=
    fun W a n c hr hn => sum_any a n c _ W hn.symm (by have := HF.out; omega) hr H8.out
  have HNum : Hid (∀ (W : World), Wr W p size (Pg.fill size zs) → Calls Tryz.prog 98 #[.pointer (some ⟨p, 0, none⟩), .int .u64 ((Crc.more 0 (Pg.fill size zs) : Nat) : Int), .int .i64 4] W fun e w' => e = .returned (.tuple #[]) ∧ Wr w' p size (Pg.sl size zs) ∧ Wrote p W w') :=
    fun W hw => wnum_any p size (Crc.more 0 (Pg.fill size zs)) 4 _ W hw (by have := Crc.more_lt 0 _ (by omega) H8.out; omega) (by omega) (by have := HF.out; omega)
  have hM := Crc.more_lt 0 (Pg.fill size zs) (by omega) H8.out
  clear HR H8
  clear hw hs h8
  generalize Crc.more 0 (Pg.fill size zs) = M at *
  generalize Pg.fill size zs = ys at *
  generalize Pg.sl size zs = rs at *
  go_enter Tryz.func100, Tryz.ntmps100
  go_wp2_with fail
  go_region_with (go_at_call 99; refine H31.out.mono ?_; rintro e w1 ⟨rfl, hw1, hwo1⟩)
  all_goals
    have HW1 := hide hw1
    have HO1 := hide hwo1
    obtain ⟨a2, n2, c2, k2, k3, HN2, HOw, -⟩ := hw1.shape
    clear hw1 hwo1
    have hn2 : n2 ≤ 2000 := by have := HN2.out; have := HF.out; omega
    have HRow : Hid (Row w1 a2 ys) := by
      obtain ⟨a, c, e, _, _, _, hr, _⟩ := HOw.out.shape
      cases e
      exact hr
    go_wp2_with (first | (go_at_call 113; refine (HSum.out _ a2 n2 c2 HRow.out HN2.out).mono ?_; rintro e w2 ⟨rfl, hb2⟩; have HB2 := hide hb2; clear hb2) | (go_at_call 98; refine (HNum.out _ (HW1.out.below HB2.out)).mono ?_; rintro e w3 ⟨rfl, hw3, hwo3⟩; have HW3 := hide hw3; have HO3 := hide hwo3; obtain ⟨a4, n4, c4, k4, k5, HN4, HOw4, HFt4⟩ := hw3.shape; clear hw3 hwo3))
    go_ret
    exact ⟨_, rfl, HOw4.out, HFt4.out, HO1.out.trans ((Wrote.of_below HW1.out.lt HB2.out).trans HO3.out)⟩
end Go.Proofs.YtobokocpapfjbaaGreat
/- Contracts of Seal and of the writer as Seal and PutMeta use it. -/
namespace Go.Proofs.YtobokocpapfjbaaGreat
open Go.RowKit
set_option linter.unusedVariables false

/-- since w a writer at p was made, of new blocks alone, and has written zs. -/
structure St (w : World) (p size : Nat) (zs : List Int) (W : World) : Prop where
  wr : Wr W p size zs
  new : New w.heap.size W p
  bel : Below w.heap.size w W
theorem St.wrote {w W W' : World} {p size : Nat} {zs ys : List Int} (h : St w p size zs W) (h1 : Wr W' p size ys) (h2 : Wrote p W W') : St w p size ys W' :=
  ⟨h1, h.new.wrote h2 h.bel.size, h.bel.trans (h2.below h.new h.bel.size)⟩
theorem St.below {w W W' : World} {p size : Nat} {zs : List Int} (h : St w p size zs W) (hb : Below W.heap.size W W') : St w p size zs W' :=
  ⟨h.wr.below hb, h.new.below h.wr.lt hb, h.bel.trans (hb.mono h.bel.size)⟩
theorem st_new (n : Nat) (ni : Int) (hni : ni = (n : Int)) (w : World) (hn : n ≤ 2000) :
    Calls Tryz.prog 96 #[.int .i64 ni] w fun e w' => ∃ p, e = .returned (.pointer (some ⟨p, 0, none⟩)) ∧ St w p n [] w' := by
  subst hni
  refine (neww_any n w hn).mono ?_
  rintro e w' ⟨p, h1, h2, h3, h4⟩
  exact ⟨p, h1, h2, h3, h4⟩
theorem st_raw (p size : Nat) (a : Option Addr) (n c : Nat) (zs ys : List Int) (w W : World) (h : St w p size zs W) (hl : ys.length = n) (hn : a = none → n = 0 ∧ c = 0) (hr : Row W a ys) (hb : zs.length ≤ 5000) (hn2 : n ≤ 5000) :
    Calls Tryz.prog 97 #[.pointer (some ⟨p, 0, none⟩), .slice a n c] W fun e W' => e = .returned (.tuple #[]) ∧ St w p size (zs ++ ys) W' := by
  refine (wraw_any p size a n c zs ys W h.wr hl hn hr (by omega)).mono ?_
  rintro e w' ⟨h1, h2, h3⟩
  exact ⟨h1, h.wrote h2 h3⟩
theorem st_num (p size v m : Nat) (vi mi : Int) (hvi : vi = (v : Int)) (hmi : mi = (m : Int)) (zs : List Int) (w W : World) (h : St w p size zs W) (hv : v < 18446744073709551616) (hm : m ≤ 2000) (hb : zs.length ≤ 5000) :
    Calls Tryz.prog 98 #[.pointer (some ⟨p, 0, none⟩), .int .u64 vi, .int .i64 mi] W fun e W' => e = .returned (.tuple #[]) ∧ St w p size (zs ++ Crc.le m v) W' := by
  subst hvi
  subst hmi
  refine (wnum_any p size v m zs W h.wr hv hm (by omega)).mono ?_
  rintro e w' ⟨h1, h2, h3⟩
  exact ⟨h1, h.wrote h2 h3⟩
theorem st_nil (p size m : Nat) (mi : Int) (hmi : mi = (m : Int)) (zs : List Int) (w W : World) (h : St w p size zs W) (hm : m ≤ 2000) (hb : zs.length ≤ 5000) :
    Calls Tryz.prog 99 #[.pointer (some ⟨p, 0, none⟩), .int .i64 mi] W fun e W' => e = .returned (.tuple #[]) ∧ St w p size (zs ++ Crc.le m 0) W' := by
  subst hmi
  rw [Crc.le_zero]
  refine (wnil_any p size m zs W h.wr hm (by omega)).mono ?_
  rintro e w' ⟨h1, h2, h3⟩
  exact ⟨h1, h.wrote h2 h3⟩
/-- bytes that a call made: they lie in a new block. -/
def Made (w : World) (v : Value) (zs : List Int) (W : World) : Prop := Own W v zs ∧ (∀ k, v.ownBlock = some k → w.heap.size ≤ k) ∧ Below w.heap.size w W
theorem st_seal (p size : Nat) (zs : List Int) (w W : World) (h : St w p size zs W) (hs : zs.length + 4 ≤ size) (hm : size ≤ 2000) (h8 : Byts zs) :
    Calls Tryz.prog 100 #[.pointer (some ⟨p, 0, none⟩)] W fun e W' => ∃ v, e = .returned v ∧ Made w v (Pg.sl size zs) W' := by
  refine (sealed_any p size zs W h.wr hs hm h8).mono ?_
  rintro e w' ⟨v, h1, h2, h3, h4⟩
  exact ⟨v, h1, h2, fun k hk => h.new.wrote h4 h.bel.size k (h3 k hk), h.bel.trans (h4.below h.new h.bel.size)⟩
theorem row_new (w : World) (zs : List Int) (cs : Array Value) (f : Nat × Nat) (h : cs = (zs.map (Value.int .u8)).toArray) : Row (w.alloc (.cells cs 5 f)) (some ⟨w.heap.size, 0, none⟩) zs := by
  refine .inr ⟨_, _, rfl, by simp, fun i hi => ?_⟩
  rw [World.cell?_alloc_mark, h]
  simp [hi]
theorem ret_two {v v' : Value} {k : IntKind} {a a' : Int} (h : v = v') (h2 : a = a') : Ending.returned (.tuple #[v, .int k a]) = .returned (.tuple #[v', .int k a']) := by rw [h, h2]

set_option maxHeartbeats 800000 in
theorem kind_yes (kind : Nat) (w : World) (h1 : 1 ≤ kind) (h4 : kind ≤ 4) : Calls Tryz.prog 95 #[.int .u8 (kind : Int)] w fun e w' => e = .returned (.bool true) ∧ w' = w := by
  have d1 : decide ((1 : Int) ≤ (kind : Int)) = true := by simp; omega
  have d2 : decide ((kind : Int) ≤ 4) = true := by simp; omega
  go_enter Tryz.func95, Tryz.ntmps95
  go_wp2
  go_ret
  exact ⟨rfl, rfl⟩
set_option maxHeartbeats 800000 in
theorem kind_no (kind : Nat) (w : World) (h : ¬ (1 ≤ kind ∧ kind ≤ 4)) : Calls Tryz.prog 95 #[.int .u8 (kind : Int)] w fun e w' => e = .returned (.bool false) ∧ w' = w := by
  by_cases h1 : 1 ≤ kind
  · have d1 : decide ((1 : Int) ≤ (kind : Int)) = true := by simp; omega
    have d2 : decide ((kind : Int) ≤ 4) = false := by simp; omega
    go_enter Tryz.func95, Tryz.ntmps95
    go_wp2
    go_ret
    exact ⟨rfl, rfl⟩
  · have d1 : decide ((1 : Int) ≤ (kind : Int)) = false := by simp; omega
    go_enter Tryz.func95, Tryz.ntmps95
    go_wp2
    go_ret
    exact ⟨rfl, rfl⟩

set_option maxHeartbeats 1600000 in
set_option maxRecDepth 1000000 in
theorem seal_ok (kind number : Nat) (a : Option Addr) (n c : Nat) (pl : List Int) (w : World) (h1 : 1 ≤ kind) (h4 : kind ≤ 4) (hnum : number < 4294967296) (hl : pl.length = n) (hn : a = none → n = 0 ∧ c = 0) (hr : Row w a pl) (h8 : Byts pl) (hlen : n ≤ 1008) :
    Calls Tryz.prog 55 #[.int .u8 (kind : Int), .int .u32 (number : Int), .slice a n c] w fun e w' => ∃ v, e = .returned (.tuple #[v, .int .u16 0]) ∧ Made w v (Pg.pg kind number pl) w' := by
  have kc := fun (w : World) (C : Array Value) (n c : Nat) => Lib.run_convert_bytes_const (P := Tryz.prog) w 22 5 C n c Tryz.underlying22 Tryz.underlying5
  have HR := hide hr
  have HL := hide hl
  have HN := hide hn
  have H8 := hide h8
  have HK := hide (kind_yes kind w h1 h4)
  have HG : Hid (Pg.pg kind number pl = Pg.sl 1024 (([67, 80] ++ Crc.le 1 kind ++ Crc.le 1 0 ++ Crc.le 4 number ++ Crc.le 2 n ++ Crc.le 2 0) ++ pl)) := by rw [Hid, Pg.pg, Pg.ph, HL.out]
  have HH : Hid (Byts (([67, 80] ++ Crc.le 1 kind ++ Crc.le 1 0 ++ Crc.le 4 number ++ Crc.le 2 n ++ Crc.le 2 0) ++ pl)) := by
    have := Pg.ph_b8 kind number pl h8
    rw [Pg.ph, HL.out] at this
    exact this
  clear hr hl hn h8
  generalize Pg.pg kind number pl = G at *
  go_enter Tryz.func55, Tryz.ntmps55
  go_wp2_with fail
  refine HK.out.mono ?_
  rintro e w' ⟨rfl, rfl⟩
  go_wp2_with fail
  refine (st_new 1024 1024 rfl _ (by omega)).mono ?_
  rintro e w1 ⟨p, rfl, hs1⟩
  have HS1 := hide hs1
  clear hs1
  go_wp2_with fail
  refine (st_raw p 1024 _ 2 2 [] [67, 80] w' _ (HS1.out.below (below_alloc _ _)) rfl (by intro h; cases h) (row_new _ _ _ _ rfl) (by simp) (by omega)).mono ?_
  rintro e w2 ⟨rfl, hs2⟩
  have HS2 := hide hs2
  clear hs2
  go_wp2_with fail
  refine (st_num p 1024 kind 1 _ 1 rfl rfl _ w' _ HS2.out (by omega) (by omega) (by simp)).mono ?_
  rintro e w3 ⟨rfl, hs3⟩
  have HS3 := hide hs3
  clear hs3
  go_wp2_with fail
  refine (st_nil p 1024 1 1 rfl _ w' _ HS3.out (by omega) (by simp [Crc.le_length])).mono ?_
  rintro e w4 ⟨rfl, hs4⟩
  have HS4 := hide hs4
  clear hs4
  go_wp2_with fail
  refine (st_num p 1024 number 4 _ 4 rfl rfl _ w' _ HS4.out (by omega) (by omega) (by simp [Crc.le_length])).mono ?_
  rintro e w5 ⟨rfl, hs5⟩
  have HS5 := hide hs5
  clear hs5
  go_wp2_with fail
  refine (st_num p 1024 n 2 _ 2 rfl rfl _ w' _ HS5.out (by omega) (by omega) (by simp [Crc.le_length])).mono ?_
  rintro e w6 ⟨rfl, hs6⟩
  have HS6 := hide hs6
  clear hs6
  go_wp2_with fail
  refine (st_nil p 1024 2 2 rfl _ w' _ HS6.out (by omega) (by simp [Crc.le_length])).mono ?_
  rintro e w7 ⟨rfl, hs7⟩
  have HS7 := hide hs7
  clear hs7
  go_wp2_with fail
  refine (st_raw p 1024 a n c _ pl w' _ HS7.out HL.out HN.out (HR.out.below HS7.out.bel) (by simp [Crc.le_length]) (by omega)).mono ?_
  rintro e w8 ⟨rfl, hs8⟩
  have HS8 := hide hs8
  clear hs8
  go_wp2_with fail
  refine (st_seal p 1024 _ w' _ HS8.out (by have := HL.out; simp [Crc.le_length]; omega) (by omega) HH.out).mono ?_
  rintro e w9 ⟨v, rfl, hm9⟩
  simp only [List.nil_append, List.append_assoc] at hm9 HG
  rw [← HG.out] at hm9
  have HM := hide hm9
  clear hm9
  obtain ⟨a9, n9, c9, rfl, -⟩ := HM.out.1.shape2
  go_wp2
  go_ret2
  exact ⟨_, rfl, HM.out⟩

set_option maxHeartbeats 1600000 in
set_option maxRecDepth 1000000 in
theorem seal_no (kind number : Nat) (a : Option Addr) (n c : Nat) (w : World) (h : ¬ (1 ≤ kind ∧ kind ≤ 4 ∧ n ≤ 1008)) :
    Calls Tryz.prog 55 #[.int .u8 (kind : Int), .int .u32 (number : Int), .slice a n c] w fun e w' => e = .returned (.tuple #[.slice none 0 0, .int .u16 80]) ∧ Below w.heap.size w w' := by
  by_cases hk : 1 ≤ kind ∧ kind ≤ 4
  · have hn : (1008 : Int) < (n : Int) := by omega
    have HK := hide (kind_yes kind w hk.1 hk.2)
    go_enter Tryz.func55, Tryz.ntmps55
    go_wp2_with fail
    refine HK.out.mono ?_
    rintro e w' ⟨rfl, rfl⟩
    go_wp2
    go_ret2
    exact ⟨rfl, Below.refl _ _⟩
  · have HK := hide (kind_no kind w hk)
    go_enter Tryz.func55, Tryz.ntmps55
    go_wp2_with fail
    refine HK.out.mono ?_
    rintro e w' ⟨rfl, rfl⟩
    go_wp2
    go_ret2
    exact ⟨rfl, Below.refl _ _⟩
end Go.Proofs.YtobokocpapfjbaaGreat
