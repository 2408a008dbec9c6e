/- What is written goes behind a pointer, byte by byte, turned over where it falls. -/
import Derived.Test.YtegoeaofjnpehaaE
import Derived.RegionTactic
import Derived.Laws.BitsAllLaws
import Derived.Deep.OwnRows
import Derived.Laws.CopyOwn
namespace Go.Proofs.Ytegoeaofjnpehaa
open Go.RowKit
set_option linter.unusedVariables false

/-- the blocks of the writer at p: its own cell, and its row. -/
def foot (w : World) (p k : Nat) : Prop := k = p ∨ ∃ v, w.heap[p]? = some (.cells #[v] 25 (0, 0)) ∧ v.ownBlock = some k
/-- the writer at p has written zs. -/
def Wr (w : World) (p : Nat) (zs : List Int) : Prop := ∃ v, w.heap[p]? = some (.cells #[v] 25 (0, 0)) ∧ Own w v zs ∧ v.ownBlock ≠ some p
/-- from w to w' nothing that was there has turned but the blocks of the writer at p. -/
structure Wrote (p : Nat) (w w' : World) : Prop where
  os : w'.os = w.os
  tape : w'.tape = w.tape
  output : w'.output = w.output
  size : w.heap.size ≤ w'.heap.size
  block : ∀ k, k < w.heap.size → ¬ foot w p k → w'.heap[k]? = w.heap[k]?
  foot : ∀ k, foot w' p k → foot w p k ∨ w.heap.size ≤ k

theorem Wr.lt {w : World} {p : Nat} {zs : List Int} (h : Wr w p zs) : p < w.heap.size := by obtain ⟨v, h, _⟩ := h; exact lt_of_block h
theorem Wr.foot_lt {w : World} {p k : Nat} {zs : List Int} (h : Wr w p zs) (hf : foot w p k) : k < w.heap.size := by
  rcases hf with rfl | ⟨v, h1, h2⟩
  · exact h.lt
  · obtain ⟨v', h3, h4, _⟩ := h
    have e : v' = v := by rw [h1] at h3; simpa using h3.symm
    subst e
    exact h4.lt h2
theorem Wrote.refl (p : Nat) (w : World) : Wrote p w w := ⟨rfl, rfl, rfl, Nat.le_refl _, fun _ _ _ => rfl, fun _ h => .inl h⟩
theorem Wrote.trans {p : Nat} {a b c : World} (h : Wrote p a b) (k : Wrote p b c) : Wrote p a c :=
  ⟨k.os.trans h.os, k.tape.trans h.tape, k.output.trans h.output, Nat.le_trans h.size k.size,
    fun i hi hn => (k.block i (Nat.lt_of_lt_of_le hi h.size) (fun hf => (h.foot i hf).elim hn (by omega))).trans (h.block i hi hn),
    fun i hf => (k.foot i hf).elim (h.foot i) (fun hs => .inr (Nat.le_trans h.size hs))⟩
theorem foot_same {w w' : World} {p k : Nat} (hb : w'.heap[p]? = w.heap[p]?) : foot w' p k ↔ foot w p k := by unfold foot; rw [hb]
theorem Wrote.of_below {p : Nat} {w w' : World} (hp : p < w.heap.size) (h : Below w.heap.size w w') : Wrote p w w' :=
  ⟨h.os, h.tape, h.output, h.size, fun k hk _ => h.block k hk, fun k hf => .inl ((foot_same (h.block p hp)).1 hf)⟩
theorem Wr.of_block {w w' : World} {p : Nat} {zs : List Int} (h : Wr w p zs) (hb : ∀ k, foot w p k → w'.heap[k]? = w.heap[k]?) : Wr w' p zs := by
  obtain ⟨v, h1, h2, h3⟩ := h
  exact ⟨v, (hb p (.inl rfl)).trans h1, h2.of_block (fun k hk => hb k (.inr ⟨v, h1, hk⟩)), h3⟩
theorem Wr.below {w w' : World} {p : Nat} {zs : List Int} (h : Wr w p zs) (hb : Below w.heap.size w w') : Wr w' p zs := h.of_block fun k hk => hb.block k (h.foot_lt hk)
/-- all blocks of the writer at p lie from B on. -/
def New (B : Nat) (w : World) (p : Nat) : Prop := ∀ k, foot w p k → B ≤ k
theorem New.wrote {B p : Nat} {w w' : World} (h : New B w p) (hw : Wrote p w w') (hB : B ≤ w.heap.size) : New B w' p := fun k hk => (hw.foot k hk).elim (h k) (fun hs => Nat.le_trans hB hs)
theorem New.below {B p : Nat} {w w' : World} (h : New B w p) (hp : p < w.heap.size) (hb : Below w.heap.size w w') : New B w' p := fun k hk => h k ((foot_same (hb.block p hp)).1 hk)
theorem Wrote.below {B p : Nat} {w w' : World} (h : Wrote p w w') (hn : New B w p) (hB : B ≤ w.heap.size) : Below B w w' :=
  ⟨h.os, h.tape, h.output, h.size, fun k hk => h.block k (by omega) (fun hf => by have := hn k hf; omega)⟩
theorem Below.wrote {B p : Nat} {w0 w w' : World} (hb : Below B w0 w) (h : Wrote p w w') (hn : New B w p) (hB : B ≤ w.heap.size) : Below B w0 w' := hb.trans (h.below hn hB)
theorem after_cell {w w0 w1 : World} {p : Nat} {v : Value} (hc : w.heap[p]? = some (.cells #[v] 25 (0, 0))) (hap : v.ownBlock ≠ some p) (h0 : Below w.heap.size w w0) (hg : w0.grownBy w1 v.ownBlock) :
    w1.cell? ⟨p, 0, none⟩ = some v ∧ w1.frozen? ⟨p, 0, none⟩ = false := by
  have hp : p < w.heap.size := lt_of_block hc
  have hc1 : w1.heap[p]? = some (.cells #[v] 25 (0, 0)) := (hg.block p (Nat.lt_of_lt_of_le hp h0.size) (fun e => hap e.symm)).trans ((h0.block p hp).trans hc)
  exact ⟨cell_of_one hc1, free_of_one hc1⟩
/-- an append to the writer's row, stored into its cell. -/
theorem wrote_append {w w1 : World} {p : Nat} {v v' : Value} {ys : List Int} (hc : w.heap[p]? = some (.cells #[v] 25 (0, 0))) (hap : v.ownBlock ≠ some p) {w0 : World} (h0 : Below w.heap.size w w0)
    (hown : Own w1 v' ys) (hg : w0.grownBy w1 v.ownBlock) (hf : ∀ k, v'.ownBlock = some k → v.ownBlock = some k ∨ w0.heap.size ≤ k) :
    Wr (w1.setCell ⟨p, 0, none⟩ v') p ys ∧ Wrote p w (w1.setCell ⟨p, 0, none⟩ v') := by
  have hp : p < w.heap.size := lt_of_block hc
  have hp0 : p < w0.heap.size := Nat.lt_of_lt_of_le hp h0.size
  have hc1 : w1.heap[p]? = some (.cells #[v] 25 (0, 0)) := (hg.block p hp0 (fun e => hap e.symm)).trans ((h0.block p hp).trans hc)
  have hn : v'.ownBlock ≠ some p := fun e => (hf p e).elim hap (fun h => by omega)
  have hc2 := one_setCell (u := v') hc1
  refine ⟨⟨v', hc2, hown.of_block (fun k hk => Below.heap_setCell _ _ _ _ (fun e => hn (by rw [hk]; exact congrArg some e))), hn⟩, ⟨?_, ?_, ?_, ?_, ?_, ?_⟩⟩
  · exact hg.os.trans h0.os
  · exact hg.tape.trans h0.tape
  · exact hg.output.trans h0.output
  · have := h0.size; have := hg.size; simp [World.setCell]; omega
  · intro k hk hnf
    have hkp : k ≠ p := fun e => hnf (.inl e)
    rw [Below.heap_setCell _ _ _ _ hkp, hg.block k (Nat.lt_of_lt_of_le hk h0.size) (fun e => hnf (.inr ⟨v, hc, e.symm⟩)), h0.block k hk]
  · intro k hk
    rcases hk with rfl | ⟨u, h1, h2⟩
    · exact .inl (.inl rfl)
    · have e : u = v' := by rw [hc2] at h1; simpa using h1.symm
      subst e
      rcases hf k h2 with h | h
      · exact .inl (.inr ⟨v, hc, h⟩)
      · exact .inr (Nat.le_trans h0.size h)

set_option maxHeartbeats 800000 in
theorem turning_up (w : World) : Calls Try.prog 25 #[.bool false] w fun e w' => e = .returned (.func (.func 36) #[] #[.pointer (some ⟨w.heap.size, 0, none⟩)]) ∧ w' = w.alloc (.cells #[.int .u8 0] 5) := by
  go_enter Try.func25, Try.ntmps25
  go_wp2
  go_ret
  exact ⟨rfl, rfl⟩
set_option maxHeartbeats 800000 in
theorem turning_down (w : World) : Calls Try.prog 25 #[.bool true] w fun e w' => e = .returned (.func (.func 36) #[] #[.pointer (some ⟨w.heap.size, 0, none⟩)]) ∧ w' = w.alloc (.cells #[.int .u8 255] 5) := by
  go_enter Try.func25, Try.ntmps25
  go_wp2
  go_ret
  exact ⟨rfl, rfl⟩
theorem Try.info5 : (Try.prog.info? 5).map (fun i => (i.zero, i.size, i.bytes)) = some (some (.int .u8 0), 1, 1) := by kernel_rfl

/-- the one-element slice that is laid for what is appended. -/
theorem src_one (w : World) (x : Int) : Src Try.prog 1 25 (.slice (some ⟨w.heap.size, 0, none⟩) 1 1) 1 ([x].map (Value.int .u8)) (w.alloc (.cells #[.int .u8 x] 5)) :=
  Src.ofSlice _ Try.underlying25 ⟨w.heap.size, 0, none⟩ 1 1 [.int .u8 x] rfl (by intro j u hj; match j, hj with | 0, hj => simp at hj; subst hj; simp [Addr.add]) (by intro u hu; simp at hu; subst hu; rfl)

theorem src_one' (w : World) (x : Int) : Src Try.prog 1 25 (.slice (some ⟨w.heap.size, 0, none⟩) 1 1) 1 ([x].map (Value.int .u8)) (w.alloc (.cells #[.int .u8 x] 5)).drew :=
  Src.ofSlice _ Try.underlying25 ⟨w.heap.size, 0, none⟩ 1 1 [.int .u8 x] rfl (by intro j u hj; match j, hj with | 0, hj => simp at hj; subst hj; simp [Addr.add]) (by intro u hu; simp at hu; subst hu; rfl)
theorem Own.drew {w : World} {v : Value} {zs : List Int} (h : Own w v zs) : Own w.drew v zs := h
theorem Own.alloc {w : World} {v : Value} {zs : List Int} (h : Own w v zs) (o : Obj) : Own (w.alloc o) v zs := h.of_block fun k hk => Below.heap_alloc w o k (h.lt hk)

theorem Row.news {w : World} {a : Option Addr} {zs : List Int} (h : Row w a zs) : ∀ ad, a = some ad → ∀ j u, (zs.map (Value.int .u8))[j]? = some u → w.cell? (ad.add j) = some u := by
  intro ad had j u hu
  have hj : j < zs.length := by have := (List.getElem?_eq_some_iff.1 hu).1; simpa using this
  rcases h with rfl | ⟨b, off, rfl, _, hc⟩
  · simp at hj
  · obtain rfl := Option.some.inj had
    rw [Addr.add_lit, hc j hj]
    rw [← hu]; simp [hj]
theorem src_row (w : World) (a : Option Addr) (n c : Nat) (ys : List Int) (hl : ys.length = n) (hn : a = none → n = 0 ∧ c = 0) (hr : Row w a ys) : Src Try.prog 1 25 (.slice a n c) n (ys.map (Value.int .u8)) w := by
  cases a with
  | none =>
    obtain ⟨rfl, rfl⟩ := hn rfl
    have e : ys = [] := List.eq_nil_of_length_eq_zero hl
    subst e
    exact Src.ofNil w Try.underlying25 0
  | some ad => exact Src.ofSlice w Try.underlying25 ad n c _ (by simp [hl]) (hr.news ad rfl) (ints_oneCell _ _)

/-- a byte turned over, or not. -/
def tn (m c : Int) : Int := ((c.toNat ^^^ m.toNat : Nat) : Int)
theorem tn_bd (m c : Int) (hc : 0 ≤ c ∧ c ≤ 255) (hm : 0 ≤ m ∧ m ≤ 255) : 0 ≤ tn m c ∧ tn m c ≤ 255 := by
  unfold tn
  have : c.toNat ^^^ m.toNat < 2 ^ 8 := Nat.xor_lt_two_pow (by omega) (by omega)
  omega
set_option maxHeartbeats 800000 in
theorem turn_any (c m : Int) (q : Nat) (w : World) (hc : 0 ≤ c ∧ c ≤ 255) (hm : 0 ≤ m ∧ m ≤ 255) (hq : w.heap[q]? = some (.cells #[.int .u8 m] 5 (0, 0))) :
    Calls Try.prog 36 #[.int .u8 c, .pointer (some ⟨q, 0, none⟩)] w fun e w' => e = .returned (.int .u8 (tn m c)) ∧ w' = w := by
  have k0 := cell_of_one hq
  have HT : Hid (bits .xor .u8 c m = tn m c) := u8_xor c m hc.1 (by omega) hm.1 (by omega)
  clear hq
  go_enter Try.func36, Try.ntmps36
  go_wp2
  go_ret
  exact ⟨by rw [HT.out]; rfl, rfl⟩

/-- the bytes zs have been put behind po; what is put passes through m. -/
structure PutS (W : World) (po pt q : Nat) (m : Int) (zs : List Int) : Prop where
  wr : Wr W po zs
  tp : W.heap[pt]? = some (.cells #[.func (.func 36) #[] #[.pointer (some ⟨q, 0, none⟩)]] 57 (0, 0))
  tq : W.heap[q]? = some (.cells #[.int .u8 m] 5 (0, 0))
  nt : ¬ foot W po pt
  nq : ¬ foot W po q
  md : 0 ≤ m ∧ m ≤ 255
theorem PutS.wrote {W W' : World} {po pt q : Nat} {m : Int} {zs ys : List Int} (h : PutS W po pt q m zs) (hw : Wr W' po ys) (ho : Wrote po W W') : PutS W' po pt q m ys :=
  ⟨hw, (ho.block _ (lt_of_block h.tp) h.nt).trans h.tp, (ho.block _ (lt_of_block h.tq) h.nq).trans h.tq,
    fun hf => (ho.foot _ hf).elim h.nt (fun hs => by have := lt_of_block h.tp; omega), fun hf => (ho.foot _ hf).elim h.nq (fun hs => by have := lt_of_block h.tq; omega), h.md⟩
theorem PutS.below {W W' : World} {po pt q : Nat} {m : Int} {zs : List Int} (h : PutS W po pt q m zs) (hb : Below W.heap.size W W') : PutS W' po pt q m zs :=
  h.wrote (h.wr.below hb) (Wrote.of_below h.wr.lt hb)

set_option maxHeartbeats 1600000 in
set_option maxRecDepth 1000000 in
theorem put_any (W : World) (po pt q : Nat) (m c : Int) (zs : List Int) (h : PutS W po pt q m zs) (hc : 0 ≤ c ∧ c ≤ 255) (hb : zs.length + 1 ≤ 140737488355328) :
    Calls Try.prog 27 #[.int .u8 c, .pointer (some ⟨po, 0, none⟩), .pointer (some ⟨pt, 0, none⟩)] W fun e W' => e = .returned (.tuple #[]) ∧ PutS W' po pt q m (zs ++ [tn m c]) ∧ Wrote po W W' := by
  obtain ⟨i0, hi, hz0, hz1, hz2⟩ := info_parts Try.info5
  obtain ⟨va, hcell, hown, hap⟩ := h.wr
  obtain ⟨a1, n1, c1, rfl, HN1⟩ := hown.shape2
  have k0 := cell_of_one hcell
  have f0 := free_of_one hcell
  have k1 := cell_of_one h.tp
  have HC := hide hcell
  have HO := hide hown
  have HA := hide hap
  have H := hide h
  have HT := hide (fun w => turn_any c m q w hc h.md)
  have HQ : Hid (W.drew.heap[q]? = some (.cells #[.int .u8 m] 5 (0, 0))) := h.tq
  have HB := hide hb
  have hlt := lt_of_block hcell
  have hne : po ≠ W.heap.size := by omega
  clear hcell hown hap h hc hb
  go_enter Try.func27, Try.ntmps27
  go_wp2
  go_region_law (first | (refine step_append_src (by rfl) (.tmp 4) (.tmp 8) 25 25 (by rfl) i0 Try.underlying25 hi hz0 hz1 hz2 (.slice a1 n1 c1) zs (by rfl) (HO.out.alloc _).drew (.slice (some ⟨W.heap.size, 0, none⟩) 1 1) 1 [tn m c] (by rfl) (src_one' _ _) HB.out ?_; intro v' w1 hown1 hg1 hf1; obtain ⟨k1, f1⟩ := after_cell HC.out HA.out (below_alloc _ _).drew hg1; obtain ⟨a2, n2, c2, rfl, HN2⟩ := hown1.shape2; have HR := hide (wrote_append HC.out HA.out (below_alloc _ _).drew hown1 hg1 hf1); clear hown1 hg1 hf1) | (go_simp; go_at_call 36; refine (HT.out W.drew HQ.out).mono ?_; intro e' w' hh; obtain ⟨rfl, rfl⟩ := hh))
  all_goals
    go_end0
    exact ⟨rfl, H.out.wrote HR.out.1 HR.out.2, HR.out.2⟩
end Go.Proofs.Ytegoeaofjnpehaa
