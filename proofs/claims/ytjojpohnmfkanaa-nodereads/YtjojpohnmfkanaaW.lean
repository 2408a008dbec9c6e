/- The writer of nodes: each call lays bytes down behind what is there. -/
import Derived.Test.YtjojpohnmfkanaaCE
namespace Go.Proofs.Ytjojpohnmfkanaa
open Go.RowKit
set_option linter.unusedVariables false

theorem src_one (w : World) (x : Int) : Src Try.prog 1 22 (.slice (some ⟨w.heap.size, 0, none⟩) 1 1) 1 ([x].map (Value.int .u8)) (w.alloc (.cells #[.int .u8 x] 5)) :=
  Src.ofSlice _ Try.underlying22 ⟨w.heap.size, 0, none⟩ 1 1 [.int .u8 x] rfl (by intro j u hj; match j, hj with | 0, hj => simp at hj; subst hj; simp [Addr.add]) (by intro u hu; simp at hu; subst hu; rfl)
theorem Own.drew {w : World} {v : Value} {zs : List Int} (h : Own w v zs) : Own w.drew v zs := h
theorem Own.alloc {w : World} {v : Value} {zs : List Int} (h : Own w v zs) (o : Obj) : Own (w.alloc o) v zs := h.of_block fun k hk => Below.heap_alloc w o k (h.lt hk)
theorem Own.below {w w' : World} {v : Value} {zs : List Int} (h : Own w v zs) (hb : Below w.heap.size w w') : Own w' v zs := h.of_block fun k hk => hb.block k (h.lt hk)
theorem Row.news {w : World} {a : Option Addr} {zs : List Int} (h : Row w a zs) : ∀ ad, a = some ad → ∀ j u, (zs.map (Value.int .u8))[j]? = some u → w.cell? (ad.add j) = some u := by
  intro ad had j u hu
  have hj : j < zs.length := by have := (List.getElem?_eq_some_iff.1 hu).1; simpa using this
  rcases h with rfl | ⟨b, off, rfl, _, hc⟩
  · simp at hj
  · obtain rfl := Option.some.inj had
    rw [Addr.add_lit, hc j hj]
    rw [← hu]; simp [hj]
theorem src_row (w : World) (a : Option Addr) (n c : Nat) (ys : List Int) (hl : ys.length = n) (hn : a = none → n = 0 ∧ c = 0) (hr : Row w a ys) : Src Try.prog 1 22 (.slice a n c) n (ys.map (Value.int .u8)) w := by
  cases a with
  | none =>
    obtain ⟨rfl, rfl⟩ := hn rfl
    have e : ys = [] := List.eq_nil_of_length_eq_zero hl
    subst e
    exact Src.ofNil w Try.underlying22 0
  | some ad => exact Src.ofSlice w Try.underlying22 ad n c _ (by simp [hl]) (hr.news ad rfl) (ints_oneCell _ _)

/-- the blocks of the writer at p: its own cells, and its row. -/
def foot (w : World) (p k : Nat) : Prop := k = p ∨ ∃ v, w.heap[p]? = some (.cells #[v] 88 (0, 0)) ∧ v.ownBlock = some k
/-- the writer at p, has written zs. -/
def Wr (w : World) (p : Nat) (zs : List Int) : Prop := ∃ v, w.heap[p]? = some (.cells #[v] 88 (0, 0)) ∧ Own w v zs ∧ v.ownBlock ≠ some p
/-- from w to w' nothing that was there has turned but the blocks of the writer at p. -/
structure Wrote (p : Nat) (w w' : World) : Prop where
  os : w'.os = w.os
  tape : w'.tape = w.tape
  output : w'.output = w.output
  size : w.heap.size ≤ w'.heap.size
  block : ∀ k, k < w.heap.size → ¬ foot w p k → w'.heap[k]? = w.heap[k]?
  foot : ∀ k, foot w' p k → foot w p k ∨ w.heap.size ≤ k

theorem Wr.lt {w : World} {p : Nat} {zs : List Int} (h : Wr w p zs) : p < w.heap.size := by obtain ⟨v, h, _⟩ := h; exact lt_of_block h
theorem Wr.foot_lt {w : World} {p k : Nat} {zs : List Int} (h : Wr w p zs) (hf : foot w p k) : k < w.heap.size := by
  rcases hf with rfl | ⟨v, h1, h2⟩
  · exact h.lt
  · obtain ⟨v', h3, h4, _⟩ := h
    have e : v' = v := by rw [h1] at h3; simp at h3; exact h3.symm
    subst e
    exact h4.lt h2
theorem Wrote.refl (p : Nat) (w : World) : Wrote p w w := ⟨rfl, rfl, rfl, Nat.le_refl _, fun _ _ _ => rfl, fun _ h => .inl h⟩
theorem Wrote.trans {p : Nat} {a b c : World} (h : Wrote p a b) (k : Wrote p b c) : Wrote p a c :=
  ⟨k.os.trans h.os, k.tape.trans h.tape, k.output.trans h.output, Nat.le_trans h.size k.size,
    fun i hi hn => (k.block i (Nat.lt_of_lt_of_le hi h.size) (fun hf => (h.foot i hf).elim hn (by omega))).trans (h.block i hi hn),
    fun i hf => (k.foot i hf).elim (h.foot i) (fun hs => .inr (Nat.le_trans h.size hs))⟩
theorem foot_same {w w' : World} {p k : Nat} (hb : w'.heap[p]? = w.heap[p]?) : foot w' p k ↔ foot w p k := by unfold foot; rw [hb]
theorem Wrote.of_below {p : Nat} {w w' : World} (hp : p < w.heap.size) (h : Below w.heap.size w w') : Wrote p w w' :=
  ⟨h.os, h.tape, h.output, h.size, fun k hk _ => h.block k hk, fun k hf => .inl ((foot_same (h.block p hp)).1 hf)⟩
theorem Wr.of_block {w w' : World} {p : Nat} {zs : List Int} (h : Wr w p zs) (hb : ∀ k, foot w p k → w'.heap[k]? = w.heap[k]?) : Wr w' p zs := by
  obtain ⟨v, h1, h2, h3⟩ := h
  exact ⟨v, (hb p (.inl rfl)).trans h1, h2.of_block (fun k hk => hb k (.inr ⟨v, h1, hk⟩)), h3⟩
theorem Wr.below {w w' : World} {p : Nat} {zs : List Int} (h : Wr w p zs) (hb : Below w.heap.size w w') : Wr w' p zs := h.of_block fun k hk => hb.block k (h.foot_lt hk)
/-- all blocks of the writer at p lie from B on. -/
def New (B : Nat) (w : World) (p : Nat) : Prop := ∀ k, foot w p k → B ≤ k
theorem New.wrote {B p : Nat} {w w' : World} (h : New B w p) (hw : Wrote p w w') (hB : B ≤ w.heap.size) : New B w' p := fun k hk => (hw.foot k hk).elim (h k) (fun hs => Nat.le_trans hB hs)
theorem New.below {B p : Nat} {w w' : World} (h : New B w p) (hp : p < w.heap.size) (hb : Below w.heap.size w w') : New B w' p := fun k hk => h k ((foot_same (hb.block p hp)).1 hk)
theorem Wrote.below {B p : Nat} {w w' : World} (h : Wrote p w w') (hn : New B w p) (hB : B ≤ w.heap.size) : Below B w w' :=
  ⟨h.os, h.tape, h.output, h.size, fun k hk => h.block k (by omega) (fun hf => by have := hn k hf; omega)⟩
theorem after_cell {w w0 w1 : World} {p : Nat} {v : Value} (hc : w.heap[p]? = some (.cells #[v] 88 (0, 0))) (hap : v.ownBlock ≠ some p) (h0 : Below w.heap.size w w0) (hg : w0.grownBy w1 v.ownBlock) :
    w1.cell? ⟨p, 0, none⟩ = some v ∧ w1.frozen? ⟨p, 0, none⟩ = false := by
  have hp : p < w.heap.size := lt_of_block hc
  have hc1 : w1.heap[p]? = some (.cells #[v] 88 (0, 0)) := (hg.block p (Nat.lt_of_lt_of_le hp h0.size) (fun e => hap e.symm)).trans ((h0.block p hp).trans hc)
  exact ⟨cell_of_one hc1, free_of_one hc1⟩
/-- an append to the writer's row, stored into its cell. -/
theorem wrote_append {w w1 : World} {p : Nat} {v v' : Value} {ys : List Int} (hc : w.heap[p]? = some (.cells #[v] 88 (0, 0))) (hap : v.ownBlock ≠ some p) {w0 : World} (h0 : Below w.heap.size w w0)
    (hown : Own w1 v' ys) (hg : w0.grownBy w1 v.ownBlock) (hf : ∀ k, v'.ownBlock = some k → v.ownBlock = some k ∨ w0.heap.size ≤ k) :
    Wr (w1.setCell ⟨p, 0, none⟩ v') p ys ∧ Wrote p w (w1.setCell ⟨p, 0, none⟩ v') := by
  have hp : p < w.heap.size := lt_of_block hc
  have hp0 : p < w0.heap.size := Nat.lt_of_lt_of_le hp h0.size
  have hc1 : w1.heap[p]? = some (.cells #[v] 88 (0, 0)) := (hg.block p hp0 (fun e => hap e.symm)).trans ((h0.block p hp).trans hc)
  have hn : v'.ownBlock ≠ some p := fun e => (hf p e).elim hap (fun h => by omega)
  have hc2 : (w1.setCell ⟨p, 0, none⟩ v').heap[p]? = some (.cells #[v'] 88 (0, 0)) := by
    rw [heap_setCell_same w1 p 0 _ 88 _ hc1]; rfl
  refine ⟨⟨v', hc2, hown.of_block (fun k hk => Below.heap_setCell _ _ _ _ (fun e => hn (by rw [hk]; exact congrArg some e))), hn⟩, ⟨?_, ?_, ?_, ?_, ?_, ?_⟩⟩
  · exact hg.os.trans h0.os
  · exact hg.tape.trans h0.tape
  · exact hg.output.trans h0.output
  · have := h0.size; have := hg.size; simp [World.setCell]; omega
  · intro k hk hnf
    have hkp : k ≠ p := fun e => hnf (.inl e)
    rw [Below.heap_setCell _ _ _ _ hkp, hg.block k (Nat.lt_of_lt_of_le hk h0.size) (fun e => hnf (.inr ⟨v, hc, e.symm⟩)), h0.block k hk]
  · intro k hk
    rcases hk with rfl | ⟨u, h1, h2⟩
    · exact .inl (.inl rfl)
    · have e : u = v' := by rw [hc2] at h1; simp at h1; exact h1.symm
      subst e
      rcases hf k h2 with h | h
      · exact .inl (.inr ⟨v, hc, h⟩)
      · exact .inr (Nat.le_trans h0.size h)

set_option maxHeartbeats 800000 in
set_option maxRecDepth 1000000 in
theorem wnum_any (p v m : Nat) (zs : List Int) (w : World) (hw : Wr w p zs) (hv : v < 4294967296) (hm : m ≤ 2000) (hb : zs.length ≤ 100000000) :
    Calls Try.prog 29 #[.pointer (some ⟨p, 0, none⟩), .int .u32 (v : Int), .int .i64 (m : Int)] w fun e w' => e = .returned (.tuple #[]) ∧ Wr w' p (zs ++ Crc.le m v) ∧ Wrote p w w' := by
  obtain ⟨i0, hi, hz0, hz1, hz2⟩ := info_parts Try.info5
  have HW := hide hw
  clear hw
  go_enter Try.func29, Try.ntmps29
  go_wp2
  go_loopw [1, 7] (fun x i wr => ∃ (k u : Nat), k ≤ m ∧ i = .int .i64 (k : Int) ∧ x = .int .u32 (u : Int) ∧ u < 4294967296 ∧ (∃ pre, pre.length = k ∧ pre ++ Crc.le (m - k) u = Crc.le m v ∧ Wr wr p (zs ++ pre)) ∧ Wrote p w wr) (fun _ i _ => m - (intOf i).toNat)
  case atStart => exact ⟨0, v, Nat.zero_le _, rfl, rfl, hv, ⟨[], rfl, rfl, by simpa using HW.out⟩, Wrote.refl _ _⟩
  case round =>
    obtain ⟨k, u, hk, rfl, rfl, hu, ⟨pre, hpl, hpre, hwr⟩, hwrote⟩ := hrel
    have HPL := hide hpl
    have HPre := hide hpre
    have HWr := hide hwr
    have HWo := hide hwrote
    clear hpl hpre hwr hwrote
    by_cases hlt : k < m
    · obtain ⟨va, hcell, hown, hap⟩ := HWr.out
      obtain ⟨a1, n1, c1, rfl, HN1⟩ := hown.shape2
      have k0 := cell_of_one hcell
      have f0 := free_of_one hcell
      have HC := hide hcell
      have HO := hide hown
      have HA := hide hap
      clear hcell hown hap
      have HL : Hid ((zs ++ pre).length + 1 ≤ 140737488355328) := by
        have := HPL.out
        rw [Hid, List.length_append]
        omega
      have HE : Hid (Crc.le (m - k) u = [((u % 256 : Nat) : Int)] ++ Crc.le (m - (k + 1)) (u / 256)) := by
        have e : m - k = (m - (k + 1)) + 1 := by omega
        rw [Hid, e]; rfl
      go_wp2_with (at_builtin; refine wpList_append_src (by rfl) (.tmp 13) (.tmp 16) 22 22 (by rfl) i0 Try.underlying22 hi hz0 hz1 hz2 (.slice a1 n1 c1) (zs ++ pre) (by rfl) (HO.out.alloc _) (.slice (some ⟨wr.heap.size, 0, none⟩) 1 1) 1 [((u % 256 : Nat) : Int)] (by rfl) (src_one _ _) HL.out ?_; intro v' w1 hown1 hg1 hf1; obtain ⟨k1, f1⟩ := after_cell HC.out HA.out (below_alloc _ _) hg1; obtain ⟨a2, n2, c2, rfl, HN2⟩ := hown1.shape2; have HR := hide (wrote_append HC.out HA.out (below_alloc _ _) hown1 hg1 hf1); clear hown1 hg1 hf1)
      go_roundw
      case rel => exact ⟨k + 1, u / 256, by omega, by go_num, by go_num, by omega, ⟨pre ++ [((u % 256 : Nat) : Int)], by rw [List.length_append, HPL.out]; rfl, by rw [List.append_assoc, ← HE.out]; exact HPre.out, by rw [← List.append_assoc]; exact HR.out.1⟩, HWo.out.trans HR.out.2⟩
      case measure => simp [intOf]; omega
    · obtain rfl : k = m := by omega
      go_wp2
      go_end0
      have e : pre = Crc.le k v := by have := HPre.out; rw [Nat.sub_self] at this; rw [← this]; simp [Crc.le]
      exact ⟨rfl, by rw [← e]; exact HWr.out, HWo.out⟩
theorem le_one (v : Nat) (h : v < 256) : Crc.le 1 v = [(v : Int)] := by
  simp [Crc.le]; omega
set_option maxHeartbeats 800000 in
set_option maxRecDepth 1000000 in
theorem wshort_any (p : Nat) (a : Option Addr) (n c : Nat) (zs ys : List Int) (w : World) (hw : Wr w p zs) (hin : Inn w a n c ys) (hn : n < 256) (hb : zs.length ≤ 100000)
    (hap : ys = [] ∨ ∀ b off, a = some ⟨b, off, none⟩ → ¬ foot w p b) :
    Calls Try.prog 30 #[.pointer (some ⟨p, 0, none⟩), .slice a n c] w fun e w' => e = .returned (.tuple #[]) ∧ Wr w' p (zs ++ ((n : Int) :: ys)) ∧ Wrote p w w' := by
  obtain ⟨i0, hi, hz0, hz1, hz2⟩ := info_parts Try.info5
  have HN := hide (wnum_any p n 1 zs w hw (by omega) (by omega) (by omega))
  have HI := hide hin
  have HAp := hide hap
  clear hw hin hap
  go_enter Try.func30, Try.ntmps30
  go_wp2_with fail
  refine HN.out.mono ?_
  rintro e w1 ⟨rfl, hw1, hr1⟩
  rw [le_one n hn] at hw1
  have hrow1 : Row w1 a ys := by
    rcases HI.out.row with h0 | ⟨b, off, rfl, hlt, hc⟩
    · exact .inl h0
    · rcases HAp.out with h0 | hap
      · exact .inl h0
      · have hblk := hr1.block b hlt (hap b off rfl)
        exact .inr ⟨b, off, rfl, Nat.lt_of_lt_of_le hlt hr1.size, fun i hi => by rw [← hc i hi]; simp [World.cell?, hblk]⟩
  have HS : Hid (Src Try.prog 1 22 (.slice a n c) n (ys.map (Value.int .u8)) w1) := hide (src_row w1 a n c ys HI.out.len HI.out.bare hrow1)
  have HR1 := hide hr1
  have hlen : (zs ++ [(n : Int)]).length + n ≤ 140737488355328 := by simp; omega
  have HL := hide hlen
  obtain ⟨va, hcell, hown, hap⟩ := hw1
  obtain ⟨a1, n1, c1, rfl, HN1⟩ := hown.shape2
  have k0 := cell_of_one hcell
  have f0 := free_of_one hcell
  have HC := hide hcell
  have HO := hide hown
  have HA := hide hap
  clear hcell hown hap hrow1 hr1 hlen
  go_wp2_with (at_builtin; refine wpList_append_src (by rfl) (.tmp 13) (.tmp 14) 22 22 (by rfl) i0 Try.underlying22 hi hz0 hz1 hz2 (.slice a1 n1 c1) (zs ++ [(n : Int)]) (by rfl) HO.out (.slice a n c) n ys (by rfl) HS.out HL.out ?_; intro v' w2 hown1 hg1 hf1; obtain ⟨k1, f1⟩ := after_cell HC.out HA.out (Below.refl _ _) hg1; obtain ⟨a2, n2, c2, rfl, HN2⟩ := hown1.shape2; have HR := hide (wrote_append HC.out HA.out (Below.refl _ _) hown1 hg1 hf1); clear hown1 hg1 hf1)
  go_end0
  exact ⟨rfl, by have := HR.out.1; rwa [List.append_assoc] at this, HR1.out.trans HR.out.2⟩
/-- the entry's bytes lie elsewhere than the writer's. -/
def En.Off (x : En) (w : World) (p : Nat) : Prop := (x.e.key = [] ∨ ∀ b off, x.ka = some ⟨b, off, none⟩ → ¬ foot w p b) ∧ (x.e.val = [] ∨ ∀ b off, x.va = some ⟨b, off, none⟩ → ¬ foot w p b)
/-- what stands behind an entry's key in a leaf. -/
def Ee.tail (e : Ee) : List Int := if e.page = 0 then (e.val.length : Int) :: e.val else 255 :: (Crc.le 4 e.size ++ Crc.le 4 e.page)
theorem foot_below {w w' : World} {p b : Nat} (hp : p < w.heap.size) (hb : Below w.heap.size w w') (h : ¬ foot w p b) : ¬ foot w' p b := fun hf => h ((foot_same (hb.block p hp)).1 hf)
set_option maxHeartbeats 1600000 in
set_option maxRecDepth 1000000 in
theorem wvalue_any (p : Nat) (x : En) (zs : List Int) (w : World) (hw : Wr w p zs) (hok : x.Ok w) (hv : x.e.page = 0 → x.e.val.length < 256) (hb : zs.length ≤ 90000) (hap : x.Off w p) :
    Calls Try.prog 31 #[.pointer (some ⟨p, 0, none⟩), .agg #[.slice x.ka x.e.key.length x.kc, .slice x.va x.e.val.length x.vc, .int .u32 (x.e.page : Int), .int .u32 (x.e.size : Int)]] w fun e w' => e = .returned (.tuple #[]) ∧ Wr w' p (zs ++ x.e.tail) ∧ Wrote p w w' := by
  have hbl := heap_alloc_new w (.cells #[.slice x.ka x.e.key.length x.kc, .slice x.va x.e.val.length x.vc, .int .u32 (x.e.page : Int), .int .u32 (x.e.size : Int)] 68)
  obtain ⟨b0, b1, b2, b3, -⟩ := cells_four hbl
  have hB1 := below_alloc w (.cells #[.slice x.ka x.e.key.length x.kc, .slice x.va x.e.val.length x.vc, .int .u32 (x.e.page : Int), .int .u32 (x.e.size : Int)] 68)
  have HB1 := hide hB1
  have HW1 := hide (hw.below hB1)
  have HWr1 := hide (Wrote.of_below hw.lt hB1)
  have hnf : ¬ foot (w.alloc (.cells #[.slice x.ka x.e.key.length x.kc, .slice x.va x.e.val.length x.vc, .int .u32 (x.e.page : Int), .int .u32 (x.e.size : Int)] 68)) p w.heap.size := fun hf => by
    have := hw.foot_lt ((foot_same (hB1.block p hw.lt)).1 hf)
    omega
  have HNf := hide hnf
  have HOk := hide (hok.below hB1)
  have hoff : x.e.val = [] ∨ ∀ b off, x.va = some ⟨b, off, none⟩ → ¬ foot (w.alloc (.cells #[.slice x.ka x.e.key.length x.kc, .slice x.va x.e.val.length x.vc, .int .u32 (x.e.page : Int), .int .u32 (x.e.size : Int)] 68)) p b := hap.2.imp id (fun h b off e => foot_below hw.lt hB1 (h b off e))
  have HOff := hide hoff
  have HBl := hide hbl
  have hps := hok.page
  have hss := hok.size
  have HB := hide hb
  clear hw hB1 hok hap hnf hoff hbl hb
  by_cases hp0 : x.e.page = 0
  · have HT : Hid (x.e.tail = (x.e.val.length : Int) :: x.e.val) := by rw [Hid, Ee.tail, if_pos hp0]
    have HS := hide (wshort_any p x.va x.e.val.length x.vc zs x.e.val _ HW1.out HOk.out.val (hv hp0) (by have := HB.out; omega) HOff.out)
    have hpb : (((x.e.page : Nat) : Int) == 0) = true := by simp [hp0]
    clear hv hp0
    go_enter Try.func31, Try.ntmps31
    go_wp2_with (go_at_call 30; refine HS.out.mono ?_; rintro e w2 ⟨rfl, hw2, hr2⟩)
    go_returns
    exact ⟨rfl, by rw [HT.out]; exact hw2, HWr1.out.trans hr2⟩
  · have HT : Hid (x.e.tail = 255 :: (Crc.le 4 x.e.size ++ Crc.le 4 x.e.page)) := by rw [Hid, Ee.tail, if_neg hp0]
    have HN := hide (wnum_any p 255 1 zs _ HW1.out (by omega) (by omega) (by have := HB.out; omega))
    have hpb : (((x.e.page : Nat) : Int) == 0) = false := by simp; omega
    clear hv
    go_enter Try.func31, Try.ntmps31
    go_wp2_with fail
    refine HN.out.mono ?_
    rintro e w2 ⟨rfl, hw2, hr2⟩
    have hbl2 := (hr2.block _ (lt_of_block HBl.out) HNf.out).trans HBl.out
    obtain ⟨d0, d1, d2, d3, -⟩ := cells_four hbl2
    have hnf2 : ¬ foot w2 p w.heap.size := fun hf => (hr2.foot _ hf).elim HNf.out (fun h => by have := lt_of_block HBl.out; omega)
    have HN2 := hide (wnum_any p x.e.size 4 _ w2 hw2 hss (by omega) (by have := HB.out; simp [Crc.le_length]; omega))
    have HR2 := hide (HWr1.out.trans hr2)
    have HBl2 := hide hbl2
    have HNf2 := hide hnf2
    clear hw2 hr2 hbl2 hnf2 HN
    go_wp2_with fail
    refine HN2.out.mono ?_
    rintro e w3 ⟨rfl, hw3, hr3⟩
    have hbl3 := (hr3.block _ (lt_of_block HBl2.out) HNf2.out).trans HBl2.out
    obtain ⟨g0, g1, g2, g3, -⟩ := cells_four hbl3
    have HN3 := hide (wnum_any p x.e.page 4 _ w3 hw3 hps (by omega) (by have := HB.out; simp [Crc.le_length]; omega))
    have HR3 := hide (HR2.out.trans hr3)
    clear hw3 hr3 hbl3 HN2
    go_wp2_with (go_at_call 29; refine HN3.out.mono ?_; rintro e w4 ⟨rfl, hw4, hr4⟩)
    go_end0
    exact ⟨rfl, by rw [HT.out]; have := hw4; rw [le_one 255 (by omega)] at this; simpa [List.append_assoc] using this, HR3.out.trans hr4⟩
end Go.Proofs.Ytjojpohnmfkanaa
