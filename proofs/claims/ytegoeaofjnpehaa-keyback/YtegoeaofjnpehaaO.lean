/- The reader: a value, a text or a number. -/
import Derived.Test.YtegoeaofjnpehaaN
namespace Go.Proofs.Ytegoeaofjnpehaa
open Go.RowKit
set_option linter.unusedVariables false

theorem Own.row {w : World} {a : Option Addr} {n c : Nat} {zs : List Int} (h : Own w (.slice a n c) zs) : Row w a zs := by
  obtain ⟨a', c', e, _, _, _, hr, _⟩ := h.shape
  cases e
  exact hr
theorem Box7.grown {W W' : World} {b p : Nat} {c0 c1 c2 c3 c4 c5 c6 : Value} (h : Box7 W b c0 c1 c2 c3 c4 c5 c6) (hg : W.grownBy W' (some p)) (hne : b ≠ p) : Box7 W' b c0 c1 c2 c3 c4 c5 c6 := (hg.block b h.lt (fun e => by cases e; exact hne rfl)).trans h

/-- a value stored. -/
theorem Box7.set7 {W : World} {b : Nat} {c0 c1 c2 c3 c4 c5 c6 : Value} (h : Box7 W b c0 c1 c2 c3 c4 c5 c6) (d0 d1 d2 d3 d4 d5 d6 : Value) :
    Box7 (((((((W.setCell ⟨b, 0, none⟩ d0).setCell ⟨b, 1, none⟩ d1).setCell ⟨b, 2, none⟩ d2).setCell ⟨b, 3, none⟩ d3).setCell ⟨b, 4, none⟩ d4).setCell ⟨b, 5, none⟩ d5).setCell ⟨b, 6, none⟩ d6) b d0 d1 d2 d3 d4 d5 d6 := by
  have h0 : Box7 (W.setCell ⟨b, 0, none⟩ d0) b d0 c1 c2 c3 c4 c5 c6 := by unfold Box7; rw [heap_setCell_same W b 0 _ 41 _ h]; rfl
  have h1 : Box7 ((W.setCell ⟨b, 0, none⟩ d0).setCell ⟨b, 1, none⟩ d1) b d0 d1 c2 c3 c4 c5 c6 := by unfold Box7; rw [heap_setCell_same _ b 1 _ 41 _ h0]; rfl
  have h2 : Box7 (((W.setCell ⟨b, 0, none⟩ d0).setCell ⟨b, 1, none⟩ d1).setCell ⟨b, 2, none⟩ d2) b d0 d1 d2 c3 c4 c5 c6 := by unfold Box7; rw [heap_setCell_same _ b 2 _ 41 _ h1]; rfl
  have h3 : Box7 ((((W.setCell ⟨b, 0, none⟩ d0).setCell ⟨b, 1, none⟩ d1).setCell ⟨b, 2, none⟩ d2).setCell ⟨b, 3, none⟩ d3) b d0 d1 d2 d3 c4 c5 c6 := by unfold Box7; rw [heap_setCell_same _ b 3 _ 41 _ h2]; rfl
  have h4 : Box7 (((((W.setCell ⟨b, 0, none⟩ d0).setCell ⟨b, 1, none⟩ d1).setCell ⟨b, 2, none⟩ d2).setCell ⟨b, 3, none⟩ d3).setCell ⟨b, 4, none⟩ d4) b d0 d1 d2 d3 d4 c5 c6 := by unfold Box7; rw [heap_setCell_same _ b 4 _ 41 _ h3]; rfl
  have h5 : Box7 ((((((W.setCell ⟨b, 0, none⟩ d0).setCell ⟨b, 1, none⟩ d1).setCell ⟨b, 2, none⟩ d2).setCell ⟨b, 3, none⟩ d3).setCell ⟨b, 4, none⟩ d4).setCell ⟨b, 5, none⟩ d5) b d0 d1 d2 d3 d4 d5 c6 := by unfold Box7; rw [heap_setCell_same _ b 5 _ 41 _ h4]; rfl
  unfold Box7; rw [heap_setCell_same _ b 6 _ 41 _ h5]; rfl
theorem grown_set7 (W : World) (b : Nat) (d0 d1 d2 d3 d4 d5 d6 : Value) :
    W.grownBy (((((((W.setCell ⟨b, 0, none⟩ d0).setCell ⟨b, 1, none⟩ d1).setCell ⟨b, 2, none⟩ d2).setCell ⟨b, 3, none⟩ d3).setCell ⟨b, 4, none⟩ d4).setCell ⟨b, 5, none⟩ d5).setCell ⟨b, 6, none⟩ d6) (some b) :=
  grown_trans (grown_setCell _ _ _ _) (grown_trans (grown_setCell _ _ _ _) (grown_trans (grown_setCell _ _ _ _) (grown_trans (grown_setCell _ _ _ _) (grown_trans (grown_setCell _ _ _ _) (grown_trans (grown_setCell _ _ _ _) (grown_setCell _ _ _ _))))))
set_option maxHeartbeats 3200000 in
set_option maxRecDepth 1000000 in
theorem value_text (p : Nat) (a : Option Addr) (cap : Nat) (bs : List Int) (i n q : Nat) (m : Int) (ys rest : List Int) (w : World) (hr : Rdr w p a cap bs i n q m) (hn : n < 512) (hE : (bs.drop i).map (tn m) = esc ys ++ 0 :: 1 :: rest) (hy : Byts ys) (hl : ys.length ≤ 4000) :
    Calls Try.prog 32 #[.pointer (some ⟨p, 0, none⟩), .int .u8 64] w fun e w' => e = .returned (.tuple #[vT (bk ys), .bool true]) ∧ Rdr w' p a cap bs (i + (esc ys).length + 2) (n + 1) q m ∧ w.grownBy w' (some p) := by
  have hne : bs ≠ [] := fun e => by subst e; simp at hE
  have HLo := hide (hr.low hne)
  clear hne
  have hpb := hr.lt
  have hpne : w.heap.size ≠ p := by omega
  have k2 := hr.c2
  have f2 := hr.f 2
  have HRy := hide (hr.setParts (n + 1) (by omega))
  have HGy := hide (grown_setCell w p 2 (.int .i64 ((n + 1 : Nat) : Int)))
  have k3 := HRy.out.c2
  rw [show ((n + 1 : Nat) : Int) = (n : Int) + 1 by omega] at k3 HRy HGy
  have HSz : Hid ((w.setCell ⟨p, 2, none⟩ (.int .i64 ((n : Int) + 1))).heap.size = w.heap.size) := by simp [World.setCell, Hid]
  have HB1 := hide (Box7.new (w.setCell ⟨p, 2, none⟩ (.int .i64 ((n : Int) + 1))) (.int .u8 0) (.bool false) (.int .i64 0) (.string ⟨#[]⟩) (.slice none 0 0) (.slice none 0 0) (.slice none 0 0))
  rw [HSz.out] at HB1
  have HR1 := hide (HRy.out.below (below_alloc _ (.cells #[.int .u8 0, .bool false, .int .i64 0, .string ⟨#[]⟩, .slice none 0 0, .slice none 0 0, .slice none 0 0] 41)))
  have HG1 : Hid (w.grownBy ((w.setCell ⟨p, 2, none⟩ (.int .i64 ((n : Int) + 1))).alloc (.cells #[.int .u8 0, .bool false, .int .i64 0, .string ⟨#[]⟩, .slice none 0 0, .slice none 0 0, .slice none 0 0] 41)) (some p)) := grown_trans HGy.out (grown_below (below_alloc _ _))
  have HE := hide hE
  have HY := hide hy
  clear hr hE hy
  go_enter Try.func32, Try.ntmps32
  go_wp2_with fail
  clear k2 f2 k3
  generalize (w.setCell ⟨p, 2, none⟩ (.int .i64 ((n : Int) + 1))).alloc (.cells #[.int .u8 0, .bool false, .int .i64 0, .string ⟨#[]⟩, .slice none 0 0, .slice none 0 0, .slice none 0 0] 41) = X1 at *
  refine (content_in p a cap bs i (n + 1) q m ys rest X1 HR1.out HE.out HY.out hl).mono ?_
  rintro e W1 ⟨a', c', rfl, hown, hrd, hg⟩
  have HR2 := hide hrd
  have HG2 := hide (grown_trans HG1.out hg)
  have HB2 := hide (HB1.out.grown hg hpne)
  have hcv := run_text W1 a' ys.length c' ys rfl (fun e => by have h1 := hown.own.shape; obtain ⟨a2, c2, e2, _, _, hz, _⟩ := h1; cases e2; exact hz e) hown.own.row HY.out
  obtain ⟨j0, j1, j2, j3, j4, j5, j6⟩ := HB2.out.cells
  have fr := HB2.out.free
  clear hown hrd hg
  go_wp2
  have HBz := hide (HB2.out.set7 (.int .u8 4) (.bool false) (.int .i64 0) (.string (bk ys)) (.slice none 0 0) (.slice none 0 0) (.slice none 0 0))
  have HGz := hide (grown_set7 W1 w.heap.size (.int .u8 4) (.bool false) (.int .i64 0) (.string (bk ys)) (.slice none 0 0) (.slice none 0 0) (.slice none 0 0))
  generalize ((((((W1.setCell ⟨w.heap.size, 0, none⟩ (.int .u8 4)).setCell ⟨w.heap.size, 1, none⟩ (.bool false)).setCell ⟨w.heap.size, 2, none⟩ (.int .i64 0)).setCell ⟨w.heap.size, 3, none⟩ (.string (bk ys))).setCell ⟨w.heap.size, 4, none⟩ (.slice none 0 0)).setCell ⟨w.heap.size, 5, none⟩ (.slice none 0 0)).setCell ⟨w.heap.size, 6, none⟩ (.slice none 0 0) = Z at *
  obtain ⟨z0, z1, z2, z3, z4, z5, z6⟩ := HBz.out.cells
  refine bodyPost_ret (v := .tuple #[vT (bk ys), .bool true]) ?_ rfl ?_
  · simp [results, Try.results32, go_sem, z0, z1, z2, z3, z4, z5, z6]
  · exact ⟨rfl, HR2.out.grown HLo.out HGz.out (fun k e => by cases e; exact Nat.le_refl _), grown_new HG2.out HGz.out (fun k e => by cases e; exact Nat.le_refl _)⟩
set_option maxHeartbeats 3200000 in
set_option maxRecDepth 1000000 in
theorem value_num (p : Nat) (a : Option Addr) (cap : Nat) (bs : List Int) (i n q : Nat) (m : Int) (w : World) (hr : Rdr w p a cap bs i n q m) (hn : n < 512) (hE : i + 8 ≤ bs.length) :
    Calls Try.prog 32 #[.pointer (some ⟨p, 0, none⟩), .int .u8 48] w fun e w' => e = .returned (.tuple #[vI (unX (jb (((bs.drop i).take 8).map (tn m)))), .bool true]) ∧ Rdr w' p a cap bs (i + 8) (n + 1) q m ∧ w.grownBy w' (some p) := by
  have hne : bs ≠ [] := fun e => by subst e; simp at hE
  have HLo := hide (hr.low hne)
  clear hne
  have hpb := hr.lt
  have hpne : w.heap.size ≠ p := by omega
  have k2 := hr.c2
  have f2 := hr.f 2
  have HRy := hide (hr.setParts (n + 1) (by omega))
  have HGy := hide (grown_setCell w p 2 (.int .i64 ((n + 1 : Nat) : Int)))
  have k3 := HRy.out.c2
  rw [show ((n + 1 : Nat) : Int) = (n : Int) + 1 by omega] at k3 HRy HGy
  have HSz : Hid ((w.setCell ⟨p, 2, none⟩ (.int .i64 ((n : Int) + 1))).heap.size = w.heap.size) := by simp [World.setCell, Hid]
  have HB1 := hide (Box7.new (w.setCell ⟨p, 2, none⟩ (.int .i64 ((n : Int) + 1))) (.int .u8 0) (.bool false) (.int .i64 0) (.string ⟨#[]⟩) (.slice none 0 0) (.slice none 0 0) (.slice none 0 0))
  rw [HSz.out] at HB1
  have HR1 := hide (HRy.out.below (below_alloc _ (.cells #[.int .u8 0, .bool false, .int .i64 0, .string ⟨#[]⟩, .slice none 0 0, .slice none 0 0, .slice none 0 0] 41)))
  have HG1 : Hid (w.grownBy ((w.setCell ⟨p, 2, none⟩ (.int .i64 ((n : Int) + 1))).alloc (.cells #[.int .u8 0, .bool false, .int .i64 0, .string ⟨#[]⟩, .slice none 0 0, .slice none 0 0, .slice none 0 0] 41)) (some p)) := grown_trans HGy.out (grown_below (below_alloc _ _))
  have HE := hide hE
  clear hr
  go_enter Try.func32, Try.ntmps32
  go_wp2_with fail
  clear k2 f2 k3
  generalize (w.setCell ⟨p, 2, none⟩ (.int .i64 ((n : Int) + 1))).alloc (.cells #[.int .u8 0, .bool false, .int .i64 0, .string ⟨#[]⟩, .slice none 0 0, .slice none 0 0, .slice none 0 0] 41) = X1 at *
  refine (number_in p a cap bs i (n + 1) q m X1 HR1.out HE.out).mono ?_
  rintro e W1 ⟨rfl, hrd, hg⟩
  generalize hV : unX (jb (((bs.drop i).take 8).map (tn m))) = V at *
  have HV := hide hV
  clear hV
  have HR2 := hide hrd
  have HG2 := hide (grown_trans HG1.out hg)
  have HB2 := hide (HB1.out.grown hg hpne)
  obtain ⟨j0, j1, j2, j3, j4, j5, j6⟩ := HB2.out.cells
  have fr := HB2.out.free
  clear hrd hg
  go_wp2
  have HBz := hide (HB2.out.set7 (.int .u8 3) (.bool false) (.int .i64 V) (.string ⟨#[]⟩) (.slice none 0 0) (.slice none 0 0) (.slice none 0 0))
  have HGz := hide (grown_set7 W1 w.heap.size (.int .u8 3) (.bool false) (.int .i64 V) (.string ⟨#[]⟩) (.slice none 0 0) (.slice none 0 0) (.slice none 0 0))
  generalize ((((((W1.setCell ⟨w.heap.size, 0, none⟩ (.int .u8 3)).setCell ⟨w.heap.size, 1, none⟩ (.bool false)).setCell ⟨w.heap.size, 2, none⟩ (.int .i64 V)).setCell ⟨w.heap.size, 3, none⟩ (.string ⟨#[]⟩)).setCell ⟨w.heap.size, 4, none⟩ (.slice none 0 0)).setCell ⟨w.heap.size, 5, none⟩ (.slice none 0 0)).setCell ⟨w.heap.size, 6, none⟩ (.slice none 0 0) = Z at *
  obtain ⟨z0, z1, z2, z3, z4, z5, z6⟩ := HBz.out.cells
  rw [← HV.out] at z2
  refine bodyPost_ret (v := .tuple #[vI (unX (jb (((bs.drop i).take 8).map (tn m)))), .bool true]) ?_ rfl ?_
  · simp [results, Try.results32, go_sem, z0, z1, z2, z3, z4, z5, z6]
  · exact ⟨rfl, HR2.out.grown HLo.out HGz.out (fun k e => by cases e; exact Nat.le_refl _), grown_new HG2.out HGz.out (fun k e => by cases e; exact Nat.le_refl _)⟩

theorem Rdr.start (w : World) (o : Obj) (m : Int) (a : Option Addr) (cap : Nat) (bs : List Int) (hrow : Row w a bs) (hby : Byts bs) (hsm : bs.length ≤ 1000000) (hm : 0 ≤ m ∧ m ≤ 255) (h0 : 0 < bs.length) :
    Rdr (((w.alloc o).alloc (.cells #[.int .u8 m] 5)).alloc (.cells #[.slice a bs.length cap, .int .i64 0, .int .i64 0, .func (.func 36) #[] #[.pointer (some ⟨w.heap.size + 1, 0, none⟩)]] 67)) (w.heap.size + 1 + 1) a cap bs 0 0 (w.heap.size + 1) m := by
  refine ⟨?_, ((hrow.below (below_alloc _ _)).below (below_alloc _ _)).below (below_alloc _ _), hby, fun ad e => ?_, ?_, by omega, hsm, by omega, hm⟩
  · have := heap_alloc_new ((w.alloc o).alloc (.cells #[.int .u8 m] 5)) (.cells #[.slice a bs.length cap, .int .i64 0, .int .i64 0, .func (.func 36) #[] #[.pointer (some ⟨w.heap.size + 1, 0, none⟩)]] 67)
    simpa using this
  · rcases hrow with h1 | ⟨b, o', rfl, hlt, _⟩
    · subst h1; simp at h0
    · cases e
      show b ≠ _
      omega
  · have := heap_alloc_new (w.alloc o) (.cells #[.int .u8 m] 5)
    rw [World.size_alloc] at this
    exact (Below.heap_alloc _ _ _ (by simp)).trans this
theorem Row.grown {w w' : World} {a : Option Addr} {zs : List Int} {r : Option Nat} {B : Nat} (h : Row w a zs) (hg : w.grownBy w' r) (hl : ∀ ad, a = some ad → ad.block < B) (hr : ∀ k, r = some k → B ≤ k) : Row w' a zs := by
  rcases h with h1 | ⟨b, o, rfl, hlt, hc⟩
  · exact .inl h1
  · exact .inr ⟨b, o, rfl, Nat.lt_of_lt_of_le hlt hg.size, fun j hj => (World.cell?_of_block (a := ⟨b, o + j, none⟩) (hg.block b hlt (fun e => by have := hr b e.symm; have := hl _ rfl; simp at this; omega))).trans (hc j hj)⟩
set_option maxHeartbeats 3200000 in
set_option maxRecDepth 1000000 in
theorem first_leaf (d : Bool) (m mark : Int) (a : Option Addr) (cap : Nat) (bs : List Int) (j : Nat) (k n : Int) (t : ByteArray) (w : World) (hrow : Row w a bs) (hby : Byts bs) (hsm : bs.length ≤ 1000000) (hm : 0 ≤ m ∧ m ≤ 255) (h0 : 0 < bs.length) (hmk : tn m (bs.getD 0 0) = mark)
    (HT : Hid (∀ W, Calls Try.prog 25 #[.bool d] W fun e w' => e = .returned (.func (.func 36) #[] #[.pointer (some ⟨W.heap.size, 0, none⟩)]) ∧ w' = W.alloc (.cells #[.int .u8 m] 5)))
    (HC : Hid (∀ W, Calls Try.prog 23 #[.agg #[.int .u8 k, .bool false, .int .i64 n, .string t, .slice none 0 0, .slice none 0 0, .slice none 0 0]] W fun e w' => e = .returned (.int .u16 0) ∧ Below W.heap.size W w'))
    (HV : Hid (∀ W p q, Rdr W p a cap bs 1 0 q m → Calls Try.prog 32 #[.pointer (some ⟨p, 0, none⟩), .int .u8 mark] W fun e W' => e = .returned (.tuple #[.agg #[.int .u8 k, .bool false, .int .i64 n, .string t, .slice none 0 0, .slice none 0 0, .slice none 0 0], .bool true]) ∧ Rdr W' p a cap bs j 1 q m ∧ W.grownBy W' (some p))) :
    Calls Try.prog 22 #[.slice a bs.length cap, .bool d] w fun e w' => e = .returned (.tuple #[.agg #[.int .u8 k, .bool false, .int .i64 n, .string t, .slice none 0 0, .slice none 0 0, .slice none 0 0], .int .i64 (j : Int), .bool true]) ∧ Below w.heap.size w w' := by
  have HB0 := hide (Box7.new w (.int .u8 0) (.bool false) (.int .i64 0) (.string ⟨#[]⟩) (.slice none 0 0) (.slice none 0 0) (.slice none 0 0))
  go_enter Try.func22, Try.ntmps22
  go_wp2_with fail
  refine (HT.out _).mono ?_
  rintro e W1 ⟨rfl, rfl⟩
  have HF1 := hide ((((Fr.refl w).alloc (.cells #[.int .u8 0, .bool false, .int .i64 0, .string ⟨#[]⟩, .slice none 0 0, .slice none 0 0, .slice none 0 0] 41)).alloc (.cells #[.int .u8 m] 5)).alloc (.cells #[.slice a bs.length cap, .int .i64 0, .int .i64 0, .func (.func 36) #[] #[.pointer (some ⟨w.heap.size + 1, 0, none⟩)]] 67))
  have HR1 := hide (Rdr.start w (.cells #[.int .u8 0, .bool false, .int .i64 0, .string ⟨#[]⟩, .slice none 0 0, .slice none 0 0, .slice none 0 0] 41) m a cap bs hrow hby hsm hm h0)
  have HB1 := hide ((HB0.out.below (below_alloc _ (.cells #[.int .u8 m] 5))).below (below_alloc _ (.cells #[.slice a bs.length cap, .int .i64 0, .int .i64 0, .func (.func 36) #[] #[.pointer (some ⟨w.heap.size + 1, 0, none⟩)]] 67)))
  have HMk := hide hmk
  clear hmk hrow HB0
  go_wp2_with fail
  generalize ((w.alloc (.cells #[.int .u8 0, .bool false, .int .i64 0, .string ⟨#[]⟩, .slice none 0 0, .slice none 0 0, .slice none 0 0] 41)).alloc (.cells #[.int .u8 m] 5)).alloc (.cells #[.slice a bs.length cap, .int .i64 0, .int .i64 0, .func (.func 36) #[] #[.pointer (some ⟨w.heap.size + 1, 0, none⟩)]] 67) = X1 at *
  generalize hB : w.heap.size = B at *
  have HBB := hide hB
  clear hB
  refine (next_in (B + 1 + 1) a cap bs 0 0 (B + 1) m X1 HR1.out h0).mono ?_
  rintro e W2 ⟨rfl, hrd, hg⟩
  have HR2 := hide hrd
  have HF2 := hide (HF1.out.grown hg (fun k e => by cases e; omega))
  have HB2 := hide (HB1.out.grown hg (by omega))
  clear hrd hg HB1 HF1 HR1
  rw [HMk.out]
  go_wp2_with fail
  refine (HV.out W2 (B + 1 + 1) (B + 1) HR2.out).mono ?_
  rintro e W3 ⟨rfl, hrd, hg⟩
  have HR3 := hide hrd
  have HF3 := hide (HF2.out.grown hg (fun k e => by cases e; omega))
  have HB3 := hide (HB2.out.grown hg (by omega))
  clear hrd hg HB2 HF2 HR2
  have HR4 := hide (HR3.out.below (below_alloc W3 (.cells #[.int .u8 k, .bool false, .int .i64 n, .string t, .slice none 0 0, .slice none 0 0, .slice none 0 0] 41)))
  have HF4 := hide (HF3.out.alloc (.cells #[.int .u8 k, .bool false, .int .i64 n, .string t, .slice none 0 0, .slice none 0 0, .slice none 0 0] 41))
  have HB4 := hide (HB3.out.below (below_alloc W3 (.cells #[.int .u8 k, .bool false, .int .i64 n, .string t, .slice none 0 0, .slice none 0 0, .slice none 0 0] 41)))
  have HC4 := hide (Box7.new W3 (.int .u8 k) (.bool false) (.int .i64 n) (.string t) (.slice none 0 0) (.slice none 0 0) (.slice none 0 0))
  have hb1 := HB3.out.lt
  have hb2 := HR3.out.lt
  go_wp2_with fail
  refine (HC.out _).mono ?_
  rintro e W5 ⟨rfl, hb⟩
  have HR5 := hide (HR4.out.below hb)
  have HF5 := hide (HF4.out.on hb)
  have HB5 := hide (HB4.out.below hb)
  have HC5 := hide (HC4.out.below hb)
  clear hb HR4 HF4 HB4 HC4 HR3 HF3 HB3
  generalize W3.heap.size = c at *
  obtain ⟨j0, j1, j2, j3, j4, j5, j6⟩ := HC5.out.cells
  obtain ⟨l0, l1, l2, l3, l4, l5, l6⟩ := HB5.out.cells
  have fr := HB5.out.free
  have r1 := HR5.out.c1
  go_wp2
  go_region
  have HBz := hide ((HB5.out.set7 (.int .u8 k) (.bool false) (.int .i64 n) (.string t) (.slice none 0 0) (.slice none 0 0) (.slice none 0 0)).below (Below.refl _ _).drew)
  have HFz := hide ((HF5.out.grown (grown_set7 W5 B (.int .u8 k) (.bool false) (.int .i64 n) (.string t) (.slice none 0 0) (.slice none 0 0) (.slice none 0 0)) (fun x e => by cases e; exact Nat.le_refl _)).drew)
  generalize (((((((W5.setCell ⟨B, 0, none⟩ (.int .u8 k)).setCell ⟨B, 1, none⟩ (.bool false)).setCell ⟨B, 2, none⟩ (.int .i64 n)).setCell ⟨B, 3, none⟩ (.string t)).setCell ⟨B, 4, none⟩ (.slice none 0 0)).setCell ⟨B, 5, none⟩ (.slice none 0 0)).setCell ⟨B, 6, none⟩ (.slice none 0 0)).drew = Z at *
  obtain ⟨z0, z1, z2, z3, z4, z5, z6⟩ := HBz.out.cells
  clear j0 j1 j2 j3 j4 j5 j6 l0 l1 l2 l3 l4 l5 l6 fr r1
  go_wp2
  refine bodyPost_ret (v := .tuple #[.agg #[.int .u8 k, .bool false, .int .i64 n, .string t, .slice none 0 0, .slice none 0 0, .slice none 0 0], .int .i64 (j : Int), .bool true]) ?_ rfl ?_
  · simp [results, Try.results22, go_sem, z0, z1, z2, z3, z4, z5, z6]
  · exact ⟨rfl, by rw [HBB.out]; exact HFz.out.below⟩
end Go.Proofs.Ytegoeaofjnpehaa
