/- Contracts of writing a value's bytes: a text, a number. -/
import Derived.Test.YtegoeaofjnpehaaH
import Derived.Laws.IdiomStrings
namespace Go.Proofs.Ytegoeaofjnpehaa
open Go.RowKit
set_option linter.unusedVariables false

set_option maxHeartbeats 800000 in
theorem index_nil (f : Value) (w : World) : Calls Try.prog 51 #[.slice none 0 0, f] w fun e w' => e = .returned (.int .i64 (-1)) ∧ w' = w := by
  go_enter Try.func51, Try.ntmps51
  go_wp2
  go_loop [8] (fun i => i = .int .i64 0) (fun _ => 0)
  case atStart => rfl
  case round =>
    subst hrel
    go_wp2
    go_ret
    exact ⟨rfl, rfl⟩
set_option maxHeartbeats 800000 in
theorem contains_nil (f : Value) (w : World) : Calls Try.prog 35 #[.slice none 0 0, f] w fun e w' => e = .returned (.bool false) ∧ w' = w := by
  go_enter Try.func35, Try.ntmps35
  go_wp2_with fail
  refine (index_nil _ _).mono ?_
  rintro e w1 ⟨rfl, rfl⟩
  go_wp2
  go_ret
  exact ⟨rfl, rfl⟩
set_option maxHeartbeats 800000 in
theorem hasdoc_leaf (k : Int) (c1 c2 c3 c4 c6 : Value) (w : World) (hk : (k == 7) = false) : Calls Try.prog 24 #[.agg #[.int .u8 k, c1, c2, c3, c4, .slice none 0 0, c6]] w fun e w' => e = .returned (.bool false) ∧ Below w.heap.size w w' := by
  go_enter Try.func24, Try.ntmps24
  go_wp2_with fail
  refine (contains_nil _ _).mono ?_
  rintro e w1 ⟨rfl, rfl⟩
  go_wp2
  go_ret
  exact ⟨rfl, below_alloc _ _⟩
set_option maxHeartbeats 1600000 in
set_option maxRecDepth 1000000 in
theorem writeI (W : World) (po pt q : Nat) (m n : Int) (zs : List Int) (h : PutS W po pt q m zs) (hb : zs.length ≤ 1000000) :
    Calls Try.prog 26 #[vI n, .func (.func 27) #[] #[.pointer (some ⟨po, 0, none⟩), .pointer (some ⟨pt, 0, none⟩)]] W fun e W' => e = .returned (.tuple #[]) ∧ PutS W' po pt q m (zs ++ (48 :: nbs (nX n) 8).map (tn m)) ∧ Wrote po W W' := by
  have HB1 := hide (Box7.new W (.int .u8 3) (.bool false) (.int .i64 n) (.string ⟨#[]⟩) (.slice none 0 0) (.slice none 0 0) (.slice none 0 0))
  have H := hide h
  have HB := hide hb
  clear h hb
  go_enter Try.func26, Try.ntmps26
  go_wp2
  go_quiet (fail)
  have HX : Hid (Below W.heap.size W ((W.alloc (.cells #[.int .u8 3, .bool false, .int .i64 n, .string ⟨#[]⟩, .slice none 0 0, .slice none 0 0, .slice none 0 0] 41)).drewN nq)) := below_drewN (below_alloc _ _) _
  have HB2 := hide (HB1.out.below (below_drewN (Below.refl _ _) nq))
  obtain ⟨k0, k1, k2, k3, k4, k5, k6⟩ := HB2.out.cells
  generalize (W.alloc (.cells #[.int .u8 3, .bool false, .int .i64 n, .string ⟨#[]⟩, .slice none 0 0, .slice none 0 0, .slice none 0 0] 41)).drewN nq = X at *
  go_wp2_with fail
  refine (put_any X po pt q m 48 zs (H.out.below HX.out) (by omega) (by have := HB.out; omega)).mono ?_
  rintro e W1 ⟨rfl, hp1, ho1⟩
  have HP1 := hide hp1
  have HO1 := hide ho1
  have hk2 : W1.cell? ⟨W.heap.size, 2, none⟩ = some (.int .i64 n) := (World.cell?_of_block (a := ⟨W.heap.size, 2, none⟩) (ho1.block W.heap.size HB2.out.lt (fun hf => by
    have h3 : ¬ foot W po W.heap.size := fun hf => by have := H.out.wr.foot_lt hf; omega
    exact h3 ((foot_same (HX.out.block po H.out.wr.lt)).1 hf)))).trans k2
  clear hp1 ho1 k0 k1 k2 k3 k4 k5 k6
  go_wp2_with fail
  refine (wnum_any W1 po pt q m n _ HP1.out (by have := HB.out; simp; omega)).mono ?_
  rintro e W2 ⟨rfl, hp2, ho2⟩
  have HP2 := hide hp2
  have HO2 := hide ho2
  clear hp2 ho2
  go_wp2
  go_end0
  refine ⟨rfl, ?_, (Wrote.of_below H.out.wr.lt HX.out).trans (HO1.out.trans HO2.out)⟩
  have := HP2.out
  simpa using this

/-- a text's bytes. -/
def sb (s : ByteArray) : List Int := s.data.toList.map fun b => (b.toNat : Int)
theorem sb_len (s : ByteArray) : (sb s).length = s.size := by unfold sb; simp
theorem sb_byts (s : ByteArray) : Byts (sb s) := by
  intro c hc
  unfold sb at hc
  obtain ⟨b, _, rfl⟩ := List.mem_map.1 hc
  have := b.toNat_lt
  omega
theorem text_new (t : ByteArray) (w : World) : ∃ c' W', (convert 9 25 (.string t)).run Try.prog w = .ok (.slice (some ⟨w.heap.size, 0, none⟩) t.size c') W' ∧ Row W' (some ⟨w.heap.size, 0, none⟩) (sb t) ∧ Below w.heap.size w W' ∧ w.heap.size < W'.heap.size := by
  have h := run_bytes_of_string (P := Try.prog) w 9 25 5 t Try.underlying9 Try.underlying25 Try.underlying5
  refine ⟨_, _, h, ?_, ((Below.refl w.heap.size w).drew).alloc (Nat.le_refl _) _, by simp⟩
  refine .inr ⟨w.heap.size, 0, rfl, by simp, fun j hj => ?_⟩
  rw [sb_len] at hj
  have hj2 : j < t.data.size := hj
  have e := bytesRow_at t (grownCap w t.size 0 5) j hj2
  rw [Nat.zero_add]
  have e2 : (t.data[j].toNat : Int) = (sb t).getD j 0 := by
    unfold sb
    simp
    rw [Array.getElem?_eq_getElem hj2]
    rfl
  rw [e2] at e
  have h3 : (w.drew.alloc (.cells (bytesRow t (grownCap w t.size 0 5)) 5 ((bytesRow t (grownCap w t.size 0 5)).size, (bytesRow t (grownCap w t.size 0 5)).size + 1))).heap[w.heap.size]? = some (.cells (bytesRow t (grownCap w t.size 0 5)) 5 ((bytesRow t (grownCap w t.size 0 5)).size, (bytesRow t (grownCap w t.size 0 5)).size + 1)) := heap_alloc_new w.drew _
  simp only [World.cell?, h3]
  exact e
set_option maxHeartbeats 1600000 in
set_option maxRecDepth 1000000 in
theorem writeT (W : World) (po pt q : Nat) (m : Int) (t : ByteArray) (zs : List Int) (h : PutS W po pt q m zs) (hb : zs.length ≤ 1000000) (ht : t.size ≤ 1000000) :
    Calls Try.prog 26 #[vT t, .func (.func 27) #[] #[.pointer (some ⟨po, 0, none⟩), .pointer (some ⟨pt, 0, none⟩)]] W fun e W' => e = .returned (.tuple #[]) ∧ PutS W' po pt q m (zs ++ (64 :: (esc (sb t) ++ [0, 1])).map (tn m)) ∧ Wrote po W W' := by
  have HB1 := hide (Box7.new W (.int .u8 4) (.bool false) (.int .i64 0) (.string t) (.slice none 0 0) (.slice none 0 0) (.slice none 0 0))
  have H := hide h
  have HB := hide hb
  clear h hb
  go_enter Try.func26, Try.ntmps26
  go_wp2
  go_quiet (fail)
  have HX : Hid (Below W.heap.size W ((W.alloc (.cells #[.int .u8 4, .bool false, .int .i64 0, .string t, .slice none 0 0, .slice none 0 0, .slice none 0 0] 41)).drewN nq)) := below_drewN (below_alloc _ _) _
  have HB2 := hide (HB1.out.below (below_drewN (Below.refl _ _) nq))
  obtain ⟨k0, k1, k2, k3, k4, k5, k6⟩ := HB2.out.cells
  have hsz : W.heap.size < ((W.alloc (.cells #[.int .u8 4, .bool false, .int .i64 0, .string t, .slice none 0 0, .slice none 0 0, .slice none 0 0] 41)).drewN nq).heap.size := HB2.out.lt
  generalize (W.alloc (.cells #[.int .u8 4, .bool false, .int .i64 0, .string t, .slice none 0 0, .slice none 0 0, .slice none 0 0] 41)).drewN nq = X at *
  obtain ⟨cc, Y, hcv, hrow, hbel, hlt⟩ := text_new t X.drew
  have HRow := hide hrow
  have HBel := hide hbel
  clear hrow hbel
  go_wp2_with fail
  go_region
  have HFr : Hid (Fr W.heap.size W Y) := ((Fr.mk HX.out (Nat.le_of_lt hsz)).drew).on HBel.out
  have HPy := hide (H.out.below HFr.out.below)
  have hoff : Off Y po (some ⟨X.heap.size, 0, none⟩) := by
    intro ad e
    cases e
    refine ⟨hlt, fun hf => ?_⟩
    have := H.out.wr.foot_lt ((foot_same (HFr.out.below.block po H.out.wr.lt)).1 hf)
    have hh : X.heap.size < W.heap.size := this
    omega
  have HOf := hide hoff
  clear hcv hoff k0 k1 k2 k3 k4 k5 k6
  go_wp2_with fail
  refine (put_any Y po pt q m 64 zs HPy.out (by omega) (by have := HB.out; omega)).mono ?_
  rintro e W1 ⟨rfl, hp1, ho1⟩
  have HP1 := hide hp1
  have HO1 := hide ho1
  clear hp1 ho1
  go_wp2_with fail
  refine (wcon_any W1 po pt q m _ _ _ _ (sb t) HP1.out (sb_len t) (HRow.out.wrote HOf.out HO1.out) (HOf.out.wrote HO1.out) (sb_byts t) (by omega) (by have := HB.out; simp; omega)).mono ?_
  rintro e W2 ⟨rfl, hp2, ho2⟩
  have HP2 := hide hp2
  have HO2 := hide ho2
  clear hp2 ho2
  go_wp2
  go_end0
  refine ⟨rfl, ?_, (Wrote.of_below H.out.wr.lt HFr.out.below).trans (HO1.out.trans HO2.out)⟩
  have := HP2.out
  simpa using this
end Go.Proofs.Ytegoeaofjnpehaa
