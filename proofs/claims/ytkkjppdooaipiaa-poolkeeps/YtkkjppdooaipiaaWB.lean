/- The writer's end: noughts, and the sum. -/
import Derived.Test.YtkkjppdooaipiaaW
import Derived.Deep.RegionWith
namespace Go.Proofs.Ytkkjppdooaipiaa
open Go.RowKit
set_option linter.unusedVariables false

theorem Wr.shape {w : World} {p n : Nat} {zs : List Int} (h : Wr w p n zs) : ∃ a m c, w.cell? ⟨p, 0, none⟩ = some (.slice a m c) ∧ w.cell? ⟨p, 1, none⟩ = some (.int .i64 (n : Int)) ∧ Hid (m = zs.length) ∧ Hid (Own w (.slice a m c) zs) ∧ Hid (∀ k, (Value.slice a m c).ownBlock = some k → foot w p k) := by
  obtain ⟨va, hcell, hown, hap⟩ := h
  obtain ⟨a1, n1, c1, rfl, HN1⟩ := hown.shape2
  obtain ⟨k0, k1, f0⟩ := cells_two hcell
  exact ⟨a1, n1, c1, k0, k1, HN1, hide hown, hide fun k hk => .inr ⟨_, _, hcell, hk⟩⟩

set_option maxHeartbeats 800000 in
set_option maxRecDepth 1000000 in
theorem sealed_any (p size : Nat) (zs : List Int) (w : World) (hw : Wr w p size zs) (hs : zs.length + 4 ≤ size) (hm : size ≤ 2000) (h8 : Byts zs) :
    Calls Try.prog 48 #[.pointer (some ⟨p, 0, none⟩)] w fun e w' => ∃ v, e = .returned v ∧ Own w' v (Pg.sl size zs) ∧ (∀ k, v.ownBlock = some k → foot w' p k) ∧ Wrote p w w' := by
  have HW := hide hw
  obtain ⟨a1, n1, c1, k0, k1, HN1, -, -⟩ := hw.shape
  have hn1 : n1 + 4 ≤ size := by have := HN1.out; omega
  have H31 : Hid (Calls Try.prog 47 #[.pointer (some ⟨p, 0, none⟩), .int .i64 (IntKind.i64.wrap (IntKind.i64.wrap ((size : Int) - 4) - (n1 : Int)))] w.drew fun e w' => e = .returned (.tuple #[]) ∧ Wr w' p size (Pg.fill size zs) ∧ Wrote p w w') := by
    have hwi : IntKind.i64.wrap ((size : Int) - 4) = (size : Int) - 4 := by simp only [IntKind.wrap, IntKind.bits, IntKind.signed]; simp; omega
    have hwx : IntKind.i64.wrap (IntKind.i64.wrap ((size : Int) - 4) - (n1 : Int)) = ((size - 4 - n1 : Nat) : Int) := by rw [hwi]; simp only [IntKind.wrap, IntKind.bits, IntKind.signed]; simp; omega
    rw [hwx]
    have hb : Below w.heap.size w w.drew := (Below.refl _ _).drew
    refine (wnil_any p size (size - 4 - n1) zs w.drew (HW.out.below hb) (by omega) (by omega)).mono ?_
    rintro e w' ⟨h1, h2, h3⟩
    refine ⟨h1, ?_, (Wrote.of_below HW.out.lt hb).trans h3⟩
    rw [Pg.fill, ← HN1.out]
    exact h2
  have HF : Hid ((Pg.fill size zs).length = size - 4) := hide (Pg.fill_length size zs hs)
  have H8 : Hid (Byts (Pg.fill size zs)) := hide (Pg.fill_b8 size zs h8)
  have HR : Hid (Pg.sl size zs = Pg.fill size zs ++ Crc.le 4 (Crc.more 0 (Pg.fill size zs))) := hide rfl
  have HSum : Hid (∀ (W : World) a n c, Row W a (Pg.fill size zs) → n = (Pg.fill size zs).length → Calls Try.prog 62 #[.slice a n c] W fun e w' => e = .returned (.int .u32 ((Crc.more 0 (Pg.fill size zs) : Nat) : Int)) ∧ Below W.heap.size W w') :=
    fun W a n c hr hn => sum_any a n c _ W hn.symm (by have := HF.out; omega) hr H8.out
  have HNum : Hid (∀ (W : World), Wr W p size (Pg.fill size zs) → Calls Try.prog 46 #[.pointer (some ⟨p, 0, none⟩), .int .u64 ((Crc.more 0 (Pg.fill size zs) : Nat) : Int), .int .i64 4] W fun e w' => e = .returned (.tuple #[]) ∧ Wr w' p size (Pg.sl size zs) ∧ Wrote p W w') :=
    fun W hw => wnum_any p size (Crc.more 0 (Pg.fill size zs)) 4 _ W hw (by have := Crc.more_lt 0 _ (by omega) H8.out; omega) (by omega) (by have := HF.out; omega)
  have hM := Crc.more_lt 0 (Pg.fill size zs) (by omega) H8.out
  clear HR H8
  clear hw hs h8
  generalize Crc.more 0 (Pg.fill size zs) = M at *
  generalize Pg.fill size zs = ys at *
  generalize Pg.sl size zs = rs at *
  go_enter Try.func48, Try.ntmps48
  go_wp2_with fail
  go_region_with (go_at_call 47; refine H31.out.mono ?_; rintro e w1 ⟨rfl, hw1, hwo1⟩)
  all_goals
    have HW1 := hide hw1
    have HO1 := hide hwo1
    obtain ⟨a2, n2, c2, k2, k3, HN2, HOw, -⟩ := hw1.shape
    clear hw1 hwo1
    have hn2 : n2 ≤ 2000 := by have := HN2.out; have := HF.out; omega
    have HRow : Hid (Row w1 a2 ys) := by
      obtain ⟨a, c, e, _, _, _, hr, _⟩ := HOw.out.shape
      cases e
      exact hr
    go_wp2_with (first | (go_at_call 62; refine (HSum.out _ a2 n2 c2 HRow.out HN2.out).mono ?_; rintro e w2 ⟨rfl, hb2⟩; have HB2 := hide hb2; clear hb2) | (go_at_call 46; refine (HNum.out _ (HW1.out.below HB2.out)).mono ?_; rintro e w3 ⟨rfl, hw3, hwo3⟩; have HW3 := hide hw3; have HO3 := hide hwo3; obtain ⟨a4, n4, c4, k4, k5, HN4, HOw4, HFt4⟩ := hw3.shape; clear hw3 hwo3))
    go_ret
    exact ⟨_, rfl, HOw4.out, HFt4.out, HO1.out.trans ((Wrote.of_below HW1.out.lt HB2.out).trans HO3.out)⟩
end Go.Proofs.Ytkkjppdooaipiaa
