/- An act of the kind cut: both disks do it. -/
import Derived.Test.YtkammfkknfflgaaUM
namespace Go.Proofs.Ytkammfkknfflgaa
open Go.RowKit
set_option linter.unusedVariables false
set_option maxHeartbeats 6400000 in
set_option maxRecDepth 1000000 in
theorem does4 (x : Ac) (hx : x.k % 9 = 4) (w0 w : World) (pp p q r bq n m L M : Nat) (S : DS) (O O2 OB : Nat → Prop) (h : Pr w0.heap.size w0 w pp p q r bq n m S S O O2 OB) (hok : x.Ok w0) (hbd : Bd S L M) (hM : M ≤ 4000000) (hn : n ≤ 40000000) (hm : m ≤ 40000000) (hdl : x.db.length ≤ 2000000) (hkl : x.kb.length ≤ 2000000) :
    Calls Try.prog 26 #[.pointer (some ⟨pp, 0, none⟩), .agg (acv x)] w fun e w' => DoesOut x w0 pp p q r bq n m S e w' := by
  have hk : (x.k : Int) % 9 = 4 := by omega
  have HP0 := hide (Pa.start h hok)
  have HB := hide hbd
  have HDL := hide hdl
  have HKL := hide hkl
  have HMM := hide hM
  have HNN := hide hn
  have HNM := hide hm
  have HST : Hid (stp S x = S.cut x.kb) := hide (by unfold stp; rw [if_neg (by omega), if_neg (by omega), if_neg (by omega), if_pos hx])
  have hsz : w.heap.size = w.heap.size := rfl
  unfold acv at HP0
  clear hbd h hok hdl hkl hM hn hm hx
  generalize hab : w.heap.size = ab at HP0
  unfold acv
  go_enter Try.func26, Try.ntmps26
  obtain ⟨c0, c1, c2, k1, k2, k3, k4⟩ := HP0.out.cells
  go_wp2_with fail
  refine (lentb_at HP0.out HKL.out).mono ?_
  rintro r' w1 ⟨g, rfl, hl1, hb1⟩
  have HP1 := hide (HP0.out.below hb1)
  have HL1 := hide hl1
  clear hl1 hb1
  clear c0 c1 c2 k1 k2 k3 k4
  obtain ⟨c0, c1, c2, k1, k2, k3, k4⟩ := HP1.out.cells
  go_wp2_with fail
  refine (dcut_at HP1.out HKL.out HL1.out).mono ?_
  rintro r' w2 ⟨rfl, O', hd2, hg2⟩
  have HP2 := hide (HP1.out.moveD hd2 hg2)
  have HL2 := hide (HL1.out.moveD hg2)
  clear hd2 hg2
  clear c0 c1 c2 k1 k2 k3 k4
  have HLd := hide (HL2.out.below (Below.refl _ _).drew)
  go_wp2_with fail
  have HPd := hide HP2.out.drew
  obtain ⟨c0, c1, c2, k1, k2, k3, k4⟩ := HP2.out.cells
  go_region_held3 (fun W => W.cell? ⟨pp, 0, none⟩ = some (.pointer (some ⟨p, 0, none⟩)) ∧ W.cell? ⟨pp, 1, none⟩ = some (.pointer (some ⟨r, 0, none⟩)) ∧ W.cell? ⟨pp, 2, none⟩ = some (.pointer (some ⟨bq, 0, none⟩)) ∧ W.cell? ⟨ab, 1, none⟩ = some (.int .i64 x.pt) ∧ W.cell? ⟨ab, 2, none⟩ = some (.int .i64 x.of) ∧ W.cell? ⟨ab, 3, none⟩ = some (.slice x.da x.db.length x.dc) ∧ W.cell? ⟨ab, 4, none⟩ = some (.slice x.ka x.kb.length x.kc)) ((first | (refine ⟨?_, ?_, ?_, ?_, ?_, ?_, ?_⟩ <;> assumption) | exact HPd.out.cells)) ((first | (go_at_call 45; refine (rcut_at HPd.out HKL.out).mono ?_; intro r' w3 hh; obtain ⟨rfl, O3, hd3, hg3⟩ := hh; have HP3 := hide (HPd.out.moveR hd3 hg3); have HL3 := hide (HLd.out.moveR hg3); clear hd3 hg3 c0 c1 c2 k1 k2 k3 k4; obtain ⟨c0, c1, c2, k1, k2, k3, k4⟩ := HP3.out.cells)))
  clear HPd HLd c0 c1 c2 k1 k2 k3 k4
  obtain ⟨c0, c1, c2, k1, k2, k3, k4⟩ := HP3.out.cells
  go_wp2_with fail
  refine (wholeb_at HP3.out HKL.out HL3.out).mono ?_
  rintro r' w4 ⟨rfl, hb4⟩
  have HP4 := hide (HP3.out.below hb4)
  have HL4 := hide (HL3.out.below hb4)
  clear hb4
  clear c0 c1 c2 k1 k2 k3 k4
  go_wp2_with fail
  refine (spoilb_at HP4.out HKL.out HL4.out).mono ?_
  rintro r' w5 ⟨rfl, hp5⟩
  have HP5 := hide hp5
  clear hp5
  go_wp2
  go_ret
  refine ⟨rfl, n, m, O', O3, OB, by omega, by omega, ?_⟩
  rw [HST.out]
  exact HP5.out.pr
end Go.Proofs.Ytkammfkknfflgaa
