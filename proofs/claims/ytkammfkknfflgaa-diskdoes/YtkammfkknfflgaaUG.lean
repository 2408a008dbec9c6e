/- An act of the kind sync: both disks do it. -/
import Derived.Test.YtkammfkknfflgaaUD
namespace Go.Proofs.Ytkammfkknfflgaa
open Go.RowKit
set_option linter.unusedVariables false
set_option maxHeartbeats 6400000 in
set_option maxRecDepth 1000000 in
theorem does3 (x : Ac) (hx : x.k % 9 = 3) (w0 w : World) (pp p q r bq n m L M : Nat) (S : DS) (O O2 OB : Nat → Prop) (h : Pr w0.heap.size w0 w pp p q r bq n m S S O O2 OB) (hok : x.Ok w0) (hbd : Bd S L M) (hM : M ≤ 4000000) (hn : n ≤ 40000000) (hm : m ≤ 40000000) (hdl : x.db.length ≤ 2000000) (hkl : x.kb.length ≤ 2000000) :
    Calls Try.prog 26 #[.pointer (some ⟨pp, 0, none⟩), .agg (acv x)] w fun e w' => DoesOut x w0 pp p q r bq n m S e w' := by
  have hk : (x.k : Int) % 9 = 3 := by omega
  have HP0 := hide (Pa.start h hok)
  have HB := hide hbd
  have HDL := hide hdl
  have HKL := hide hkl
  have HMM := hide hM
  have HNN := hide hn
  have HNM := hide hm
  have HST : Hid (stp S x = S.sy) := hide (by unfold stp; rw [if_neg (by omega), if_neg (by omega), if_pos hx])
  have hsz : w.heap.size = w.heap.size := rfl
  unfold acv at HP0
  clear hbd h hok hdl hkl hM hn hm hx
  generalize hab : w.heap.size = ab at HP0
  unfold acv
  go_enter Try.func26, Try.ntmps26
  go_wp2_with fail
  have HPd := hide HP0.out.drew
  obtain ⟨c0, c1, c2, k1, k2, k3, k4⟩ := HP0.out.cells
  go_region_held3 (fun W => W.cell? ⟨pp, 0, none⟩ = some (.pointer (some ⟨p, 0, none⟩)) ∧ W.cell? ⟨pp, 1, none⟩ = some (.pointer (some ⟨r, 0, none⟩)) ∧ W.cell? ⟨pp, 2, none⟩ = some (.pointer (some ⟨bq, 0, none⟩)) ∧ W.cell? ⟨ab, 1, none⟩ = some (.int .i64 x.pt) ∧ W.cell? ⟨ab, 2, none⟩ = some (.int .i64 x.of) ∧ W.cell? ⟨ab, 3, none⟩ = some (.slice x.da x.db.length x.dc) ∧ W.cell? ⟨ab, 4, none⟩ = some (.slice x.ka x.kb.length x.kc)) ((first | (refine ⟨?_, ?_, ?_, ?_, ?_, ?_, ?_⟩ <;> assumption) | exact HPd.out.cells)) ((first | (go_at_call 42; refine (sync_any p q O S _ HPd.out.pr.d (by have := HB.out.n3; have := HMM.out; omega)).mono ?_; intro r' w1 hh; obtain ⟨rfl, O', hd1, hg1⟩ := hh; have HP1 := hide (HPd.out.moveD hd1 hg1); clear hd1 hg1 c0 c1 c2 k1 k2 k3 k4; obtain ⟨c0, c1, c2, k1, k2, k3, k4⟩ := HP1.out.cells) | (go_at_call 43; refine (r_sync r O2 S _ HP1.out.pr.r (by have := HB.out.n3; have := HMM.out; omega)).mono ?_; intro r' w2 hh; obtain ⟨rfl, O3, hd2, hg2⟩ := hh; have HP2 := hide (HP1.out.moveR hd2 hg2); clear hd2 hg2 c0 c1 c2 k1 k2 k3 k4; obtain ⟨c0, c1, c2, k1, k2, k3, k4⟩ := HP2.out.cells)))
  have hee : (((S.er S.s3 S.l3 : Nat) : Int) == ((S.er S.s3 S.l3 : Nat) : Int)) = true := by simp
  go_wp2
  go_ret
  refine ⟨rfl, n, m, O', O3, OB, by omega, by omega, ?_⟩
  rw [HST.out]
  exact HP2.out.pr
end Go.Proofs.Ytkammfkknfflgaa
