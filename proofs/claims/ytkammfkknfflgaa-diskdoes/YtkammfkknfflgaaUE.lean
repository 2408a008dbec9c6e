/- An act of the kind read: both disks do it. -/
import Derived.Test.YtkammfkknfflgaaUD
namespace Go.Proofs.Ytkammfkknfflgaa
open Go.RowKit
set_option linter.unusedVariables false
set_option maxHeartbeats 6400000 in
set_option maxRecDepth 1000000 in
theorem does0 (x : Ac) (hx : x.k % 9 = 0) (w0 w : World) (pp p q r bq n m L M : Nat) (S : DS) (O O2 OB : Nat → Prop) (h : Pr w0.heap.size w0 w pp p q r bq n m S S O O2 OB) (hok : x.Ok w0) (hbd : Bd S L M) (hM : M ≤ 4000000) (hn : n ≤ 40000000) (hm : m ≤ 40000000) (hdl : x.db.length ≤ 2000000) (hkl : x.kb.length ≤ 2000000) :
    Calls Try.prog 26 #[.pointer (some ⟨pp, 0, none⟩), .agg (acv x)] w fun e w' => DoesOut x w0 pp p q r bq n m S e w' := by
  have hk : (x.k : Int) % 9 = 0 := by omega
  have HP0 := hide (Pa.start h hok)
  have HB := hide hbd
  have HDL := hide hdl
  have HKL := hide hkl
  have HMM := hide hM
  have HNN := hide hn
  have HNM := hide hm
  have HST : Hid (stp S x = S.be S.op1) := hide (by unfold stp; rw [if_pos hx])
  have hsz : w.heap.size = w.heap.size := rfl
  unfold acv at HP0
  clear hbd h hok hdl hkl hM hn hm hx
  generalize hab : w.heap.size = ab at HP0
  unfold acv
  go_enter Try.func26, Try.ntmps26
  go_wp2_with fail
  have HPd := hide HP0.out.drew
  obtain ⟨c0, c1, c2, k1, k2, k3, k4⟩ := HP0.out.cells
  go_region_held3 (fun W => W.cell? ⟨pp, 0, none⟩ = some (.pointer (some ⟨p, 0, none⟩)) ∧ W.cell? ⟨pp, 1, none⟩ = some (.pointer (some ⟨r, 0, none⟩)) ∧ W.cell? ⟨pp, 2, none⟩ = some (.pointer (some ⟨bq, 0, none⟩)) ∧ W.cell? ⟨ab, 1, none⟩ = some (.int .i64 x.pt) ∧ W.cell? ⟨ab, 2, none⟩ = some (.int .i64 x.of) ∧ W.cell? ⟨ab, 3, none⟩ = some (.slice x.da x.db.length x.dc) ∧ W.cell? ⟨ab, 4, none⟩ = some (.slice x.ka x.kb.length x.kc)) ((first | (refine ⟨?_, ?_, ?_, ?_, ?_, ?_, ?_⟩ <;> assumption) | exact HPd.out.cells)) ((first | (go_at_call 22; refine (d_read p q O S x.pt _ HPd.out.pr.d (by have := HB.out.n1; have := HMM.out; omega)).mono ?_; intro r' w1 hh; obtain ⟨v1, rfl, ho1, hn1, hd1, hg1⟩ := hh; have HP1 := hide (HPd.out.moveD hd1 hg1); have HN1 := hide hn1; obtain ⟨a1, l1, cc1, rfl, HL1⟩ := ho1.shape2; have HO1 := hide ho1; have HA1 := hide (HPd.out.pr.new (w := w1) hg1.mv.size hn1 (fun k hk => ho1.lt hk)); have HB1 := hide (HPd.out.newa hn1); clear hd1 hg1 hn1 ho1 c0 c1 c2 k1 k2 k3 k4; obtain ⟨c0, c1, c2, k1, k2, k3, k4⟩ := HP1.out.cells)))
  clear HPd c0 c1 c2 k1 k2 k3 k4
  go_wp2_with fail
  have HPd := hide HP1.out.drew
  obtain ⟨c0, c1, c2, k1, k2, k3, k4⟩ := HP1.out.cells
  go_region_held3 (fun W => W.cell? ⟨pp, 0, none⟩ = some (.pointer (some ⟨p, 0, none⟩)) ∧ W.cell? ⟨pp, 1, none⟩ = some (.pointer (some ⟨r, 0, none⟩)) ∧ W.cell? ⟨pp, 2, none⟩ = some (.pointer (some ⟨bq, 0, none⟩)) ∧ W.cell? ⟨ab, 1, none⟩ = some (.int .i64 x.pt) ∧ W.cell? ⟨ab, 2, none⟩ = some (.int .i64 x.of) ∧ W.cell? ⟨ab, 3, none⟩ = some (.slice x.da x.db.length x.dc) ∧ W.cell? ⟨ab, 4, none⟩ = some (.slice x.ka x.kb.length x.kc)) ((first | (refine ⟨?_, ?_, ?_, ?_, ?_, ?_, ?_⟩ <;> assumption) | exact HPd.out.cells)) ((first | (go_at_call 40; refine (r_read r O2 S x.pt _ HPd.out.pr.r (by have := HB.out.n1; have := HMM.out; omega)).mono ?_; intro r' w2 hh; obtain ⟨v2, rfl, ho2, hn2, O3, hd2, hg2⟩ := hh; have HP2 := hide (HPd.out.moveR hd2 hg2); have HN2 := hide hn2; obtain ⟨a2, l2, cc2, rfl, HL2⟩ := ho2.shape2; have HO2 := hide ho2; have HO12 : Hid (Own w2 (.slice a1 l1 cc1) (rdB S x.pt)) := hide (HO1.out.of_block fun k hk => hg2.mv.block k (HA1.out k hk).1 (HA1.out k hk).2.2.2.2.1); have HA2 : Hid (Apt w2 w0.heap.size pp O O3 OB (.slice a1 l1 cc1)) := hide (fun k hk => ⟨Nat.lt_of_lt_of_le (HA1.out k hk).1 hg2.mv.size, (HA1.out k hk).2.1, (HA1.out k hk).2.2.1, (HA1.out k hk).2.2.2.1, fun e => (hg2.own k e).elim (HA1.out k hk).2.2.2.2.1 (fun e => absurd (HA1.out k hk).1 (Nat.not_lt.2 e)), (HA1.out k hk).2.2.2.2.2⟩); have HB2 := hide (HPd.out.pr.new (w := w2) hg2.mv.size hn2 (fun k hk => ho2.lt hk)); clear hd2 hg2 hn2 ho2 c0 c1 c2 k1 k2 k3 k4; obtain ⟨c0, c1, c2, k1, k2, k3, k4⟩ := HP2.out.cells)))
  clear HPd c0 c1 c2 k1 k2 k3 k4
  obtain ⟨c0, c1, c2, k1, k2, k3, k4⟩ := HP2.out.cells
  go_wp2_with fail
  refine (bk_bytes bq n m OB _ HP2.out.pr.b a1 l1 cc1 (rdB S x.pt) HO12.out HL1.out.symm (fun k hk => (HA2.out k hk).2.2.2.2.2) (Nat.le_trans (rdB_len HP0.out.pr.d.good HB.out.ls HB.out.l8 x.pt) (by omega)) (Nat.le_trans HNN.out (by omega))).mono ?_
  rintro r' w3 ⟨rfl, OB', hd3, hm3, hg3⟩
  have HP3 := hide (HP2.out.moveB HA2.out HB1.out hd3 hm3 hg3)
  have HR1 := hide (HO12.out.of_block fun k hk => hm3.block k (HA2.out k hk).1 (HA2.out k hk).2.2.2.2.2)
  have HR2 : Hid (Own w3 (.slice a2 l2 cc2) (rdB S x.pt)) := hide (HO2.out.of_block fun k hk => hm3.block k (HB2.out k hk).1 (HB2.out k hk).2.2.2.2.2)
  clear hd3 hm3 hg3 c0 c1 c2 k1 k2 k3 k4
  obtain ⟨a1', c1', e1, -, -, -, hr1, -⟩ := HR1.out.shape
  obtain ⟨a2', c2', e2, -, -, -, hr2, -⟩ := HR2.out.shape
  cases e1
  cases e2
  have HSB := hide (sameb_any a1 a2 _ _ cc1 cc2 _ _ w3 rfl rfl (Nat.le_trans (rdB_len HP0.out.pr.d.good HB.out.ls HB.out.l8 x.pt) (by omega)) (Nat.le_trans (rdB_len HP0.out.pr.d.good HB.out.ls HB.out.l8 x.pt) (by omega)) hr1 hr2)
  rw [show sameB (rdB S x.pt) (rdB S x.pt) = true from sameB_self _] at HSB
  clear hr1 hr2
  have hee : (((rdE S x.pt : Nat) : Int) == ((rdE S x.pt : Nat) : Int)) = true := by simp
  go_wp2_with fail
  refine HSB.out.mono ?_
  rintro r' w4 ⟨rfl, hb4⟩
  have HP4 := hide (HP3.out.below hb4)
  clear hb4
  go_wp2
  go_ret
  refine ⟨rfl, n + 1, m, O, O3, OB', by omega, by omega, ?_⟩
  rw [HST.out]
  exact HP4.out.pr
end Go.Proofs.Ytkammfkknfflgaa
