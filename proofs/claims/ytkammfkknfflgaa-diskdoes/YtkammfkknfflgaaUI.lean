/- An act of the kind look at Pending: both disks do it. -/
import Derived.Test.YtkammfkknfflgaaUM
namespace Go.Proofs.Ytkammfkknfflgaa
open Go.RowKit
set_option linter.unusedVariables false
/-- ints that were made, as a book takes them. -/
theorem ownI_K {w : World} {v : Value} {zs : List Nat} (h : OwnI w v zs) : Bo.OwnK .i64 3 w v (zs.map fun (n : Nat) => (n : Int)) := by
  unfold OwnI at h
  unfold Bo.OwnK
  rw [List.length_map, List.map_map]
  exact h
theorem r_pending {w : World} {r : Nat} {S : DS} {O : Nat → Prop} (h : RdAt w r S O) : Calls Try.prog 50 #[.pointer (some ⟨r, 0, none⟩)] w fun e w' => ∃ v, e = .returned v ∧ OwnI w' v (S.ws.map (·.1)) ∧ News w v ∧ Below w.heap.size w w' := by
  obtain ⟨vl, Ls, vc, Cs, f, h, ho⟩ := h
  exact rpending_any h
set_option maxHeartbeats 6400000 in
set_option maxRecDepth 1000000 in
theorem does5 (x : Ac) (hx : x.k % 9 = 5) (w0 w : World) (pp p q r bq n m L M : Nat) (S : DS) (O O2 OB : Nat → Prop) (h : Pr w0.heap.size w0 w pp p q r bq n m S S O O2 OB) (hok : x.Ok w0) (hbd : Bd S L M) (hM : M ≤ 4000000) (hn : n ≤ 40000000) (hm : m ≤ 40000000) (hdl : x.db.length ≤ 2000000) (hkl : x.kb.length ≤ 2000000) :
    Calls Try.prog 26 #[.pointer (some ⟨pp, 0, none⟩), .agg (acv x)] w fun e w' => DoesOut x w0 pp p q r bq n m S e w' := by
  have hk : (x.k : Int) % 9 = 5 := by omega
  have HP0 := hide (Pa.start h hok)
  have HB := hide hbd
  have HDL := hide hdl
  have HKL := hide hkl
  have HMM := hide hM
  have HNN := hide hn
  have HNM := hide hm
  have HST : Hid (stp S x = S) := hide (by unfold stp; rw [if_neg (by omega), if_neg (by omega), if_neg (by omega), if_neg (by omega), if_pos (.inl hx)])
  have hsz : w.heap.size = w.heap.size := rfl
  unfold acv at HP0
  clear hbd h hok hdl hkl hM hn hm hx
  generalize hab : w.heap.size = ab at HP0
  unfold acv
  go_enter Try.func26, Try.ntmps26
  obtain ⟨c0, c1, c2, k1, k2, k3, k4⟩ := HP0.out.cells
  go_wp2_with fail
  refine (pending_any p q O S _ HP0.out.pr.d).mono ?_
  rintro r' w1 ⟨v1, rfl, ho1, hn1, hb1⟩
  obtain ⟨Z, HZ⟩ : ∃ Z, Hid (Z = S.ws.map (·.1)) := ⟨_, rfl⟩
  rw [← HZ.out] at ho1
  have HP1 := hide (HP0.out.below hb1)
  obtain ⟨a1, cc1, rfl, -⟩ := ho1.row
  have HO1 := hide ho1
  have HA1 := hide (HP0.out.pr.new (w := w1) hb1.size hn1 (fun k hk => (World.ownsRow.lt ho1 k hk).2))
  have HB1 := hide (HP0.out.newa hn1)
  have HWL : Hid (Z.length ≤ 40000000) := hide (by rw [HZ.out, List.length_map]; exact HP0.out.pr.d.good.few)
  clear hn1 hb1 ho1
  clear c0 c1 c2 k1 k2 k3 k4
  obtain ⟨c0, c1, c2, k1, k2, k3, k4⟩ := HP1.out.cells
  go_wp2_with fail
  refine (bk_ints bq n m OB _ HP1.out.pr.b a1 _ cc1 _ (ownI_K HO1.out) (List.length_map ..) (fun k hk => (HA1.out k hk).2.2.2.2.2) (by have h1 := HWL.out; rw [List.length_map]; omega) (Nat.le_trans HNM.out (by omega))).mono ?_
  rintro r' w3 ⟨rfl, OB', hd3, hm3, hg3⟩
  have HP3 := hide (HP1.out.moveB HA1.out HB1.out hd3 hm3 hg3)
  have HR1 := hide (HO1.out.of_block fun k hk => hm3.block k (HA1.out k hk).1 (HA1.out k hk).2.2.2.2.2)
  clear hd3 hm3 hg3
  clear c0 c1 c2 k1 k2 k3 k4
  obtain ⟨c0, c1, c2, k1, k2, k3, k4⟩ := HP3.out.cells
  go_wp2_with fail
  refine (r_pending HP3.out.pr.r).mono ?_
  rintro r' w4 ⟨v2, rfl, ho2, -, hb4⟩
  rw [← HZ.out] at ho2
  have HP4 := hide (HP3.out.below hb4)
  have hr1 := HR1.out.of_block (w' := w4) fun k hk => hb4.block k (World.ownsRow.lt HR1.out k hk).2
  obtain ⟨a1', c1', e1, ir1⟩ := hr1.row
  obtain ⟨a2, cc2, rfl, ir2⟩ := ho2.row
  cases e1
  have HSI := hide (samei_any a1 a2 _ cc1 cc2 _ w4 rfl (Nat.le_trans HWL.out (by omega)) ir1 ir2)
  clear hb4 ho2 hr1 ir1 ir2 c0 c1 c2 k1 k2 k3 k4
  go_wp2_with fail
  refine HSI.out.mono ?_
  rintro r' w5 ⟨rfl, hb5⟩
  have HP5 := hide (HP4.out.below hb5)
  clear hb5
  go_wp2
  go_ret
  refine ⟨rfl, n, m + 1, O, O2, OB', by omega, by omega, ?_⟩
  rw [HST.out]
  exact HP5.out.pr
end Go.Proofs.Ytkammfkknfflgaa
