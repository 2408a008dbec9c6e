/- The content of a page. -/
import Derived.Test.YtobokocpapfjbaaGreatRD
import Derived.Defers
import Derived.Recover
namespace Go.Proofs.YtobokocpapfjbaaGreat
open Go.RowKit
set_option linter.unusedVariables false

theorem made_grown {w w1 w2 : World} {v : Value} {ys : List Int} {r : Option Nat} (hg : w.grownBy w1 r) (h : Made w1 v ys w2) : (∀ k, v.ownBlock = some k → w.heap.size ≤ k) ∧ w.grownBy w2 r :=
  ⟨fun k hk => Nat.le_trans hg.size (h.2.1 k hk), grown_trans hg (grown_below h.2.2)⟩
theorem own_grown {w w' : World} {v : Value} {ys : List Int} {p : Nat} (h : Own w v ys) (hg : w.grownBy w' (some p)) (hp : v.ownBlock ≠ some p) : Own w' v ys :=
  h.of_block fun k hk => hg.block k (h.lt hk) (fun e => hp (by rw [hk, e]))
/-- what reading a page comes to. -/
def ContOut (O : Option (Nat × List Int)) (p : Nat) (w : World) (e : Ending) (w' : World) : Prop :=
  (∀ kind pl, O = some (kind, pl) → ∃ v, e = .returned (.agg #[.int .u8 (kind : Int), v]) ∧ Own w' v pl ∧ (∀ k, v.ownBlock = some k → w.heap.size ≤ k)) ∧ (O = none → e = .panicked flt) ∧ w.grownBy w' (some p)
theorem ContOut.no {O : Option (Nat × List Int)} {p : Nat} {w w' : World} (h : O = none) (hg : w.grownBy w' (some p)) : ContOut O p w (.panicked flt) w' :=
  ⟨fun k pl e => by rw [h] at e; contradiction, fun _ => rfl, hg⟩
theorem small8 {x : List Int} {n : Nat} (h : Byts x) (hl : x.length = n) : Crc.leV x < 256 ^ n := by rw [← hl]; exact Crc.leV_lt x h

set_option maxHeartbeats 1600000 in
set_option maxRecDepth 1000000 in
theorem content_any (p number : Nat) (zs : List Int) (w : World) (h : Rdr w p zs) (hn : number < 4294967296) :
    Calls Tryz.prog 92 #[.pointer (some ⟨p, 0, none⟩), .int .u32 (number : Int)] w fun e w' => ContOut (Pg.opn number zs) p w e w' := by
  have h8 := h.byts
  have hpw := h.lt
  have HA : Hid (w.grownBy (w.alloc (.cells #[.int .u8 0, .slice none 0 0] 170)) (some p)) := hide (grown_below (below_alloc _ _))
  have HQ : Hid ((w.alloc (.cells #[.int .u8 0, .slice none 0 0] 170)).heap[w.heap.size]? = some (.cells #[.int .u8 0, .slice none 0 0] 170 (0, 0))) := hide (heap_alloc_new w _)
  have HS : Hid (w.heap.size < (w.alloc (.cells #[.int .u8 0, .slice none 0 0] 170)).heap.size) := by rw [Hid]; simp
  have HU := hide (unseal_gen p 1024 zs _ (h.below (below_alloc w (.cells #[.int .u8 0, .slice none 0 0] 170))) (by omega) (by omega))
  by_cases hrt : Pg.Rt 1024 zs
  · obtain ⟨x1, x2, x3, x4, x5, x6, R, hcut, l1, l2, l3, l4, l5, l6, lR⟩ := Pg.cut6 (zs.take 1020) (by rw [List.length_take, hrt.1]; rfl)
    have hb := h8.take 1020
    rw [hcut] at hb
    have bx : ∀ l : List Int, (∀ c ∈ l, c ∈ x1 ++ (x2 ++ (x3 ++ (x4 ++ (x5 ++ (x6 ++ R)))))) → Byts l := fun l hl c hc => hb c (hl c hc)
    have b1 := bx x1 (fun c hc => by simp [hc])
    have b2 := bx x2 (fun c hc => by simp [hc])
    have b3 := bx x3 (fun c hc => by simp [hc])
    have b4 := bx x4 (fun c hc => by simp [hc])
    have b5 := bx x5 (fun c hc => by simp [hc])
    have b6 := bx x6 (fun c hc => by simp [hc])
    have bR := bx R (fun c hc => by simp [hc])
    obtain ⟨HY, HN⟩ := Pg.opn_cut h8 hrt hcut l1 l2 l3 l4 l5 l6 lR hn
    have v2 := small8 b2 l2
    have v4 := small8 b4 l4
    have v5 := small8 b5 l5
    have p4 : (256 : Nat) ^ 4 = 4294967296 := by decide
    have p2 : (256 : Nat) ^ 2 = 65536 := by decide
    have p1 : (256 : Nat) ^ 1 = 256 := by decide
    rw [p1] at v2
    rw [p4] at v4
    rw [p2] at v5
    rw [hcut] at HU
    have HRt := hide hrt
    generalize hO : Pg.opn number zs = O at *
    have HY := hide HY
    have HN := hide HN
    have N2 : Hid (∀ W, Rdr W p (x2 ++ (x3 ++ (x4 ++ (x5 ++ (x6 ++ R))))) → _) := hide fun W h => num_ok p 1 x2 _ W l2 (by omega) h b2
    have N4 : Hid (∀ W, Rdr W p (x4 ++ (x5 ++ (x6 ++ R))) → _) := hide fun W h => num_ok p 4 x4 _ W l4 (by omega) h b4
    have N5 : Hid (∀ W, Rdr W p (x5 ++ (x6 ++ R)) → _) := hide fun W h => num_ok p 2 x5 _ W l5 (by omega) h b5
    have M1 : Hid (∀ W, Rdr W p (x1 ++ (x2 ++ (x3 ++ (x4 ++ (x5 ++ (x6 ++ R)))))) → _) := hide fun W h => mark_gen p [67, 80] x1 _ W h l1 (by simp) (by unfold Byts; decide) b1
    have Z3 : Hid (∀ W, Rdr W p (x3 ++ (x4 ++ (x5 ++ (x6 ++ R)))) → _) := hide fun W h => nil_gen p 1 x3 _ W h l3 (by omega) b3
    have Z6 : Hid (∀ W, Rdr W p (x6 ++ R) → _) := hide fun W h => nil_gen p 2 x6 _ W h l6 (by omega) b6
    have BR := hide bR
    have LR := hide lR
    clear hO h8 h hrt hcut l1 l2 l3 l4 l5 l6 lR hb bx b1 b2 b3 b4 b5 b6 bR p1 p2 p4
    generalize Crc.leV x2 = K at *
    generalize Crc.leV x4 = V at *
    generalize Crc.leV x5 = L at *
    go_enter Tryz.func92, Tryz.ntmps92
    go_wp2_with fail
    refine HU.out.mono ?_
    rintro e w1 ⟨⟨hy, -⟩, hg1⟩
    obtain ⟨rfl, hr1⟩ := hy HRt.out
    have HG1 := hide hg1
    have HR1 := hide hr1
    clear hg1 hr1 hy HU
    go_wp2_with fail
    refine (M1.out _ HR1.out).mono ?_
    rintro e w2 ⟨⟨hy, hno⟩, hr2, hg2⟩
    have HG2 := hide (grown_trans HG1.out hg2)
    have HR2 := hide hr2
    clear hg2 hr2
    by_cases c1 : x1 = [67, 80]
    rotate_left
    · have HO := hide (HN.out fun h => c1 h.1)
      obtain rfl := hno c1
      exact ⟨rfl, ContOut.no HO.out (grown_trans HA.out HG2.out)⟩
    obtain rfl := hy c1
    have C1 := hide c1
    clear c1 hy hno M1
    go_wp2_with fail
    refine (N2.out _ HR2.out).mono ?_
    rintro e w3 ⟨rfl, hr3, hg3⟩
    have HG3 := hide (grown_trans HG2.out hg3)
    have HR3 := hide hr3
    clear hg3 hr3 N2
    by_cases c2 : 1 ≤ K ∧ K ≤ 4
    rotate_left
    · have HO := hide (HN.out fun h => c2 ⟨h.2.1, h.2.2.1⟩)
      go_wp2_with fail
      refine (kind_no K _ c2).mono ?_
      rintro e w' ⟨rfl, rfl⟩
      go_wp2_with fail
      refine (must_no _ _ rfl _).mono ?_
      rintro e w' ⟨rfl, rfl⟩
      exact ⟨rfl, ContOut.no HO.out (grown_trans HA.out HG3.out)⟩
    have C2 := hide c2
    clear c2
    go_wp2_with fail
    refine (kind_yes K _ C2.out.1 C2.out.2).mono ?_
    rintro e w' ⟨rfl, rfl⟩
    go_wp2_with fail
    refine (must_yes _ _ rfl _).mono ?_
    rintro e w3 ⟨rfl, rfl⟩
    go_wp2_with fail
    refine (Z3.out _ HR3.out).mono ?_
    rintro e w4 ⟨⟨hy, hno⟩, hr4, hg4⟩
    have HG4 := hide (grown_trans HG3.out hg4)
    clear hg4 Z3
    by_cases c3 : x3 = [0]
    rotate_left
    · have HO := hide (HN.out fun h => c3 h.2.2.2.1)
      obtain rfl := hno c3
      exact ⟨rfl, ContOut.no HO.out (grown_trans HA.out HG4.out)⟩
    obtain rfl := hy c3
    have HR4 := hide (hr4 c3)
    have C3 := hide c3
    clear c3 hy hno hr4
    go_wp2_with fail
    refine (N4.out _ HR4.out).mono ?_
    rintro e w5 ⟨rfl, hr5, hg5⟩
    have HG5 := hide (grown_trans HG4.out hg5)
    have HR5 := hide hr5
    clear hg5 hr5 N4
    by_cases c4 : V = number
    rotate_left
    · have HO := hide (HN.out fun h => c4 h.2.2.2.2.1)
      have hne : ((V : Int) == (number : Int)) = false := by simp; omega
      clear c4
      go_wp2_with fail
      refine (must_no _ _ rfl _).mono ?_
      rintro e w' ⟨rfl, rfl⟩
      exact ⟨rfl, ContOut.no HO.out (grown_trans HA.out HG5.out)⟩
    subst c4
    go_wp2_with fail
    refine (must_yes _ _ (by simp) _).mono ?_
    rintro e w5 ⟨rfl, rfl⟩
    go_wp2_with fail
    refine (N5.out _ HR5.out).mono ?_
    rintro e w6 ⟨rfl, hr6, hg6⟩
    have HG6 := hide (grown_trans HG5.out hg6)
    have HR6 := hide hr6
    clear hg6 hr6 N5
    go_wp2_with fail
    refine (Z6.out _ HR6.out).mono ?_
    rintro e w7 ⟨⟨hy, hno⟩, hr7, hg7⟩
    have HG7 := hide (grown_trans HG6.out hg7)
    clear hg7 Z6
    by_cases c6 : x6 = [0, 0]
    rotate_left
    · have HO := hide (HN.out fun h => c6 h.2.2.2.2.2.1)
      obtain rfl := hno c6
      exact ⟨rfl, ContOut.no HO.out (grown_trans HA.out HG7.out)⟩
    obtain rfl := hy c6
    have HR7 := hide (hr7 c6)
    have C6 := hide c6
    clear c6 hy hno hr7
    by_cases c5 : L ≤ 1008
    rotate_left
    · have HO := hide (HN.out fun h => c5 h.2.2.2.2.2.2.1)
      go_wp2_with fail
      refine (take_no p L R _ (by rw [LR.out]; omega) (by omega) HR7.out).mono ?_
      rintro e w' ⟨rfl, hg8⟩
      exact ⟨rfl, ContOut.no HO.out (grown_trans HA.out (grown_trans HG7.out hg8))⟩
    have eR : R.take L ++ R.drop L = R := List.take_append_drop _ _
    have lT : (R.take L).length = L := by rw [List.length_take, LR.out]; omega
    have lD : (R.drop L).length = 1008 - L := by rw [List.length_drop, LR.out]
    have BT := hide (BR.out.take L)
    have BD := hide (BR.out.drop L)
    have HR7' : Hid (Rdr w7 p (R.take L ++ R.drop L)) := by rw [eR]; exact HR7
    clear HR7
    generalize R.take L = T at *
    generalize R.drop L = D at *
    have LT := hide lT
    have LD := hide lD
    clear eR lT lD BR LR
    go_wp2_with fail
    refine (take_ok p L T D _ LT.out HR7'.out).mono ?_
    rintro e w8 ⟨a8, c8, rfl, hk8, hc8, hn8, hrow8, hr8, hg8⟩
    have HR8 := hide hr8
    have HG8 := hide (grown_trans HG7.out hg8)
    have HCl := hide (clone_any a8 L c8 T w8 LT.out hn8 hrow8.row (by omega))
    clear hn8 hrow8 hr8 hg8
    go_wp2_with fail
    refine HCl.out.mono ?_
    rintro e w9 ⟨v9, rfl, hm9⟩
    obtain ⟨hnew, hg9⟩ := made_grown (grown_trans HA.out HG8.out) hm9
    have HR9 := hide (HR8.out.below hm9.2.2)
    have HNq : Hid (∀ k, v9.ownBlock = some k → k ≠ w.heap.size) := by
      intro k hk
      have h1 := hm9.2.1 k hk
      have h2 := HG8.out.size
      have h3 := HS.out
      omega
    have HM9 := hide hm9.1
    have HNew := hide hnew
    have HG9 := hide hg9
    have HG9' := hide (grown_trans HG8.out (grown_below hm9.2.2))
    obtain ⟨a9, n9, c9, rfl, -⟩ := hm9.1.shape2
    obtain ⟨q9, d9, k9, f9⟩ := HR9.out.cells
    rw [LD.out] at k9
    clear hm9 hnew hg9 HCl
    have HZ := hide (nil_gen p (1008 - L) D [] w9 (by rw [List.append_nil]; exact HR9.out) LD.out (by omega) BD.out)
    go_wp2_with fail
    refine HZ.out.mono ?_
    rintro e w10 ⟨⟨hy, hno⟩, -, hg10⟩
    have HG10 := hide (grown_trans HG9.out hg10)
    have HG10' := hide (grown_trans HG9'.out hg10)
    by_cases c7 : D = List.replicate (1008 - L) 0
    rotate_left
    · have HO := hide (HN.out fun h => c7 h.2.2.2.2.2.2.2)
      obtain rfl := hno c7
      exact ⟨rfl, ContOut.no HO.out HG10.out⟩
    obtain rfl := hy c7
    have HO := hide (HY.out C1.out C2.out.1 C2.out.2 C3.out trivial C6.out c5 c7)
    have HOw : Hid (Own w10 (.slice a9 n9 c9) T) := hide (own_grown HM9.out hg10 (fun e => by have := HNew.out p e; omega))
    have hqp : some w.heap.size ≠ some p := by
      intro e
      have e2 : w.heap.size = p := by simpa using e
      omega
    have hq : w10.heap[w.heap.size]? = some (.cells #[.int .u8 0, .slice none 0 0] 170 (0, 0)) := (HG10'.out.block w.heap.size HS.out hqp).trans HQ.out
    obtain ⟨q0, q1, f0⟩ := cells_two hq
    have f1 : w10.frozen? ⟨w.heap.size, 1, none⟩ = false := by simp [World.frozen?, hq]
    have HQ2 : Hid (w10.heap[w.heap.size]? = some (.cells #[.int .u8 0, .slice none 0 0] 170 (0, 0))) := hide hq
    have HQP := hide hqp
    clear hq hqp
    clear hy hno c7 hg10
    go_wp2
    have hA : (w10.setCell ⟨w.heap.size, 0, none⟩ (.int .u8 (K : Int))).heap[w.heap.size]? = some (.cells #[.int .u8 (K : Int), .slice none 0 0] 170 (0, 0)) := by
      rw [heap_setCell_same w10 w.heap.size 0 _ 170 _ HQ2.out]; rfl
    obtain ⟨q0', -, -⟩ := cells_two hA
    have hB2 : ((w10.setCell ⟨w.heap.size, 0, none⟩ (.int .u8 (K : Int))).setCell ⟨w.heap.size, 1, none⟩ (.slice a9 n9 c9)).heap[w.heap.size]? = some (.cells #[.int .u8 (K : Int), .slice a9 n9 c9] 170 (0, 0)) := by
      rw [heap_setCell_same _ w.heap.size 1 _ 170 _ hA]; rfl
    obtain ⟨-, q1', -⟩ := cells_two hB2
    refine bodyPost_ret (v := .agg #[.int .u8 (K : Int), .slice a9 n9 c9]) ?_ rfl ?_
    · simp [results, Tryz.results92, go_sem, q0', q1']
    · refine ⟨fun kind pl h => ?_, fun h => ?_, ?_⟩
      · rw [HO.out] at h
        cases h
        refine ⟨_, rfl, HOw.out.of_block fun k hk => ?_, HNew.out⟩
        have hne := HNq.out k hk
        rw [Below.heap_setCell _ _ _ _ hne, Below.heap_setCell _ _ _ _ hne]
      · rw [HO.out] at h
        cases h
      · refine ⟨HG10.out.os, HG10.out.tape, HG10.out.output, by have := HG10.out.size; simpa [World.setCell] using this, fun k hk hne => ?_⟩
        rw [Below.heap_setCell _ _ _ _ (show k ≠ w.heap.size by omega), Below.heap_setCell _ _ _ _ (show k ≠ w.heap.size by omega)]
        exact HG10.out.block k hk hne
  · have HO := hide (Pg.opn_wrong (number := number) h8 hrt)
    have HRt := hide hrt
    clear h8 hrt h
    generalize Pg.opn number zs = O at *
    go_enter Tryz.func92, Tryz.ntmps92
    go_wp2_with fail
    refine HU.out.mono ?_
    rintro e w1 ⟨⟨-, hno⟩, hg1⟩
    obtain rfl := hno HRt.out
    exact ⟨rfl, ContOut.no HO.out (grown_trans HA.out hg1)⟩
end Go.Proofs.YtobokocpapfjbaaGreat
/- The reader's face: what it gives up with is taken for the answer. -/
namespace Go.Proofs.YtobokocpapfjbaaGreat
open Go.RowKit
set_option linter.unusedVariables false

theorem ta_yes170 (v : Value) (w : World) : (Instr.typeAssert (.iface 232 v) 20 232 true).run Tryz.prog w = .ok (.tuple #[v, .bool true]) w := by
  simp [Instr.typeAssert, run_underlying Tryz.underlying232]

set_option maxHeartbeats 800000 in
theorem catch_panic (p : Addr) (x : Int) (older : List PanicEntry) (w : World) (hc : w.cell? p = some (.int .u16 x)) (hz : w.frozen? p = false) :
    CallsD Tryz.prog 106 #[.pointer (some p)] (.panicking ({ v := .iface 232 (.agg #[]), recovered := false } :: older)) w fun e u' w' =>
      e = .returned (.tuple #[]) ∧ u' = .panicking ({ v := .iface 232 (.agg #[]), recovered := true } :: older) ∧ w' = (w.alloc (.cells #[] 232)).setCell p (.int .u16 80) := by
  have hta := ta_yes170
  have hlt : p.block < w.heap.size := World.block_lt_of_cell? w _ hc
  have hc' : (w.alloc (.cells #[] 232)).cell? p = some (.int .u16 x) := ((below_alloc w _).cell hlt).trans hc
  have hz' : (w.alloc (.cells #[] 232)).frozen? p = false := ((below_alloc w _).frozen hlt).trans hz
  refine callsD_of_wpS Tryz.func106 rfl fun c₀ cs hu => ?_
  apply wpS_seq
  apply wpS_region
  simp [wpOpsS, go_sem, recoverD, hu, Tryz.ntmps106, Exit.thenS]
  have htm : (#[Value.pointer (some p)] ++ ((Array.replicate 14 undef).setIfInBounds 3 (Value.iface 232 (Value.agg #[]))).setIfInBounds 0 (Value.iface 232 (Value.agg #[]))) = #[.pointer (some p), .iface 232 (.agg #[]), undef, undef, .iface 232 (.agg #[]), undef, undef, undef, undef, undef, undef, undef, undef, undef, undef] := rfl
  rw [htm]
  refine wpS_of_wp ?_
  go_wp2
  cases c₀
  simp_all [bodyPostS, results, Tryz.results106]

set_option maxHeartbeats 800000 in
theorem catch_idle (p : Addr) (w : World) :
    CallsD Tryz.prog 106 #[.pointer (some p)] .returning w fun e u' w' => e = .returned (.tuple #[]) ∧ u' = .returning ∧ w' = w := by
  refine callsD_of_wpS Tryz.func106 rfl fun c₀ cs hu => ?_
  apply wpS_seq
  apply wpS_region
  simp [wpOpsS, go_sem, recoverD, hu, Tryz.ntmps106, Exit.thenS]
  have htm : (#[Value.pointer (some p)] ++ ((Array.replicate 14 undef).setIfInBounds 3 Value.nilIface).setIfInBounds 0 Value.nilIface) = #[.pointer (some p), .nilIface, undef, undef, .nilIface, undef, undef, undef, undef, undef, undef, undef, undef, undef, undef] := rfl
  rw [htm]
  refine wpS_of_wp ?_
  go_wp2
  cases c₀
  simp_all [bodyPostS, results, Tryz.results106]
end Go.Proofs.YtobokocpapfjbaaGreat
/- Open: what a page of a number has. -/
namespace Go.Proofs.YtobokocpapfjbaaGreat
open Go.RowKit
set_option linter.unusedVariables false

theorem two_set {w : World} {q t : Nat} {a b u v : Value} (h : w.heap[q]? = some (.cells #[a, b] t (0, 0))) :
    (w.setCell ⟨q, 0, none⟩ u).heap[q]? = some (.cells #[u, b] t (0, 0)) ∧ ((w.setCell ⟨q, 0, none⟩ u).setCell ⟨q, 1, none⟩ v).heap[q]? = some (.cells #[u, v] t (0, 0)) := by
  have h1 : (w.setCell ⟨q, 0, none⟩ u).heap[q]? = some (.cells #[u, b] t (0, 0)) := by rw [heap_setCell_same w q 0 _ t _ h]; rfl
  exact ⟨h1, by rw [heap_setCell_same _ q 1 _ t _ h1]; rfl⟩
theorem frozen_blk {w : World} {q t j : Nat} {cs : Array Value} (h : w.heap[q]? = some (.cells cs t (0, 0))) : w.frozen? ⟨q, j, none⟩ = false := by simp [World.frozen?, h]
theorem two_grown {w w' : World} {q : Nat} {u v : Value} {r : Option Nat} {B : Nat} (hg : w.grownBy w' r) (hq : w.heap.size ≤ q) : w.grownBy ((w'.setCell ⟨q, 0, none⟩ u).setCell ⟨q, 1, none⟩ v) r := by
  refine ⟨hg.os, hg.tape, hg.output, by have := hg.size; simpa [World.setCell] using this, fun k hk hne => ?_⟩
  rw [Below.heap_setCell _ _ _ _ (show k ≠ q by omega), Below.heap_setCell _ _ _ _ (show k ≠ q by omega)]
  exact hg.block k hk hne

set_option maxHeartbeats 1600000 in
set_option maxRecDepth 1000000 in
theorem open1_any (p q number : Nat) (zs : List Int) (w : World) (h : Rdr w p zs) (hn : number < 4294967296) (hq : w.cell? ⟨q, 0, none⟩ = some (.int .u32 (number : Int))) :
    Calls Tryz.prog 91 #[.pointer (some ⟨p, 0, none⟩), .pointer (some ⟨q, 0, none⟩)] w fun e w' => ContOut (Pg.opn number zs) p w e w' := by
  have hpw := h.lt
  have HA : Hid (w.grownBy (w.alloc (.cells #[.int .u8 0, .slice none 0 0] 170)) (some p)) := hide (grown_below (below_alloc _ _))
  have HQ : Hid ((w.alloc (.cells #[.int .u8 0, .slice none 0 0] 170)).heap[w.heap.size]? = some (.cells #[.int .u8 0, .slice none 0 0] 170 (0, 0))) := hide (heap_alloc_new w _)
  have HS : Hid (w.heap.size < (w.alloc (.cells #[.int .u8 0, .slice none 0 0] 170)).heap.size) := by rw [Hid]; simp
  have HC := hide (content_any p number zs _ (h.below (below_alloc w (.cells #[.int .u8 0, .slice none 0 0] 170))) hn)
  have hq0 : (w.alloc (.cells #[.int .u8 0, .slice none 0 0] 170)).cell? ⟨q, 0, none⟩ = some (.int .u32 (number : Int)) := ((below_alloc w _).cell (p := ⟨q, 0, none⟩) (World.block_lt_of_cell? w _ hq)).trans hq
  clear h
  generalize Pg.opn number zs = O at *
  go_enter Tryz.func91, Tryz.ntmps91
  go_wp2_with fail
  refine HC.out.mono ?_
  rintro e w1 ⟨hy, hno, hg1⟩
  have HG1 := hide hg1
  clear hg1
  cases O with
  | none =>
    obtain rfl := hno rfl
    exact ⟨rfl, ContOut.no rfl (grown_trans HA.out HG1.out)⟩
  | some x =>
    obtain ⟨K, pl⟩ := x
    obtain ⟨v, rfl, hown, hnew⟩ := hy K pl rfl
    obtain ⟨a9, n9, c9, rfl, -⟩ := hown.shape2
    have HOw := hide hown
    have HNew := hide hnew
    have hqp : some w.heap.size ≠ some p := by
      intro e
      have e2 : w.heap.size = p := by simpa using e
      omega
    have hb : w1.heap[w.heap.size]? = some (.cells #[.int .u8 0, .slice none 0 0] 170 (0, 0)) := (HG1.out.block w.heap.size HS.out hqp).trans HQ.out
    obtain ⟨q0, q1, f0⟩ := cells_two hb
    have f1 := frozen_blk (j := 1) hb
    have HB := hide hb
    clear hown hnew hqp hb hy hno
    go_wp2
    obtain ⟨hA, hB⟩ := two_set (u := .int .u8 (K : Int)) (v := .slice a9 n9 c9) HB.out
    obtain ⟨q0', -, -⟩ := cells_two hA
    obtain ⟨-, q1', -⟩ := cells_two hB
    refine bodyPost_ret (v := .agg #[.int .u8 (K : Int), .slice a9 n9 c9]) ?_ rfl ?_
    · simp [results, Tryz.results91, go_sem, q0', q1']
    · refine ⟨fun kind pl' h => ?_, fun h => ?_, two_grown (B := 0) (grown_trans HA.out HG1.out) (Nat.le_refl _)⟩
      · cases h
        refine ⟨_, rfl, HOw.out.of_block fun k hk => ?_, fun k hk => ?_⟩
        · have hne : k ≠ w.heap.size := by have := HNew.out k hk; have := HS.out; omega
          rw [Below.heap_setCell _ _ _ _ hne, Below.heap_setCell _ _ _ _ hne]
        · have := HNew.out k hk; have := HS.out; omega
      · cases h

/-- what opening comes to. -/
def OpenOut (O : Option (Nat × List Int)) (w : World) (e : Ending) (w' : World) : Prop :=
  (∀ kind pl, O = some (kind, pl) → ∃ v, e = .returned (.tuple #[.agg #[.int .u8 (kind : Int), v], .int .u16 0]) ∧ Made w v pl w') ∧ (O = none → e = .returned (.tuple #[.agg #[.int .u8 0, .slice none 0 0], .int .u16 80]) ∧ Below w.heap.size w w')

set_option maxHeartbeats 1600000 in
set_option maxRecDepth 1000000 in
theorem read_page (q number : Nat) (a : Option Addr) (n c : Nat) (zs : List Int) (w : World) (hn : number < 4294967296) (hq : w.cell? ⟨q, 0, none⟩ = some (.int .u32 (number : Int)))
    (hl : zs.length = n) (hc : n ≤ c) (hm : c ≤ 9223372036854775807) (hb : a = none → n = 0 ∧ c = 0) (hr : Row w a zs) (h8 : Byts zs) :
    Calls Tryz.prog 90 #[.slice a n c, .func (.func 91) #[] #[.pointer (some ⟨q, 0, none⟩)]] w fun e w' => OpenOut (Pg.opn number zs) w e w' := by
  have hmf : ∀ (fn : Fn) (first cap : Array Value) (w : World), (Instr.makeFunc fn first cap).run Tryz.prog w = .ok (.func fn first cap) w := fun _ _ _ _ => rfl
  obtain ⟨w3, hw3⟩ : ∃ w3, w3 = ((w.alloc (Obj.cells #[Value.int IntKind.u8 0, Value.slice none 0 0] 170)).alloc (Obj.cells #[Value.int IntKind.u16 0] 28)).alloc (Obj.cells #[Value.slice a n c] 235) := ⟨_, rfl⟩
  have hB3 : Below w.heap.size w w3 := by rw [hw3]; exact ((((Below.refl _ _).alloc (Nat.le_refl _) _).alloc (by simp) _).alloc (by simp; omega) _)
  have hs3 : w3.heap.size = w.heap.size + 3 := by rw [hw3]; simp
  have hb0 : w3.heap[w.heap.size]? = some (.cells #[.int .u8 0, .slice none 0 0] 170 (0, 0)) := by
    rw [hw3, Below.heap_alloc _ _ _ (by simp; omega), Below.heap_alloc _ _ _ (by simp)]; exact heap_alloc_new w _
  have hb1 : w3.heap[w.heap.size + 1]? = some (.cells #[.int .u16 0] 28 (0, 0)) := by
    rw [hw3, Below.heap_alloc _ _ _ (by simp)]
    have := heap_alloc_new (w.alloc (Obj.cells #[Value.int IntKind.u8 0, Value.slice none 0 0] 170)) (Obj.cells #[Value.int IntKind.u16 0] 28)
    simpa using this
  have hb2 : w3.heap[w.heap.size + 1 + 1]? = some (.cells #[.slice a n c] 235 (0, 0)) := by
    rw [hw3]
    have := heap_alloc_new ((w.alloc (Obj.cells #[Value.int IntKind.u8 0, Value.slice none 0 0] 170)).alloc (Obj.cells #[Value.int IntKind.u16 0] 28)) (Obj.cells #[Value.slice a n c] 235)
    simpa using this
  have hrd : Rdr w3 (w.heap.size + 1 + 1) zs := by
    refine ⟨a, n, c, hb2, hl, hc, hm, hb, ?_, h8⟩
    rcases hr with h | ⟨b, off, h1, h2, h3⟩
    · exact .inl h
    · exact .inr ⟨b, off, h1, by omega, by omega, fun i hi => (hB3.cell (p := ⟨b, off + i, none⟩) h2).trans (h3 i hi)⟩
  have HC := hide (open1_any (w.heap.size + 1 + 1) q number zs w3 hrd hn ((hB3.cell (p := ⟨q, 0, none⟩) (World.block_lt_of_cell? w _ hq)).trans hq))
  rw [hw3] at HC
  have HW3 := hide hw3
  have HB0 := hide hb0
  have HB1 := hide hb1
  have HB3 := hide hB3
  have HS3 := hide hs3
  clear hw3 hB3 hs3 hb0 hb1 hb2 hrd hl hc hm hb hr h8 hq
  generalize Pg.opn number zs = O at *
  go_enter_defers Tryz.func90, Tryz.ntmps90
  go_wp2_with fail
  refine HC.out.mono ?_
  rw [← HW3.out]
  rintro e w4 ⟨hy, hno, hg4⟩
  have HG4 := hide hg4
  clear hg4
  cases O with
  | none =>
    obtain rfl := hno rfl
    have hb1 : w4.heap[w.heap.size + 1]? = some (.cells #[.int .u16 0] 28 (0, 0)) := (HG4.out.block _ (by rw [HS3.out]; omega) (by simp)).trans HB1.out
    have hb0 : w4.heap[w.heap.size]? = some (.cells #[.int .u8 0, .slice none 0 0] 170 (0, 0)) := (HG4.out.block _ (by rw [HS3.out]; omega) (by simp; omega)).trans HB0.out
    have hs4 := HG4.out.size
    have HB4 : Hid (Below w.heap.size w w4) := hide ⟨HG4.out.os.trans HB3.out.os, HG4.out.tape.trans HB3.out.tape, HG4.out.output.trans HB3.out.output, Nat.le_trans HB3.out.size HG4.out.size, fun k hk => (HG4.out.block k (by rw [HS3.out]; omega) (by simp; omega)).trans (HB3.out.block k hk)⟩
    rw [HS3.out] at hs4
    clear hy hno HC
    go_wp2
    refine leaves_cons (f := 106) (args := #[.pointer (some ⟨w.heap.size + 1, 0, none⟩)]) (by simp) (by simp [go_sem]) ?_
    refine (catch_panic ⟨w.heap.size + 1, 0, none⟩ 0 [] _ (cell_of_one hb1) (free_of_one hb1)).mono ?_
    rintro e u' w'' ⟨rfl, rfl, rfl⟩
    have hc1 : (w4.alloc (.cells #[] 232)).heap[w.heap.size + 1]? = some (.cells #[.int .u16 0] 28 (0, 0)) := (Below.heap_alloc w4 _ _ (by omega)).trans hb1
    have hc0 : (w4.alloc (.cells #[] 232)).heap[w.heap.size]? = some (.cells #[.int .u8 0, .slice none 0 0] 170 (0, 0)) := (Below.heap_alloc w4 _ _ (by omega)).trans hb0
    have hd1 := one_setCell (u := .int .u16 80) hc1
    have hd0 : ((w4.alloc (.cells #[] 232)).setCell ⟨w.heap.size + 1, 0, none⟩ (.int .u16 80)).heap[w.heap.size]? = some (.cells #[.int .u8 0, .slice none 0 0] 170 (0, 0)) := (Below.heap_setCell _ _ _ _ (show w.heap.size ≠ w.heap.size + 1 by omega)).trans hc0
    have HB5 : Hid (Below w.heap.size w ((w4.alloc (.cells #[] 232)).setCell ⟨w.heap.size + 1, 0, none⟩ (.int .u16 80))) := hide (((HB4.out.trans ((below_alloc w4 _).mono HB4.out.size))).setCell (p := ⟨w.heap.size + 1, 0, none⟩) (show w.heap.size ≤ w.heap.size + 1 by omega) _)
    generalize (w4.alloc (.cells #[] 232)).setCell ⟨w.heap.size + 1, 0, none⟩ (.int .u16 80) = w5 at *
    obtain ⟨q0, q1, -⟩ := cells_two hd0
    have q2 := cell_of_one hd1
    simp [Leaves, settle, results, Tryz.results90, go_sem, q0, q1, q2, OpenOut]
    exact HB5.out
  | some x =>
    obtain ⟨K, pl⟩ := x
    obtain ⟨v, rfl, hown, hnew⟩ := hy K pl rfl
    obtain ⟨a9, n9, c9, rfl, -⟩ := hown.shape2
    have HOw := hide hown
    have HNew := hide hnew
    have hb1 : w4.heap[w.heap.size + 1]? = some (.cells #[.int .u16 0] 28 (0, 0)) := (HG4.out.block _ (by rw [HS3.out]; omega) (by simp)).trans HB1.out
    have hb0 : w4.heap[w.heap.size]? = some (.cells #[.int .u8 0, .slice none 0 0] 170 (0, 0)) := (HG4.out.block _ (by rw [HS3.out]; omega) (by simp; omega)).trans HB0.out
    have HB4 : Hid (Below w.heap.size w w4) := hide ⟨HG4.out.os.trans HB3.out.os, HG4.out.tape.trans HB3.out.tape, HG4.out.output.trans HB3.out.output, Nat.le_trans HB3.out.size HG4.out.size, fun k hk => (HG4.out.block k (by rw [HS3.out]; omega) (by simp; omega)).trans (HB3.out.block k hk)⟩
    obtain ⟨q0, q1, f0⟩ := cells_two hb0
    have f1 := frozen_blk (j := 1) hb0
    have q2 := cell_of_one hb1
    have f2 := free_of_one hb1
    have HB0' := hide hb0
    have HB1' := hide hb1
    clear hown hnew hb1 hb0 hy hno HC
    go_wp2
    obtain ⟨-, hB⟩ := two_set (u := .int .u8 (K : Int)) (v := .slice a9 n9 c9) HB0'.out
    have hC : ((w4.setCell ⟨w.heap.size, 0, none⟩ (.int .u8 (K : Int))).setCell ⟨w.heap.size, 1, none⟩ (.slice a9 n9 c9)).heap[w.heap.size + 1]? = some (.cells #[.int .u16 0] 28 (0, 0)) := by
      rw [Below.heap_setCell _ _ _ _ (show w.heap.size + 1 ≠ w.heap.size by omega), Below.heap_setCell _ _ _ _ (show w.heap.size + 1 ≠ w.heap.size by omega)]
      exact HB1'.out
    have hD := one_setCell (u := .int .u16 0) hC
    have hE : (((w4.setCell ⟨w.heap.size, 0, none⟩ (.int .u8 (K : Int))).setCell ⟨w.heap.size, 1, none⟩ (.slice a9 n9 c9)).setCell ⟨w.heap.size + 1, 0, none⟩ (.int .u16 0)).heap[w.heap.size]? = some (.cells #[.int .u8 (K : Int), .slice a9 n9 c9] 170 (0, 0)) :=
      (Below.heap_setCell _ _ _ _ (show w.heap.size ≠ w.heap.size + 1 by omega)).trans hB
    have HB5 : Hid (Below w.heap.size w (((w4.setCell ⟨w.heap.size, 0, none⟩ (.int .u8 (K : Int))).setCell ⟨w.heap.size, 1, none⟩ (.slice a9 n9 c9)).setCell ⟨w.heap.size + 1, 0, none⟩ (.int .u16 0))) :=
      hide (((HB4.out.setCell (p := ⟨w.heap.size, 0, none⟩) (Nat.le_refl _) _).setCell (p := ⟨w.heap.size, 1, none⟩) (Nat.le_refl _) _).setCell (p := ⟨w.heap.size + 1, 0, none⟩) (show w.heap.size ≤ w.heap.size + 1 by omega) _)
    have HOw5 : Hid (Own (((w4.setCell ⟨w.heap.size, 0, none⟩ (.int .u8 (K : Int))).setCell ⟨w.heap.size, 1, none⟩ (.slice a9 n9 c9)).setCell ⟨w.heap.size + 1, 0, none⟩ (.int .u16 0)) (.slice a9 n9 c9) pl) := hide (HOw.out.of_block fun k hk => by
      have h1 := HNew.out k hk
      have h2 := HS3.out
      rw [Below.heap_setCell _ _ _ _ (show k ≠ w.heap.size + 1 by omega), Below.heap_setCell _ _ _ _ (show k ≠ w.heap.size by omega), Below.heap_setCell _ _ _ _ (show k ≠ w.heap.size by omega)])
    have HN5 : Hid (∀ k, (Value.slice a9 n9 c9).ownBlock = some k → w.heap.size ≤ k) := hide fun k hk => by
      have h1 := HNew.out k hk
      have h2 := HS3.out
      omega
    generalize ((w4.setCell ⟨w.heap.size, 0, none⟩ (.int .u8 (K : Int))).setCell ⟨w.heap.size, 1, none⟩ (.slice a9 n9 c9)).setCell ⟨w.heap.size + 1, 0, none⟩ (.int .u16 0) = w5 at *
    clear q0 q1 q2 f0 f1 f2 hB hC
    refine leaves_cons (f := 106) (args := #[.pointer (some ⟨w.heap.size + 1, 0, none⟩)]) (by simp) (by simp [go_sem]) ?_
    refine (catch_idle ⟨w.heap.size + 1, 0, none⟩ _).mono ?_
    rintro e u' w'' ⟨rfl, rfl, rfl⟩
    obtain ⟨q0, q1, -⟩ := cells_two hE
    have q2 := cell_of_one hD
    simp [Leaves, settle, results, Tryz.results90, go_sem, q0, q1, q2, OpenOut]
    exact ⟨HOw5.out, HN5.out, HB5.out⟩
end Go.Proofs.YtobokocpapfjbaaGreat
/- Open. -/
namespace Go.Proofs.YtobokocpapfjbaaGreat
open Go.RowKit
set_option linter.unusedVariables false

theorem Made.below {w W W' : World} {v : Value} {zs : List Int} (h : Made w v zs W) (hb : Below W.heap.size W W') : Made w v zs W' :=
  ⟨h.1.below hb, h.2.1, h.2.2.trans (hb.mono h.2.2.size)⟩
/-- what Open answers. -/
def OpOut (O : Option (Nat × List Int)) (w : World) (e : Ending) (w' : World) : Prop :=
  (∀ kind pl, O = some (kind, pl) → ∃ v, e = .returned (.tuple #[.int .u8 (kind : Int), v, .int .u16 0]) ∧ Made w v pl w') ∧ (O = none → e = .returned (.tuple #[.int .u8 0, .slice none 0 0, .int .u16 80]) ∧ Below w.heap.size w w')

set_option maxHeartbeats 1600000 in
set_option maxRecDepth 1000000 in
theorem open_any (number : Nat) (a : Option Addr) (n c : Nat) (zs : List Int) (w : World) (hn : number < 4294967296)
    (hl : zs.length = n) (hc : n ≤ c) (hm : c ≤ 9223372036854775807) (hb : a = none → n = 0 ∧ c = 0) (hr : Row w a zs) (h8 : Byts zs) :
    Calls Tryz.prog 49 #[.int .u32 (number : Int), .slice a n c] w fun e w' => OpOut (Pg.opn number zs) w e w' := by
  have hmf : ∀ (fn : Fn) (first cap : Array Value) (w : World), (Instr.makeFunc fn first cap).run Tryz.prog w = .ok (.func fn first cap) w := fun _ _ _ _ => rfl
  have HB0 := hide (below_alloc w (.cells #[.int .u32 (number : Int)] 67))
  have HC := hide (read_page w.heap.size number a n c zs (w.alloc (.cells #[.int .u32 (number : Int)] 67)) hn (cell_of_one (heap_alloc_new w _)) hl hc hm hb (hr.below HB0.out) h8)
  clear hl hc hm hb hr h8
  generalize Pg.opn number zs = O at *
  go_enter Tryz.func49, Tryz.ntmps49
  go_wp2_with fail
  refine HC.out.mono ?_
  rintro e w1 ⟨hy, hno⟩
  cases O with
  | none =>
    obtain ⟨rfl, hb1⟩ := hno rfl
    have HB1 := hide (HB0.out.trans (hb1.mono HB0.out.size))
    clear hy hno hb1
    go_wp2
    go_quiet (fail)
    go_wp2
    go_ret3
    exact ⟨fun k pl h => by (cases h), fun _ => ⟨rfl, below_drewN (HB1.out.trans ((below_alloc w1 _).mono HB1.out.size)) _⟩⟩
  | some x =>
    obtain ⟨K, pl⟩ := x
    obtain ⟨v, rfl, hm1⟩ := hy K pl rfl
    have HM1 : Hid (Made w v pl w1) := hide ⟨hm1.1, fun k hk => Nat.le_trans HB0.out.size (hm1.2.1 k hk), HB0.out.trans (hm1.2.2.mono HB0.out.size)⟩
    obtain ⟨a9, n9, c9, rfl, -⟩ := hm1.1.shape2
    clear hy hno hm1
    go_wp2
    go_quiet (fail)
    go_wp2
    go_ret3
    exact ⟨fun k pl h => by (cases h; exact ⟨_, rfl, HM1.out.below (below_drewN (below_alloc w1 _) _)⟩), fun h => by (cases h)⟩
end Go.Proofs.YtobokocpapfjbaaGreat
