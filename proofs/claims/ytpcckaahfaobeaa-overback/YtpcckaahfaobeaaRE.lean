/- Clone; the content of a page. -/
import Derived.Test.YtpcckaahfaobeaaRC
import Derived.Laws.Cover3
namespace Go.Proofs.Ytpcckaahfaobeaa
open Go.RowKit
set_option linter.unusedVariables false

theorem sl_nil (a : Option Addr) (n c : Nat) (W : World) : (binOp .eql 22 (.slice a n c) (.slice none 0 0)).run Try.prog W = .ok (.bool a.isNone) W := by
  simp only [binOp]
  simp [run_equal_slice_nil W 22 5 a n c Try.underlying22]

set_option maxHeartbeats 800000 in
set_option maxRecDepth 1000000 in
theorem clone_any (a : Option Addr) (n c : Nat) (ys : List Int) (w : World) (hl : ys.length = n) (hn : a = none → n = 0 ∧ c = 0) (hr : Row w a ys) (hb : n ≤ 100000) :
    Calls Try.prog 41 #[.slice a n c] w fun e w' => ∃ v, e = .returned v ∧ Made w v ys w' := by
  obtain ⟨i0, hi, hz0, hz1, hz2⟩ := info_parts Try.info5
  have hq := sl_nil a n c
  cases a with
  | none =>
    obtain ⟨rfl, rfl⟩ := hn rfl
    have e : ys = [] := List.eq_nil_of_length_eq_zero hl
    subst e
    simp only [Option.isNone_none] at hq
    clear hn hr hl
    go_enter Try.func41, Try.ntmps41
    go_wp2
    refine bodyPost_ret (results_tmp rfl _ _ _) rfl ?_
    exact ⟨_, rfl, Own.nil _, (by intro k hk; simp [Value.ownBlock] at hk), Below.refl _ _⟩
  | some ad =>
    simp only [Option.isNone_some] at hq
    have HL := hide hl
    have HR := hide hr
    clear hl hr hn
    go_enter Try.func41, Try.ntmps41
    have HO : Hid (Own (w.alloc (.cells #[] 5)) (.slice (some ⟨w.heap.size, 0, none⟩) 0 0) []) := ⟨rfl, .inr ⟨w.heap.size, 0, _, rfl, Nat.zero_le _, heap_alloc_new w _, Nat.le_refl _, Nat.zero_le _, rfl, rfl⟩⟩
    have HS : Hid (Src Try.prog 1 22 (.slice (some ad) n c) n (ys.map (Value.int .u8)) (w.alloc (.cells #[] 5))) := hide (src_row _ _ n c ys HL.out (by intro h; cases h) (HR.out.below (below_alloc _ _)))
    have HB : Hid (([] : List Int).length + n ≤ 140737488355328) := by rw [Hid]; simp; omega
    go_wp2_with (at_builtin; refine wpList_append_src (by rfl) (.tmp 5) (.tmp 6) 22 22 (by rfl) i0 Try.underlying22 hi hz0 hz1 hz2 (.slice (some ⟨w.heap.size, 0, none⟩) 0 0) [] (by rfl) HO.out (.slice (some ad) n c) n ys (by rfl) HS.out HB.out ?_; intro v' w1 hown1 hg1 hf1; obtain ⟨a2, n2, c2, rfl, HN2⟩ := hown1.shape2; have HO1 := hide hown1; have HG1 := hide hg1; have HF1 := hide hf1; clear hown1 hg1 hf1)
    go_ret
    refine ⟨_, rfl, HO1.out, fun k hk => ?_, (below_alloc w _).grown HG1.out (by simp) (fun k hk => by simp [Value.ownBlock] at hk; omega)⟩
    rcases HF1.out k hk with h | h
    · simp [Value.ownBlock] at h; omega
    · simp at h; omega
end Go.Proofs.Ytpcckaahfaobeaa
/- The content of a page. -/
namespace Go.Proofs.Ytpcckaahfaobeaa
open Go.RowKit
set_option linter.unusedVariables false

theorem made_grown {w w1 w2 : World} {v : Value} {ys : List Int} {r : Option Nat} (hg : w.grownBy w1 r) (h : Made w1 v ys w2) : (∀ k, v.ownBlock = some k → w.heap.size ≤ k) ∧ w.grownBy w2 r :=
  ⟨fun k hk => Nat.le_trans hg.size (h.2.1 k hk), grown_trans hg (grown_below h.2.2)⟩
theorem own_grown {w w' : World} {v : Value} {ys : List Int} {p : Nat} (h : Own w v ys) (hg : w.grownBy w' (some p)) (hp : v.ownBlock ≠ some p) : Own w' v ys :=
  h.of_block fun k hk => hg.block k (h.lt hk) (fun e => hp (by rw [hk, e]))
/-- what reading a page comes to. -/
def ContOut (O : Option (Nat × List Int)) (p : Nat) (w : World) (e : Ending) (w' : World) : Prop :=
  (∀ kind pl, O = some (kind, pl) → ∃ v, e = .returned (.agg #[.int .u8 (kind : Int), v]) ∧ Own w' v pl ∧ (∀ k, v.ownBlock = some k → w.heap.size ≤ k)) ∧ (O = none → e = .panicked flt) ∧ w.grownBy w' (some p)
theorem ContOut.no {O : Option (Nat × List Int)} {p : Nat} {w w' : World} (h : O = none) (hg : w.grownBy w' (some p)) : ContOut O p w (.panicked flt) w' :=
  ⟨fun k pl e => by rw [h] at e; contradiction, fun _ => rfl, hg⟩
theorem small8 {x : List Int} {n : Nat} (h : Byts x) (hl : x.length = n) : Crc.leV x < 256 ^ n := by rw [← hl]; exact Crc.leV_lt x h

set_option maxHeartbeats 1600000 in
set_option maxRecDepth 1000000 in
theorem content_any (p number : Nat) (zs : List Int) (w : World) (h : Rdr w p zs) (hn : number < 4294967296) :
    Calls Try.prog 59 #[.pointer (some ⟨p, 0, none⟩), .int .u32 (number : Int)] w fun e w' => ContOut (Pg.opn number zs) p w e w' := by
  have h8 := h.byts
  have hpw := h.lt
  have HA : Hid (w.grownBy (w.alloc (.cells #[.int .u8 0, .slice none 0 0] 128)) (some p)) := hide (grown_below (below_alloc _ _))
  have HQ : Hid ((w.alloc (.cells #[.int .u8 0, .slice none 0 0] 128)).heap[w.heap.size]? = some (.cells #[.int .u8 0, .slice none 0 0] 128 (0, 0))) := hide (heap_alloc_new w _)
  have HS : Hid (w.heap.size < (w.alloc (.cells #[.int .u8 0, .slice none 0 0] 128)).heap.size) := by rw [Hid]; simp
  have HU := hide (unseal_gen p 1024 zs _ (h.below (below_alloc w (.cells #[.int .u8 0, .slice none 0 0] 128))) (by omega) (by omega))
  by_cases hrt : Pg.Rt 1024 zs
  · obtain ⟨x1, x2, x3, x4, x5, x6, R, hcut, l1, l2, l3, l4, l5, l6, lR⟩ := Pg.cut6 (zs.take 1020) (by rw [List.length_take, hrt.1]; rfl)
    have hb := h8.take 1020
    rw [hcut] at hb
    have bx : ∀ l : List Int, (∀ c ∈ l, c ∈ x1 ++ (x2 ++ (x3 ++ (x4 ++ (x5 ++ (x6 ++ R)))))) → Byts l := fun l hl c hc => hb c (hl c hc)
    have b1 := bx x1 (fun c hc => by simp [hc])
    have b2 := bx x2 (fun c hc => by simp [hc])
    have b3 := bx x3 (fun c hc => by simp [hc])
    have b4 := bx x4 (fun c hc => by simp [hc])
    have b5 := bx x5 (fun c hc => by simp [hc])
    have b6 := bx x6 (fun c hc => by simp [hc])
    have bR := bx R (fun c hc => by simp [hc])
    obtain ⟨HY, HN⟩ := Pg.opn_cut h8 hrt hcut l1 l2 l3 l4 l5 l6 lR hn
    have v2 := small8 b2 l2
    have v4 := small8 b4 l4
    have v5 := small8 b5 l5
    have p4 : (256 : Nat) ^ 4 = 4294967296 := by decide
    have p2 : (256 : Nat) ^ 2 = 65536 := by decide
    have p1 : (256 : Nat) ^ 1 = 256 := by decide
    rw [p1] at v2
    rw [p4] at v4
    rw [p2] at v5
    rw [hcut] at HU
    have HRt := hide hrt
    generalize hO : Pg.opn number zs = O at *
    have HY := hide HY
    have HN := hide HN
    have N2 : Hid (∀ W, Rdr W p (x2 ++ (x3 ++ (x4 ++ (x5 ++ (x6 ++ R))))) → _) := hide fun W h => num_ok p 1 x2 _ W l2 (by omega) h b2
    have N4 : Hid (∀ W, Rdr W p (x4 ++ (x5 ++ (x6 ++ R))) → _) := hide fun W h => num_ok p 4 x4 _ W l4 (by omega) h b4
    have N5 : Hid (∀ W, Rdr W p (x5 ++ (x6 ++ R)) → _) := hide fun W h => num_ok p 2 x5 _ W l5 (by omega) h b5
    have M1 : Hid (∀ W, Rdr W p (x1 ++ (x2 ++ (x3 ++ (x4 ++ (x5 ++ (x6 ++ R)))))) → _) := hide fun W h => mark_gen p [67, 80] x1 _ W h l1 (by simp) (by unfold Byts; decide) b1
    have Z3 : Hid (∀ W, Rdr W p (x3 ++ (x4 ++ (x5 ++ (x6 ++ R)))) → _) := hide fun W h => nil_gen p 1 x3 _ W h l3 (by omega) b3
    have Z6 : Hid (∀ W, Rdr W p (x6 ++ R) → _) := hide fun W h => nil_gen p 2 x6 _ W h l6 (by omega) b6
    have BR := hide bR
    have LR := hide lR
    clear hO h8 h hrt hcut l1 l2 l3 l4 l5 l6 lR hb bx b1 b2 b3 b4 b5 b6 bR p1 p2 p4
    generalize Crc.leV x2 = K at *
    generalize Crc.leV x4 = V at *
    generalize Crc.leV x5 = L at *
    go_enter Try.func59, Try.ntmps59
    go_wp2_with fail
    refine HU.out.mono ?_
    rintro e w1 ⟨⟨hy, -⟩, hg1⟩
    obtain ⟨rfl, hr1⟩ := hy HRt.out
    have HG1 := hide hg1
    have HR1 := hide hr1
    clear hg1 hr1 hy HU
    go_wp2_with fail
    refine (M1.out _ HR1.out).mono ?_
    rintro e w2 ⟨⟨hy, hno⟩, hr2, hg2⟩
    have HG2 := hide (grown_trans HG1.out hg2)
    have HR2 := hide hr2
    clear hg2 hr2
    by_cases c1 : x1 = [67, 80]
    rotate_left
    · have HO := hide (HN.out fun h => c1 h.1)
      obtain rfl := hno c1
      exact ⟨rfl, ContOut.no HO.out (grown_trans HA.out HG2.out)⟩
    obtain rfl := hy c1
    have C1 := hide c1
    clear c1 hy hno M1
    go_wp2_with fail
    refine (N2.out _ HR2.out).mono ?_
    rintro e w3 ⟨rfl, hr3, hg3⟩
    have HG3 := hide (grown_trans HG2.out hg3)
    have HR3 := hide hr3
    clear hg3 hr3 N2
    by_cases c2 : 1 ≤ K ∧ K ≤ 4
    rotate_left
    · have HO := hide (HN.out fun h => c2 ⟨h.2.1, h.2.2.1⟩)
      go_wp2_with fail
      refine (kind_no K _ c2).mono ?_
      rintro e w' ⟨rfl, rfl⟩
      go_wp2_with fail
      refine (must_no _ _ rfl _).mono ?_
      rintro e w' ⟨rfl, rfl⟩
      exact ⟨rfl, ContOut.no HO.out (grown_trans HA.out HG3.out)⟩
    have C2 := hide c2
    clear c2
    go_wp2_with fail
    refine (kind_yes K _ C2.out.1 C2.out.2).mono ?_
    rintro e w' ⟨rfl, rfl⟩
    go_wp2_with fail
    refine (must_yes _ _ rfl _).mono ?_
    rintro e w3 ⟨rfl, rfl⟩
    go_wp2_with fail
    refine (Z3.out _ HR3.out).mono ?_
    rintro e w4 ⟨⟨hy, hno⟩, hr4, hg4⟩
    have HG4 := hide (grown_trans HG3.out hg4)
    clear hg4 Z3
    by_cases c3 : x3 = [0]
    rotate_left
    · have HO := hide (HN.out fun h => c3 h.2.2.2.1)
      obtain rfl := hno c3
      exact ⟨rfl, ContOut.no HO.out (grown_trans HA.out HG4.out)⟩
    obtain rfl := hy c3
    have HR4 := hide (hr4 c3)
    have C3 := hide c3
    clear c3 hy hno hr4
    go_wp2_with fail
    refine (N4.out _ HR4.out).mono ?_
    rintro e w5 ⟨rfl, hr5, hg5⟩
    have HG5 := hide (grown_trans HG4.out hg5)
    have HR5 := hide hr5
    clear hg5 hr5 N4
    by_cases c4 : V = number
    rotate_left
    · have HO := hide (HN.out fun h => c4 h.2.2.2.2.1)
      have hne : ((V : Int) == (number : Int)) = false := by simp; omega
      clear c4
      go_wp2_with fail
      refine (must_no _ _ rfl _).mono ?_
      rintro e w' ⟨rfl, rfl⟩
      exact ⟨rfl, ContOut.no HO.out (grown_trans HA.out HG5.out)⟩
    subst c4
    go_wp2_with fail
    refine (must_yes _ _ (by simp) _).mono ?_
    rintro e w5 ⟨rfl, rfl⟩
    go_wp2_with fail
    refine (N5.out _ HR5.out).mono ?_
    rintro e w6 ⟨rfl, hr6, hg6⟩
    have HG6 := hide (grown_trans HG5.out hg6)
    have HR6 := hide hr6
    clear hg6 hr6 N5
    go_wp2_with fail
    refine (Z6.out _ HR6.out).mono ?_
    rintro e w7 ⟨⟨hy, hno⟩, hr7, hg7⟩
    have HG7 := hide (grown_trans HG6.out hg7)
    clear hg7 Z6
    by_cases c6 : x6 = [0, 0]
    rotate_left
    · have HO := hide (HN.out fun h => c6 h.2.2.2.2.2.1)
      obtain rfl := hno c6
      exact ⟨rfl, ContOut.no HO.out (grown_trans HA.out HG7.out)⟩
    obtain rfl := hy c6
    have HR7 := hide (hr7 c6)
    have C6 := hide c6
    clear c6 hy hno hr7
    by_cases c5 : L ≤ 1008
    rotate_left
    · have HO := hide (HN.out fun h => c5 h.2.2.2.2.2.2.1)
      go_wp2_with fail
      refine (take_no p L R _ (by rw [LR.out]; omega) (by omega) HR7.out).mono ?_
      rintro e w' ⟨rfl, hg8⟩
      exact ⟨rfl, ContOut.no HO.out (grown_trans HA.out (grown_trans HG7.out hg8))⟩
    have eR : R.take L ++ R.drop L = R := List.take_append_drop _ _
    have lT : (R.take L).length = L := by rw [List.length_take, LR.out]; omega
    have lD : (R.drop L).length = 1008 - L := by rw [List.length_drop, LR.out]
    have BT := hide (BR.out.take L)
    have BD := hide (BR.out.drop L)
    have HR7' : Hid (Rdr w7 p (R.take L ++ R.drop L)) := by rw [eR]; exact HR7
    clear HR7
    generalize R.take L = T at *
    generalize R.drop L = D at *
    have LT := hide lT
    have LD := hide lD
    clear eR lT lD BR LR
    go_wp2_with fail
    refine (take_ok p L T D _ LT.out HR7'.out).mono ?_
    rintro e w8 ⟨a8, c8, rfl, hk8, hc8, hn8, hrow8, hr8, hg8⟩
    have HR8 := hide hr8
    have HG8 := hide (grown_trans HG7.out hg8)
    have HCl := hide (clone_any a8 L c8 T w8 LT.out hn8 hrow8.row (by omega))
    clear hn8 hrow8 hr8 hg8
    go_wp2_with fail
    refine HCl.out.mono ?_
    rintro e w9 ⟨v9, rfl, hm9⟩
    obtain ⟨hnew, hg9⟩ := made_grown (grown_trans HA.out HG8.out) hm9
    have HR9 := hide (HR8.out.below hm9.2.2)
    have HNq : Hid (∀ k, v9.ownBlock = some k → k ≠ w.heap.size) := by
      intro k hk
      have h1 := hm9.2.1 k hk
      have h2 := HG8.out.size
      have h3 := HS.out
      omega
    have HM9 := hide hm9.1
    have HNew := hide hnew
    have HG9 := hide hg9
    have HG9' := hide (grown_trans HG8.out (grown_below hm9.2.2))
    obtain ⟨a9, n9, c9, rfl, -⟩ := hm9.1.shape2
    obtain ⟨q9, d9, k9, f9⟩ := HR9.out.cells
    rw [LD.out] at k9
    clear hm9 hnew hg9 HCl
    have HZ := hide (nil_gen p (1008 - L) D [] w9 (by rw [List.append_nil]; exact HR9.out) LD.out (by omega) BD.out)
    go_wp2_with fail
    refine HZ.out.mono ?_
    rintro e w10 ⟨⟨hy, hno⟩, -, hg10⟩
    have HG10 := hide (grown_trans HG9.out hg10)
    have HG10' := hide (grown_trans HG9'.out hg10)
    by_cases c7 : D = List.replicate (1008 - L) 0
    rotate_left
    · have HO := hide (HN.out fun h => c7 h.2.2.2.2.2.2.2)
      obtain rfl := hno c7
      exact ⟨rfl, ContOut.no HO.out HG10.out⟩
    obtain rfl := hy c7
    have HO := hide (HY.out C1.out C2.out.1 C2.out.2 C3.out trivial C6.out c5 c7)
    have HOw : Hid (Own w10 (.slice a9 n9 c9) T) := hide (own_grown HM9.out hg10 (fun e => by have := HNew.out p e; omega))
    have hqp : some w.heap.size ≠ some p := by
      intro e
      have e2 : w.heap.size = p := by simpa using e
      omega
    have hq : w10.heap[w.heap.size]? = some (.cells #[.int .u8 0, .slice none 0 0] 128 (0, 0)) := (HG10'.out.block w.heap.size HS.out hqp).trans HQ.out
    obtain ⟨q0, q1, f0⟩ := cells_two hq
    have f1 : w10.frozen? ⟨w.heap.size, 1, none⟩ = false := by simp [World.frozen?, hq]
    have HQ2 : Hid (w10.heap[w.heap.size]? = some (.cells #[.int .u8 0, .slice none 0 0] 128 (0, 0))) := hide hq
    have HQP := hide hqp
    clear hq hqp
    clear hy hno c7 hg10
    go_wp2
    have hA : (w10.setCell ⟨w.heap.size, 0, none⟩ (.int .u8 (K : Int))).heap[w.heap.size]? = some (.cells #[.int .u8 (K : Int), .slice none 0 0] 128 (0, 0)) := by
      rw [heap_setCell_same w10 w.heap.size 0 _ 128 _ HQ2.out]; rfl
    obtain ⟨q0', -, -⟩ := cells_two hA
    have hB2 : ((w10.setCell ⟨w.heap.size, 0, none⟩ (.int .u8 (K : Int))).setCell ⟨w.heap.size, 1, none⟩ (.slice a9 n9 c9)).heap[w.heap.size]? = some (.cells #[.int .u8 (K : Int), .slice a9 n9 c9] 128 (0, 0)) := by
      rw [heap_setCell_same _ w.heap.size 1 _ 128 _ hA]; rfl
    obtain ⟨-, q1', -⟩ := cells_two hB2
    refine bodyPost_ret (v := .agg #[.int .u8 (K : Int), .slice a9 n9 c9]) ?_ rfl ?_
    · simp [results, Try.results59, go_sem, q0', q1']
    · refine ⟨fun kind pl h => ?_, fun h => ?_, ?_⟩
      · rw [HO.out] at h
        cases h
        refine ⟨_, rfl, HOw.out.of_block fun k hk => ?_, HNew.out⟩
        have hne := HNq.out k hk
        rw [Below.heap_setCell _ _ _ _ hne, Below.heap_setCell _ _ _ _ hne]
      · rw [HO.out] at h
        cases h
      · refine ⟨HG10.out.os, HG10.out.tape, HG10.out.output, by have := HG10.out.size; simpa [World.setCell] using this, fun k hk hne => ?_⟩
        rw [Below.heap_setCell _ _ _ _ (show k ≠ w.heap.size by omega), Below.heap_setCell _ _ _ _ (show k ≠ w.heap.size by omega)]
        exact HG10.out.block k hk hne
  · have HO := hide (Pg.opn_wrong (number := number) h8 hrt)
    have HRt := hide hrt
    clear h8 hrt h
    generalize Pg.opn number zs = O at *
    go_enter Try.func59, Try.ntmps59
    go_wp2_with fail
    refine HU.out.mono ?_
    rintro e w1 ⟨⟨-, hno⟩, hg1⟩
    obtain rfl := hno HRt.out
    exact ⟨rfl, ContOut.no HO.out (grown_trans HA.out hg1)⟩
end Go.Proofs.Ytpcckaahfaobeaa
