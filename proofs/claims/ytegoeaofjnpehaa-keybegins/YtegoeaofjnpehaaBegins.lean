/- The Go function KeyBegins answers true for all three rows of bytes that are handed in, and leaves them as they were: all bytes that begin with some lie from these up to After of them, and no others do. No condition. -/
import Derived.Test.YtegoeaofjnpehaaF
namespace Go.Proofs.Ytegoeaofjnpehaa.Begins
open Go.ChangeShapes Go.WideShapes Go.ChangeAt Go.RowKit
set_option linter.unusedVariables false

theorem below_grown {w w' : World} (hg : w.grownBy w' (Value.slice none 0 0).ownBlock) : Below w.heap.size w w' := ⟨hg.os, hg.tape, hg.output, hg.size, fun k hk => hg.block k hk (by simp [Value.ownBlock])⟩
theorem own_n {w : World} {a : Option Addr} {n c : Nat} {zs : List Int} (h : Own w (.slice a n c) zs) : zs.length = n ∧ (a = none → n = 0 ∧ c = 0) := by
  obtain ⟨a', c', e, _, _, hn, _⟩ := h.shape
  cases e
  exact ⟨rfl, hn⟩
theorem Row.some {w : World} {a : Option Addr} {zs : List Int} (h : Row w a zs) (h0 : 0 < zs.length) : ∃ b o, a = some ⟨b, o, none⟩ ∧ ∀ i, i < zs.length → w.cell? ⟨b, o + i, none⟩ = some (.int .u8 (zs.getD i 0)) := by
  rcases h with h | ⟨b, o, rfl, _, hc⟩
  · subst h; simp at h0
  · exact ⟨b, o, rfl, hc⟩
theorem beg_same (r b : List Int) (h : b.length ≤ r.length) : sameB (r.take b.length) b = beg r b := by simp [sameB, beg, h]
theorem beg_short (r b : List Int) (h : ¬ b.length ≤ r.length) : beg r b = false := by simp [beg, h]
theorem and_true {x y : Bool} (h : (x && y) = true) : x = true ∧ y = true := by simpa using h

set_option maxHeartbeats 3200000 in
set_option maxRecDepth 1000000 in
theorem walk1 (a0 : Option Addr) (l0 c0 : Nat) (a1 : Option Addr) (l1 c1 : Nat) (a2 : Option Addr) (l2 c2 : Nat) (b z r : List Int) (w : World) (h0 : l0 ≤ 20000) (h1 : l1 ≤ 20000) (h2 : l2 ≤ 20000)
    (lc0 : l0 ≤ c0) (lc2 : l2 ≤ c2) (n0 : a0 = none → l0 = 0 ∧ c0 = 0) (n1 : a1 = none → l1 = 0 ∧ c1 = 0) (n2 : a2 = none → l2 = 0 ∧ c2 = 0)
    (e0 : b.length = l0) (e1 : z.length = l1) (e2 : r.length = l2) (r0 : Row w a0 b) (r1 : Row w a1 z) (r2 : Row w a2 r) (y0 : Byts b) (y1 : Byts z) (y2 : Byts r)
    (p : Nat) (hp : p < l0) (hp1 : b.getD p 0 < 255) (hp2 : ∀ i, p < i → i < l0 → b.getD i 0 = 255) :
    Calls Try.prog 5 #[.slice a0 l0 c0, .slice a1 l1 c1, .slice a2 l2 c2] w fun e w' => e = .returned (.bool true) ∧ Below w.heap.size w w' := by
  obtain ⟨i0, hi, hz0, hz1, hz2⟩ := info_parts Try.info5
  have HA := hide (after_at a0 l0 c0 b p w e0 (by omega) lc0 r0 y0 hp hp1 hp2)
  have N0 := hide n0
  have N1 := hide n1
  have N2 := hide n2
  have E0 := hide e0
  have E1 := hide e1
  have E2 := hide e2
  have R0 := hide r0
  have R1 := hide r1
  have R2 := hide r2
  have Y0 := hide y0
  have Y1 := hide y1
  have Y2 := hide y2
  have P1 := hide hp1
  have P2 := hide hp2
  have d0 : decide ((20000 : Int) < (l0 : Int)) = false := by simp; omega
  have d1 : decide ((20000 : Int) < (l1 : Int)) = false := by simp; omega
  have d2 : decide ((20000 : Int) < (l2 : Int)) = false := by simp; omega
  clear n0 n1 n2 e0 e1 e2 r0 r1 r2 y0 y1 y2 hp1 hp2
  go_enter Try.func5, Try.ntmps5
  go_wp2_with fail
  refine HA.out.mono ?_
  rintro e W1 ⟨v, rfl, hown, hb⟩
  obtain ⟨ax, nx, cx, rfl, HNx⟩ := hown.own.shape2
  have HOx := hide hown
  have HF1 := hide ((Fr.refl w).on hb)
  have HS0 := hide (src_row W1 a0 l0 c0 b E0.out N0.out (R0.out.below hb))
  clear hown hb HA
  have hLL : b.length + l1 ≤ 140737488355328 := by have := E0.out; omega
  have HLL := hide hLL
  clear hLL
  go_wp2_with (first | (at_builtin; refine wpList_append_src (by rfl) (.tmp 32) (.tmp 33) 25 25 (by rfl) i0 Try.underlying25 hi hz0 hz1 hz2 (.slice none 0 0) [] (by rfl) (Own.nil _) (.slice a0 l0 c0) l0 b (by rfl) HS0.out (by simp; omega) ?_; intro v2 W2 hown2 hg2 hf2; obtain ⟨aa, na, ca, rfl, HNa⟩ := hown2.shape2; have HO2 := hide hown2; have HF2 := hide (HF1.out.on (below_grown hg2)); have HX2 := hide (HOx.out.on (below_grown hg2)); have HW2 : Hid (∀ k, (Value.slice aa na ca).ownBlock = some k → w.heap.size ≤ k ∧ W1.heap.size ≤ k) := fun k hk => (hf2 k hk).elim (fun e => by simp [Value.ownBlock] at e) (fun hs => ⟨Nat.le_trans HF1.out.size hs, hs⟩); have HS1 := hide (src_row W2 a1 l1 c1 z E1.out N1.out (R1.out.below HF2.out.below)); clear hown2 hg2 hf2) | (at_builtin; refine wpList_append_src (by rfl) (.tmp 35) (.tmp 36) 25 25 (by rfl) i0 Try.underlying25 hi hz0 hz1 hz2 (.slice aa na ca) ([] ++ b) (by rfl) HO2.out (.slice a1 l1 c1) l1 z (by rfl) HS1.out HLL.out ?_; intro v3 W3 hown3 hg3 hf3; obtain ⟨ab, nb, cb, rfl, HNb⟩ := hown3.shape2; have HO3 := hide hown3; have HF3 := hide (HF2.out.grown hg3 (fun k e => (HW2.out k e).1)); have HX3 : Hid (OwnB w.heap.size W3 (.slice ax nx cx) (aft b p)) := ⟨HX2.out.own.of_block (fun k hk => hg3.block k (HX2.out.own.lt hk) (fun e => by have h5 := (HW2.out k e.symm).2; have h6 := HOx.out.own.lt hk; omega)), HX2.out.new⟩; clear hown3 hg3 hf3))
  refine (known_any W3).mono ?_
  rintro e W4 ⟨rfl, hb⟩
  have HF4 := hide (HF3.out.on hb)
  have HX4 := hide (HX3.out.on hb)
  have HO4 : Hid (Own W4 (.slice ab nb cb) (b ++ z)) := HO3.out.of_block (fun k hk => hb.block k (HO3.out.lt hk))
  clear hb HF1 HF2 HF3 HO2 HO3 HX2 HX3 HW2 HS0 HS1
  have T0 := hide (R0.out.below HF4.out.below)
  have T2 := hide (R2.out.below HF4.out.below)
  by_cases hlen : l0 ≤ l2
  · have hdl : decide ((l0 : Int) ≤ (l2 : Int)) = true := by simp; omega
    have hlc : (l0 : Int) ≤ (c2 : Int) := by omega
    have hlc' : l0 ≤ c2 := by omega
    go_wp2_with fail
    refine (same_gen a2 a0 l0 l0 c2 c0 (r.take l0) b W4 (by rw [List.length_take]; have := E2.out; omega) E0.out (by omega) (by omega) (T2.out.first l0) T0.out).mono ?_
    rintro e W ⟨rfl, hb⟩
    have HFc := hide (HF4.out.on hb)
    have HXc := hide (HX4.out.on hb)
    have HOc : Hid (Own W (.slice ab nb cb) (b ++ z)) := HO4.out.of_block (fun k hk => hb.block k (HO4.out.lt hk))
    have T0' := hide (T0.out.below hb)
    have T2' := hide (T2.out.below hb)
    have HBe : Hid (sameB (r.take l0) b = beg r b) := by have := beg_same r b (by have := E0.out; have := E2.out; omega); rwa [E0.out] at this
    clear hb T0 T2 HF4 HX4 HO4
    have T0 := T0'
    have T2 := T2'
    clear T0' T2' HNx HNb
    have HFl := hide (fl_false b l0 p hp P1.out)
    have H3 := hide (before_aft b z p (by have := E0.out; omega))
    have HMid := hide (beg_mid r b p (by have := E0.out; omega) Y2.out (fun i h1 h2 => P2.out i h1 (by have := E0.out; omega)))
    have HYx : Hid (Byts (aft b p)) := by
      intro c hc
      rcases List.mem_append.1 hc with h | h
      · exact Y0.out c (List.mem_of_mem_take h)
      · obtain rfl : c = b.getD p 0 + 1 := List.mem_singleton.1 h
        have := Y0.out.at p
        have := P1.out
        omega
    have HMx := hide (own_n HXc.out.own).2
    have HMb := hide (own_n HOc.out).2
    have HNx := hide (own_n HXc.out.own).1
    have HNb := hide (own_n HOc.out).1

    rw [HBe.out]
    clear HBe
    generalize hBg : beg r b = β at *
    have HBg0 := hide hBg
    clear hBg
    cases β
    · have HBg : Hid (beg r b = false) := HBg0.out
      have HMid' : Hid (beg r b = (decide (0 ≤ ordI r b) && decide (ordI r (aft b p) < 0))) := HBg.out.trans HMid.out
      clear HMid
      have HMid := HMid'
      clear HMid' HBg0
      go_wp2_with fail
      by_cases A1 : 0 ≤ ordI r b
      · have HA1 := hide A1
        have HA2 : Hid (0 ≤ ordI r (aft b p)) := by
          rcases Int.lt_or_le (ordI r (aft b p)) 0 with h | h
          · exfalso
            have h5 := HMid.out
            rw [HBg.out, decide_eq_true A1, decide_eq_true h] at h5
            cases h5
          · exact h
        clear A1
        refine (order_any a2 a0 l2 c2 l0 c0 r b _ E2.out E0.out N2.out N0.out T2.out T0.out Y2.out Y0.out).mono ?_
        rintro e V ⟨rfl, rfl⟩
        have g1 : 0 ≤ ordI r b := HA1.out
        generalize ordI r b = o1 at g1 ⊢
        go_wp2_with fail
        refine (order_any a2 ax l2 c2 nx cx r (aft b p) _ E2.out HNx.out N2.out HMx.out T2.out HXc.out.own.row Y2.out HYx.out).mono ?_
        rintro e V ⟨rfl, rfl⟩
        have g2 : 0 ≤ ordI r (aft b p) := HA2.out
        generalize ordI r (aft b p) = o2 at g2 ⊢
        go_wp2
        go_loop [12, 13] (fun f i => ∃ k : Nat, k ≤ l0 ∧ i = .int .i64 (k : Int) ∧ f = .bool (fl b k)) (fun _ i => l0 - (intOf i).toNat)
        case atStart => exact ⟨0, by omega, rfl, rfl⟩
        case round =>
          obtain ⟨k, hk, rfl, rfl⟩ := hrel
          by_cases hlt : k < l0
          · obtain ⟨bb, bo, rfl, hcc⟩ := Row.some T0.out (by have := E0.out; omega)
            have gc := hcc k (by have := E0.out; omega)
            have HSu := hide (fl_succ b k)
            clear hcc
            generalize b.getD k 0 = cc at *
            generalize hfl : fl b k = fk at *
            clear hfl
            cases fk
            · go_wp2
              go_round
              case rel => exact ⟨k + 1, by omega, by go_num, by rw [HSu.out]; rfl⟩
              case measure => simp [intOf]; omega
            · go_wp2
              go_round
              case rel => exact ⟨k + 1, by omega, by go_num, by rw [HSu.out]; rfl⟩
              case measure => simp [intOf]; omega
          · obtain rfl : k = l0 := by omega
            rw [show fl b k = false from HFl.out]
            go_wp2_with fail
            refine (order_any ab ax nb cb nx cx (b ++ z) (aft b p) _ HNb.out HNx.out HMb.out HMx.out HOc.out.row HXc.out.own.row (Y0.out.append Y1.out) HYx.out).mono ?_
            rintro e V ⟨rfl, rfl⟩
            have h3 : ordI (b ++ z) (aft b p) < 0 := H3.out
            generalize ordI (b ++ z) (aft b p) = o3 at h3 ⊢
            go_wp2
            go_ret
            exact ⟨rfl, HFc.out.below⟩
      · have HA1 : Hid (ordI r b < 0) := Int.not_le.1 A1
        clear A1
        refine (order_any a2 a0 l2 c2 l0 c0 r b _ E2.out E0.out N2.out N0.out T2.out T0.out Y2.out Y0.out).mono ?_
        rintro e V ⟨rfl, rfl⟩
        have g1 : ordI r b < 0 := HA1.out
        generalize ordI r b = o1 at g1 ⊢
        go_wp2
        go_loop [12, 13] (fun f i => ∃ k : Nat, k ≤ l0 ∧ i = .int .i64 (k : Int) ∧ f = .bool (fl b k)) (fun _ i => l0 - (intOf i).toNat)
        case atStart => exact ⟨0, by omega, rfl, rfl⟩
        case round =>
          obtain ⟨k, hk, rfl, rfl⟩ := hrel
          by_cases hlt : k < l0
          · obtain ⟨bb, bo, rfl, hcc⟩ := Row.some T0.out (by have := E0.out; omega)
            have gc := hcc k (by have := E0.out; omega)
            have HSu := hide (fl_succ b k)
            clear hcc
            generalize b.getD k 0 = cc at *
            generalize hfl : fl b k = fk at *
            clear hfl
            cases fk
            · go_wp2
              go_round
              case rel => exact ⟨k + 1, by omega, by go_num, by rw [HSu.out]; rfl⟩
              case measure => simp [intOf]; omega
            · go_wp2
              go_round
              case rel => exact ⟨k + 1, by omega, by go_num, by rw [HSu.out]; rfl⟩
              case measure => simp [intOf]; omega
          · obtain rfl : k = l0 := by omega
            rw [show fl b k = false from HFl.out]
            go_wp2_with fail
            refine (order_any ab ax nb cb nx cx (b ++ z) (aft b p) _ HNb.out HNx.out HMb.out HMx.out HOc.out.row HXc.out.own.row (Y0.out.append Y1.out) HYx.out).mono ?_
            rintro e V ⟨rfl, rfl⟩
            have h3 : ordI (b ++ z) (aft b p) < 0 := H3.out
            generalize ordI (b ++ z) (aft b p) = o3 at h3 ⊢
            go_wp2
            go_ret
            exact ⟨rfl, HFc.out.below⟩
    · have HBg : Hid (beg r b = true) := HBg0.out
      have HMid' : Hid (beg r b = (decide (0 ≤ ordI r b) && decide (ordI r (aft b p) < 0))) := HBg.out.trans HMid.out
      clear HMid
      have HMid := HMid'
      clear HMid' HBg0
      go_wp2_with fail
      have hand := and_true (HMid.out.symm.trans HBg.out)
      have HA1 := hide (show 0 ≤ ordI r b by simpa using hand.1)
      have HA2 := hide (show ordI r (aft b p) < 0 by simpa using hand.2)
      clear hand
      refine (order_any a2 a0 l2 c2 l0 c0 r b _ E2.out E0.out N2.out N0.out T2.out T0.out Y2.out Y0.out).mono ?_
      rintro e V ⟨rfl, rfl⟩
      have g1 : 0 ≤ ordI r b := HA1.out
      generalize ordI r b = o1 at g1 ⊢
      go_wp2_with fail
      refine (order_any a2 ax l2 c2 nx cx r (aft b p) _ E2.out HNx.out N2.out HMx.out T2.out HXc.out.own.row Y2.out HYx.out).mono ?_
      rintro e V ⟨rfl, rfl⟩
      have g2 : ordI r (aft b p) < 0 := HA2.out
      generalize ordI r (aft b p) = o2 at g2 ⊢
      go_wp2
      go_loop [12, 13] (fun f i => ∃ k : Nat, k ≤ l0 ∧ i = .int .i64 (k : Int) ∧ f = .bool (fl b k)) (fun _ i => l0 - (intOf i).toNat)
      case atStart => exact ⟨0, by omega, rfl, rfl⟩
      case round =>
        obtain ⟨k, hk, rfl, rfl⟩ := hrel
        by_cases hlt : k < l0
        · obtain ⟨bb, bo, rfl, hcc⟩ := Row.some T0.out (by have := E0.out; omega)
          have gc := hcc k (by have := E0.out; omega)
          have HSu := hide (fl_succ b k)
          clear hcc
          generalize b.getD k 0 = cc at *
          generalize hfl : fl b k = fk at *
          clear hfl
          cases fk
          · go_wp2
            go_round
            case rel => exact ⟨k + 1, by omega, by go_num, by rw [HSu.out]; rfl⟩
            case measure => simp [intOf]; omega
          · go_wp2
            go_round
            case rel => exact ⟨k + 1, by omega, by go_num, by rw [HSu.out]; rfl⟩
            case measure => simp [intOf]; omega
        · obtain rfl : k = l0 := by omega
          rw [show fl b k = false from HFl.out]
          go_wp2_with fail
          refine (order_any ab ax nb cb nx cx (b ++ z) (aft b p) _ HNb.out HNx.out HMb.out HMx.out HOc.out.row HXc.out.own.row (Y0.out.append Y1.out) HYx.out).mono ?_
          rintro e V ⟨rfl, rfl⟩
          have h3 : ordI (b ++ z) (aft b p) < 0 := H3.out
          generalize ordI (b ++ z) (aft b p) = o3 at h3 ⊢
          go_wp2
          go_ret
          exact ⟨rfl, HFc.out.below⟩
  · have hdl : decide ((l0 : Int) ≤ (l2 : Int)) = false := by simp; omega
    have HBg := hide (beg_short r b (by have := E0.out; have := E2.out; omega))
    have HFc := HF4
    have HXc := HX4
    have HOc := HO4
    clear HNx HNb HF4 HX4 HO4
    have HFl := hide (fl_false b l0 p hp P1.out)
    have H3 := hide (before_aft b z p (by have := E0.out; omega))
    have HMid := hide (beg_mid r b p (by have := E0.out; omega) Y2.out (fun i h1 h2 => P2.out i h1 (by have := E0.out; omega)))
    have HYx : Hid (Byts (aft b p)) := by
      intro c hc
      rcases List.mem_append.1 hc with h | h
      · exact Y0.out c (List.mem_of_mem_take h)
      · obtain rfl : c = b.getD p 0 + 1 := List.mem_singleton.1 h
        have := Y0.out.at p
        have := P1.out
        omega
    have HMx := hide (own_n HXc.out.own).2
    have HMb := hide (own_n HOc.out).2
    have HNx := hide (own_n HXc.out.own).1
    have HNb := hide (own_n HOc.out).1

    go_wp2_with fail
    generalize W4 = W at *
    by_cases A1 : 0 ≤ ordI r b
    · have HA1 := hide A1
      have HA2 : Hid (0 ≤ ordI r (aft b p)) := by
        rcases Int.lt_or_le (ordI r (aft b p)) 0 with h | h
        · exfalso
          have h5 := HMid.out
          rw [HBg.out, decide_eq_true A1, decide_eq_true h] at h5
          cases h5
        · exact h
      clear A1
      refine (order_any a2 a0 l2 c2 l0 c0 r b _ E2.out E0.out N2.out N0.out T2.out T0.out Y2.out Y0.out).mono ?_
      rintro e V ⟨rfl, rfl⟩
      have g1 : 0 ≤ ordI r b := HA1.out
      generalize ordI r b = o1 at g1 ⊢
      go_wp2_with fail
      refine (order_any a2 ax l2 c2 nx cx r (aft b p) _ E2.out HNx.out N2.out HMx.out T2.out HXc.out.own.row Y2.out HYx.out).mono ?_
      rintro e V ⟨rfl, rfl⟩
      have g2 : 0 ≤ ordI r (aft b p) := HA2.out
      generalize ordI r (aft b p) = o2 at g2 ⊢
      go_wp2
      go_loop [12, 13] (fun f i => ∃ k : Nat, k ≤ l0 ∧ i = .int .i64 (k : Int) ∧ f = .bool (fl b k)) (fun _ i => l0 - (intOf i).toNat)
      case atStart => exact ⟨0, by omega, rfl, rfl⟩
      case round =>
        obtain ⟨k, hk, rfl, rfl⟩ := hrel
        by_cases hlt : k < l0
        · obtain ⟨bb, bo, rfl, hcc⟩ := Row.some T0.out (by have := E0.out; omega)
          have gc := hcc k (by have := E0.out; omega)
          have HSu := hide (fl_succ b k)
          clear hcc
          generalize b.getD k 0 = cc at *
          generalize hfl : fl b k = fk at *
          clear hfl
          cases fk
          · go_wp2
            go_round
            case rel => exact ⟨k + 1, by omega, by go_num, by rw [HSu.out]; rfl⟩
            case measure => simp [intOf]; omega
          · go_wp2
            go_round
            case rel => exact ⟨k + 1, by omega, by go_num, by rw [HSu.out]; rfl⟩
            case measure => simp [intOf]; omega
        · obtain rfl : k = l0 := by omega
          rw [show fl b k = false from HFl.out]
          go_wp2_with fail
          refine (order_any ab ax nb cb nx cx (b ++ z) (aft b p) _ HNb.out HNx.out HMb.out HMx.out HOc.out.row HXc.out.own.row (Y0.out.append Y1.out) HYx.out).mono ?_
          rintro e V ⟨rfl, rfl⟩
          have h3 : ordI (b ++ z) (aft b p) < 0 := H3.out
          generalize ordI (b ++ z) (aft b p) = o3 at h3 ⊢
          go_wp2
          go_ret
          exact ⟨rfl, HFc.out.below⟩
    · have HA1 : Hid (ordI r b < 0) := Int.not_le.1 A1
      clear A1
      refine (order_any a2 a0 l2 c2 l0 c0 r b _ E2.out E0.out N2.out N0.out T2.out T0.out Y2.out Y0.out).mono ?_
      rintro e V ⟨rfl, rfl⟩
      have g1 : ordI r b < 0 := HA1.out
      generalize ordI r b = o1 at g1 ⊢
      go_wp2
      go_loop [12, 13] (fun f i => ∃ k : Nat, k ≤ l0 ∧ i = .int .i64 (k : Int) ∧ f = .bool (fl b k)) (fun _ i => l0 - (intOf i).toNat)
      case atStart => exact ⟨0, by omega, rfl, rfl⟩
      case round =>
        obtain ⟨k, hk, rfl, rfl⟩ := hrel
        by_cases hlt : k < l0
        · obtain ⟨bb, bo, rfl, hcc⟩ := Row.some T0.out (by have := E0.out; omega)
          have gc := hcc k (by have := E0.out; omega)
          have HSu := hide (fl_succ b k)
          clear hcc
          generalize b.getD k 0 = cc at *
          generalize hfl : fl b k = fk at *
          clear hfl
          cases fk
          · go_wp2
            go_round
            case rel => exact ⟨k + 1, by omega, by go_num, by rw [HSu.out]; rfl⟩
            case measure => simp [intOf]; omega
          · go_wp2
            go_round
            case rel => exact ⟨k + 1, by omega, by go_num, by rw [HSu.out]; rfl⟩
            case measure => simp [intOf]; omega
        · obtain rfl : k = l0 := by omega
          rw [show fl b k = false from HFl.out]
          go_wp2_with fail
          refine (order_any ab ax nb cb nx cx (b ++ z) (aft b p) _ HNb.out HNx.out HMb.out HMx.out HOc.out.row HXc.out.own.row (Y0.out.append Y1.out) HYx.out).mono ?_
          rintro e V ⟨rfl, rfl⟩
          have h3 : ordI (b ++ z) (aft b p) < 0 := H3.out
          generalize ordI (b ++ z) (aft b p) = o3 at h3 ⊢
          go_wp2
          go_ret
          exact ⟨rfl, HFc.out.below⟩
set_option maxHeartbeats 3200000 in
set_option maxRecDepth 1000000 in
theorem walk0 (a0 : Option Addr) (l0 c0 : Nat) (a1 : Option Addr) (l1 c1 : Nat) (a2 : Option Addr) (l2 c2 : Nat) (b z r : List Int) (w : World) (h0 : l0 ≤ 20000) (h1 : l1 ≤ 20000) (h2 : l2 ≤ 20000)
    (lc0 : l0 ≤ c0) (lc2 : l2 ≤ c2) (n0 : a0 = none → l0 = 0 ∧ c0 = 0) (n1 : a1 = none → l1 = 0 ∧ c1 = 0) (n2 : a2 = none → l2 = 0 ∧ c2 = 0)
    (e0 : b.length = l0) (e1 : z.length = l1) (e2 : r.length = l2) (r0 : Row w a0 b) (r1 : Row w a1 z) (r2 : Row w a2 r) (y0 : Byts b) (y1 : Byts z) (y2 : Byts r)
    (hp2 : ∀ i, i < l0 → b.getD i 0 = 255) :
    Calls Try.prog 5 #[.slice a0 l0 c0, .slice a1 l1 c1, .slice a2 l2 c2] w fun e w' => e = .returned (.bool true) ∧ Below w.heap.size w w' := by
  obtain ⟨i0, hi, hz0, hz1, hz2⟩ := info_parts Try.info5
  have HA := hide (after_all a0 l0 c0 b w e0 (by omega) r0 hp2)
  have N0 := hide n0
  have N1 := hide n1
  have N2 := hide n2
  have E0 := hide e0
  have E1 := hide e1
  have E2 := hide e2
  have R0 := hide r0
  have R1 := hide r1
  have R2 := hide r2
  have Y0 := hide y0
  have Y1 := hide y1
  have Y2 := hide y2
  have P2 := hide hp2
  have d0 : decide ((20000 : Int) < (l0 : Int)) = false := by simp; omega
  have d1 : decide ((20000 : Int) < (l1 : Int)) = false := by simp; omega
  have d2 : decide ((20000 : Int) < (l2 : Int)) = false := by simp; omega
  clear n0 n1 n2 e0 e1 e2 r0 r1 r2 y0 y1 y2 hp2
  go_enter Try.func5, Try.ntmps5
  go_wp2_with fail
  refine HA.out.mono ?_
  rintro e W1 ⟨rfl, rfl⟩
  have HF1 := hide (Fr.refl W1)
  have HS0 := hide (src_row W1 a0 l0 c0 b E0.out N0.out R0.out)
  clear HA
  have hLL : b.length + l1 ≤ 140737488355328 := by have := E0.out; omega
  have HLL := hide hLL
  clear hLL
  go_wp2_with (first | (at_builtin; refine wpList_append_src (by rfl) (.tmp 32) (.tmp 33) 25 25 (by rfl) i0 Try.underlying25 hi hz0 hz1 hz2 (.slice none 0 0) [] (by rfl) (Own.nil _) (.slice a0 l0 c0) l0 b (by rfl) HS0.out (by simp; omega) ?_; intro v2 W2 hown2 hg2 hf2; obtain ⟨aa, na, ca, rfl, HNa⟩ := hown2.shape2; have HO2 := hide hown2; have HF2 := hide (HF1.out.on (below_grown hg2)); have HW2 : Hid (∀ k, (Value.slice aa na ca).ownBlock = some k → W1.heap.size ≤ k) := fun k hk => (hf2 k hk).elim (fun e => by simp [Value.ownBlock] at e) (fun hs => hs); have HS1 := hide (src_row W2 a1 l1 c1 z E1.out N1.out (R1.out.below HF2.out.below)); clear hown2 hg2 hf2) | (at_builtin; refine wpList_append_src (by rfl) (.tmp 35) (.tmp 36) 25 25 (by rfl) i0 Try.underlying25 hi hz0 hz1 hz2 (.slice aa na ca) ([] ++ b) (by rfl) HO2.out (.slice a1 l1 c1) l1 z (by rfl) HS1.out HLL.out ?_; intro v3 W3 hown3 hg3 hf3; obtain ⟨ab, nb, cb, rfl, HNb⟩ := hown3.shape2; have HO3 := hide hown3; have HF3 := hide (HF2.out.grown hg3 (fun k e => HW2.out k e)); clear hown3 hg3 hf3))
  refine (known_any W3).mono ?_
  rintro e W4 ⟨rfl, hb⟩
  have HF4 := hide (HF3.out.on hb)
  clear hb HF1 HF2 HF3 HO2 HO3 HW2 HS0 HS1
  have T0 := hide (R0.out.below HF4.out.below)
  have T2 := hide (R2.out.below HF4.out.below)
  have HFl := hide (fl_true b l0 P2.out)
  by_cases hlen : l0 ≤ l2
  · have hdl : decide ((l0 : Int) ≤ (l2 : Int)) = true := by simp; omega
    have hlc : (l0 : Int) ≤ (c2 : Int) := by omega
    have hlc' : l0 ≤ c2 := by omega
    go_wp2_with fail
    refine (same_gen a2 a0 l0 l0 c2 c0 (r.take l0) b W4 (by rw [List.length_take]; have := E2.out; omega) E0.out (by omega) (by omega) (T2.out.first l0) T0.out).mono ?_
    rintro e W ⟨rfl, hb⟩
    have HFc := hide (HF4.out.on hb)
    have T0' := hide (T0.out.below hb)
    have T2' := hide (T2.out.below hb)
    have HBe : Hid (sameB (r.take l0) b = beg r b) := by have := beg_same r b (by have := E0.out; have := E2.out; omega); rwa [E0.out] at this
    clear hb T0 T2 HF4
    have T0 := T0'
    have T2 := T2'
    clear T0' T2'
    rw [HBe.out]
    clear HBe
    generalize hBg : beg r b = β at *
    have HBg0 := hide hBg
    clear hBg
    cases β
    · have HBg : Hid (beg r b = false) := HBg0.out
      clear HBg0
      go_wp2_with fail
      by_cases A1 : 0 ≤ ordI r b
      · have HA1 := hide A1
        have HA3 : Hid (0 < ordI r b) := by
          rcases Int.lt_or_le 0 (ordI r b) with h | h
          · exact h
          · exfalso
            have h5 := ordI_zero r b (by omega)
            have h6 := beg_of r b [] (by rw [h5]; simp)
            rw [HBg.out] at h6
            cases h6
        clear A1
        refine (order_any a2 a0 l2 c2 l0 c0 r b _ E2.out E0.out N2.out N0.out T2.out T0.out Y2.out Y0.out).mono ?_
        rintro e V ⟨rfl, rfl⟩
        have g1 : 0 ≤ ordI r b := HA1.out
        generalize ordI r b = o1 at g1 ⊢
        go_wp2
        go_loop [12, 13] (fun f i => ∃ k : Nat, k ≤ l0 ∧ i = .int .i64 (k : Int) ∧ f = .bool (fl b k)) (fun _ i => l0 - (intOf i).toNat)
        case atStart => exact ⟨0, by omega, rfl, rfl⟩
        case round =>
          obtain ⟨k, hk, rfl, rfl⟩ := hrel
          by_cases hlt : k < l0
          · obtain ⟨bb, bo, rfl, hcc⟩ := Row.some T0.out (by have := E0.out; omega)
            have gc := hcc k (by have := E0.out; omega)
            have HSu := hide (fl_succ b k)
            clear hcc
            generalize b.getD k 0 = cc at *
            generalize hfl : fl b k = fk at *
            clear hfl
            cases fk
            · go_wp2
              go_round
              case rel => exact ⟨k + 1, by omega, by go_num, by rw [HSu.out]; rfl⟩
              case measure => simp [intOf]; omega
            · go_wp2
              go_round
              case rel => exact ⟨k + 1, by omega, by go_num, by rw [HSu.out]; rfl⟩
              case measure => simp [intOf]; omega
          · obtain rfl : k = l0 := by omega
            rw [show fl b k = true from HFl.out]
            go_wp2_with fail
            refine (order_any a2 a0 l2 c2 k c0 r b _ E2.out E0.out N2.out N0.out T2.out T0.out Y2.out Y0.out).mono ?_
            rintro e V ⟨rfl, rfl⟩
            have g3 : 0 < ordI r b := HA3.out
            generalize ordI r b = o3 at g3 ⊢
            go_wp2
            go_ret
            exact ⟨rfl, HFc.out.below⟩
      · have HA1 : Hid (ordI r b < 0) := Int.not_le.1 A1
        clear A1
        refine (order_any a2 a0 l2 c2 l0 c0 r b _ E2.out E0.out N2.out N0.out T2.out T0.out Y2.out Y0.out).mono ?_
        rintro e V ⟨rfl, rfl⟩
        have g1 : ordI r b < 0 := HA1.out
        generalize ordI r b = o1 at g1 ⊢
        go_wp2
        go_loop [12, 13] (fun f i => ∃ k : Nat, k ≤ l0 ∧ i = .int .i64 (k : Int) ∧ f = .bool (fl b k)) (fun _ i => l0 - (intOf i).toNat)
        case atStart => exact ⟨0, by omega, rfl, rfl⟩
        case round =>
          obtain ⟨k, hk, rfl, rfl⟩ := hrel
          by_cases hlt : k < l0
          · obtain ⟨bb, bo, rfl, hcc⟩ := Row.some T0.out (by have := E0.out; omega)
            have gc := hcc k (by have := E0.out; omega)
            have HSu := hide (fl_succ b k)
            clear hcc
            generalize b.getD k 0 = cc at *
            generalize hfl : fl b k = fk at *
            clear hfl
            cases fk
            · go_wp2
              go_round
              case rel => exact ⟨k + 1, by omega, by go_num, by rw [HSu.out]; rfl⟩
              case measure => simp [intOf]; omega
            · go_wp2
              go_round
              case rel => exact ⟨k + 1, by omega, by go_num, by rw [HSu.out]; rfl⟩
              case measure => simp [intOf]; omega
          · obtain rfl : k = l0 := by omega
            rw [show fl b k = true from HFl.out]
            go_wp2
            go_ret
            exact ⟨rfl, HFc.out.below⟩
    · have HBg : Hid (beg r b = true) := HBg0.out
      clear HBg0
      go_wp2_with fail
      have HA1 : Hid (0 ≤ ordI r b) := by
        obtain ⟨z5, h5⟩ := beg_is r b HBg.out
        rw [h5]
        exact ordI_begins b z5
      refine (order_any a2 a0 l2 c2 l0 c0 r b _ E2.out E0.out N2.out N0.out T2.out T0.out Y2.out Y0.out).mono ?_
      rintro e V ⟨rfl, rfl⟩
      have g1 : 0 ≤ ordI r b := HA1.out
      generalize ordI r b = o1 at g1 ⊢
      go_wp2
      go_loop [12, 13] (fun f i => ∃ k : Nat, k ≤ l0 ∧ i = .int .i64 (k : Int) ∧ f = .bool (fl b k)) (fun _ i => l0 - (intOf i).toNat)
      case atStart => exact ⟨0, by omega, rfl, rfl⟩
      case round =>
        obtain ⟨k, hk, rfl, rfl⟩ := hrel
        by_cases hlt : k < l0
        · obtain ⟨bb, bo, rfl, hcc⟩ := Row.some T0.out (by have := E0.out; omega)
          have gc := hcc k (by have := E0.out; omega)
          have HSu := hide (fl_succ b k)
          clear hcc
          generalize b.getD k 0 = cc at *
          generalize hfl : fl b k = fk at *
          clear hfl
          cases fk
          · go_wp2
            go_round
            case rel => exact ⟨k + 1, by omega, by go_num, by rw [HSu.out]; rfl⟩
            case measure => simp [intOf]; omega
          · go_wp2
            go_round
            case rel => exact ⟨k + 1, by omega, by go_num, by rw [HSu.out]; rfl⟩
            case measure => simp [intOf]; omega
        · obtain rfl : k = l0 := by omega
          rw [show fl b k = true from HFl.out]
          go_wp2
          go_ret
          exact ⟨rfl, HFc.out.below⟩
  · have hdl : decide ((l0 : Int) ≤ (l2 : Int)) = false := by simp; omega
    have HBg := hide (beg_short r b (by have := E0.out; have := E2.out; omega))
    have HFc := HF4
    clear HF4
    go_wp2_with fail
    by_cases A1 : 0 ≤ ordI r b
    · have HA1 := hide A1
      have HA3 : Hid (0 < ordI r b) := by
        rcases Int.lt_or_le 0 (ordI r b) with h | h
        · exact h
        · exfalso
          have h5 := ordI_zero r b (by omega)
          have h6 := beg_of r b [] (by rw [h5]; simp)
          rw [HBg.out] at h6
          cases h6
      clear A1
      refine (order_any a2 a0 l2 c2 l0 c0 r b _ E2.out E0.out N2.out N0.out T2.out T0.out Y2.out Y0.out).mono ?_
      rintro e V ⟨rfl, rfl⟩
      have g1 : 0 ≤ ordI r b := HA1.out
      generalize ordI r b = o1 at g1 ⊢
      go_wp2
      go_loop [12, 13] (fun f i => ∃ k : Nat, k ≤ l0 ∧ i = .int .i64 (k : Int) ∧ f = .bool (fl b k)) (fun _ i => l0 - (intOf i).toNat)
      case atStart => exact ⟨0, by omega, rfl, rfl⟩
      case round =>
        obtain ⟨k, hk, rfl, rfl⟩ := hrel
        by_cases hlt : k < l0
        · obtain ⟨bb, bo, rfl, hcc⟩ := Row.some T0.out (by have := E0.out; omega)
          have gc := hcc k (by have := E0.out; omega)
          have HSu := hide (fl_succ b k)
          clear hcc
          generalize b.getD k 0 = cc at *
          generalize hfl : fl b k = fk at *
          clear hfl
          cases fk
          · go_wp2
            go_round
            case rel => exact ⟨k + 1, by omega, by go_num, by rw [HSu.out]; rfl⟩
            case measure => simp [intOf]; omega
          · go_wp2
            go_round
            case rel => exact ⟨k + 1, by omega, by go_num, by rw [HSu.out]; rfl⟩
            case measure => simp [intOf]; omega
        · obtain rfl : k = l0 := by omega
          rw [show fl b k = true from HFl.out]
          go_wp2_with fail
          refine (order_any a2 a0 l2 c2 k c0 r b _ E2.out E0.out N2.out N0.out T2.out T0.out Y2.out Y0.out).mono ?_
          rintro e V ⟨rfl, rfl⟩
          have g3 : 0 < ordI r b := HA3.out
          generalize ordI r b = o3 at g3 ⊢
          go_wp2
          go_ret
          exact ⟨rfl, HFc.out.below⟩
    · have HA1 : Hid (ordI r b < 0) := Int.not_le.1 A1
      clear A1
      refine (order_any a2 a0 l2 c2 l0 c0 r b _ E2.out E0.out N2.out N0.out T2.out T0.out Y2.out Y0.out).mono ?_
      rintro e V ⟨rfl, rfl⟩
      have g1 : ordI r b < 0 := HA1.out
      generalize ordI r b = o1 at g1 ⊢
      go_wp2
      go_loop [12, 13] (fun f i => ∃ k : Nat, k ≤ l0 ∧ i = .int .i64 (k : Int) ∧ f = .bool (fl b k)) (fun _ i => l0 - (intOf i).toNat)
      case atStart => exact ⟨0, by omega, rfl, rfl⟩
      case round =>
        obtain ⟨k, hk, rfl, rfl⟩ := hrel
        by_cases hlt : k < l0
        · obtain ⟨bb, bo, rfl, hcc⟩ := Row.some T0.out (by have := E0.out; omega)
          have gc := hcc k (by have := E0.out; omega)
          have HSu := hide (fl_succ b k)
          clear hcc
          generalize b.getD k 0 = cc at *
          generalize hfl : fl b k = fk at *
          clear hfl
          cases fk
          · go_wp2
            go_round
            case rel => exact ⟨k + 1, by omega, by go_num, by rw [HSu.out]; rfl⟩
            case measure => simp [intOf]; omega
          · go_wp2
            go_round
            case rel => exact ⟨k + 1, by omega, by go_num, by rw [HSu.out]; rfl⟩
            case measure => simp [intOf]; omega
        · obtain rfl : k = l0 := by omega
          rw [show fl b k = true from HFl.out]
          go_wp2
          go_ret
          exact ⟨rfl, HFc.out.below⟩

set_option maxHeartbeats 800000 in
set_option maxRecDepth 1000000 in
theorem walk (a0 : Option Addr) (len0 cap0 : Nat) (z0 : List Int) (a1 : Option Addr) (len1 cap1 : Nat) (z1 : List Int) (a2 : Option Addr) (len2 cap2 : Nat) (z2 : List Int) (w : World) (w0 : IsRow .u8 w a0 len0 cap0 z0) (w1 : IsRow .u8 w a1 len1 cap1 z1) (w2 : IsRow .u8 w a2 len2 cap2 z2) :
    Calls Try.prog 5 #[.slice a0 len0 cap0, .slice a1 len1 cap1, .slice a2 len2 cap2] w fun e w' => e = .returned (.bool true) ∧ Below w.heap.size w w' := by
  obtain ⟨hrow0, hbyt0, hlen0, hlc0, hcm0, hnil0⟩ := isrow_row w0
  obtain ⟨hrow1, hbyt1, hlen1, hlc1, hcm1, hnil1⟩ := isrow_row w1
  obtain ⟨hrow2, hbyt2, hlen2, hlc2, hcm2, hnil2⟩ := isrow_row w2
  generalize z0.take len0 = b at *
  generalize z1.take len1 = z at *
  generalize z2.take len2 = r at *
  unfold maxLen at hcm0 hcm1 hcm2
  clear w0 w1 w2
  by_cases hbig : len0 ≤ 20000 ∧ len1 ≤ 20000 ∧ len2 ≤ 20000
  · rcases last_at b hbyt0 with h | ⟨p, hp, h1, h2⟩
    · exact walk0 a0 len0 cap0 a1 len1 cap1 a2 len2 cap2 b z r w hbig.1 hbig.2.1 hbig.2.2 hlc0 hlc2 hnil0 hnil1 hnil2 hlen0 hlen1 hlen2 hrow0 hrow1 hrow2 hbyt0 hbyt1 hbyt2 (fun i hi => h i (by omega))
    · exact walk1 a0 len0 cap0 a1 len1 cap1 a2 len2 cap2 b z r w hbig.1 hbig.2.1 hbig.2.2 hlc0 hlc2 hnil0 hnil1 hnil2 hlen0 hlen1 hlen2 hrow0 hrow1 hrow2 hbyt0 hbyt1 hbyt2 p (by omega) h1 (fun i h3 h4 => h2 i h3 (by omega))
  · clear hrow0 hrow1 hrow2 hbyt0 hbyt1 hbyt2 hlen0 hlen1 hlen2 hnil0 hnil1 hnil2
    by_cases g0 : len0 ≤ 20000
    · have d0 : decide ((20000 : Int) < (len0 : Int)) = false := by simp; omega
      by_cases g1 : len1 ≤ 20000
      · have d1 : decide ((20000 : Int) < (len1 : Int)) = false := by simp; omega
        have d2 : decide ((20000 : Int) < (len2 : Int)) = true := by simp; omega
        clear hbig
        go_enter Try.func5, Try.ntmps5
        go_wp2
        go_ret
        exact ⟨rfl, Below.refl _ _⟩
      · have d1 : decide ((20000 : Int) < (len1 : Int)) = true := by simp; omega
        clear hbig
        go_enter Try.func5, Try.ntmps5
        go_wp2
        go_ret
        exact ⟨rfl, Below.refl _ _⟩
    · have d0 : decide ((20000 : Int) < (len0 : Int)) = true := by simp; omega
      clear hbig
      go_enter Try.func5, Try.ntmps5
      go_wp2
      go_ret
      exact ⟨rfl, Below.refl _ _⟩

set_option maxRecDepth 100000 in
theorem lifted (os : Os) (started : os.Started) (H : Type) (enc : TypeId × Value → H) :
    ReturnsInHanded {} Try.checked os 5 .any (Rows.keyBeginsSpec.pre6 enc Try.prog Try.f5 Rows.keyBeginsRow.domain false) (Rows.keyBeginsSpec.post enc Try.prog Try.f5 false true false false) := by
  refine returnsInHanded_of_change (C := Try.checked) own started (by kernel_rfl) Try.func5
    (ChangeSpec.witness6 (enc := enc) (C := Try.checked) false ⟨#[], #[.slice none 0 0, .slice none 0 0, .slice none 0 0], []⟩ 8 (by kernel_rfl) (by kernel_rfl) (by kernel_rfl) (by kernel_rfl)) ?_
  intro W base args ds gs before hval0 hW hcnd _
  have hval : ∀ (j : Nat) t v, Try.f5.params[j]? = some t → args[j]? = some v → Value.okWide Try.prog W .any base t v := hval0
  have hW' := hW
  obtain ⟨p, q, hA0, hV, rfl, hfz, hnd⟩ := hW
  have hA : DataW.TrodAll enc Try.prog W 0 (fun _ => true) true Try.f5.params.toList args.toList ds p := hA0
  rw [Try.params5] at hA hval
  obtain ⟨v0, vs0, d0, ds0, p0, q0, hargs, rfl, rfl, h0, r0⟩ := trodAll_cons hA
  obtain ⟨v1, vs1, d1, ds1, p1, q1, rfl, rfl, rfl, h1, r1⟩ := trodAll_cons r0
  obtain ⟨v2, vs2, d2, ds2, p2, q2, rfl, rfl, rfl, h2, r2⟩ := trodAll_cons r1
  obtain ⟨rfl, rfl, rfl⟩ := trodAll_nil r2
  obtain rfl : args = #[v0, v1, v2] := by cases args; simp_all
  obtain ⟨rfl, rfl⟩ := trodVars_none hV
  obtain ⟨a0, len0, cap0, rfl⟩ := okWide_slice Try.underlying25 (hval 0 25 v0 rfl rfl)
  have k0 := h0
  have lt0 : ∀ x ∈ p0, x.block < W.heap.size := by obtain ⟨m, hm⟩ := k0; exact DataW.trod_lt m _ _ _ hm
  obtain ⟨z0, w0⟩ : ∃ zs, IsRow .u8 W a0 len0 cap0 zs := by
    obtain ⟨fuel, hf⟩ := h0
    rcases open_ints Try.underlying25 Try.underlying5 (by kernel_rfl) hf with ⟨hcs, _⟩ | ⟨x, l, c, zs, hcs, _, hl, hm, hz, _, hcell, hwz⟩
    · simp [Value.cells] at hcs
      obtain ⟨rfl, rfl, rfl⟩ := hcs
      exact ⟨[], .inl ⟨rfl, rfl, rfl, rfl⟩⟩
    · simp [Value.cells] at hcs
      obtain ⟨rfl, rfl, rfl⟩ := hcs
      exact ⟨zs, .inr ⟨_, rfl, hl, hm, by simpa using hz, hcell, hwz⟩⟩
  obtain ⟨a1, len1, cap1, rfl⟩ := okWide_slice Try.underlying25 (hval 1 25 v1 rfl rfl)
  have k1 := h1
  have lt1 : ∀ x ∈ p1, x.block < W.heap.size := by obtain ⟨m, hm⟩ := k1; exact DataW.trod_lt m _ _ _ hm
  obtain ⟨z1, w1⟩ : ∃ zs, IsRow .u8 W a1 len1 cap1 zs := by
    obtain ⟨fuel, hf⟩ := h1
    rcases open_ints Try.underlying25 Try.underlying5 (by kernel_rfl) hf with ⟨hcs, _⟩ | ⟨x, l, c, zs, hcs, _, hl, hm, hz, _, hcell, hwz⟩
    · simp [Value.cells] at hcs
      obtain ⟨rfl, rfl, rfl⟩ := hcs
      exact ⟨[], .inl ⟨rfl, rfl, rfl, rfl⟩⟩
    · simp [Value.cells] at hcs
      obtain ⟨rfl, rfl, rfl⟩ := hcs
      exact ⟨zs, .inr ⟨_, rfl, hl, hm, by simpa using hz, hcell, hwz⟩⟩
  obtain ⟨a2, len2, cap2, rfl⟩ := okWide_slice Try.underlying25 (hval 2 25 v2 rfl rfl)
  have k2 := h2
  have lt2 : ∀ x ∈ p2, x.block < W.heap.size := by obtain ⟨m, hm⟩ := k2; exact DataW.trod_lt m _ _ _ hm
  obtain ⟨z2, w2⟩ : ∃ zs, IsRow .u8 W a2 len2 cap2 zs := by
    obtain ⟨fuel, hf⟩ := h2
    rcases open_ints Try.underlying25 Try.underlying5 (by kernel_rfl) hf with ⟨hcs, _⟩ | ⟨x, l, c, zs, hcs, _, hl, hm, hz, _, hcell, hwz⟩
    · simp [Value.cells] at hcs
      obtain ⟨rfl, rfl, rfl⟩ := hcs
      exact ⟨[], .inl ⟨rfl, rfl, rfl, rfl⟩⟩
    · simp [Value.cells] at hcs
      obtain ⟨rfl, rfl, rfl⟩ := hcs
      exact ⟨zs, .inr ⟨_, rfl, hl, hm, by simpa using hz, hcell, hwz⟩⟩
  clear hA0 hval0
  refine (walk a0 len0 cap0 z0 a1 len1 cap1 z1 a2 len2 cap2 z2 W w0 w1 w2).mono fun e W' ⟨he, bel⟩ => ?_
  subst he
  exact ⟨_, rfl, _, _, _, [], _, [], hW', trodAll_mk1 (shut_bool Try.underlying4 _), (trodAll_cons_mk (Below.trod laidOut (by kernel_rfl) (of_decide_eq_true (by kernel_rfl)) k0 bel lt0) (trodAll_cons_mk (Below.trod laidOut (by kernel_rfl) (of_decide_eq_true (by kernel_rfl)) k1 bel lt1) (trodAll_cons_mk (Below.trod laidOut (by kernel_rfl) (of_decide_eq_true (by kernel_rfl)) k2 bel lt2) trodAll_mk0))), rfl, bel.frame _, fun h => by cases h⟩

theorem over : Rows.keyBeginsRow.holds Try.pinned (OpenSpec.ofChange Rows.keyBeginsSpec) :=
  OpenClaim.holds_of_wide 5 Try.f5 rfl rfl rfl rfl rfl rfl rfl ⟨rfl, rfl, rfl, rfl, rfl⟩ rfl rfl rfl rfl rfl (by kernel_rfl) Try.func5 (by kernel_rfl)
    (of_decide_eq_true (by kernel_rfl)) (by unfold Func.isWrapper; first | (rw [if_pos (by decide +kernel)]; kernel_rfl) | (rw [if_neg (by decide +kernel)]; exact ⟨rfl, rfl⟩))
    (fun os started H enc _ => lifted os started H enc)

end Go.Proofs.Ytegoeaofjnpehaa.Begins
namespace Go.Proofs.Ytegoeaofjnpehaa
theorem keyBegins_holds : Rows.KeyBeginsSaid := Begins.over
#print axioms keyBegins_holds
end Go.Proofs.Ytegoeaofjnpehaa
