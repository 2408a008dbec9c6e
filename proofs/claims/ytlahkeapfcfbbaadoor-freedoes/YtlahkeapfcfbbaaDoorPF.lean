/- A heap: what was laid first goes down. -/
import Derived.Test.YtlahkeapfcfbbaaDoorPE
namespace Go.Proofs.YtlahkeapfcfbbaaDoor
open Go.RowKit Go.Maps
set_option linter.unusedVariables false
variable {w w' : World} {p : Nat} {b : Bool} {v : Value} {xs : List Pg}
set_option maxHeartbeats 3200000 in
set_option maxRecDepth 1000000 in
theorem down_any (h : Pl w p b v xs) (n : Nat) (hu : HeapDown (key b) xs n 0) (hn : n + 1 = xs.length) (hf : xs.length ≤ 1000000) :
    Calls Tryd.prog 71 #[hi p, .int .i64 0, .int .i64 (n : Int)] w fun e w' => ∃ ys r, e = .returned (.bool r) ∧ Pl w' p b v ys ∧ ys.Perm xs ∧ pat ys n = pat xs n ∧ Heap (key b) (ys.take n) ∧ Mv (fun k => v.ownBlock = some k) w w' := by
  have HU := hide hu
  have HP := hide h
  clear hu h
  have hmL := mLess
  have hmS := mSwap
  unfold hi
  go_enter Tryd.func71, Tryd.ntmps71
  go_wp2
  go_loopw [7] (fun j wr => ∃ (k : Nat) (ys : List Pg), j = .int .i64 k ∧ k ≤ n ∧ HeapDown (key b) ys n k ∧ ys.Perm xs ∧ pat ys n = pat xs n ∧ Pl wr p b v ys ∧ Mv (fun k => v.ownBlock = some k) w wr) (fun j _ => n - (intOf j).toNat)
  case atStart => exact ⟨0, xs, rfl, Nat.zero_le _, HU.out, List.Perm.refl _, rfl, HP.out, Mv.refl _ _⟩
  case round =>
    obtain ⟨k, ys, rfl, hkn, hk, hpe, hpa, hpl, hmv⟩ := hrel
    have HK := hide hk
    have HPe := hide hpe
    have HPl := hide hpl
    have HPa := hide hpa
    have HM := hide hmv
    have hyl : ys.length = xs.length := hpe.length_eq
    clear hk hpe hpl hmv hpa
    by_cases h1 : 2 * k + 1 < n
    · have hc1 : ¬ ((n : Int) ≤ 2 * (k : Int) + 1) := by omega
      have HL : ∀ W (i j : Nat) (I J : Int), Same wr W → I = (i : Int) → J = (j : Int) → i < ys.length → j < ys.length → Hid (Calls Tryd.prog 90 #[.pointer (some ⟨p, 0, none⟩), .int .i64 I, .int .i64 J] W fun e w' => e = .returned (.bool (decide (key b (pat ys i) < key b (pat ys j)))) ∧ Same W w') := by
        intro W i j I J hW hI hJ hi hj
        rw [Hid, hI, hJ]; exact less_any (HPl.out.same hW) i j hi hj
      have HS : ∀ W (j : Nat) (J : Int), Same wr W → J = (j : Int) → j < n → Hid (Calls Tryd.prog 93 #[.pointer (some ⟨p, 0, none⟩), .int .i64 (k : Int), .int .i64 J] W fun e w' => e = .returned (.tuple #[]) ∧ Pl w' p b v (sw ys k j) ∧ w'.heap.size = W.heap.size ∧ Mv (fun k => v.ownBlock = some k) W w') := by
        intro W j J hW hJ hj
        rw [Hid, hJ]; exact swap_any (HPl.out.same hW) k j (by omega) (by omega)
      have HSt : ∀ j, 2 * k + 1 ≤ j → j ≤ 2 * k + 2 → j < n → key b (pat ys j) < key b (pat ys k) → (∀ c, 0 < c → c < n → (c - 1) / 2 = k → key b (pat ys j) ≤ key b (pat ys c)) → HeapDown (key b) (sw ys k j) n j ∧ (sw ys k j).Perm xs ∧ pat (sw ys k j) n = pat xs n := by
        intro j h1 h2 h3 h4 h5
        refine ⟨HK.out.step (by omega) h3 (by omega) h4 h5, (sw_perm (by omega) (by omega)).trans HPe.out, ?_⟩
        rw [pat_sw (by omega) (by omega), if_neg (by omega), if_neg (by omega)]
        exact HPa.out
      have HL' := hide HL
      have HS' := hide HS
      have HSt' := hide HSt
      clear HL HS HSt
      by_cases h2 : 2 * k + 2 < n
      · have hc2 : 2 * (k : Int) + 1 + 1 < (n : Int) := by omega
        have hd2 : decide (2 * (k : Int) + 1 + 1 < (n : Int)) = true := decide_eq_true hc2
        by_cases hA : key b (pat ys (2 * k + 2)) < key b (pat ys (2 * k + 1))
        · by_cases hB : key b (pat ys (2 * k + 2)) < key b (pat ys k)
          · have M1 : True := trivial
            have HA := HL'.out wr (2 * k + 2) (2 * k + 1) (2 * (k : Int) + 1 + 1) (2 * (k : Int) + 1) (Same.refl _) (by omega) (by omega) (by omega) (by omega)
            rw [decide_eq_true hA] at HA
            have HAf := hide hA
            clear hA
            have HB := hide (fun W (hW : Same wr W) => HL'.out W (2 * k + 2) k (2 * (k : Int) + 1 + 1) (k : Int) hW (by omega) rfl (by omega) (by omega))
            rw [decide_eq_true hB] at HB
            have HBf := hide hB
            clear hB
            have HC := hide (fun W (hW : Same wr W) => HS'.out W (2 * k + 2) (2 * (k : Int) + 1 + 1) hW (by omega) (by omega))
            clear HL' HS'
            go_wp2_with (first | (clear M1; go_at_call 90; refine HA.out.mono ?_; rintro e w1 ⟨rfl, hs1⟩; have HS1 := hide hs1; clear hs1) | (go_at_call 90; refine (HB.out _ HS1.out).out.mono ?_; rintro e w2 ⟨rfl, hs2⟩; have HS2 := hide (HS1.out.trans hs2); clear hs2) | (go_at_call 93; refine (HC.out _ HS2.out).out.mono ?_; rintro e w3 ⟨rfl, hp3, hz3, hm3⟩; have HP3 := hide hp3; have HM3 := hide hm3; clear hp3 hz3 hm3))
            have hch : ∀ c, 0 < c → c < n → (c - 1) / 2 = k → key b (pat ys (2 * k + 2)) ≤ key b (pat ys c) := fun c c0 c1 c2 => by
              have hc : c = 2 * k + 1 ∨ c = 2 * k + 2 := by omega
              rcases hc with rfl | rfl
              · exact Int.le_of_lt HAf.out
              · exact Int.le_refl _
            obtain ⟨q1, q2, q3⟩ := HSt'.out (2 * k + 2) (by omega) (by omega) (by omega) HBf.out hch
            go_roundw
            case rel => exact ⟨(2 * k + 2), sw ys k (2 * k + 2), by congr 1, by omega, q1, q2, q3, HP3.out, (HM.out.trans' HS2.out.mv).trans' HM3.out⟩
            case measure => simp [intOf]; omega
          · have M1 : True := trivial
            have HA := HL'.out wr (2 * k + 2) (2 * k + 1) (2 * (k : Int) + 1 + 1) (2 * (k : Int) + 1) (Same.refl _) (by omega) (by omega) (by omega) (by omega)
            rw [decide_eq_true hA] at HA
            have HAf := hide hA
            clear hA
            have HB := hide (fun W (hW : Same wr W) => HL'.out W (2 * k + 2) k (2 * (k : Int) + 1 + 1) (k : Int) hW (by omega) rfl (by omega) (by omega))
            rw [decide_eq_false hB] at HB
            have HBf := hide (Int.not_lt.1 hB)
            clear hB
            have HC := hide (fun W (hW : Same wr W) => HS'.out W (2 * k + 2) (2 * (k : Int) + 1 + 1) hW (by omega) (by omega))
            clear HL' HS'
            go_wp2_with (first | (clear M1; go_at_call 90; refine HA.out.mono ?_; rintro e w1 ⟨rfl, hs1⟩; have HS1 := hide hs1; clear hs1) | (go_at_call 90; refine (HB.out _ HS1.out).out.mono ?_; rintro e w2 ⟨rfl, hs2⟩; have HS2 := hide (HS1.out.trans hs2); clear hs2))
            have hch : ∀ c, 0 < c → c < n → (c - 1) / 2 = k → key b (pat ys (2 * k + 2)) ≤ key b (pat ys c) := fun c c0 c1 c2 => by
              have hc : c = 2 * k + 1 ∨ c = 2 * k + 2 := by omega
              rcases hc with rfl | rfl
              · exact Int.le_of_lt HAf.out
              · exact Int.le_refl _
            go_ret
            exact ⟨ys, _, rfl, HPl.out.same HS2.out, HPe.out, HPa.out, HK.out.take (fun c c0 c1 c2 => Int.le_trans HBf.out (hch c c0 c1 c2)), HM.out.trans' HS2.out.mv⟩
        · by_cases hB : key b (pat ys (2 * k + 1)) < key b (pat ys k)
          · have M1 : True := trivial
            have HA := HL'.out wr (2 * k + 2) (2 * k + 1) (2 * (k : Int) + 1 + 1) (2 * (k : Int) + 1) (Same.refl _) (by omega) (by omega) (by omega) (by omega)
            rw [decide_eq_false hA] at HA
            have HAf := hide (Int.not_lt.1 hA)
            clear hA
            have HB := hide (fun W (hW : Same wr W) => HL'.out W (2 * k + 1) k (2 * (k : Int) + 1) (k : Int) hW (by omega) rfl (by omega) (by omega))
            rw [decide_eq_true hB] at HB
            have HBf := hide hB
            clear hB
            have HC := hide (fun W (hW : Same wr W) => HS'.out W (2 * k + 1) (2 * (k : Int) + 1) hW (by omega) (by omega))
            clear HL' HS'
            go_wp2_with (first | (clear M1; go_at_call 90; refine HA.out.mono ?_; rintro e w1 ⟨rfl, hs1⟩; have HS1 := hide hs1; clear hs1) | (go_at_call 90; refine (HB.out _ HS1.out).out.mono ?_; rintro e w2 ⟨rfl, hs2⟩; have HS2 := hide (HS1.out.trans hs2); clear hs2) | (go_at_call 93; refine (HC.out _ HS2.out).out.mono ?_; rintro e w3 ⟨rfl, hp3, hz3, hm3⟩; have HP3 := hide hp3; have HM3 := hide hm3; clear hp3 hz3 hm3))
            have hch : ∀ c, 0 < c → c < n → (c - 1) / 2 = k → key b (pat ys (2 * k + 1)) ≤ key b (pat ys c) := fun c c0 c1 c2 => by
              have hc : c = 2 * k + 1 ∨ c = 2 * k + 2 := by omega
              rcases hc with rfl | rfl
              · exact Int.le_refl _
              · exact HAf.out
            obtain ⟨q1, q2, q3⟩ := HSt'.out (2 * k + 1) (by omega) (by omega) (by omega) HBf.out hch
            go_roundw
            case rel => exact ⟨(2 * k + 1), sw ys k (2 * k + 1), by congr 1, by omega, q1, q2, q3, HP3.out, (HM.out.trans' HS2.out.mv).trans' HM3.out⟩
            case measure => simp [intOf]; omega
          · have M1 : True := trivial
            have HA := HL'.out wr (2 * k + 2) (2 * k + 1) (2 * (k : Int) + 1 + 1) (2 * (k : Int) + 1) (Same.refl _) (by omega) (by omega) (by omega) (by omega)
            rw [decide_eq_false hA] at HA
            have HAf := hide (Int.not_lt.1 hA)
            clear hA
            have HB := hide (fun W (hW : Same wr W) => HL'.out W (2 * k + 1) k (2 * (k : Int) + 1) (k : Int) hW (by omega) rfl (by omega) (by omega))
            rw [decide_eq_false hB] at HB
            have HBf := hide (Int.not_lt.1 hB)
            clear hB
            have HC := hide (fun W (hW : Same wr W) => HS'.out W (2 * k + 1) (2 * (k : Int) + 1) hW (by omega) (by omega))
            clear HL' HS'
            go_wp2_with (first | (clear M1; go_at_call 90; refine HA.out.mono ?_; rintro e w1 ⟨rfl, hs1⟩; have HS1 := hide hs1; clear hs1) | (go_at_call 90; refine (HB.out _ HS1.out).out.mono ?_; rintro e w2 ⟨rfl, hs2⟩; have HS2 := hide (HS1.out.trans hs2); clear hs2))
            have hch : ∀ c, 0 < c → c < n → (c - 1) / 2 = k → key b (pat ys (2 * k + 1)) ≤ key b (pat ys c) := fun c c0 c1 c2 => by
              have hc : c = 2 * k + 1 ∨ c = 2 * k + 2 := by omega
              rcases hc with rfl | rfl
              · exact Int.le_refl _
              · exact HAf.out
            go_ret
            exact ⟨ys, _, rfl, HPl.out.same HS2.out, HPe.out, HPa.out, HK.out.take (fun c c0 c1 c2 => Int.le_trans HBf.out (hch c c0 c1 c2)), HM.out.trans' HS2.out.mv⟩
      · have hc2 : ¬ (2 * (k : Int) + 1 + 1 < (n : Int)) := by omega
        have hd2 : decide (2 * (k : Int) + 1 + 1 < (n : Int)) = false := decide_eq_false hc2
        by_cases hB : key b (pat ys (2 * k + 1)) < key b (pat ys k)
        · have HB := hide (fun W (hW : Same wr W) => HL'.out W (2 * k + 1) k (2 * (k : Int) + 1) (k : Int) hW (by omega) rfl (by omega) (by omega))
          rw [decide_eq_true hB] at HB
          have HBf := hide hB
          clear hB
          have HC := hide (fun W (hW : Same wr W) => HS'.out W (2 * k + 1) (2 * (k : Int) + 1) hW (by omega) (by omega))
          clear HL' HS'
          go_wp2_with (first | (go_at_call 90; refine (HB.out _ (Same.refl _)).out.mono ?_; rintro e w2 ⟨rfl, hs2⟩; have HS2 := hide ((Same.refl _).trans hs2); clear hs2) | (go_at_call 93; refine (HC.out _ HS2.out).out.mono ?_; rintro e w3 ⟨rfl, hp3, hz3, hm3⟩; have HP3 := hide hp3; have HM3 := hide hm3; clear hp3 hz3 hm3))
          have hch : ∀ c, 0 < c → c < n → (c - 1) / 2 = k → key b (pat ys (2 * k + 1)) ≤ key b (pat ys c) := fun c c0 c1 c2 => by
            have hc : c = 2 * k + 1 := by omega
            subst hc
            exact Int.le_refl _
          obtain ⟨q1, q2, q3⟩ := HSt'.out (2 * k + 1) (by omega) (by omega) (by omega) HBf.out hch
          go_roundw
          case rel => exact ⟨(2 * k + 1), sw ys k (2 * k + 1), by congr 1, by omega, q1, q2, q3, HP3.out, (HM.out.trans' HS2.out.mv).trans' HM3.out⟩
          case measure => simp [intOf]; omega
        · have HB := hide (fun W (hW : Same wr W) => HL'.out W (2 * k + 1) k (2 * (k : Int) + 1) (k : Int) hW (by omega) rfl (by omega) (by omega))
          rw [decide_eq_false hB] at HB
          have HBf := hide (Int.not_lt.1 hB)
          clear hB
          have HC := hide (fun W (hW : Same wr W) => HS'.out W (2 * k + 1) (2 * (k : Int) + 1) hW (by omega) (by omega))
          clear HL' HS'
          go_wp2_with (first | (go_at_call 90; refine (HB.out _ (Same.refl _)).out.mono ?_; rintro e w2 ⟨rfl, hs2⟩; have HS2 := hide ((Same.refl _).trans hs2); clear hs2))
          have hch : ∀ c, 0 < c → c < n → (c - 1) / 2 = k → key b (pat ys (2 * k + 1)) ≤ key b (pat ys c) := fun c c0 c1 c2 => by
            have hc : c = 2 * k + 1 := by omega
            subst hc
            exact Int.le_refl _
          go_ret
          exact ⟨ys, _, rfl, HPl.out.same HS2.out, HPe.out, HPa.out, HK.out.take (fun c c0 c1 c2 => Int.le_trans HBf.out (hch c c0 c1 c2)), HM.out.trans' HS2.out.mv⟩
    · have hc1 : (n : Int) ≤ 2 * (k : Int) + 1 := by omega
      have hd1 : decide ((n : Int) ≤ 2 * (k : Int) + 1) = true := decide_eq_true hc1
      go_wp2
      go_ret
      exact ⟨ys, _, rfl, HPl.out, HPe.out, HPa.out, HK.out.take (fun c h0 hc e => by omega), HM.out⟩
end Go.Proofs.YtlahkeapfcfbbaaDoor
