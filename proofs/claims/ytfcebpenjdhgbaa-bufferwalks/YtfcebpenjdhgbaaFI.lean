/- A buffer of which Puts and Deletes were asked. -/
import Derived.Test.YtfcebpenjdhgbaaMU
import Derived.Test.YtfcebpenjdhgbaaKO
namespace Go.Proofs.Ytfcebpenjdhgbaa
open Go.RowKit Go.Maps
set_option linter.unusedVariables false

/-- what a call makes of what is said. -/
def stepA (es : List Ee) (x : Ac) : List Ee := if x.k % 8 < 2 then put es ⟨x.db, x.kb, false⟩ else if x.k % 8 = 2 then put es ⟨x.db, [], true⟩ else es
def foldA (xs : List Ac) : List Ee := xs.foldl stepA []
theorem foldA_next {xs : List Ac} {k : Nat} {x : Ac} (h : xs[k]? = some x) : foldA (xs.take (k + 1)) = stepA (foldA (xs.take k)) x := by
  unfold foldA
  rw [take_at h, List.foldl_append]
  rfl
/-- how many Puts and Deletes. -/
def sayN (xs : List Ac) : Nat := (xs.filter (fun x => decide (x.k % 8 ≤ 2))).length
theorem sayN_next {xs : List Ac} {k : Nat} {x : Ac} (h : xs[k]? = some x) : sayN (xs.take (k + 1)) = sayN (xs.take k) + (if x.k % 8 ≤ 2 then 1 else 0) := by
  unfold sayN
  rw [take_at h, List.filter_append, List.length_append]
  by_cases hk : x.k % 8 ≤ 2 <;> simp [hk]
theorem sayN_le (xs : List Ac) : sayN xs ≤ xs.length := List.length_filter_le _ _
set_option maxHeartbeats 6400000 in
set_option maxRecDepth 1000000 in
theorem filled_any (a : Option Addr) (n c : Nat) (xs : List Ac) (w : World) (h : Acs w a n c xs) (hn : n ≤ 300) (hs : ∀ x ∈ xs, x.db.length ≤ 30000 ∧ x.kb.length ≤ 30000) :
    Calls Try.prog 6 #[.slice a n c] w fun e w' => e = .returned (.pointer (some ⟨w.heap.size, 0, none⟩)) ∧ ∃ hs O, St w' w.heap.size w.heap.size (foldA xs) (sayN xs) hs O ∧ Below w.heap.size w w' := by
  have HE := hide h
  have HS := hide hs
  clear h hs
  go_enter Try.func6, Try.ntmps6
  go_wp2_with fail
  refine (new_any w).mono ?_
  rintro e w1 ⟨rfl, hst1, hb1, hl1⟩
  have HST1 := hide hst1
  have HB1 := hide hb1
  clear hst1 hb1
  go_wp2
  go_loopw [4] (fun vi W => ∃ (k m : Nat) (hs : List (List Ee)) (O : Nat → Prop), k ≤ n ∧ vi = .int .i64 (k : Int) ∧ m = sayN (xs.take k) ∧ m ≤ k ∧ (foldA (xs.take k)).length ≤ k ∧ St W w.heap.size w.heap.size (foldA (xs.take k)) m hs O ∧ Below w.heap.size w W) (fun vi _ => n - (intOf vi).toNat)
  case atStart => exact ⟨0, 0, [], _, Nat.zero_le _, rfl, by simp [sayN], Nat.le_refl _, by simp [foldA], by simpa [foldA] using HST1.out, HB1.out⟩
  case round =>
    obtain ⟨k, m, hs, O, hk, rfl, hm, hmk, hfl, hst, hb⟩ := hrel
    have HST := hide hst
    have HB := hide hb
    have HM := hide hm
    have HFL := hide hfl
    clear hst hm hfl
    by_cases hlt : k < n
    · have d1 : (k : Int) < (n : Int) := by omega
      obtain ⟨x, b, off, hx, rfl, hbl, hat, hok⟩ := (HE.out.below hb).at hlt
      have hsz := HS.out x (List.mem_of_getElem? hx)
      have hxk := hok.k
      have HX := hide hx
      have HAt := hide hat
      have c0 := hat.c0
      have c1 := hat.c1
      have c2 := hat.c2
      have HN := hide (foldA_next hx)
      have HSN := hide (sayN_next hx)
      clear hx hat
      by_cases h2 : x.k % 8 < 2
      · have e1 : (x.k : Int) % 8 < 2 := by omega
        have e2 : ((((x.k : Int) % 8) == 2) : Bool) = false := by simp; omega
        have hfn : foldA (xs.take (k + 1)) = put (foldA (xs.take k)) ⟨x.db, x.kb, false⟩ := by rw [HN.out, stepA, if_pos h2]
        have hsn : sayN (xs.take (k + 1)) = m + 1 := by rw [HSN.out, if_pos (by omega), HM.out]
        have HP := hide (put_any (HST.out.below (Below.refl _ _).drew) x.da x.ka x.db.length x.dc x.kb.length x.kc x.db x.kb (hok.data.below (Below.refl _ _).drew) (hok.keep.below (Below.refl _ _).drew) (by omega) (by omega) (by omega) (by have := HFL.out; omega))
        have HFN := hide hfn
        have HSn := hide hsn
        have hlow : b < w.heap.size := by
          have := HE.out.row
          rcases this with h0 | ⟨b', off', e, hl, _⟩
          · exfalso; have := HE.out.len; rw [h0] at this; simp at this; omega
          · cases e; exact hl
        clear hok hsz hfn hsn
        go_wp2
        go_region_held3 (fun W => W.cell? ⟨b, off + k * 5, none⟩ = some (.int .u8 (x.k : Int)) ∧ W.cell? ⟨b, off + k * 5 + 1, none⟩ = some (.slice x.da x.db.length x.dc) ∧ W.cell? ⟨b, off + k * 5 + 2, none⟩ = some (.slice x.ka x.kb.length x.kc)) ((refine ⟨?_, ?_, ?_⟩ <;> assumption)) ((first | (go_at_call 20; refine HP.out.mono ?_; rintro e w2 ⟨rfl, O2, hst2, hgo2⟩; have hon := (HST.out.below (Below.refl wr.heap.size wr).drew).on hgo2; have HON := hide hon; have HST2 := hide hst2; clear hst2 hgo2 hon c0 c1 c2; have c0 := (HON.out.cell (p := ⟨b, off + k * 5, none⟩) hlow).trans HAt.out.c0; have c1 := (HON.out.cell (p := ⟨b, off + k * 5 + 1, none⟩) hlow).trans HAt.out.c1; have c2 := (HON.out.cell (p := ⟨b, off + k * 5 + 2, none⟩) hlow).trans HAt.out.c2)))
        go_wp2
        refine ⟨⟨k + 1, m + 1, _, O2, by omega, by go_num, HSn.out.symm, by omega, by rw [HFN.out]; have := (put_len (foldA (xs.take k)) ⟨x.db, x.kb, false⟩).1; have := HFL.out; omega, by rw [HFN.out]; exact HST2.out, HB.out.trans (((Below.refl w.heap.size wr).drew).trans HON.out)⟩, ?_⟩
        simp [intOf]; omega
      · have e1 : ¬ (x.k : Int) % 8 < 2 := by omega
        by_cases h3 : x.k % 8 = 2
        · have e2 : ((((x.k : Int) % 8) == 2) : Bool) = true := by simp; omega
          have hfn : foldA (xs.take (k + 1)) = put (foldA (xs.take k)) ⟨x.db, [], true⟩ := by rw [HN.out, stepA, if_neg h2, if_pos h3]
          have hsn : sayN (xs.take (k + 1)) = m + 1 := by rw [HSN.out, if_pos (by omega), HM.out]
          have HP := hide (delete_key HST.out x.da x.db.length x.dc x.db hok.data (by omega) (by omega) (by have := HFL.out; omega))
          have HFN := hide hfn
          have HSn := hide hsn
          clear hok hsz hfn hsn
          go_wp2_with (go_at_call 21; refine HP.out.mono ?_; rintro e w2 ⟨rfl, O2, hst2, hgo2⟩; have hon := HST.out.on hgo2; have HON := hide hon; have HST2 := hide hst2; clear hst2 hgo2 hon)
          refine ⟨⟨k + 1, m + 1, _, O2, by omega, by go_num, HSn.out.symm, by omega, by rw [HFN.out]; have := (put_len (foldA (xs.take k)) ⟨x.db, [], true⟩).1; have := HFL.out; omega, by rw [HFN.out]; exact HST2.out, HB.out.trans HON.out⟩, ?_⟩
          simp [intOf]; omega
        · have e2 : ((((x.k : Int) % 8) == 2) : Bool) = false := by simp; omega
          have hfn : foldA (xs.take (k + 1)) = foldA (xs.take k) := by rw [HN.out, stepA, if_neg h2, if_neg h3]
          have hsn : sayN (xs.take (k + 1)) = m := by rw [HSN.out, if_neg (by omega), HM.out, Nat.add_zero]
          have HFN := hide hfn
          have HSn := hide hsn
          clear hok hsz hfn hsn
          go_wp2
          refine ⟨⟨k + 1, m, _, O, by omega, by go_num, HSn.out.symm, by omega, by rw [HFN.out]; have := HFL.out; omega, by rw [HFN.out]; exact HST.out, HB.out⟩, ?_⟩
          simp [intOf]; omega
    · obtain rfl : k = n := by omega
      have ht : xs.take k = xs := List.take_of_length_le (by rw [HE.out.len]; exact Nat.le_refl _)
      have d1 : ¬ ((k : Int) < (k : Int)) := by omega
      have HT := hide ht
      clear ht
      go_wp2
      go_ret
      have h1 := HST.out
      have h2 := HM.out
      rw [HT.out] at h1 h2
      exact ⟨rfl, ⟨hs, O, by rw [← h2]; exact h1⟩, HB.out⟩
end Go.Proofs.Ytfcebpenjdhgbaa
