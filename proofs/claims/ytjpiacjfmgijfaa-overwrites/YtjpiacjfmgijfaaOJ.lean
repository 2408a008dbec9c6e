/- The document's own Encode. -/
import Derived.Test.YtjpiacjfmgijfaaOI
namespace Go.Proofs.Ytjpiacjfmgijfaa
open Go.RowKit Go.Maps
set_option linter.unusedVariables false
variable {w w' : World}
theorem Ro.nil (w : World) (B : Nat) (L : Nat → List Int) : Ro w (.slice none 0 0) B [] L :=
  ⟨World.ownsRow_nil _ _ _ _, fun b hb => by simp [Value.ownBlock] at hb, fun j hj => by simp at hj, fun j b hj => by simp at hj, fun i j b hi => by simp at hi⟩
theorem Ro.below {v : Value} {B : Nat} {vs : List Value} {L : Nat → List Int} (h : Ro w v B vs L) (hb : Below w.heap.size w w') : Ro w' v B vs L := h.stays fun k _ hk => hb.block k hk
theorem Ro.push {W3 V5 : World} {v v5 v' : Value} {B k : Nat} {vs : List Value} {L : Nat → List Int} {o : Obj} (h : Ro w v B vs L) (hk : vs.length = k) (hB : B ≤ w.heap.size) (hb3 : Below w.heap.size w W3) (ho5 : Own W3 v5 (L k)) (hn5 : ∀ b, v5.ownBlock = some b → w.heap.size ≤ b)
    (hr5 : V5.ownsRow 0 22 1 v' (k + 1) (vs ++ [v5])) (hg5 : (W3.alloc o).grownBy V5 v.ownBlock) (hv5 : v'.ownBlock = v.ownBlock ∨ v'.ownBlock = some (W3.alloc o).heap.size) : Ro V5 v' B (vs ++ [v5]) L := by
  have hs4 : (W3.alloc o).heap.size = W3.heap.size + 1 := by simp
  have hs3 := hb3.size
  have k5 : ∀ b, b < W3.heap.size → v.ownBlock ≠ some b → V5.heap[b]? = W3.heap[b]? := fun b hb hne => by
    rw [hg5.block b (by omega) (fun e => hne e.symm)]
    exact Below.heap_alloc W3 o b hb
  have e1 : ∀ j, j < k → (vs ++ [v5]).getD j nilv = vs.getD j nilv := fun j hj => by
    simp only [List.getD_eq_getElem?_getD]; rw [List.getElem?_append_left (by rw [hk]; exact hj)]
  have e2 : (vs ++ [v5]).getD k nilv = v5 := by
    simp only [List.getD_eq_getElem?_getD]; rw [List.getElem?_append_right (by rw [hk]; exact Nat.le_refl _), hk]; simp
  have hl : (vs ++ [v5]).length = k + 1 := by rw [List.length_append, hk]; rfl
  have cs : ∀ j, j < k + 1 → j < k ∨ j = k := fun j hj => by omega
  have vlt := h.lt.1
  have elt : ∀ j b, j < k → (vs.getD j nilv).ownBlock = some b → b < w.heap.size := fun j b hj => h.lt.2 j b (by rw [hk]; exact hj)
  have v5l : ∀ b, v5.ownBlock = some b → b < W3.heap.size := fun b hb => Own.lt ho5 hb
  have v5n : ∀ b, v5.ownBlock = some b → v.ownBlock ≠ some b := fun b hb e => by
    have := hn5 b hb; have := vlt b e; omega
  have v'n : ∀ b, b < W3.heap.size → v.ownBlock ≠ some b → v'.ownBlock ≠ some b := fun b hb hne e => by
    rcases hv5 with e' | e'
    · rw [e'] at e; exact hne e
    · rw [e'] at e; cases e; omega
  refine ⟨by rw [hl]; exact hr5, fun b hb => ?_, fun j hj => ?_, fun j b hj hb => ?_, fun i j b hi hj hij hb => ?_⟩
  · rcases hv5 with e' | e'
    · rw [e'] at hb; exact h.vlow b hb
    · rw [e'] at hb; cases hb; omega
  · rw [hl] at hj
    rcases cs j hj with hj | rfl
    · rw [e1 j hj]
      refine Own.of_block (h.own j (by rw [hk]; exact hj)) fun b hb => ?_
      have hb' := elt j b hj hb
      rw [k5 b (by omega) (h.low j b (by rw [hk]; exact hj) hb).2, hb3.block b hb']
    · rw [e2]
      exact Own.of_block ho5 fun b hb => k5 b (v5l b hb) (v5n b hb)
  · rw [hl] at hj
    rcases cs j hj with hj | rfl
    · rw [e1 j hj] at hb
      have q := h.low j b (by rw [hk]; exact hj) hb
      exact ⟨q.1, v'n b (by have := elt j b hj hb; omega) q.2⟩
    · rw [e2] at hb
      exact ⟨by have := hn5 b hb; omega, v'n b (v5l b hb) (v5n b hb)⟩
  · rw [hl] at hi hj
    rcases cs i hi with hi | rfl <;> rcases cs j hj with hj | rfl
    · rw [e1 i hi] at hb; rw [e1 j hj]; exact h.apart i j b (by rw [hk]; exact hi) (by rw [hk]; exact hj) hij hb
    · rw [e1 i hi] at hb; rw [e2]
      intro e
      have := hn5 b e
      have := elt i b hi hb
      omega
    · rw [e2] at hb; rw [e1 j hj]
      intro e
      have := hn5 b hb
      have := elt j b hj e
      omega
    · exact absurd rfl hij
set_option maxHeartbeats 3200000 in
set_option maxRecDepth 1000000 in
theorem rencode_ok (w : World) (a' : Option Addr) (b0 off n c m c' : Nat) (zs : List Int) (ys : List Nat) (hl : zs.length = n) (hnc : n ≤ c) (hc : c ≤ 9223372036854775807) (hr : Row w (some ⟨b0, off, none⟩) zs)
    (hl' : ys.length = m) (hm : m = need n) (hm0 : 0 < m) (hmc : m ≤ c') (hr' : Rw w a' ys) (hz' : W32 ys) (hok : ys.all okp = true) :
    Calls Try.prog 11 #[.slice (some ⟨b0, off, none⟩) n c, .slice a' m c'] w fun e w' => ∃ v vs, e = .returned (.tuple #[v, .int .u16 0]) ∧ vs.length = m ∧ Ro w' v w.heap.size vs (pay zs ys) ∧ Below w.heap.size w w' := by
  have hm9 := need_le n
  rw [← hm] at hm9
  obtain ⟨hn1, hn2, hn3⟩ := need_pos (n := n) (by omega)
  have HN : Hid (∀ W, Calls Try.prog 16 #[.int .i64 (n : Int)] W fun e w' => e = .returned (.int .i64 (m : Int)) ∧ w' = W) := fun W => by rw [hm]; exact rneed_any W n (by omega)
  have hmN : m = (n + 1003) / 1004 := by omega
  have HMN := hide hmN
  have HL := hide hl
  have HR := hide hr
  have HL' := hide hl'
  have HR' := hide hr'
  have HZ' := hide hz'
  have HOk := hide (all_at.1 hok)
  have hq0 : ((m : Int) == 0) = false := by rw [beq_eq_false_iff_ne]; omega
  have hq1 : ((m : Int) != (m : Int)) = false := by simp
  clear hl hr hl' hr' hz' hok hm hn3 hmN
  go_enter Try.func11, Try.ntmps11
  go_wp2_with (go_at_call 16; refine (HN.out _).mono ?_; rintro e w2 ⟨rfl, hw2⟩; rw [hw2]; clear hw2 w2)
  go_loop [7] (fun i => ∃ k : Nat, k ≤ m ∧ i = .int .i64 k) (fun i => m - (intOf i).toNat)
  case atStart => exact ⟨0, Nat.zero_le _, rfl⟩
  case round =>
    obtain ⟨k, hk, rfl⟩ := hrel
    by_cases hlt : k < m
    · have hlk : k < ys.length := by have := HL'.out; omega
      have hy := HOk.out k hlk
      rcases HR'.out with h0 | ⟨b, o, rfl, _, hcc⟩
      · subst h0; simp at hlk
      have g1 := hcc k hlk
      clear hcc
      unfold okp at hy
      generalize ys.getD k 0 = y at *
      simp at hy
      have hy1 : ¬ (y : Int) < 2 := by omega
      have hy2 : ¬ (16383 : Int) < (y : Int) := by omega
      have hkm : (k : Int) < (m : Int) := by omega
      clear hlk
      go_wp2
      go_round
      case rel => exact ⟨k + 1, by omega, by go_num⟩
      case measure => simp [intOf]; omega
    · obtain rfl : k = m := by omega
      have hkm : ¬ (k : Int) < (k : Int) := by omega
      go_wp2
      obtain ⟨i0, hi, hz0, hz1, hz2⟩ := info_parts infoBy
      obtain ⟨i1, hi1, hy0, hy1, hy2⟩ := info_parts infoU8
      clear HOk HN
      go_loopw [9, 8] (fun i u wr => ∃ (j : Nat) (v : Value) (vs : List Value), j ≤ k ∧ i = .int .i64 j ∧ u = v ∧ vs.length = j ∧ Ro wr v w.heap.size vs (pay zs ys) ∧ Below w.heap.size w wr) (fun i _ _ => k - (intOf i).toNat)
      case atStart => exact ⟨0, _, [], Nat.zero_le _, rfl, rfl, rfl, Ro.nil _ _ _, Below.refl _ _⟩
      case round =>
        obtain ⟨j, v, vs, hj, rfl, rfl, hvl, hro, hbel⟩ := hrel
        obtain ⟨av, cv, rfl⟩ := row_shape hro.row
        rw [hvl]
        rw [hvl] at hro
        have HVl := hide hvl
        have HRo := hide hro
        have HBe := hide hbel
        clear hvl hro hbel
        by_cases hlt : j < k
        · have hlj : (j : Int) < (k : Int) := by omega
          have hmn := HMN.out
          obtain ⟨I, hI⟩ : ∃ I, I = 1004 * j := ⟨_, rfl⟩
          have hI1 : (1004 : Int) * (j : Int) = (I : Int) := by omega
          have hIn : I < n := by omega
          have hcI : ¬ c = I := by omega
          have HRow : Hid (∀ W, Below wr.heap.size wr W → W.ownsRow 0 22 1 (.slice av j cv) j vs) := fun W hW => by
            have h := (HRo.out.below hW).row
            rw [HVl.out] at h
            exact h
          have HNn : Hid (∀ w3 v, (Value.ownBlock v = Value.ownBlock (.slice none 0 0) ∨ ∃ k, v.ownBlock = some k ∧ wr.heap.size ≤ k) → Below wr.heap.size wr w3 → ∀ b, v.ownBlock = some b → wr.heap.size ≤ b) := fun w3 v h _ b hb => by
            rcases h with h | ⟨k', e, h⟩
            · rw [h] at hb; simp [Value.ownBlock] at hb
            · rw [e] at hb; cases hb; exact h
          have hpc := row_piece (HR.out.below HBe.out) j
          have hpl : ((zs.drop (1004 * j)).take 1004).length = min 1004 (n - I) := by rw [List.length_take, List.length_drop, HL.out, hI]
          by_cases hfull : I + 1004 < n
          · have hmin1 : (I : Int) + 1004 < (n : Int) := by omega
            have HSr : Hid (∀ W, Below wr.heap.size wr W → Src Try.prog 1 22 (.slice (some ⟨b0, off + I, none⟩) (((I : Int) + 1004).toNat - I) (c - I)) (((I : Int) + 1004).toNat - I) (((zs.drop (1004 * j)).take 1004).map (Value.int .u8)) W) := fun W hW => src_row W _ _ (c - I) _ (by rw [hpl]; omega) (fun e => by cases e) (by rw [hI]; exact hpc.below hW)
            have HI := hide hI
            clear hI hpc hpl hmn
            by_cases hnx : j + 1 < k
            · have hlk : j + 1 < ys.length := by have := HL'.out; omega
              have hy := HZ'.out.at (j + 1)
              have HPay : Hid (pay zs ys j = [] ++ le4 (ys.getD (j + 1) 0) ++ (zs.drop (1004 * j)).take 1004) := rfl
              have HP := hide (rput_any wr (.slice none 0 0) [] (Own.nil wr) (ys.getD (j + 1) 0) hy (by simp))
              rcases HR'.out.below HBe.out with h0 | ⟨b, o, rfl, _, hcc⟩
              · subst h0; simp at hlk
              have g1 := hcc (j + 1) hlk
              clear hcc hlk
              generalize ys.getD (j + 1) 0 = y at *
              have hjn : (j : Int) + 1 < (k : Int) := by omega
              go_wp2_with (first
                | (go_at_call 25; refine HP.out.mono ?_; rintro e w3 ⟨v3, rfl, h1, h2, h3⟩; have hb3 : Below wr.heap.size wr w3 := h3.below (Nat.le_refl _) (fun b hb => (by simp [Value.ownBlock] at hb)); have hsr := HSr.out w3 hb3; obtain ⟨a3, n3, c3, rfl, hn3⟩ := h1.shape2; have J1 := hide h1; have J2 := hide h2; have JB := hide hb3; have JS := hide hsr; clear h1 h2 h3 hb3 hsr)
                | (at_builtin; refine wpList_append_src (by rfl) (.tmp 57) (.tmp 67) 22 22 (by rfl) i1 Try.underlying22 hi1 hy0 hy1 hy2 (.slice a3 n3 c3) ([] ++ le4 y) (by rfl) J1.out (.slice (some ⟨b0, off + I, none⟩) (((I : Int) + 1004).toNat - I) (c - I)) (((I : Int) + 1004).toNat - I) ((zs.drop (1004 * j)).take 1004) (by rfl) JS.out (by rw [List.nil_append, le4_len]; omega) ?_; intro v7 w7 hown7 hg7 hf7; obtain ⟨a7, n7, c7, rfl, hn7⟩ := hown7.shape2; have JO := hide hown7; have JG := hide hg7; have JF := hide hf7; have hb7 : Below wr.heap.size wr w7 := JB.out.grown hg7 JB.out.size (HNn.out w3 _ J2.out JB.out); have JB7 := hide hb7; have hrw7 := HRow.out w7 hb7; have JR := hide hrw7; clear hown7 hg7 hf7 hb7 hrw7)
                | (at_builtin; refine wpList_append_own_at _ (by rfl) (.tmp 69) (.tmp 71) 26 (by rfl) 0 22 i0 (.slice none 0 0) 1 24 Try.underlying26 hi hz0 hz1 hz2 rfl (by omega) (.slice av j cv) j vs (by rfl) (World.ownsRow.alloc JR.out _) ⟨w7.heap.size, 0, none⟩ 1 1 [.slice a7 n7 c7] (by rfl) (by rfl) (news_one _ _) (fun u hu => (by rw [List.mem_singleton.1 hu]; rfl)) (by unfold maxLen; omega) (by omega) (Nat.zero_le _) ?_; intro v9 w9 h1 h2 h3 h4; have K1 := hide h1; have K2 := hide h2; have K4 := hide h4; clear h1 h2 h3 h4))
              go_roundw
              case rel =>
                have ho5 : Own w7 (.slice a7 n7 c7) (pay zs ys j) := by rw [HPay.out]; exact JO.out
                have hn5 : ∀ b, (Value.slice a7 n7 c7).ownBlock = some b → wr.heap.size ≤ b := fun b hb => by
                  rcases JF.out b hb with h | h
                  · exact HNn.out w3 _ J2.out JB.out b h
                  · exact Nat.le_trans JB.out.size h
                refine ⟨j + 1, v9, _, by omega, by go_num, rfl, ?_, HRo.out.push HVl.out HBe.out.size JB7.out ho5 hn5 K1.out K2.out K4.out, ?_⟩
                · rw [List.length_append, HVl.out]; rfl
                · refine (HBe.out.trans ((JB7.out.trans ((below_alloc w7 (.cells #[.slice a7 n7 c7] 22)).mono JB7.out.size)).mono HBe.out.size)).grown K2.out (Nat.le_trans HBe.out.size (Nat.le_trans JB7.out.size (below_alloc w7 (.cells #[.slice a7 n7 c7] 22)).size)) (fun b hb => ?_)
                  exact HRo.out.vlow b hb
              case measure => simp [intOf]; omega
            · have HPay : Hid (pay zs ys j = [] ++ le4 0 ++ (zs.drop (1004 * j)).take 1004) := by
                rw [Hid, pay, List.getD_eq_getElem?_getD, List.getElem?_eq_none (by have := HL'.out; omega)]; rfl
              have HP := hide (rput_any wr (.slice none 0 0) [] (Own.nil wr) 0 (by omega) (by simp))
              have hjn : ¬ (j : Int) + 1 < (k : Int) := by omega
              go_wp2_with (first
                | (go_at_call 25; refine HP.out.mono ?_; rintro e w3 ⟨v3, rfl, h1, h2, h3⟩; have hb3 : Below wr.heap.size wr w3 := h3.below (Nat.le_refl _) (fun b hb => (by simp [Value.ownBlock] at hb)); have hsr := HSr.out w3 hb3; obtain ⟨a3, n3, c3, rfl, hn3⟩ := h1.shape2; have J1 := hide h1; have J2 := hide h2; have JB := hide hb3; have JS := hide hsr; clear h1 h2 h3 hb3 hsr)
                | (at_builtin; refine wpList_append_src (by rfl) (.tmp 57) (.tmp 67) 22 22 (by rfl) i1 Try.underlying22 hi1 hy0 hy1 hy2 (.slice a3 n3 c3) ([] ++ le4 0) (by rfl) J1.out (.slice (some ⟨b0, off + I, none⟩) (((I : Int) + 1004).toNat - I) (c - I)) (((I : Int) + 1004).toNat - I) ((zs.drop (1004 * j)).take 1004) (by rfl) JS.out (by rw [List.nil_append, le4_len]; omega) ?_; intro v7 w7 hown7 hg7 hf7; obtain ⟨a7, n7, c7, rfl, hn7⟩ := hown7.shape2; have JO := hide hown7; have JG := hide hg7; have JF := hide hf7; have hb7 : Below wr.heap.size wr w7 := JB.out.grown hg7 JB.out.size (HNn.out w3 _ J2.out JB.out); have JB7 := hide hb7; have hrw7 := HRow.out w7 hb7; have JR := hide hrw7; clear hown7 hg7 hf7 hb7 hrw7)
                | (at_builtin; refine wpList_append_own_at _ (by rfl) (.tmp 69) (.tmp 71) 26 (by rfl) 0 22 i0 (.slice none 0 0) 1 24 Try.underlying26 hi hz0 hz1 hz2 rfl (by omega) (.slice av j cv) j vs (by rfl) (World.ownsRow.alloc JR.out _) ⟨w7.heap.size, 0, none⟩ 1 1 [.slice a7 n7 c7] (by rfl) (by rfl) (news_one _ _) (fun u hu => (by rw [List.mem_singleton.1 hu]; rfl)) (by unfold maxLen; omega) (by omega) (Nat.zero_le _) ?_; intro v9 w9 h1 h2 h3 h4; have K1 := hide h1; have K2 := hide h2; have K4 := hide h4; clear h1 h2 h3 h4))
              go_roundw
              case rel =>
                have ho5 : Own w7 (.slice a7 n7 c7) (pay zs ys j) := by rw [HPay.out]; exact JO.out
                have hn5 : ∀ b, (Value.slice a7 n7 c7).ownBlock = some b → wr.heap.size ≤ b := fun b hb => by
                  rcases JF.out b hb with h | h
                  · exact HNn.out w3 _ J2.out JB.out b h
                  · exact Nat.le_trans JB.out.size h
                refine ⟨j + 1, v9, _, by omega, by go_num, rfl, ?_, HRo.out.push HVl.out HBe.out.size JB7.out ho5 hn5 K1.out K2.out K4.out, ?_⟩
                · rw [List.length_append, HVl.out]; rfl
                · refine (HBe.out.trans ((JB7.out.trans ((below_alloc w7 (.cells #[.slice a7 n7 c7] 22)).mono JB7.out.size)).mono HBe.out.size)).grown K2.out (Nat.le_trans HBe.out.size (Nat.le_trans JB7.out.size (below_alloc w7 (.cells #[.slice a7 n7 c7] 22)).size)) (fun b hb => ?_)
                  exact HRo.out.vlow b hb
              case measure => simp [intOf]; omega
          · have hmin1 : ¬ (I : Int) + 1004 < (n : Int) := by omega
            have HSr : Hid (∀ W, Below wr.heap.size wr W → Src Try.prog 1 22 (.slice (some ⟨b0, off + I, none⟩) (n - I) (c - I)) (n - I) (((zs.drop (1004 * j)).take 1004).map (Value.int .u8)) W) := fun W hW => src_row W _ _ (c - I) _ (by rw [hpl]; omega) (fun e => by cases e) (by rw [hI]; exact hpc.below hW)
            have hjn : ¬ (j : Int) + 1 < (k : Int) := by omega
            have HI := hide hI
            have HPay : Hid (pay zs ys j = [] ++ le4 0 ++ (zs.drop (1004 * j)).take 1004) := by
              rw [Hid, pay, List.getD_eq_getElem?_getD, List.getElem?_eq_none (by have := HL'.out; omega)]; rfl
            have HP := hide (rput_any wr (.slice none 0 0) [] (Own.nil wr) 0 (by omega) (by simp))
            clear hI hpc hpl hmn
            go_wp2_with (first
              | (go_at_call 25; refine HP.out.mono ?_; rintro e w3 ⟨v3, rfl, h1, h2, h3⟩; have hb3 : Below wr.heap.size wr w3 := h3.below (Nat.le_refl _) (fun b hb => (by simp [Value.ownBlock] at hb)); have hsr := HSr.out w3 hb3; obtain ⟨a3, n3, c3, rfl, hn3⟩ := h1.shape2; have J1 := hide h1; have J2 := hide h2; have JB := hide hb3; have JS := hide hsr; clear h1 h2 h3 hb3 hsr)
              | (at_builtin; refine wpList_append_src (by rfl) (.tmp 57) (.tmp 67) 22 22 (by rfl) i1 Try.underlying22 hi1 hy0 hy1 hy2 (.slice a3 n3 c3) ([] ++ le4 0) (by rfl) J1.out (.slice (some ⟨b0, off + I, none⟩) (n - I) (c - I)) (n - I) ((zs.drop (1004 * j)).take 1004) (by rfl) JS.out (by rw [List.nil_append, le4_len]; omega) ?_; intro v7 w7 hown7 hg7 hf7; obtain ⟨a7, n7, c7, rfl, hn7⟩ := hown7.shape2; have JO := hide hown7; have JG := hide hg7; have JF := hide hf7; have hb7 : Below wr.heap.size wr w7 := JB.out.grown hg7 JB.out.size (HNn.out w3 _ J2.out JB.out); have JB7 := hide hb7; have hrw7 := HRow.out w7 hb7; have JR := hide hrw7; clear hown7 hg7 hf7 hb7 hrw7)
              | (at_builtin; refine wpList_append_own_at _ (by rfl) (.tmp 69) (.tmp 71) 26 (by rfl) 0 22 i0 (.slice none 0 0) 1 24 Try.underlying26 hi hz0 hz1 hz2 rfl (by omega) (.slice av j cv) j vs (by rfl) (World.ownsRow.alloc JR.out _) ⟨w7.heap.size, 0, none⟩ 1 1 [.slice a7 n7 c7] (by rfl) (by rfl) (news_one _ _) (fun u hu => (by rw [List.mem_singleton.1 hu]; rfl)) (by unfold maxLen; omega) (by omega) (Nat.zero_le _) ?_; intro v9 w9 h1 h2 h3 h4; have K1 := hide h1; have K2 := hide h2; have K4 := hide h4; clear h1 h2 h3 h4))
            go_roundw
            case rel =>
              have ho5 : Own w7 (.slice a7 n7 c7) (pay zs ys j) := by rw [HPay.out]; exact JO.out
              have hn5 : ∀ b, (Value.slice a7 n7 c7).ownBlock = some b → wr.heap.size ≤ b := fun b hb => by
                rcases JF.out b hb with h | h
                · exact HNn.out w3 _ J2.out JB.out b h
                · exact Nat.le_trans JB.out.size h
              refine ⟨j + 1, v9, _, by omega, by go_num, rfl, ?_, HRo.out.push HVl.out HBe.out.size JB7.out ho5 hn5 K1.out K2.out K4.out, ?_⟩
              · rw [List.length_append, HVl.out]; rfl
              · refine (HBe.out.trans ((JB7.out.trans ((below_alloc w7 (.cells #[.slice a7 n7 c7] 22)).mono JB7.out.size)).mono HBe.out.size)).grown K2.out (Nat.le_trans HBe.out.size (Nat.le_trans JB7.out.size (below_alloc w7 (.cells #[.slice a7 n7 c7] 22)).size)) (fun b hb => ?_)
                exact HRo.out.vlow b hb
            case measure => simp [intOf]; omega
        · obtain rfl : j = k := by omega
          have hlj : ¬ (j : Int) < (j : Int) := by omega
          go_wp2
          go_ret2
          exact ⟨_, rfl, vs, HVl.out, HRo.out, HBe.out⟩
end Go.Proofs.Ytjpiacjfmgijfaa
