/- The copy of a list has room for itself alone. -/
import Derived.Test.YtcflnkepopcofaaSY
import Derived.Test.YtcflnkepopcofaaHC
import Derived.Laws.OwnMore
namespace Go.Proofs.Ytcflnkepopcofaa
open Go.RowKit
set_option linter.unusedVariables false

set_option maxHeartbeats 3200000 in
set_option maxRecDepth 1000000 in
theorem centries_cap (a : Option Addr) (n c : Nat) (xs : List En) (w : World) (h : Ens w a n c xs) (hn : n ≤ 1000000) (hw : wts (ers xs) ≤ 1000000) :
    Calls Try.prog 30 #[.slice a n c] w fun e w' => ∃ ys, e = .returned (.slice (some ⟨w.heap.size, 0, none⟩) n n) ∧ ers ys = ers xs ∧ Cl w.heap.size w' (.slice (some ⟨w.heap.size, 0, none⟩) n n) ys ∧ Below w.heap.size w w' := by
  obtain ⟨i0, hi, hz0, hz1, hz2⟩ := info_parts Try.infoE
  have HE := hide h
  have HW := hide hw
  clear h hw
  go_enter Try.func30, Try.ntmps30
  go_wp2_with (at_make; refine wpList_make_own _ rfl _ _ 22 rfl w.heap.size 28 i0 _ 4 Try.underlying22 hi hz0 hz1 _ _ _ n rfl rfl rfl (by rw [hz2]; omega) (by unfold maxLen; omega) (Nat.le_refl _) ?_; intro w0 hown0 hgrow0)
  have HC0 : Hid (Cl w.heap.size w0 (.slice (some ⟨w.heap.size, 0, none⟩) 0 n) []) := hide ⟨by simpa [rowc] using hown0, (by intro y hy; simp at hy), (by intro i j yi yj k hi; simp at hi)⟩
  have HB0 := hide ((Below.refl w.heap.size w).grown hgrow0 (Nat.le_refl _) (fun k h => by cases h))
  clear hown0 hgrow0
  go_loopw [3, 11] (fun s i wr => ∃ (k : Nat) (ys : List En), k ≤ n ∧ i = .int .i64 (k : Int) ∧ s = .slice (some ⟨w.heap.size, 0, none⟩) k n ∧ ers ys = ers (xs.take k) ∧ Cl w.heap.size wr (.slice (some ⟨w.heap.size, 0, none⟩) k n) ys ∧ Below w.heap.size w wr) (fun _ i _ => n - (intOf i).toNat)
  case atStart => exact ⟨0, [], Nat.zero_le _, rfl, rfl, by simp [ers], HC0.out, HB0.out⟩
  case round =>
    obtain ⟨k, ys, hk, rfl, rfl, her, hcl, hbl⟩ := hrel
    have HBl := hide hbl
    have HEr := hide her
    have HCl := hide hcl
    clear her hcl
    by_cases hlt : k < n
    · obtain ⟨x, hx, hok⟩ := (HE.out.below hbl).at hlt
      obtain ⟨b, off, rfl, hbs, q0, q1, q2, q3⟩ := (HE.out.below hbl).cells hx
      have hl := mem_wts hx
      have hBn := below_alloc wr (.cells #[.slice x.ka x.e.key.length x.kc, .slice x.va x.e.val.length x.vc, .int .u32 (x.e.page : Int), .int .u32 (x.e.size : Int)] 28)
      have HX := hide (centry_any x _ (hok.below hBn) (by have := HW.out; omega) (by have := HW.out; omega))
      have HCl1 := hide (HCl.out.below hBn)
      have HBn := hide (hbl.trans (hBn.mono hbl.size))
      clear hl hok hbl hBn
      go_wp2_with fail
      refine HX.out.mono ?_
      rintro e w2 ⟨y, rfl, hye, hyo, hb2⟩
      simp only [En.v]
      have HYe := hide hye
      have HYo := hide hyo
      have HCl2 := hide (HCl1.out.below hb2)
      have HB2 := hide (HBn.out.trans (hb2.mono HBn.out.size))
      have HW2 := hide hb2
      have HEy : Hid (ers (ys ++ [y]) = ers (xs.take (k + 1))) := by rw [Hid, take_at hx, ers_app, ers_app, HEr.out]; simp [ers, hye]
      have HLn : Hid (ys.length = k) := by have := congrArg List.length HEr.out; rw [ers_len, ers_len, List.length_take, HE.out.len] at this; rw [Hid, this]; omega
      have hyl : ys.length ≤ 1000000 := by rw [HLn.out]; omega
      have hsz : w.heap.size ≤ w2.heap.size := HB2.out.size
      have hrow := (HCl2.out.below (below_alloc w2 (.cells #[.slice y.ka y.e.key.length y.kc, .slice y.va y.e.val.length y.vc, .int .u32 (y.e.page : Int), .int .u32 (y.e.size : Int)] 28))).row
      rw [HLn.out] at hrow
      obtain ⟨w3, run3, hown3, hg3⟩ := run_append_fits (P := Try.prog) (w2.alloc (.cells #[.slice y.ka y.e.key.length y.kc, .slice y.va y.e.val.length y.vc, .int .u32 (y.e.page : Int), .int .u32 (y.e.size : Int)] 28)) w.heap.size 22 22 28 i0 4 Try.underlying22 hi hz1 w.heap.size k n (rowc ys) hrow ⟨w2.heap.size, 0, none⟩ 1 1 y.cells (by rfl) (box_news w2 y) (cells_one y) (by omega)
      have HC3 := hide (HCl1.out.snoc (v' := .slice (some ⟨w.heap.size, 0, none⟩) (k + 1) n) (w' := w3) HBn.out.size (hb2.trans ((below_alloc w2 _).mono hb2.size)) (hyo.below (below_alloc w2 _)) hg3 (by rw [HLn.out]; exact hown3))
      have HB3 := hide ((HB2.out.alloc hsz _).grown hg3 (by simp; omega) (fun k hk => by cases hk; exact Nat.le_refl _))
      clear hye hyo hb2 hx hown3 hg3 hrow
      go_wp2_with (at_builtin; refine wpList_run_append (by rfl) (.tmp 15) (.tmp 18) 22 (by rfl) (by rfl) (by rfl) run3 ?_)
      go_roundw
      case rel =>
        exact ⟨k + 1, ys ++ [y], by omega, by go_num, by rfl, HEy.out, HC3.out, HB3.out⟩
      case measure => simp [intOf]; omega
    · obtain rfl : k = n := by omega
      have HF : Hid (xs.take k = xs) := hide (List.take_of_length_le (by rw [HE.out.len]; exact Nat.le_refl _))
      go_wp2
      go_ret
      exact ⟨ys, rfl, by rw [HEr.out, HF.out], HCl.out, HBl.out⟩
set_option maxHeartbeats 3200000 in
set_option maxRecDepth 1000000 in
theorem cnode_cap (leaf : Bool) (a : Option Addr) (n c : Nat) (xs : List En) (w : World) (h : Ens w a n c xs) (hn : n ≤ 1000000) (hw : wts (ers xs) ≤ 1000000) :
    Calls Try.prog 19 #[.agg #[.bool leaf, .slice a n c]] w fun e w' => ∃ g ys, e = .returned (.agg #[.bool leaf, .slice (some ⟨g, 0, none⟩) n n]) ∧ ers ys = ers xs ∧ Cl (w.heap.size + 2) w' (.slice (some ⟨g, 0, none⟩) n n) ys ∧ Below w.heap.size w w' := by
  obtain ⟨hB, hb0, hb1, hs1⟩ := pair_boxes w (.bool leaf) (.slice a n c) (.bool false) (.slice none 0 0)
  obtain ⟨c0, c1, -⟩ := cells_two hb0
  have HC := hide (fun W (hW : Below ((w.alloc (.cells #[.bool leaf, .slice a n c] 24)).alloc (.cells #[.bool false, .slice none 0 0] 24)).heap.size ((w.alloc (.cells #[.bool leaf, .slice a n c] 24)).alloc (.cells #[.bool false, .slice none 0 0] 24)) W) => centries_cap a n c xs W ((h.below hB).below hW) hn hw)
  have HB := hide hB
  have HB0 := hide hb0
  have HB1 := hide hb1
  have HS1 := hide hs1
  clear h hB hb0 hb1 hs1
  go_enter Try.func19, Try.ntmps19
  go_wp2
  generalize (w.alloc (.cells #[.bool leaf, .slice a n c] 24)).alloc (.cells #[.bool false, .slice none 0 0] 24) = w1 at *
  go_region_with (first
    | (go_at_call 30; refine (HC.out _ (Below.refl _ _).drew).mono ?_; rintro e w2 ⟨ys, rfl, her, hcl, hb2⟩; have HB2 := hide ((Below.refl w1.heap.size w1).drew.trans hb2); have hbz0 := (HB2.out.block _ (lt_of_block HB0.out)).trans HB0.out; have hbz1 := (HB2.out.block _ (lt_of_block HB1.out)).trans HB1.out; obtain ⟨d0, d1, -⟩ := cells_two hbz0; obtain ⟨f0, f1, -⟩ := cells_two hbz1; have g0 := frozen_blk (j := 0) hbz1; have g1 := frozen_blk (j := 1) hbz1; have HBz1 := hide hbz1; have HEr := hide her; have HCl := hide hcl; clear her hcl hb2 hbz0 hbz1))
  all_goals
    go_wp2
    have hf := two_set (u := .bool leaf) (v := .slice (some ⟨w1.heap.size, 0, none⟩) n n) HBz1.out
    obtain ⟨q0, q1, -⟩ := cells_two hf
    refine bodyPost_ret (v := .agg #[.bool leaf, .slice (some ⟨w1.heap.size, 0, none⟩) n n]) ?_ rfl ?_
    · simp [results, Try.results19, go_sem, q0, q1]
    · have hcl : Cl (w.heap.size + 2) w2 (.slice (some ⟨w1.heap.size, 0, none⟩) n n) ys := by have := HCl.out; simp only [World.drew] at this; exact this.mono (by have := HS1.out; omega)
      exact ⟨_, ys, rfl, HEr.out, (hcl.other (fun k hk => two_other (by omega))), ((HB.out.trans (HB2.out.mono HB.out.size)).setCell (p := ⟨w.heap.size + 1, 0, none⟩) (show w.heap.size ≤ w.heap.size + 1 by omega) _).setCell (p := ⟨w.heap.size + 1, 1, none⟩) (show w.heap.size ≤ w.heap.size + 1 by omega) _⟩
end Go.Proofs.Ytcflnkepopcofaa
