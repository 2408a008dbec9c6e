/- slices.Insert of one entry, anywhere, whether there is room or not. -/
import Derived.Test.YtfcebpenjdhgbaaIC
import Derived.Test.YtfcebpenjdhgbaaB
import Derived.Maps.AppendAt
namespace Go.Proofs.Ytfcebpenjdhgbaa
open Go.RowKit Go.Maps
set_option linter.unusedVariables false

theorem row_mono {A B t m : Nat} {w : World} {v : Value} {n : Nat} {cs : List Value} (h : w.ownsRow A t m v n cs) (hb : B ≤ A) : w.ownsRow B t m v n cs := by
  refine ⟨h.1, ?_⟩
  rcases h.2 with h2 | ⟨g, cap, cur, e, hg, r⟩
  · exact .inl h2
  · exact .inr ⟨g, cap, cur, e, Nat.le_trans hb hg, r⟩
theorem grown_of_below {w w' : World} {r : Option Nat} (h : Below w.heap.size w w') : w.grownBy w' r := ⟨h.os, h.tape, h.output, h.size, fun k hk _ => h.block k hk⟩
theorem box_at {w : World} {q : Nat} {y : En} (hq : w.heap[q]? = some (.cells #[.slice y.ka y.e.key.length y.kc, .slice y.va y.e.val.length y.vc, .bool y.e.del] 36 (0, 0))) : ∀ j u, y.cells[j]? = some u → w.cell? ((⟨q, 0, none⟩ : Addr).add j) = some u := fun j u hj => by
  rw [Addr.add_lit, World.cell?, hq]
  simp only [Nat.zero_add, En.cells] at hj ⊢
  simpa using hj
set_option maxHeartbeats 1600000 in
set_option maxRecDepth 1000000 in
theorem insert_end (v : Value) (q n B : Nat) (ys : List En) (y : En) (w : World) (hn : n ≤ 1000000) (hl : ys.length = n) (h : w.ownsRow B 36 3 v n (rowc ys)) (hB : B ≤ w.heap.size)
    (hq : w.heap[q]? = some (.cells #[.slice y.ka y.e.key.length y.kc, .slice y.va y.e.val.length y.vc, .bool y.e.del] 36 (0, 0))) :
    Calls Try.prog 46 #[v, .int .i64 (n : Int), .slice (some ⟨q, 0, none⟩) 1 1] w fun e w' => ∃ v', e = .returned v' ∧ w'.ownsRow B 36 3 v' (n + 1) (rowc (ys ++ [y])) ∧ w.grownBy w' v.ownBlock ∧ (v'.ownBlock = v.ownBlock ∨ ∃ k, v'.ownBlock = some k ∧ w.heap.size ≤ k) := by
  obtain ⟨i0, hi0, hz0, hzs, hzb⟩ := info_parts Try.infoE
  obtain ⟨v', w', run1, hown, hg, _, hloc⟩ := run_append_own_at (P := Try.prog) w B 30 30 36 i0 _ 3 56 Try.underlying30 hi0 hz0 hzs hzb (by rfl) (by omega) v n (rowc ys) h ⟨q, 0, none⟩ 1 1 y.cells (by rfl) (box_at hq) (cells_one y) (by unfold maxLen; omega) (by omega) hB
  rw [← rowc_one y, ← rowc_app] at hown
  obtain ⟨a, c, rfl, h1, h2, h3, h4⟩ := row_shape h
  obtain ⟨a2, c2, rfl, _⟩ := row_shape hown
  have HG := hide hg
  have HO := hide hown
  have HL : Hid ((Value.slice a2 (n + 1) c2).ownBlock = (Value.slice a n c).ownBlock ∨ ∃ k, (Value.slice a2 (n + 1) c2).ownBlock = some k ∧ w.heap.size ≤ k) := hide (hloc.imp id fun e => ⟨_, e, Nat.le_refl _⟩)
  clear hown hg hloc h hq
  have c1 : (0 : Int) ≤ (n : Int) := by omega
  have c2 : ¬ (n : Int) < 0 := by omega
  rcases h4 with rfl | ⟨g, rfl⟩
  · obtain ⟨rfl, rfl⟩ := h3 rfl
    go_enter Try.func46, Try.ntmps46
    go_wp2_with (at_builtin; (refine wpList_run_append (by rfl) (.tmp 23) (.tmp 24) 30 (by rfl) (by rfl) (by rfl) run1 ?_))
    go_ret
    exact ⟨_, rfl, HO.out, HG.out, HL.out⟩
  · clear h3
    go_enter Try.func46, Try.ntmps46
    go_wp2_with (at_builtin; (refine wpList_run_append (by rfl) (.tmp 23) (.tmp 24) 30 (by rfl) (by rfl) (by rfl) run1 ?_))
    all_goals
      go_ret
      exact ⟨_, rfl, HO.out, HG.out, HL.out⟩
theorem insert_any (v : Value) (q n i B : Nat) (ys : List En) (y : En) (w : World) (hi : i ≤ n) (hn : n ≤ 1000000) (hl : ys.length = n) (h : w.ownsRow B 36 3 v n (rowc ys)) (hB : B ≤ w.heap.size) (hqv : v.ownBlock ≠ some q)
    (hq : w.heap[q]? = some (.cells #[.slice y.ka y.e.key.length y.kc, .slice y.va y.e.val.length y.vc, .bool y.e.del] 36 (0, 0))) :
    Calls Try.prog 46 #[v, .int .i64 (i : Int), .slice (some ⟨q, 0, none⟩) 1 1] w fun e w' => ∃ v', e = .returned v' ∧ w'.ownsRow B 36 3 v' (n + 1) (rowc (ys.take i ++ y :: ys.drop i)) ∧ w.grownBy w' v.ownBlock ∧ (v'.ownBlock = v.ownBlock ∨ ∃ k, v'.ownBlock = some k ∧ w.heap.size ≤ k) := by
  by_cases h1 : i < n
  · obtain ⟨a, c, rfl, hc, _, h3, h4⟩ := row_shape h
    rcases h4 with rfl | ⟨g, rfl⟩
    · have := (h3 rfl).1; omega
    · by_cases h2 : n < c
      · refine (insert_shift g q n i c B ys y w h1 hn h2 hl h (fun e => hqv (by simp [Value.ownBlock, e])) hq).mono ?_
        rintro e w' ⟨rfl, ho, hg⟩
        exact ⟨_, rfl, ho, hg, .inl rfl⟩
      · obtain rfl : c = n := by omega
        have hcell := h.cells (g := g) rfl
        refine (insert_mid g q c i ys y w h1 hn hl (fun j u hu => by have := hcell j u hu; rwa [Addr.add_lit, Nat.zero_add] at this) (fun j u hu => by have := box_at hq j u hu; rwa [Addr.add_lit, Nat.zero_add] at this)).mono ?_
        rintro e w' ⟨G, rfl, ho, hb⟩
        exact ⟨_, rfl, row_mono ho hB, grown_of_below hb, .inr ⟨_, rfl, Nat.le_refl _⟩⟩
  · obtain rfl : i = n := by omega
    rw [List.take_of_length_le (by omega), List.drop_eq_nil_of_le (by omega)]
    exact insert_end v q i B ys y w hn hl h hB hq
end Go.Proofs.Ytfcebpenjdhgbaa
