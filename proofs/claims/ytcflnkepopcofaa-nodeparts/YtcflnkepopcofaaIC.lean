/- slices.Insert of one entry, at the end and anywhere; the list that comes of it, as a list of its own. -/
import Derived.Test.YtcflnkepopcofaaIB
import Derived.ArgAppend
namespace Go.Proofs.Ytcflnkepopcofaa
open Go.RowKit
set_option linter.unusedVariables false

set_option maxHeartbeats 1600000 in
set_option maxRecDepth 1000000 in
theorem insert_end (g q n : Nat) (ys : List En) (y : En) (w : World) (hn : n ≤ 1000000) (hl : ys.length = n) (hcs : ∀ j u, (rowc ys)[j]? = some u → w.cell? ⟨g, j, none⟩ = some u) (hy : ∀ j u, y.cells[j]? = some u → w.cell? ⟨q, j, none⟩ = some u) :
    Calls Try.prog 22 #[.slice (some ⟨g, 0, none⟩) n n, .int .i64 (n : Int), .slice (some ⟨q, 0, none⟩) 1 1] w fun e w' => ∃ g' G, e = .returned (.slice (some ⟨g', 0, none⟩) (n + 1) G) ∧ w'.ownsRow w.heap.size 28 4 (.slice (some ⟨g', 0, none⟩) (n + 1) G) (n + 1) (rowc (ys ++ [y])) ∧ Below w.heap.size w w' := by
  obtain ⟨i0, hi0, hz0, hzs, hzb⟩ := info_parts Try.infoE
  obtain ⟨v', w', run1, hown, hg⟩ := run_append_arg_grows (P := Try.prog) w 22 22 28 i0 _ 4 56 Try.underlying22 hi0 hz0 hzs hzb (by rfl) (by omega) ⟨g, 0, none⟩ n n (rowc ys) (by rw [rowc_len, hl]) (fun j u hu => by rw [Addr.add_lit]; simpa using hcs j u hu) ⟨q, 0, none⟩ 1 1 y.cells (by rfl) (fun j u hu => by rw [Addr.add_lit]; simpa using hy j u hu) (by omega) (by unfold maxLen; omega) (by omega)
  rw [← rowc_one y, ← rowc_app] at hown
  have hsh : ∃ g' G, v' = .slice (some ⟨g', 0, none⟩) (n + 1) G := by
    rcases hown.2 with ⟨rfl, h0⟩ | ⟨g', cap, cur, rfl, _⟩
    · exact absurd h0 (by omega)
    · exact ⟨_, _, rfl⟩
  obtain ⟨g', G, rfl⟩ := hsh
  have HB : Hid (Below w.heap.size w w') := hide ⟨hg.os, hg.tape, hg.output, hg.size, fun k hk => hg.block k hk (by simp)⟩
  have HO := hide hown
  clear hown hg hcs hy
  have c1 : (0 : Int) ≤ (n : Int) := by omega
  have c2 : ¬ (n : Int) < 0 := by omega
  go_enter Try.func22, Try.ntmps22
  go_wp2_with (at_builtin; (refine wpList_run_append (by rfl) (.tmp 23) (.tmp 24) 22 (by rfl) (by rfl) (by rfl) run1 ?_))
  all_goals
    go_ret
    exact ⟨g', G, rfl, HO.out, HB.out⟩
theorem insert_any (g q n i : Nat) (ys : List En) (y : En) (w : World) (hi : i ≤ n) (hn : n ≤ 1000000) (hl : ys.length = n) (hcs : ∀ j u, (rowc ys)[j]? = some u → w.cell? ⟨g, j, none⟩ = some u) (hy : ∀ j u, y.cells[j]? = some u → w.cell? ⟨q, j, none⟩ = some u) :
    Calls Try.prog 22 #[.slice (some ⟨g, 0, none⟩) n n, .int .i64 (i : Int), .slice (some ⟨q, 0, none⟩) 1 1] w fun e w' => ∃ g' G, e = .returned (.slice (some ⟨g', 0, none⟩) (n + 1) G) ∧ w'.ownsRow w.heap.size 28 4 (.slice (some ⟨g', 0, none⟩) (n + 1) G) (n + 1) (rowc (ys.take i ++ y :: ys.drop i)) ∧ Below w.heap.size w w' := by
  by_cases h : i < n
  · refine (insert_mid g q n i ys y w h hn hl hcs hy).mono ?_
    rintro e w' ⟨G, he, ho, hb⟩
    exact ⟨_, G, he, ho, hb⟩
  · obtain rfl : i = n := by omega
    rw [List.take_of_length_le (by omega), List.drop_eq_nil_of_le (by omega)]
    exact insert_end g q i ys y w hn hl hcs hy
end Go.Proofs.Ytcflnkepopcofaa
