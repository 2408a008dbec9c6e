/- Clone; the content of a page. -/
import Derived.Test.YtkkjppdooaipiaaRC
import Derived.Laws.Cover3
namespace Go.Proofs.Ytkkjppdooaipiaa
open Go.RowKit
set_option linter.unusedVariables false

theorem sl_nil (a : Option Addr) (n c : Nat) (W : World) : (binOp .eql 34 (.slice a n c) (.slice none 0 0)).run Try.prog W = .ok (.bool a.isNone) W := by
  simp only [binOp]
  simp [run_equal_slice_nil W 34 5 a n c Try.underlying34]

set_option maxHeartbeats 800000 in
set_option maxRecDepth 1000000 in
theorem clone_any (a : Option Addr) (n c : Nat) (ys : List Int) (w : World) (hl : ys.length = n) (hn : a = none → n = 0 ∧ c = 0) (hr : Row w a ys) (hb : n ≤ 100000) :
    Calls Try.prog 23 #[.slice a n c] w fun e w' => ∃ v, e = .returned v ∧ Made w v ys w' := by
  obtain ⟨i0, hi, hz0, hz1, hz2⟩ := info_parts Try.info5
  have hq := sl_nil a n c
  cases a with
  | none =>
    obtain ⟨rfl, rfl⟩ := hn rfl
    have e : ys = [] := List.eq_nil_of_length_eq_zero hl
    subst e
    simp only [Option.isNone_none] at hq
    clear hn hr hl
    go_enter Try.func23, Try.ntmps23
    go_wp2
    refine bodyPost_ret (results_tmp rfl _ _ _) rfl ?_
    exact ⟨_, rfl, Own.nil _, (by intro k hk; simp [Value.ownBlock] at hk), Below.refl _ _⟩
  | some ad =>
    simp only [Option.isNone_some] at hq
    have HL := hide hl
    have HR := hide hr
    clear hl hr hn
    go_enter Try.func23, Try.ntmps23
    have HO : Hid (Own (w.alloc (.cells #[] 5)) (.slice (some ⟨w.heap.size, 0, none⟩) 0 0) []) := ⟨rfl, .inr ⟨w.heap.size, 0, _, rfl, Nat.zero_le _, heap_alloc_new w _, Nat.le_refl _, Nat.zero_le _, rfl, rfl⟩⟩
    have HS : Hid (Src Try.prog 1 34 (.slice (some ad) n c) n (ys.map (Value.int .u8)) (w.alloc (.cells #[] 5))) := hide (src_row _ _ n c ys HL.out (by intro h; cases h) (HR.out.below (below_alloc _ _)))
    have HB : Hid (([] : List Int).length + n ≤ 140737488355328) := by rw [Hid]; simp; omega
    go_wp2_with (at_builtin; refine wpList_append_src (by rfl) (.tmp 5) (.tmp 6) 34 34 (by rfl) i0 Try.underlying34 hi hz0 hz1 hz2 (.slice (some ⟨w.heap.size, 0, none⟩) 0 0) [] (by rfl) HO.out (.slice (some ad) n c) n ys (by rfl) HS.out HB.out ?_; intro v' w1 hown1 hg1 hf1; obtain ⟨a2, n2, c2, rfl, HN2⟩ := hown1.shape2; have HO1 := hide hown1; have HG1 := hide hg1; have HF1 := hide hf1; clear hown1 hg1 hf1)
    go_ret
    refine ⟨_, rfl, HO1.out, fun k hk => ?_, (below_alloc w _).grown HG1.out (by simp) (fun k hk => by simp [Value.ownBlock] at hk; omega)⟩
    rcases HF1.out k hk with h | h
    · simp [Value.ownBlock] at h; omega
    · simp at h; omega
end Go.Proofs.Ytkkjppdooaipiaa
