/- Ways through keys: what lies behind a place, and where a way begins. -/
import Derived.Test.YtgohhlngnnmknaaLC
namespace Go.Proofs.Ytgohhlngnnmknaa
open Go.RowKit Go.Maps
set_option linter.unusedVariables false

def bhU (key frm : List Int) (inn : Bool) : Bool := decide (0 < ordI key frm) || (inn && (decide (ordI key frm = 0) || decide (frm.length = 0)))
def bhD (key frm : List Int) (inn : Bool) : Bool := decide (ordI key frm < 0) || (inn && (decide (ordI key frm = 0) || decide (frm.length = 0)))
set_option maxHeartbeats 1600000 in
set_option maxRecDepth 1000000 in
theorem behindU (fv : Value) (ka fa : Option Addr) (kn kc fn fc : Nat) (key frm : List Int) (inn : Bool) (w : World) (hk : Inn w ka kn kc key) (hf : Inn w fa fn fc frm) :
    Calls Try.prog 96 #[.agg #[fv, .int .i64 1], .slice ka kn kc, .slice fa fn fc, .bool inn] w fun e w' => e = .returned (.bool (bhU key frm inn)) ∧ Below w.heap.size w w' := by
  have hfl := hf.len
  obtain ⟨w1, hw1⟩ : ∃ w1, w1 = w.alloc (.cells #[fv, .int .i64 1] 124) := ⟨_, rfl⟩
  have hB : Below w.heap.size w w1 := by rw [hw1]; exact below_alloc _ _
  have hb := (by rw [hw1]; exact heap_alloc_new w _ : w1.heap[w.heap.size]? = some (.cells #[fv, .int .i64 1] 124 (0, 0)))
  obtain ⟨b0, b1, _⟩ := cells_two hb
  have HC := hide (fun W (hW : Below w.heap.size w W) => compare_any (hk.below hW) (hf.below hW))
  have HB := hide hB
  have hcs := ordI_cases key frm
  have HE : Hid (bhU key frm inn = (decide (0 < ordI key frm) || (inn && (decide (ordI key frm = 0) || decide (fn = 0))))) := hide (by rw [bhU, hfl])
  rw [HE.out]
  clear HE hk hf hb hB hfl
  generalize ordI key frm = C at *
  subst hw1
  by_cases hn : fn = 0
  · subst hn
    cases inn <;> rcases hcs with rfl | rfl | rfl
    all_goals
      go_enter Try.func96, Try.ntmps96
      go_wp2
      go_region_held3 (fun W => W.cell? ⟨w.heap.size, 1, none⟩ = some (.int .i64 1)) ((assumption)) ((first | (go_at_call 92; refine (HC.out _ HB.out.drew).mono ?_; intro r' w3 hh; obtain ⟨rfl, rfl⟩ := hh)))
      go_wp2
      go_ret
      exact ⟨rfl, HB.out.drew⟩
  · have d1 : ((fn : Int) == 0) = false := by simp; omega
    have d2 : ¬ ((fn : Int) = 0) := by omega
    have d3 : decide (fn = 0) = false := decide_eq_false hn
    rw [d3]
    cases inn <;> rcases hcs with rfl | rfl | rfl
    all_goals
      go_enter Try.func96, Try.ntmps96
      go_wp2
      go_region_held3 (fun W => W.cell? ⟨w.heap.size, 1, none⟩ = some (.int .i64 1)) ((assumption)) ((first | (go_at_call 92; refine (HC.out _ HB.out.drew).mono ?_; intro r' w3 hh; obtain ⟨rfl, rfl⟩ := hh)))
      go_wp2
      go_ret
      exact ⟨rfl, HB.out.drew⟩
set_option maxHeartbeats 1600000 in
set_option maxRecDepth 1000000 in
theorem behindD (fv : Value) (ka fa : Option Addr) (kn kc fn fc : Nat) (key frm : List Int) (inn : Bool) (w : World) (hk : Inn w ka kn kc key) (hf : Inn w fa fn fc frm) :
    Calls Try.prog 96 #[.agg #[fv, .int .i64 (-1)], .slice ka kn kc, .slice fa fn fc, .bool inn] w fun e w' => e = .returned (.bool (bhD key frm inn)) ∧ Below w.heap.size w w' := by
  have hfl := hf.len
  obtain ⟨w1, hw1⟩ : ∃ w1, w1 = w.alloc (.cells #[fv, .int .i64 (-1)] 124) := ⟨_, rfl⟩
  have hB : Below w.heap.size w w1 := by rw [hw1]; exact below_alloc _ _
  have hb := (by rw [hw1]; exact heap_alloc_new w _ : w1.heap[w.heap.size]? = some (.cells #[fv, .int .i64 (-1)] 124 (0, 0)))
  obtain ⟨b0, b1, _⟩ := cells_two hb
  have HC := hide (fun W (hW : Below w.heap.size w W) => compare_any (hk.below hW) (hf.below hW))
  have HB := hide hB
  have hcs := ordI_cases key frm
  have HE : Hid (bhD key frm inn = (decide (ordI key frm < 0) || (inn && (decide (ordI key frm = 0) || decide (fn = 0))))) := hide (by rw [bhD, hfl])
  rw [HE.out]
  clear HE hk hf hb hB hfl
  generalize ordI key frm = C at *
  subst hw1
  by_cases hn : fn = 0
  · subst hn
    cases inn <;> rcases hcs with rfl | rfl | rfl
    all_goals
      go_enter Try.func96, Try.ntmps96
      go_wp2
      go_region_held3 (fun W => W.cell? ⟨w.heap.size, 1, none⟩ = some (.int .i64 (-1))) ((assumption)) ((first | (go_at_call 92; refine (HC.out _ HB.out.drew).mono ?_; intro r' w3 hh; obtain ⟨rfl, rfl⟩ := hh)))
      go_wp2
      go_ret
      exact ⟨rfl, HB.out.drew⟩
  · have d1 : ((fn : Int) == 0) = false := by simp; omega
    have d2 : ¬ ((fn : Int) = 0) := by omega
    have d3 : decide (fn = 0) = false := decide_eq_false hn
    rw [d3]
    cases inn <;> rcases hcs with rfl | rfl | rfl
    all_goals
      go_enter Try.func96, Try.ntmps96
      go_wp2
      go_region_held3 (fun W => W.cell? ⟨w.heap.size, 1, none⟩ = some (.int .i64 (-1))) ((assumption)) ((first | (go_at_call 92; refine (HC.out _ HB.out.drew).mono ?_; intro r' w3 hh; obtain ⟨rfl, rfl⟩ := hh)))
      go_wp2
      go_ret
      exact ⟨rfl, HB.out.drew⟩

set_option maxHeartbeats 1600000 in
set_option maxRecDepth 1000000 in
theorem above_any {w : World} {p B : Nat} {sv uv : Value} {xs : List En} {us : List Value} (h : Bf w p B sv uv xs us) (ka : Option Addr) (kn kc : Nat) (key : List Int) (inn : Bool) (hk : Inn w ka kn kc key) (hn : xs.length ≤ 900000) :
    Calls Try.prog 76 #[.pointer (some ⟨p, 0, none⟩), .slice ka kn kc, .bool inn] w fun e w' => ∃ i m : Nat, e = .returned (.int .i64 (m : Int)) ∧ At (pge key) xs i ∧ m = (if ther xs i key && !inn then i + 1 else i) ∧ Below w.heap.size w w' := by
  have HF := hide (find_any h ka kn kc key hk (by omega))
  clear h hk
  go_enter Try.func76, Try.ntmps76
  go_wp2_with (go_at_call 74; refine HF.out.mono ?_; rintro e w2 ⟨i, rfl, hat, hb2⟩; have HAt := hide hat; have HB2 := hide hb2; have hil : i ≤ 900000 := Nat.le_trans hat.1 hn; clear hat hb2; obtain ⟨bt, hbt⟩ : ∃ b, Hid (b = ther xs i key) := ⟨_, hide rfl⟩; rw [← hbt.out]; cases bt <;> cases inn)
  · go_ret
    exact ⟨i, i, rfl, HAt.out, by rw [← hbt.out]; rfl, HB2.out⟩
  · go_ret
    exact ⟨i, i, rfl, HAt.out, by rw [← hbt.out]; rfl, HB2.out⟩
  · go_ret
    exact ⟨i, i + 1, by go_num, HAt.out, by rw [← hbt.out]; rfl, HB2.out⟩
  · go_ret
    exact ⟨i, i, rfl, HAt.out, by rw [← hbt.out]; rfl, HB2.out⟩
set_option maxHeartbeats 1600000 in
set_option maxRecDepth 1000000 in
theorem under_any {w : World} {p B : Nat} {sv uv : Value} {xs : List En} {us : List Value} (h : Bf w p B sv uv xs us) (ka : Option Addr) (kn kc : Nat) (key : List Int) (inn : Bool) (hk : Inn w ka kn kc key) (hn : xs.length ≤ 900000) :
    Calls Try.prog 78 #[.pointer (some ⟨p, 0, none⟩), .slice ka kn kc, .bool inn] w fun e w' => ∃ i m : Nat, e = .returned (.int .i64 ((m : Int) - 1)) ∧ ((inn = true ∧ kn = 0 ∧ m = xs.length) ∨ (¬ (inn = true ∧ kn = 0) ∧ At (pge key) xs i ∧ m = (if ther xs i key && inn then i + 1 else i))) ∧ Below w.heap.size w w' := by
  have HF := hide (find_any h ka kn kc key hk (by omega))
  obtain ⟨a, c, rfl, -⟩ := row_shape h.said
  obtain ⟨s0, s1, f0⟩ := cells_two h.blk
  clear h hk
  by_cases h0 : inn = true ∧ kn = 0
  · obtain ⟨rfl, rfl⟩ := h0
    go_enter Try.func78, Try.ntmps78
    go_wp2
    go_ret
    exact ⟨0, xs.length, rfl, .inl ⟨trivial, trivial, rfl⟩, Below.refl _ _⟩
  · have HN := hide h0
    have d1 : inn = true → ((kn : Int) == 0) = false := fun hi => by simp; intro e; exact h0 ⟨hi, e⟩
    have d2 : inn = true → ¬ ((kn : Int) = 0) := fun hi e => h0 ⟨hi, by omega⟩
    clear h0
    cases inn
    · clear d1 d2
      go_enter Try.func78, Try.ntmps78
      go_wp2_with (go_at_call 74; refine HF.out.mono ?_; rintro e w2 ⟨i, rfl, hat, hb2⟩; have HAt := hide hat; have HB2 := hide hb2; have hil : i ≤ 900000 := Nat.le_trans hat.1 hn; clear hat hb2; obtain ⟨bt, hbt⟩ : ∃ b, Hid (b = ther xs i key) := ⟨_, hide rfl⟩; rw [← hbt.out]; cases bt)
      · go_ret
        exact ⟨i, i, rfl, .inr ⟨HN.out, HAt.out, by rw [← hbt.out]; rfl⟩, HB2.out⟩
      · go_ret
        exact ⟨i, i, rfl, .inr ⟨HN.out, HAt.out, by rw [← hbt.out]; rfl⟩, HB2.out⟩
    · have e1 := d1 rfl
      have e2 := d2 rfl
      clear d1 d2
      go_enter Try.func78, Try.ntmps78
      go_wp2_with (go_at_call 74; refine HF.out.mono ?_; rintro e w2 ⟨i, rfl, hat, hb2⟩; have HAt := hide hat; have HB2 := hide hb2; have hil : i ≤ 900000 := Nat.le_trans hat.1 hn; clear hat hb2; obtain ⟨bt, hbt⟩ : ∃ b, Hid (b = ther xs i key) := ⟨_, hide rfl⟩; rw [← hbt.out]; cases bt)
      · go_ret
        exact ⟨i, i, rfl, .inr ⟨HN.out, HAt.out, by rw [← hbt.out]; rfl⟩, HB2.out⟩
      · go_ret
        exact ⟨i, i + 1, by simp, .inr ⟨HN.out, HAt.out, by rw [← hbt.out]; rfl⟩, HB2.out⟩
end Go.Proofs.Ytgohhlngnnmknaa
