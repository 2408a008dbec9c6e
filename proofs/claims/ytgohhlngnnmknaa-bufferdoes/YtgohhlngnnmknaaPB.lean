/- Mathematics of a way through a list: where it begins, what is put first on it. -/
import Derived.Test.YtgohhlngnnmknaaPA
namespace Go.Proofs.Ytgohhlngnnmknaa
open Go.RowKit
set_option linter.unusedVariables false

theorem at_lo {xs : List En} {k : List Int} {i j : Nat} {x : En} (hr : Ris (ers xs)) (h : At (pge k) xs i) (hj : j < i) (hx : xs[j]? = some x) : ordI x.e.key k < 0 := by
  induction xs generalizing i j with
  | nil => simp at hx
  | cons z t ih =>
    have hr2 : Ris (ers t) := (List.pairwise_cons.1 hr).2
    rcases at_cases hr h with ⟨hlt, m, rfl, hm⟩ | ⟨hge, rfl⟩
    · cases j with
      | zero => simp at hx; subst hx; exact hlt
      | succ j => exact ih hr2 hm (Nat.lt_of_succ_lt_succ hj) (by simpa using hx)
    · omega
theorem at_hi {xs : List En} {k : List Int} {i j : Nat} {x : En} (hr : Ris (ers xs)) (h : At (pge k) xs i) (hj : i ≤ j) (hx : xs[j]? = some x) : 0 ≤ ordI x.e.key k ∧ (i < j → 0 < ordI x.e.key k) := by
  induction xs generalizing i j with
  | nil => simp at hx
  | cons z t ih =>
    have hr2 : Ris (ers t) := (List.pairwise_cons.1 hr).2
    rcases at_cases hr h with ⟨hlt, m, rfl, hm⟩ | ⟨hge, rfl⟩
    · cases j with
      | zero => omega
      | succ j =>
        have := ih hr2 hm (Nat.le_of_succ_le_succ hj) (by simpa using hx)
        exact ⟨this.1, fun hl => this.2 (Nat.lt_of_succ_lt_succ hl)⟩
    · cases j with
      | zero => simp at hx; subst hx; exact ⟨by omega, fun hl => by omega⟩
      | succ j =>
        have hzx : ordI z.e.key x.e.key < 0 := by
          refine (List.pairwise_cons.1 hr).1 _ ?_
          have : x ∈ t := List.mem_of_getElem? (by simpa using hx)
          exact List.mem_map.2 ⟨x, this, rfl⟩
        have h1 : 0 < ordI x.e.key k := by
          rcases Int.lt_or_le 0 (ordI x.e.key k) with h | h
          · exact h
          · have := ordI_trans_lt _ _ k hzx h
            omega
        exact ⟨by omega, fun _ => h1⟩
/-- the entries from m on are those behind the place. -/
theorem startU {xs : List En} {frm : List Int} {inn : Bool} {i m : Nat} (hr : Ris (ers xs)) (h : At (pge frm) xs i) (hm : m = (if ther xs i frm && !inn then i + 1 else i)) :
    m ≤ xs.length ∧ (ers xs).filter (fun e => bhU e.key frm inn) = (ers xs).drop m := by
  have hml : m ≤ xs.length := by
    rw [hm]
    split
    · rename_i ht
      have : ther xs i frm = true := by
        simp only [Bool.and_eq_true] at ht; exact ht.1
      have hil : i < xs.length := by
        unfold ther at this
        split at this
        · rename_i x hx; exact (List.getElem?_eq_some_iff.1 hx).1
        · cases this
      exact hil
    · exact h.1
  have key : ∀ j x, xs[j]? = some x → (bhU x.e.key frm inn = true ↔ m ≤ j) := by
    intro j x hx
    by_cases hj : j < i
    · have hlo := at_lo hr h hj hx
      have hne : frm ≠ [] := fun e => by subst e; have := ordI_nil x.e.key; omega
      have h1 : decide (0 < ordI x.e.key frm) = false := decide_eq_false (by omega)
      have h2 : decide (ordI x.e.key frm = 0) = false := decide_eq_false (by omega)
      have h3 : decide (frm.length = 0) = false := decide_eq_false (by intro e; exact hne (List.eq_nil_of_length_eq_zero e))
      have : ¬ m ≤ j := by rw [hm]; split <;> omega
      simp only [bhU, h1, h2, h3, Bool.or_self, Bool.and_false, this]
      decide
    · have hhi := at_hi hr h (by omega) hx
      by_cases hij : j = i
      · subst hij
        by_cases he : x.e.key = frm
        · have ht : ther xs j frm = true := by rw [ther, hx]; exact decide_eq_true he
          rw [hm, ht]
          cases inn <;> simp [bhU, he, ordI_self]
        · have ht : ther xs j frm = false := by rw [ther, hx]; exact decide_eq_false he
          have h0 : ordI x.e.key frm ≠ 0 := fun h0 => he (ordI_zero _ _ h0)
          have h1 : decide (0 < ordI x.e.key frm) = true := decide_eq_true (by omega)
          rw [hm, ht]
          simp [bhU, h1]
      · have h1 : decide (0 < ordI x.e.key frm) = true := decide_eq_true (hhi.2 (by omega))
        have : m ≤ j := by rw [hm]; split <;> omega
        simp [bhU, h1, this]
  refine ⟨hml, ?_⟩
  conv => lhs; rw [← List.take_append_drop m (ers xs), List.filter_append]
  have e1 : ((ers xs).take m).filter (fun e => bhU e.key frm inn) = [] := by
    rw [List.filter_eq_nil_iff]
    intro e he
    obtain ⟨j, hj, rfl⟩ := List.getElem_of_mem he
    simp only [List.length_take, ers_len] at hj
    have hjx : j < xs.length := by omega
    have := key j xs[j] (List.getElem?_eq_getElem hjx)
    simp only [List.getElem_take, ers, List.getElem_map]
    intro hb
    have := this.1 hb
    omega
  have e2 : ((ers xs).drop m).filter (fun e => bhU e.key frm inn) = (ers xs).drop m := by
    rw [List.filter_eq_self]
    intro e he
    obtain ⟨j, hj, rfl⟩ := List.getElem_of_mem he
    simp only [List.length_drop, ers_len] at hj
    have hjx : m + j < xs.length := by omega
    have := key (m + j) xs[m + j] (List.getElem?_eq_getElem hjx)
    simp only [List.getElem_drop, ers, List.getElem_map]
    exact this.2 (by omega)
  rw [e1, e2, List.nil_append]
/-- the first m entries are those ahead of the place. -/
theorem startD {xs : List En} {frm : List Int} {inn : Bool} {i m : Nat} (hr : Ris (ers xs)) (h : (inn = true ∧ frm.length = 0 ∧ m = xs.length) ∨ (¬ (inn = true ∧ frm.length = 0) ∧ At (pge frm) xs i ∧ m = (if ther xs i frm && inn then i + 1 else i))) :
    m ≤ xs.length ∧ (ers xs).filter (fun e => bhD e.key frm inn) = (ers xs).take m := by
  rcases h with ⟨rfl, h0, rfl⟩ | ⟨h0, h, hm⟩
  · refine ⟨Nat.le_refl _, ?_⟩
    rw [List.take_of_length_le (by rw [ers_len]; exact Nat.le_refl _), List.filter_eq_self]
    intro e he
    simp [bhD, h0]
  have hml : m ≤ xs.length := by
    rw [hm]
    split
    · rename_i ht
      have : ther xs i frm = true := by
        simp only [Bool.and_eq_true] at ht; exact ht.1
      have hil : i < xs.length := by
        unfold ther at this
        split at this
        · rename_i x hx; exact (List.getElem?_eq_some_iff.1 hx).1
        · cases this
      exact hil
    · exact h.1
  have key : ∀ j x, xs[j]? = some x → (bhD x.e.key frm inn = true ↔ j < m) := by
    intro j x hx
    by_cases hj : j < i
    · have hlo := at_lo hr h hj hx
      have h1 : decide (ordI x.e.key frm < 0) = true := decide_eq_true hlo
      have : j < m := by rw [hm]; split <;> omega
      simp [bhD, h1, this]
    · have hhi := at_hi hr h (by omega) hx
      have h1 : decide (ordI x.e.key frm < 0) = false := decide_eq_false (by omega)
      by_cases he : x.e.key = frm
      · have hij : j = i := by
          rcases Nat.lt_or_ge i j with hl | hl
          · have := hhi.2 hl; rw [he, ordI_self] at this; omega
          · omega
        subst hij
        have ht : ther xs j frm = true := by rw [ther, hx]; exact decide_eq_true he
        rw [hm, ht]
        cases inn <;> simp [bhD, he, ordI_self]
      · have h2 : decide (ordI x.e.key frm = 0) = false := decide_eq_false (fun h0 => he (ordI_zero _ _ h0))
        have h3 : (inn && decide (frm.length = 0)) = false := by
          cases inn
          · rfl
          · have : ¬ frm.length = 0 := fun e => h0 ⟨rfl, e⟩
            simp [this]
        have hnm : ¬ j < m := by
          rw [hm]
          by_cases hij : j = i
          · subst hij
            have ht : ther xs j frm = false := by rw [ther, hx]; exact decide_eq_false he
            rw [ht]; simp
          · split <;> omega
        simp only [bhD, h1, h2, Bool.false_or, h3, hnm]
        decide
  refine ⟨hml, ?_⟩
  conv => lhs; rw [← List.take_append_drop m (ers xs), List.filter_append]
  have e1 : ((ers xs).take m).filter (fun e => bhD e.key frm inn) = (ers xs).take m := by
    rw [List.filter_eq_self]
    intro e he
    obtain ⟨j, hj, rfl⟩ := List.getElem_of_mem he
    simp only [List.length_take, ers_len] at hj
    have hjx : j < xs.length := by omega
    have := key j xs[j] (List.getElem?_eq_getElem hjx)
    simp only [List.getElem_take, ers, List.getElem_map]
    exact this.2 (by omega)
  have e2 : ((ers xs).drop m).filter (fun e => bhD e.key frm inn) = [] := by
    rw [List.filter_eq_nil_iff]
    intro e he
    obtain ⟨j, hj, rfl⟩ := List.getElem_of_mem he
    simp only [List.length_drop, ers_len] at hj
    have hjx : m + j < xs.length := by omega
    have := key (m + j) xs[m + j] (List.getElem?_eq_getElem hjx)
    simp only [List.getElem_drop, ers, List.getElem_map]
    intro hb
    have := this.1 hb
    omega
  rw [e1, e2, List.append_nil]
/-- is a key behind the last one? -/
def past (bh : List Int → List Int → Bool → Bool) (last : Option (List Int)) (k : List Int) : Bool := match last with
  | none => false
  | some l => bh k l false
/-- the first put on a way, not behind the last key. -/
def scan (bh : List Int → List Int → Bool → Bool) (last : Option (List Int)) : List Ee → Option Ee
  | [] => none
  | e :: t => if past bh last e.key then none else if e.del then scan bh last t else some e
def putU (es : List Ee) (frm : List Int) (inn : Bool) (last : Option (List Int)) : Option Ee := scan bhU last (es.filter (fun e => bhU e.key frm inn))
def putD (es : List Ee) (frm : List Int) (inn : Bool) (last : Option (List Int)) : Option Ee := scan bhD last (es.filter (fun e => bhD e.key frm inn)).reverse
end Go.Proofs.Ytgohhlngnnmknaa
