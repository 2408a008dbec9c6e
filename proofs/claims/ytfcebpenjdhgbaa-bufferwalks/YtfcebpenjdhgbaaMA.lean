/- Mathematics of what is said: the rising list, and what a Put or a Delete makes of it. -/
import Derived.Test.YtfcebpenjdhgbaaSE
namespace Go.Proofs.Ytfcebpenjdhgbaa
open Go.RowKit
set_option linter.unusedVariables false

def Ris (es : List Ee) : Prop := es.Pairwise (fun a b => ordI a.key b.key < 0)
def put : List Ee → Ee → List Ee
  | [], e => [e]
  | x :: t, e => if ordI x.key e.key < 0 then x :: put t e else if x.key = e.key then e :: t else e :: x :: t
/-- what is said of a key. -/
def lk (es : List Ee) (k : List Int) : Option Ee := es.find? (fun e => decide (e.key = k))
theorem put_mem {es : List Ee} {e x : Ee} (h : x ∈ put es e) : x = e ∨ x ∈ es := by
  induction es with
  | nil => simp [put] at h; exact .inl h
  | cons z t ih =>
    unfold put at h
    split at h
    · rcases List.mem_cons.1 h with rfl | h
      · simp
      · rcases ih h with h | h
        · exact .inl h
        · simp [h]
    · split at h
      · rcases List.mem_cons.1 h with rfl | h
        · simp
        · simp [h]
      · rcases List.mem_cons.1 h with rfl | h
        · simp
        · exact .inr h
theorem ris_nil : Ris [] := List.Pairwise.nil
theorem ris_put {es : List Ee} {e : Ee} (h : Ris es) : Ris (put es e) := by
  induction es with
  | nil => unfold put Ris; simp
  | cons z t ih =>
    obtain ⟨h1, h2⟩ := List.pairwise_cons.1 h
    unfold put
    split
    · rename_i hlt
      refine List.pairwise_cons.2 ⟨fun x hx => ?_, ih h2⟩
      rcases put_mem hx with rfl | hx
      · exact hlt
      · exact h1 x hx
    · rename_i hge
      split
      · rename_i he
        refine List.pairwise_cons.2 ⟨fun x hx => ?_, h2⟩
        rw [← he]; exact h1 x hx
      · rename_i hne
        have hez : ordI e.key z.key < 0 := by
          have := ordI_anti z.key e.key
          have h0 : ordI z.key e.key ≠ 0 := fun h0 => hne (ordI_zero _ _ h0)
          omega
        refine List.pairwise_cons.2 ⟨fun x hx => ?_, h⟩
        rcases List.mem_cons.1 hx with rfl | hx
        · exact hez
        · exact ordI_trans_lt _ _ _ hez (Int.le_of_lt (h1 x hx))
theorem put_len (es : List Ee) (e : Ee) : (put es e).length ≤ es.length + 1 ∧ es.length ≤ (put es e).length := by
  induction es with
  | nil => simp [put]
  | cons z t ih =>
    unfold put
    split
    · simp only [List.length_cons]; omega
    · split
      · simp
      · simp
theorem lk_put (es : List Ee) (e : Ee) (k : List Int) : lk (put es e) k = if e.key = k then some e else lk es k := by
  induction es with
  | nil => simp only [put, lk, List.find?_cons, List.find?_nil]; split <;> simp_all
  | cons z t ih =>
    unfold put
    split
    · rename_i hlt
      have hne : z.key ≠ e.key := fun h => by rw [h, ordI_self] at hlt; omega
      by_cases hz : z.key = k
      · have : ¬ e.key = k := fun h => hne (hz.trans h.symm)
        simp [lk, hz, this]
      · have e1 : lk (z :: put t e) k = lk (put t e) k := by simp [lk, hz]
        have e2 : lk (z :: t) k = lk t k := by simp [lk, hz]
        rw [e1, e2, ih]
    · split
      · rename_i he
        by_cases hk : e.key = k
        · simp [lk, hk]
        · have : ¬ z.key = k := fun h => hk (he.symm.trans h)
          simp [lk, hk, this]
      · by_cases hk : e.key = k <;> simp [lk, hk]
theorem at_cases {k : List Int} {x : En} {t : List En} {i : Nat} (hr : Ris (ers (x :: t))) (h : At (pge k) (x :: t) i) : (ordI x.e.key k < 0 ∧ ∃ j, i = j + 1 ∧ At (pge k) t j) ∨ (¬ ordI x.e.key k < 0 ∧ i = 0) := by
  obtain ⟨h1, h2, h3⟩ := h
  by_cases hlt : ordI x.e.key k < 0
  · left
    refine ⟨hlt, ?_⟩
    cases i with
    | zero =>
      have := h3 x rfl
      simp only [pge, decide_eq_true_eq] at this
      omega
    | succ j =>
      refine ⟨j, rfl, by simpa using h1, fun z hj hz => ?_, fun z hz => h3 z (by simpa using hz)⟩
      refine h2 z (by omega) ?_
      obtain ⟨m, rfl⟩ : ∃ m, j = m + 1 := ⟨j - 1, by omega⟩
      simpa using hz
  · right
    refine ⟨hlt, ?_⟩
    cases i with
    | zero => rfl
    | succ j =>
      exfalso
      have hj : j < (x :: t).length := by simp at h1 ⊢; omega
      have := h2 _ (by omega) (List.getElem?_eq_getElem hj)
      simp only [pge, decide_eq_false_iff_not] at this
      cases j with
      | zero => simp at this; omega
      | succ m =>
        have hx : ordI x.e.key ((x :: t)[m + 1]).e.key < 0 := by
          refine (List.pairwise_cons.1 hr).1 _ ?_
          simp only [List.mem_map]
          exact ⟨_, by simp, rfl⟩
        have h4 := ordI_trans_lt _ _ k hx (by omega)
        omega
theorem put_at {xs : List En} {y : En} {i : Nat} (hr : Ris (ers xs)) (h : At (pge y.e.key) xs i) : ers (putAt xs i y) = put (ers xs) y.e := by
  induction xs generalizing i with
  | nil =>
    have : i = 0 := by have := h.1; simp at this; omega
    subst this
    simp [putAt, ther, ers, put]
  | cons x t ih =>
    have hr2 : Ris (ers t) := (List.pairwise_cons.1 hr).2
    have e0 : ers (x :: t) = x.e :: ers t := rfl
    rcases at_cases hr h with ⟨hlt, j, rfl, hj⟩ | ⟨hge, rfl⟩
    · have e1 : putAt (x :: t) (j + 1) y = x :: putAt t j y := by
        have : ther (x :: t) (j + 1) y.e.key = ther t j y.e.key := by simp [ther]
        unfold putAt
        rw [this]
        split <;> simp
      rw [e1, e0, put, if_pos hlt, ← ih hr2 hj]
      rfl
    · rw [e0, put, if_neg hge]
      by_cases he : x.e.key = y.e.key
      · have : ther (x :: t) 0 y.e.key = true := by simp [ther, he]
        rw [if_pos he, putAt, this, if_pos rfl]
        rfl
      · have : ther (x :: t) 0 y.e.key = false := by simp [ther, he]
        rw [if_neg he, putAt, this]
        simp [ers]
theorem lk_at {xs : List En} {k : List Int} {i : Nat} (hr : Ris (ers xs)) (h : At (pge k) xs i) : lk (ers xs) k = if ther xs i k then (xs[i]?).map En.e else none := by
  induction xs generalizing i with
  | nil => simp [lk, ers, ther]
  | cons x t ih =>
    have hr2 : Ris (ers t) := (List.pairwise_cons.1 hr).2
    have e0 : ers (x :: t) = x.e :: ers t := rfl
    rcases at_cases hr h with ⟨hlt, j, rfl, hj⟩ | ⟨hge, rfl⟩
    · have hne : ¬ x.e.key = k := fun e => by rw [e, ordI_self] at hlt; omega
      have : ther (x :: t) (j + 1) k = ther t j k := by simp [ther]
      rw [this, e0]
      have e1 : lk (x.e :: ers t) k = lk (ers t) k := by simp [lk, hne]
      rw [e1, ih hr2 hj]
      simp
    · by_cases he : x.e.key = k
      · have : ther (x :: t) 0 k = true := by simp [ther, he]
        rw [this, e0]; simp [lk, he]
      · have : ther (x :: t) 0 k = false := by simp [ther, he]
        rw [this, e0]
        have hnone : (ers t).find? (fun e => decide (e.key = k)) = none := by
          rw [List.find?_eq_none]
          intro z hz
          have := (List.pairwise_cons.1 hr).1 z hz
          simp only [decide_eq_true_eq]
          intro e
          rw [e] at this
          exact hge this
        simp only [lk, List.find?_cons, he, decide_false, hnone]
        rfl
theorem lk_mem {es : List Ee} {k : List Int} {e : Ee} (h : lk es k = some e) : e ∈ es ∧ e.key = k := by
  refine ⟨List.mem_of_find?_eq_some h, ?_⟩
  have := List.find?_some h
  simpa using this
end Go.Proofs.Ytfcebpenjdhgbaa
