/- What makes a node that may be, place by place. -/
import Derived.Test.YtjojpohnmfkanaaM
namespace Go.Proofs.Ytjojpohnmfkanaa
open Go.RowKit
set_option linter.unusedVariables false

theorem keysOk_iff (a : List Int) (es : List Ee) : keysOk a es = true ↔ ∀ i x, es[i]? = some x → x.key.length ≤ 160 ∧ (i = 0 → 0 < ordI x.key a) ∧ (∀ y, 0 < i → es[i - 1]? = some y → ordI y.key x.key < 0) := by
  induction es generalizing a with
  | nil => simp [keysOk]
  | cons e r ih =>
    simp only [keysOk, Bool.and_eq_true, decide_eq_true_eq, ih]
    constructor
    · rintro ⟨h1, h2, h3⟩ i x hx
      cases i with
      | zero =>
        simp at hx
        subst hx
        exact ⟨h1, fun _ => h2, fun y h => by omega⟩
      | succ j =>
        simp at hx
        obtain ⟨g1, g2, g3⟩ := h3 j x hx
        refine ⟨g1, fun h => by omega, fun y _ hy => ?_⟩
        cases j with
        | zero =>
          simp at hy
          subst hy
          have := g2 rfl
          have := ordI_anti x.key e.key
          omega
        | succ k => exact g3 y (by omega) (by simpa using hy)
    · intro h
      obtain ⟨a1, a2, -⟩ := h 0 e rfl
      refine ⟨a1, a2 rfl, fun i x hx => ?_⟩
      obtain ⟨b1, -, b3⟩ := h (i + 1) x (by simpa using hx)
      refine ⟨b1, fun hi => ?_, fun y hi hy => b3 y (by omega) ?_⟩
      · subst hi
        have := b3 e (by omega) rfl
        have := ordI_anti x.key e.key
        omega
      · rw [show i + 1 - 1 = i - 1 + 1 by omega]
        simpa using hy
/-- may the entry x stand at the place i? -/
structure PlOk (leaf : Bool) (es : List Ee) (i : Nat) (x : Ee) : Prop where
  first : x.key.length = 0 ↔ (i = 0 ∧ leaf = false)
  long : x.key.length ≤ 160
  rise : ∀ y, 0 < i → es[i - 1]? = some y → ordI y.key x.key < 0
  val : leaf = true → x.valOk = true
  kid : leaf = false → x.kid = true
  page : leaf = false → ∀ k y, k < i → es[k]? = some y → y.page ≠ x.page
theorem key_some {x y : List Int} (h : ordI y x < 0) : x.length ≠ 0 := by
  intro e
  have : x = [] := List.eq_nil_of_length_eq_zero e
  subst this
  have := ordI_nil y
  omega
theorem len_ne {x : List Int} : 0 < ordI x [] ↔ x.length ≠ 0 := by
  rw [ordI_nilr]
  constructor
  · intro h e; exact h (List.eq_nil_of_length_eq_zero e)
  · intro h e; subst e; exact h rfl
theorem all_iff (f : Ee → Bool) (es : List Ee) : es.all f = true ↔ ∀ (i : Nat) (x : Ee), es[i]? = some x → f x = true := by
  rw [List.all_eq_true]
  constructor
  · intro h i x hx; exact h x (List.mem_of_getElem? hx)
  · intro h x hx
    obtain ⟨i, hi⟩ := List.getElem?_of_mem hx
    exact h i x hi
theorem nodup_iff (es : List Ee) : (es.map Ee.page).Nodup ↔ ∀ (i : Nat) (x : Ee), es[i]? = some x → ∀ (k : Nat) (y : Ee), k < i → es[k]? = some y → y.page ≠ x.page := by
  unfold List.Nodup
  rw [List.pairwise_iff_getElem]
  constructor
  · intro h i x hx k y hk hy
    obtain ⟨hi, rfl⟩ := List.getElem?_eq_some_iff.1 hx
    obtain ⟨hk', rfl⟩ := List.getElem?_eq_some_iff.1 hy
    have := h k i (by simpa using hk') (by simpa using hi) hk
    simpa using this
  · intro h i j hi hj hij
    have hi' : i < es.length := by simpa using hi
    have hj' : j < es.length := by simpa using hj
    have := h j es[j] (List.getElem?_eq_getElem hj') i es[i] hij (List.getElem?_eq_getElem hi')
    simpa using this
theorem mayB_iff (leaf : Bool) (es : List Ee) : mayB leaf es = true ↔ es ≠ [] ∧ ∀ i x, es[i]? = some x → PlOk leaf es i x := by
  cases es with
  | nil => simp [mayB]
  | cons e r =>
    cases leaf with
    | true =>
      simp only [mayB, if_true, Bool.and_eq_true]
      rw [keysOk_iff, all_iff]
      constructor
      · rintro ⟨h1, h2⟩
        refine ⟨by simp, fun i x hx => ?_⟩
        obtain ⟨a1, a2, a3⟩ := h1 i x hx
        refine ⟨⟨fun h => ?_, fun h => (by cases h.2)⟩, a1, a3, fun _ => h2 i x hx, fun h => (by cases h), fun h => (by cases h)⟩
        exfalso
        by_cases hi : i = 0
        · exact len_ne.1 (a2 hi) h
        · obtain ⟨y, hy⟩ : ∃ y, (e :: r)[i - 1]? = some y := ⟨_, List.getElem?_eq_getElem (by have := (List.getElem?_eq_some_iff.1 hx).1; omega)⟩
          exact key_some (a3 y (by omega) hy) h
      · rintro ⟨-, h⟩
        refine ⟨fun i x hx => ?_, fun i x hx => (h i x hx).val rfl⟩
        have g := h i x hx
        refine ⟨g.long, fun _ => len_ne.2 fun e0 => ?_, g.rise⟩
        have := g.first.1 e0
        cases this.2
    | false =>
      simp only [mayB]
      rw [if_neg (by simp), Bool.and_eq_true, Bool.and_eq_true, Bool.and_eq_true, keysOk_iff, all_iff, decide_eq_true_eq, decide_eq_true_eq, nodup_iff]
      constructor
      · rintro ⟨h1, h2, h3, h4⟩
        refine ⟨by simp, fun i x hx => ?_⟩
        cases i with
        | zero =>
          have hx0 := hx
          simp at hx0
          subst hx0
          exact ⟨⟨fun _ => ⟨rfl, rfl⟩, fun _ => h1⟩, by omega, fun y h => by omega, fun h => (by cases h), fun _ => h3 0 _ hx, fun _ k y h => by omega⟩
        | succ j =>
          have hx0 : r[j]? = some x := by simpa using hx
          obtain ⟨a1, a2, a3⟩ := h2 j x hx0
          have hr : ∀ y, 0 < j + 1 → (e :: r)[j + 1 - 1]? = some y → ordI y.key x.key < 0 := by
            intro y _ hy
            cases j with
            | zero =>
              simp at hy
              subst hy
              have e0 : e.key = [] := List.eq_nil_of_length_eq_zero h1
              rw [e0]
              have := a2 rfl
              have := ordI_anti x.key []
              omega
            | succ k => exact a3 y (by omega) (by simpa using hy)
          refine ⟨⟨fun h => ?_, fun h => by omega⟩, a1, hr, fun h => (by cases h), fun _ => h3 _ _ hx, fun _ k y hk hy => h4 (j + 1) x hx k y hk hy⟩
          exfalso
          obtain ⟨y, hy⟩ : ∃ y, (e :: r)[j]? = some y := ⟨_, List.getElem?_eq_getElem (by have := (List.getElem?_eq_some_iff.1 hx).1; omega)⟩
          exact key_some (hr y (by omega) hy) h
      · rintro ⟨-, h⟩
        refine ⟨(h 0 e rfl).first.2 ⟨rfl, rfl⟩, fun i x hx => ?_, fun i x hx => (h i x hx).kid rfl, fun i x hx => (h i x hx).page rfl⟩
        have g := h (i + 1) x (by simpa using hx)
        refine ⟨g.long, fun _ => len_ne.2 fun e0 => ?_, fun y hi hy => g.rise y (by omega) ?_⟩
        · have := (g.first.1 e0).1; omega
        · rw [show i + 1 - 1 = i - 1 + 1 by omega]
          simpa using hy
theorem mayB_no {leaf : Bool} {es : List Ee} {i : Nat} {x : Ee} (hx : es[i]? = some x) (h : ¬ PlOk leaf es i x) : mayB leaf es = false := by
  cases e : mayB leaf es with
  | false => rfl
  | true => exact absurd (((mayB_iff leaf es).1 e).2 i x hx) h
end Go.Proofs.Ytjojpohnmfkanaa
