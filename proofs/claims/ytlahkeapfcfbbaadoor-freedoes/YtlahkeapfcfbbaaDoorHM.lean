/- Mathematics of a heap: a row of pages whose parents are not above their children, what swaps make of it, and that its first one is the least. -/
import Derived.WalkKit
namespace Go.Proofs.YtlahkeapfcfbbaaDoor
set_option linter.unusedVariables false

/-- a page that is free: its number and its generation. -/
abbrev Pg := Int × Int
/-- the one at a place. -/
def pat (xs : List Pg) (i : Nat) : Pg := xs.getD i (0, 0)
/-- two of them change places. -/
def sw (xs : List Pg) (i j : Nat) : List Pg := (xs.set i (pat xs j)).set j (pat xs i)
theorem pat_lt {xs : List Pg} {i : Nat} (h : i < xs.length) : pat xs i = xs[i] := by simp [pat, h]
theorem pat_mem {xs : List Pg} {i : Nat} (h : i < xs.length) : pat xs i ∈ xs := by rw [pat_lt h]; exact List.getElem_mem h
theorem length_sw (xs : List Pg) (i j : Nat) : (sw xs i j).length = xs.length := by simp [sw]
theorem pat_sw {xs : List Pg} {i j : Nat} (hi : i < xs.length) (hj : j < xs.length) (k : Nat) : pat (sw xs i j) k = if k = j then pat xs i else if k = i then pat xs j else pat xs k := by
  unfold pat sw
  simp only [List.getD_eq_getElem?_getD, List.getElem?_set, List.length_set, pat]
  by_cases h1 : k = j
  · subst h1; simp [hj, hi]
  · have h1' : ¬ j = k := fun e => h1 e.symm
    by_cases h2 : k = i
    · subst h2; simp [h1, h1', hi, hj]
    · have h2' : ¬ i = k := fun e => h2 e.symm
      simp [h1, h1', h2, h2']
theorem sw_perm {xs : List Pg} {i j : Nat} (hi : i < xs.length) (hj : j < xs.length) : (sw xs i j).Perm xs := by
  have h := Array.swap_perm (xs := xs.toArray) (i := i) (j := j) (by simpa using hi) (by simpa using hj)
  have h2 := Array.perm_iff_toList_perm.1 h
  have e : (xs.toArray.swap i j (by simpa using hi) (by simpa using hj)).toList = sw xs i j := by
    rw [sw, pat_lt hi, pat_lt hj]
    simp [Array.swap]
  rw [e] at h2
  exact h2

/-- no parent is above its child, by the key. -/
def Heap (k : Pg → Int) (xs : List Pg) : Prop := ∀ i, 0 < i → i < xs.length → k (pat xs ((i - 1) / 2)) ≤ k (pat xs i)
/-- .. but perhaps the one at j is below its parent. -/
structure HeapUp (k : Pg → Int) (xs : List Pg) (j : Nat) : Prop where
  lt : j < xs.length
  rest : ∀ i, 0 < i → i < xs.length → i ≠ j → k (pat xs ((i - 1) / 2)) ≤ k (pat xs i)
  over : ∀ c, 0 < j → 0 < c → c < xs.length → (c - 1) / 2 = j → k (pat xs ((j - 1) / 2)) ≤ k (pat xs c)
/-- of the first n: .. but perhaps the one at i is above its children. -/
structure HeapDown (k : Pg → Int) (xs : List Pg) (n i : Nat) : Prop where
  le : n ≤ xs.length
  rest : ∀ c, 0 < c → c < n → (c - 1) / 2 ≠ i → k (pat xs ((c - 1) / 2)) ≤ k (pat xs c)
  over : ∀ c, 0 < i → 0 < c → c < n → (c - 1) / 2 = i → k (pat xs ((i - 1) / 2)) ≤ k (pat xs c)

theorem heap_nil (k : Pg → Int) : Heap k [] := fun i _ h => absurd h (by simp)
theorem pat_append_left {xs ys : List Pg} {i : Nat} (h : i < xs.length) : pat (xs ++ ys) i = pat xs i := by
  simp [pat, List.getD_eq_getElem?_getD, List.getElem?_append_left h]
theorem Heap.push {k : Pg → Int} {xs : List Pg} (h : Heap k xs) (x : Pg) : HeapUp k (xs ++ [x]) xs.length := by
  refine ⟨by simp, fun i h0 h1 h2 => ?_, fun c _ _ hc e => ?_⟩
  · have : i < xs.length := by simp at h1; omega
    rw [pat_append_left this, pat_append_left (by omega)]
    exact h i h0 this
  · simp at hc; omega
theorem HeapUp.done {k : Pg → Int} {xs : List Pg} {j : Nat} (h : HeapUp k xs j) (hd : j = 0 ∨ k (pat xs ((j - 1) / 2)) ≤ k (pat xs j)) : Heap k xs := by
  intro i h0 h1
  by_cases e : i = j
  · subst e; exact hd.resolve_left (by omega)
  · exact h.rest i h0 h1 e
theorem HeapUp.step {k : Pg → Int} {xs : List Pg} {j : Nat} (h : HeapUp k xs j) (h0 : 0 < j) (hl : k (pat xs j) < k (pat xs ((j - 1) / 2))) : HeapUp k (sw xs ((j - 1) / 2) j) ((j - 1) / 2) := by
  have hj := h.lt
  have hi : (j - 1) / 2 < xs.length := by omega
  have hij : (j - 1) / 2 < j := by omega
  generalize hP : (j - 1) / 2 = P at hl hi hij ⊢
  refine ⟨by rw [length_sw]; exact hi, fun i hi0 hi1 hne => ?_, fun c hc0 hc1 hc2 hc3 => ?_⟩
  · rw [length_sw] at hi1
    rw [pat_sw hi hj, pat_sw hi hj, if_neg hne]
    by_cases e1 : i = j
    · subst e1; rw [hP, if_neg (by omega), if_pos rfl, if_pos rfl]; omega
    · rw [if_neg e1]
      by_cases e2 : (i - 1) / 2 = j
      · rw [e2, if_pos rfl]
        have := h.over i h0 hi0 hi1 e2
        rw [hP] at this; exact this
      · rw [if_neg e2]
        have hr := h.rest i hi0 hi1 e1
        by_cases e3 : (i - 1) / 2 = P
        · rw [e3, if_pos rfl]; rw [e3] at hr; omega
        · rw [if_neg e3]; exact hr
  · rw [length_sw] at hc2
    rw [pat_sw hi hj, pat_sw hi hj, if_neg (by omega), if_neg (by omega)]
    by_cases e1 : c = j
    · subst e1; rw [if_pos rfl]
      exact h.rest P hc0 hi (by omega)
    · rw [if_neg e1, if_neg (by omega)]
      have h1 := h.rest P hc0 hi (by omega)
      have h2 := h.rest c hc1 hc2 e1
      rw [hc3] at h2
      omega
theorem Heap.down {k : Pg → Int} {xs : List Pg} (h : Heap k xs) (n : Nat) (hn : n + 1 = xs.length) : HeapDown k (sw xs 0 n) n 0 := by
  refine ⟨by rw [length_sw]; omega, fun c h0 h1 h2 => ?_, fun c h0 => absurd h0 (by omega)⟩
  rw [pat_sw (by omega) (by omega), pat_sw (by omega) (by omega), if_neg (by omega), if_neg h2, if_neg (by omega), if_neg (by omega)]
  exact h c h0 (by omega)
theorem HeapDown.take {k : Pg → Int} {xs : List Pg} {n i : Nat} (h : HeapDown k xs n i) (hd : ∀ c, 0 < c → c < n → (c - 1) / 2 = i → k (pat xs i) ≤ k (pat xs c)) : Heap k (xs.take n) := by
  have hl := h.le
  intro c h0 h1
  have h1' : c < n := by simp at h1; omega
  have e : ∀ m, m < n → pat (xs.take n) m = pat xs m := fun m hm => by simp [pat, List.getD_eq_getElem?_getD, hm]
  rw [e _ h1', e _ (by omega)]
  by_cases hc : (c - 1) / 2 = i
  · rw [hc]; exact hd c h0 h1' hc
  · exact h.rest c h0 h1' hc
theorem HeapDown.step {k : Pg → Int} {xs : List Pg} {n i j : Nat} (h : HeapDown k xs n i) (hj0 : 0 < j) (hjn : j < n) (hp : (j - 1) / 2 = i) (hl : k (pat xs j) < k (pat xs i)) (ho : ∀ c, 0 < c → c < n → (c - 1) / 2 = i → k (pat xs j) ≤ k (pat xs c)) : HeapDown k (sw xs i j) n j := by
  have hle := h.le
  have hj : j < xs.length := by omega
  have hi : i < xs.length := by omega
  refine ⟨by rw [length_sw]; exact hle, fun c h0 h1 h2 => ?_, fun c _ h0 h1 h2 => ?_⟩
  · rw [pat_sw hi hj, pat_sw hi hj, if_neg h2]
    by_cases e1 : (c - 1) / 2 = i
    · rw [if_pos e1]
      by_cases e2 : c = j
      · rw [if_pos e2]; omega
      · rw [if_neg e2, if_neg (by omega)]; exact ho c h0 h1 e1
    · rw [if_neg e1]
      by_cases e2 : c = j
      · exact absurd (e2 ▸ hp) e1
      · rw [if_neg e2]
        by_cases e3 : c = i
        · rw [if_pos e3]; subst e3
          exact h.over j h0 hj0 hjn hp
        · rw [if_neg e3]; exact h.rest c h0 h1 e1
  · rw [hp, pat_sw hi hj, pat_sw hi hj, if_neg (by omega), if_pos rfl, if_neg (by omega), if_neg (by omega)]
    have := h.rest c h0 h1 (by omega)
    rw [h2] at this; exact this
/-- the first one is the least. -/
theorem Heap.least {k : Pg → Int} {xs : List Pg} (h : Heap k xs) (i : Nat) (hi : i < xs.length) : k (pat xs 0) ≤ k (pat xs i) := by
  induction i using Nat.strongRecOn with
  | _ i ih =>
    by_cases e : i = 0
    · subst e; exact Int.le_refl _
    · exact Int.le_trans (ih ((i - 1) / 2) (by omega) (by omega)) (h i (by omega) hi)
theorem Heap.least_mem {k : Pg → Int} {xs : List Pg} (h : Heap k xs) {x : Pg} (hx : x ∈ xs) : k (pat xs 0) ≤ k x := by
  obtain ⟨i, hi, rfl⟩ := List.getElem_of_mem hx
  rw [← pat_lt hi]; exact h.least i hi
/-- what is left when the first one has gone to the end and was taken. -/
theorem sw_last {xs : List Pg} {n : Nat} (hn : n + 1 = xs.length) : pat (sw xs 0 n) n = pat xs 0 := by
  rw [pat_sw (by omega) (by omega), if_pos rfl]
theorem take_last {xs : List Pg} {n : Nat} (hn : n + 1 = xs.length) : xs = xs.take n ++ [pat xs n] := by
  rw [pat_lt (by omega), ← List.take_succ_eq_append_getElem (by omega), List.take_of_length_le (by omega)]
end Go.Proofs.YtlahkeapfcfbbaaDoor
