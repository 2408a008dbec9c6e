/- The document's list rises: what it comes to, told by its content. -/
import Derived.Test.YtlahkeapfcfbbaaDoorPA
namespace Go.Proofs.YtlahkeapfcfbbaaDoor
set_option linter.unusedVariables false

/-- pages rise. -/
def Up (L : List Pg) : Prop := L.Pairwise fun x y => x.1 < y.1
/-- how many stand ahead of a number. -/
def ahd (L : List Pg) (n : Int) : Nat := (L.takeWhile fun x => decide (x.1 < n)).length
/-- a list and the document's. -/
structure Rel (M L : List Pg) : Prop where
  perm : M.Perm L
  up : Up L
theorem ahd_le (L : List Pg) (n : Int) : ahd L n ≤ L.length := by
  unfold ahd
  exact (List.takeWhile_sublist _).length_le
theorem ahd_cons (x : Pg) (xs : List Pg) (n : Int) : ahd (x :: xs) n = if x.1 < n then ahd xs n + 1 else 0 := by
  unfold ahd
  by_cases hx : x.1 < n <;> simp [hx]
theorem pat_cons (x : Pg) (xs : List Pg) (i : Nat) : pat (x :: xs) (i + 1) = pat xs i := by simp [pat]
theorem pat_zero (x : Pg) (xs : List Pg) : pat (x :: xs) 0 = x := by simp [pat]
theorem ahd_lt {L : List Pg} {n : Int} {i : Nat} (h : i < ahd L n) : (pat L i).1 < n := by
  induction L generalizing i with
  | nil => simp [ahd] at h
  | cons x xs ih =>
    rw [ahd_cons] at h
    split at h
    · cases i with
      | zero => rw [pat_zero]; assumption
      | succ i => rw [pat_cons]; exact ih (by omega)
    · omega
theorem ahd_at {L : List Pg} {n : Int} (h : ahd L n < L.length) : ¬ (pat L (ahd L n)).1 < n := by
  induction L with
  | nil => simp [ahd] at h
  | cons x xs ih =>
    rw [ahd_cons] at h ⊢
    split at h
    · rename_i hx
      rw [if_pos hx, pat_cons]
      exact ih (by simp at h; omega)
    · rename_i hx
      rw [if_neg hx, pat_zero]
      exact hx
/-- the first page that may be taken. -/
def fst1 (L : List Pg) (G : Int) : Nat := L.findIdx fun x => decide (x.2 ≤ G)
theorem up_cons {x : Pg} {xs : List Pg} : Up (x :: xs) ↔ (∀ y ∈ xs, x.1 < y.1) ∧ Up xs := List.pairwise_cons
/-- the document's Add. -/
def putp (L : List Pg) (n G : Int) : List Pg := L.take (ahd L n) ++ (n, G) :: L.drop (ahd L n)
theorem putp_perm (L : List Pg) (n G : Int) : (putp L n G).Perm ((n, G) :: L) := by
  unfold putp
  refine (List.perm_middle).trans ?_
  rw [List.take_append_drop]
theorem putp_cons (x : Pg) (xs : List Pg) (n G : Int) : putp (x :: xs) n G = if x.1 < n then x :: putp xs n G else (n, G) :: x :: xs := by
  unfold putp
  rw [ahd_cons]
  split <;> simp
theorem putp_up {L : List Pg} {n G : Int} (h : Up L) (hn : n ∉ L.map (·.1)) : Up (putp L n G) := by
  induction L with
  | nil => simp [putp, ahd, Up]
  | cons x xs ih =>
    rw [putp_cons]
    obtain ⟨h1, h2⟩ := up_cons.1 h
    simp only [List.map_cons, List.mem_cons, not_or] at hn
    split
    · rename_i hx
      refine up_cons.2 ⟨fun y hy => ?_, ih h2 hn.2⟩
      rcases List.mem_cons.1 ((putp_perm xs n G).mem_iff.1 hy) with rfl | hy
      · exact hx
      · exact h1 y hy
    · rename_i hx
      have : n < x.1 := by have := hn.1; omega
      refine up_cons.2 ⟨fun y hy => ?_, h⟩
      rcases List.mem_cons.1 hy with rfl | hy
      · exact this
      · exact Int.lt_trans this (h1 y hy)
theorem there_iff {L : List Pg} {n : Int} (h : Up L) : n ∈ L.map (·.1) ↔ (ahd L n < L.length ∧ (pat L (ahd L n)).1 = n) := by
  induction L with
  | nil => simp [ahd]
  | cons x xs ih =>
    obtain ⟨h1, h2⟩ := up_cons.1 h
    rw [ahd_cons]
    by_cases hx : x.1 < n
    · rw [if_pos hx, pat_cons]
      simp only [List.map_cons, List.mem_cons, List.length_cons]
      rw [ih h2]
      constructor
      · rintro (e | ⟨e1, e2⟩)
        · omega
        · exact ⟨by omega, e2⟩
      · rintro ⟨e1, e2⟩
        exact .inr ⟨by omega, e2⟩
    · rw [if_neg hx, pat_zero]
      simp only [List.map_cons, List.mem_cons, List.length_cons]
      constructor
      · rintro (e | e)
        · exact ⟨by omega, e.symm⟩
        · obtain ⟨y, hy, rfl⟩ := List.mem_map.1 e
          have := h1 y hy
          omega
      · rintro ⟨_, e⟩
        exact .inl e.symm
/-- the document's Take. -/
def takep (L : List Pg) (i : Nat) : List Pg := L.take i ++ L.drop (i + 1)
theorem takep_perm {L : List Pg} {i : Nat} (h : i < L.length) : L.Perm (pat L i :: takep L i) := by
  unfold takep
  have e : L = L.take i ++ pat L i :: L.drop (i + 1) := by
    have h1 : pat L i = L[i] := by simp [pat, h]
    rw [h1, List.getElem_cons_drop, List.take_append_drop]
  conv => lhs; rw [e]
  exact List.perm_middle
theorem takep_up {L : List Pg} {i : Nat} (h : Up L) : Up (takep L i) := by
  unfold takep Up
  refine List.Pairwise.sublist ?_ h
  have e : L.take i ++ L.drop i = L := List.take_append_drop i L
  conv => rhs; rw [← e]
  exact List.Sublist.append (List.Sublist.refl _) (by rw [← List.drop_drop]; exact List.drop_sublist _ _)
end Go.Proofs.YtlahkeapfcfbbaaDoor
