/- The program's list and the document's tell the same. -/
import Derived.Test.YtlahkeapfcfbbaaDoorYF
namespace Go.Proofs.YtlahkeapfcfbbaaDoor
set_option linter.unusedVariables false
variable {M L : List Pg} {G : Int}
theorem fst1_least (h : Up L) (hk : fst1 L G < L.length) : ∀ y ∈ L, y.2 ≤ G → (pat L (fst1 L G)).1 ≤ y.1 := by
  induction L with
  | nil => simp at hk
  | cons x xs ih =>
    obtain ⟨h1, h2⟩ := up_cons.1 h
    intro y hy hG
    rw [fst1_cons] at hk ⊢
    by_cases hx : x.2 ≤ G
    · rw [if_pos hx, pat_zero]
      rcases List.mem_cons.1 hy with rfl | hy
      · exact Int.le_refl _
      · exact Int.le_of_lt (h1 y hy)
    · rw [if_neg hx] at hk ⊢
      rw [pat_cons]
      rcases List.mem_cons.1 hy with rfl | hy
      · exact absurd hG hx
      · exact ih h2 (by simp at hk; omega) y hy hG
theorem fst1_none (hk : ¬ fst1 L G < L.length) : ∀ x ∈ L, G < x.2 := by
  induction L with
  | nil => intro x hx; cases hx
  | cons x xs ih =>
    rw [fst1_cons] at hk
    by_cases hx : x.2 ≤ G
    · rw [if_pos hx] at hk; simp at hk
    · rw [if_neg hx] at hk
      intro y hy
      rcases List.mem_cons.1 hy with rfl | hy
      · omega
      · exact ih (by simp at hk; omega) y hy
/-- Take: the same page goes, and what is left is the same. -/
theorem Rel.take (h : Rel M L) (hk : fst1 L G < L.length) : M.Perm (pat L (fst1 L G) :: takep L (fst1 L G)) ∧ (pat L (fst1 L G)).2 ≤ G ∧ (∀ y ∈ M, y.2 ≤ G → (pat L (fst1 L G)).1 ≤ y.1) ∧ Up (takep L (fst1 L G)) :=
  ⟨h.perm.trans (takep_perm hk), fst1_at hk, fun y hy => fst1_least h.up hk y (h.perm.mem_iff.1 hy), takep_up h.up⟩
theorem Rel.none (h : Rel M L) (hk : ¬ fst1 L G < L.length) : ∀ x ∈ M, G < x.2 := fun x hx => fst1_none hk x (h.perm.mem_iff.1 hx)
/-- Add: the same is refused. -/
theorem Rel.there {n : Int} (h : Rel M L) : n ∈ M.map (·.1) ↔ (ahd L n < L.length ∧ (pat L (ahd L n)).1 = n) := by
  rw [(h.perm.map _).mem_iff]; exact there_iff h.up
/-- Add: what is laid in is the same. -/
theorem Rel.add {n : Int} (h : Rel M L) (hn : n ∉ M.map (·.1)) : Rel ((n, G) :: M) (putp L n G) :=
  ⟨(List.Perm.cons _ h.perm).trans (putp_perm L n G).symm, putp_up h.up (by rw [← (h.perm.map _).mem_iff]; exact hn)⟩
theorem Rel.may (h : Rel M L) : M.countP (fun x => decide (x.2 ≤ G)) = L.countP (fun x => decide (x.2 ≤ G)) := h.perm.countP_eq _
theorem Rel.len (h : Rel M L) : M.length = L.length := h.perm.length_eq
end Go.Proofs.YtlahkeapfcfbbaaDoor
