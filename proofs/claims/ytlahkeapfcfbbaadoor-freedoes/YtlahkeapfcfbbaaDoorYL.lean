/- All: the same words. -/
import Derived.Test.YtlahkeapfcfbbaaDoorYK
import Derived.Test.YtlahkeapfcfbbaaDoorYG
namespace Go.Proofs.YtlahkeapfcfbbaaDoor
open Go.RowKit Go.Maps
set_option linter.unusedVariables false
variable {M L : List Pg} {Z : List Nat}
/-- lists that rise and have the same are the same. -/
theorem rise_eq : ∀ {a b : List Int}, a.Pairwise (· < ·) → b.Pairwise (· < ·) → (∀ x, x ∈ a ↔ x ∈ b) → a = b
  | [], [], _, _, _ => rfl
  | [], y :: b, _, _, h => by have := (h y).2 (by simp); simp at this
  | x :: a, [], _, _, h => by have := (h x).1 (by simp); simp at this
  | x :: a, y :: b, ha, hb, h => by
    obtain ⟨h1, h2⟩ := List.pairwise_cons.1 ha
    obtain ⟨k1, k2⟩ := List.pairwise_cons.1 hb
    have hxy : x = y := by
      rcases List.mem_cons.1 ((h x).1 (by simp)) with e | e
      · exact e
      · rcases List.mem_cons.1 ((h y).2 (by simp)) with e2 | e2
        · exact e2.symm
        · have := h1 y e2; have := k1 x e; omega
    subst hxy
    congr 1
    refine rise_eq h2 k2 fun z => ⟨fun hz => ?_, fun hz => ?_⟩
    · rcases List.mem_cons.1 ((h z).1 (by simp [hz])) with e | e
      · have := h1 z hz; omega
      · exact e
    · rcases List.mem_cons.1 ((h z).2 (by simp [hz])) with e | e
      · have := k1 z hz; omega
      · exact e
theorem told_eq (h : Rel M L) (hs : Z.Pairwise (· < ·)) (hm : ∀ x : Int, x ∈ Z.map (fun (z : Nat) => (z : Int)) ↔ x ∈ M.map (·.1)) : Z.map (fun (z : Nat) => (z : Int)) = L.map (·.1) := by
  refine rise_eq ?_ ?_ fun x => ?_
  · exact List.pairwise_map.2 (hs.imp fun h => by omega)
  · exact List.pairwise_map.2 h.up
  · rw [hm x, (h.perm.map _).mem_iff]
/-- the document's words are the program's, as naturals. -/
theorem wds_of {L : List Pg} (h : Z.map (fun (z : Nat) => (z : Int)) = L.map (·.1)) : wds L = Z.map fun (z : Nat) => Value.int .u32 (z : Int) := by
  have h2 := congrArg (List.map (Value.int .u32)) h
  rw [List.map_map, List.map_map] at h2
  exact h2.symm
theorem Told.eq (h : Told Z M) (hr : Rel M L) : Z.map (fun (z : Nat) => (z : Int)) = L.map (·.1) := told_eq hr h.sorted fun x => h.perm.mem_iff
/-- the document's All has the program's words. -/
theorem rall_told {w : World} {r : Nat} {v : Value} (h : Rl w r v L) (hf : L.length ≤ 900000) (ht : Told Z M) (hr : Rel M L) : Calls Tryd.prog 15 #[.pointer (some ⟨r, 0, none⟩)] w fun e w' => ∃ u, e = .returned u ∧ OwnW w' u Z ∧ (∀ k, u.ownBlock = some k → w.heap.size ≤ k) ∧ Below w.heap.size w w' := by
  refine (rall_any h hf).mono ?_
  rintro e w' ⟨u, rfl, h1, h2, h3⟩
  have e1 := ht.eq hr
  have e2 : Z.length = L.length := by simpa using congrArg List.length e1
  rw [wds_of e1, ← e2] at h1
  exact ⟨u, rfl, h1, h2, h3⟩
end Go.Proofs.YtlahkeapfcfbbaaDoor
