/- Mathematics: sheets that hang in a ring, by what stands before and behind each. -/
import Derived.WalkKit
namespace Go.Proofs.Ytkkjppdooaipiaa
set_option linter.unusedVariables false

/-- each but the last has the next one behind it, each but the first the one before it. -/
def Lks (el yo : Nat → Nat) : List Nat → Prop
  | a :: b :: l => yo a = b ∧ el b = a ∧ Lks el yo (b :: l)
  | _ => True
theorem Lks.app {el yo : Nat → Nat} : ∀ {u : List Nat} {a : Nat} {v : List Nat}, Lks el yo (u ++ a :: v) ↔ Lks el yo (u ++ [a]) ∧ Lks el yo (a :: v)
  | [], a, v => by simp [Lks]
  | [x], a, v => by simp [Lks, and_assoc]
  | x :: y :: u, a, v => by
    have := Lks.app (el := el) (yo := yo) (u := y :: u) (a := a) (v := v)
    simp only [List.cons_append] at this
    simp only [List.cons_append, Lks, this, and_assoc]
theorem Lks.congr {el yo el' yo' : Nat → Nat} : ∀ {l : List Nat}, Lks el yo l → (∀ x ∈ l.dropLast, yo' x = yo x) → (∀ x ∈ l.tail, el' x = el x) → Lks el' yo' l
  | [], _, _, _ => trivial
  | [a], _, _, _ => trivial
  | a :: b :: l, h, h1, h2 => by
    obtain ⟨g1, g2, g3⟩ := h
    refine ⟨(h1 a (by simp)).trans g1, (h2 b (by simp)).trans g2, Lks.congr g3 (fun x hx => h1 x (by simp [hx])) (fun x hx => h2 x (by simp at hx ⊢; exact Or.inr hx))⟩
def upd (f : Nat → Nat) (a v : Nat) : Nat → Nat := fun x => if x = a then v else f x
theorem upd_same (f : Nat → Nat) (a v : Nat) : upd f a v a = v := by simp [upd]
theorem upd_other (f : Nat → Nat) {a v x : Nat} (h : x ≠ a) : upd f a v x = f x := by simp [upd, h]
/-- a ring: the end and the sheets, from the one that was used longest ago on. -/
structure Ring (el yo : Nat → Nat) (e : Nat) (bs : List Nat) : Prop where
  nodup : (e :: bs).Nodup
  lks : Lks el yo (e :: (bs ++ [e]))
theorem snoc_of (e : Nat) (u : List Nat) : ∃ u' a, e :: u = u' ++ [a] := ⟨(e :: u).dropLast, (e :: u).getLast (by simp), (List.dropLast_concat_getLast (by simp)).symm⟩
theorem cons_of (v : List Nat) (e : Nat) : ∃ b v', v ++ [e] = b :: v' := by cases v with
  | nil => exact ⟨e, [], rfl⟩
  | cons b v => exact ⟨b, v ++ [e], rfl⟩
/-- what stands before and behind a sheet. -/
theorem Ring.around {el yo : Nat → Nat} {e : Nat} {u v : List Nat} {s : Nat} (h : Ring el yo e (u ++ s :: v)) : el s ∈ e :: u ∧ yo s ∈ e :: v ∧ (u = [] → el s = e) ∧ (v = [] → yo s = e) := by
  have h2 := h.lks
  rw [List.append_assoc, List.cons_append, ← List.cons_append, Lks.app] at h2
  obtain ⟨u', a, hu⟩ := snoc_of e u
  obtain ⟨b, v', hv⟩ := cons_of v e
  obtain ⟨h3, h4⟩ := h2
  rw [hu, List.append_assoc, List.singleton_append, Lks.app] at h3
  rw [hv] at h4
  obtain ⟨-, -, g3, -⟩ := h3
  obtain ⟨g5, g6, -⟩ := h4
  refine ⟨by rw [g3, hu]; simp, ?_, ?_, ?_⟩
  · rw [g5]
    have : b ∈ v ++ [e] := by rw [hv]; simp
    simp at this ⊢
    exact this.symm
  · rintro rfl
    rw [g3]
    cases u' with
    | nil => simp at hu; exact hu.symm
    | cons x u' => simp at hu
  · rintro rfl
    rw [g5]
    simp at hv
    exact hv.1.symm
theorem Ring.leave {el yo : Nat → Nat} {e : Nat} {u v : List Nat} {s : Nat} (h : Ring el yo e (u ++ s :: v)) : Ring (upd el (yo s) (el s)) (upd yo (el s) (yo s)) e (u ++ v) := by
  have hn := h.nodup
  have h2 := h.lks
  rw [List.append_assoc, List.cons_append, ← List.cons_append, Lks.app] at h2
  obtain ⟨u', a, hu⟩ := snoc_of e u
  obtain ⟨b, v', hv⟩ := cons_of v e
  obtain ⟨h3, h4⟩ := h2
  rw [hu, List.append_assoc, List.singleton_append, Lks.app] at h3
  rw [hv] at h4
  obtain ⟨g1, g2, g3, -⟩ := h3
  obtain ⟨g5, g6, g7⟩ := h4
  have hnd : ((u' ++ [a]) ++ s :: v).Nodup := by rw [← hu]; exact hn
  rw [List.nodup_append] at hnd
  obtain ⟨n1, n2, n3⟩ := hnd
  have n2' := (List.nodup_cons.1 n2)
  have he : e ∈ u' ++ [a] := by rw [← hu]; simp
  have ha : a ∈ u' ++ [a] := by simp
  have hb : b ∈ v ++ [e] := by rw [hv]; simp
  have hau : a ∉ u' := fun hx => by
    rw [List.nodup_append] at n1
    exact n1.2.2 a hx a (by simp) rfl
  refine ⟨?_, ?_⟩
  · refine hn.sublist ?_
    simp
  · rw [g3, g5, List.append_assoc, hv, ← List.cons_append, hu, List.append_assoc, List.singleton_append, Lks.app]
    refine ⟨Lks.congr g1 ?_ ?_, upd_same _ _ _, upd_same _ _ _, Lks.congr g7 ?_ ?_⟩
    · intro x hx
      rw [List.dropLast_concat] at hx
      exact upd_other _ (fun e => hau (e ▸ hx))
    · intro x hx
      refine upd_other _ (fun e1 => ?_)
      subst e1
      have hx2 : x ∈ u := by
        have h5 : (u' ++ [a]).tail = u := by rw [← hu]; rfl
        rw [h5] at hx
        exact hx
      have hx3 : x ∈ u' ++ [a] := by rw [← hu]; simp [hx2]
      rw [List.mem_append, List.mem_singleton] at hb
      rcases hb with hb | hb
      · exact n3 x hx3 x (by simp [hb]) rfl
      · subst hb
        exact (List.nodup_cons.1 (hu ▸ n1)).1 hx2
    · intro x hx
      refine upd_other _ (fun e1 => ?_)
      subst e1
      have h5 : (b :: v').dropLast = v := by rw [← hv, List.dropLast_concat]
      rw [h5] at hx
      exact n3 x ha x (by simp [hx]) rfl
    · intro x hx
      simp only [List.tail_cons] at hx
      refine upd_other _ (fun e1 => ?_)
      subst e1
      cases v with
      | nil => simp at hv; rw [hv.2] at hx; simp at hx
      | cons y v =>
        simp only [List.cons_append, List.cons.injEq] at hv
        obtain ⟨rfl, rfl⟩ := hv
        rw [List.mem_append, List.mem_singleton] at hx
        rcases hx with hx | hx
        · exact (List.nodup_cons.1 n2'.2).1 hx
        · subst hx
          exact n3 y he y (by simp) rfl
theorem Ring.hang {el yo : Nat → Nat} {e : Nat} {u : List Nat} {s : Nat} (h : Ring el yo e u) (hs : s ∉ e :: u) : Ring (upd (upd el s (el e)) e s) (upd (upd yo s e) (el e) s) e (u ++ [s]) := by
  have hn := h.nodup
  have h2 := h.lks
  obtain ⟨u', a, hu⟩ := snoc_of e u
  rw [← List.cons_append, hu, List.append_assoc, List.singleton_append, Lks.app] at h2
  obtain ⟨g1, g2, g3, -⟩ := h2
  have ha : a ∈ u' ++ [a] := by simp
  have n1 : (u' ++ [a]).Nodup := hu ▸ hn
  have hau : a ∉ u' := fun hx => by
    rw [List.nodup_append] at n1
    exact n1.2.2 a hx a (by simp) rfl
  have hsu : s ∉ u' ++ [a] := by rw [← hu]; exact hs
  have hse : s ≠ e := fun h => hs (by simp [h])
  have hsa : s ≠ a := fun h => hsu (by simp [h])
  refine ⟨?_, ?_⟩
  · rw [← List.cons_append, List.nodup_append]
    exact ⟨hn, by simp, fun x hx y hy => by simp at hy; subst hy; exact fun h => hs (h ▸ hx)⟩
  · rw [g3, List.append_assoc, ← List.cons_append, hu, List.append_assoc, List.singleton_append, Lks.app]
    refine ⟨Lks.congr g1 ?_ ?_, upd_same _ _ _, ?_, ?_, ?_, trivial⟩
    · intro x hx
      rw [List.dropLast_concat] at hx
      have q1 : x ≠ a := fun e => hau (e ▸ hx)
      have q2 : x ≠ s := fun e => hsu (by simp [← e, hx])
      rw [upd_other _ q1, upd_other _ q2]
    · intro x hx
      have h5 : (u' ++ [a]).tail = u := by rw [← hu]; rfl
      rw [h5] at hx
      have q1 : x ≠ e := fun e1 => (List.nodup_cons.1 hn).1 (e1 ▸ hx)
      have q2 : x ≠ s := fun e1 => hs (by simp [← e1, hx])
      rw [upd_other _ q1, upd_other _ q2]
    · rw [upd_other _ hse, upd_same]
    · rw [upd_other _ hsa, upd_same]
    · exact upd_same _ _ _
/-- a ring with nothing in it. -/
theorem Ring.nil (e : Nat) : Ring (fun _ => e) (fun _ => e) e [] := ⟨by simp, by simp [Lks]⟩
theorem Ring.first {el yo : Nat → Nat} {e s : Nat} {v : List Nat} (h : Ring el yo e (s :: v)) : yo e = s := h.lks.1
theorem Ring.congr {el yo el' yo' : Nat → Nat} {e : Nat} {u : List Nat} (h : Ring el yo e u) (h1 : ∀ x ∈ e :: u, yo' x = yo x) (h2 : ∀ x ∈ e :: u, el' x = el x) : Ring el' yo' e u := by
  refine ⟨h.nodup, h.lks.congr (fun x hx => h1 x ?_) (fun x hx => h2 x ?_)⟩
  · have := List.dropLast_subset _ hx
    simp at this ⊢
    rcases this with h | h | h <;> simp [h]
  · simp at hx ⊢
    exact hx.symm
end Go.Proofs.Ytkkjppdooaipiaa
