/- Entries that rise by their keys: where a new one stands, they still rise; two lists that rise and have the same entries are one list. -/
import Derived.Test.YtcflnkepopcofaaID
namespace Go.Proofs.Ytcflnkepopcofaa
open Go.RowKit
set_option linter.unusedVariables false

/-- the keys rise. -/
def Rise (es : List Ee) : Prop := es.Pairwise fun a b => ordI a.key b.key < 0
theorem rise_irrefl {a : Ee} (h : ordI a.key a.key < 0) : False := by have := ordI_self a.key; omega
theorem rise_ext {xs ys : List Ee} (hx : Rise xs) (hy : Rise ys) (h : ∀ e, e ∈ xs ↔ e ∈ ys) : xs = ys := by
  induction xs generalizing ys with
  | nil =>
    cases ys with
    | nil => rfl
    | cons y ys => exact absurd ((h y).2 (List.mem_cons_self ..)) (by simp)
  | cons x xs ih =>
    cases ys with
    | nil => exact absurd ((h x).1 (List.mem_cons_self ..)) (by simp)
    | cons y ys =>
      obtain ⟨hx1, hx2⟩ := List.pairwise_cons.1 hx
      obtain ⟨hy1, hy2⟩ := List.pairwise_cons.1 hy
      have e : x = y := by
        rcases List.mem_cons.1 ((h x).1 (List.mem_cons_self ..)) with e | hm
        · exact e
        · rcases List.mem_cons.1 ((h y).2 (List.mem_cons_self ..)) with e | hm'
          · exact e.symm
          · have h1 := hy1 x hm
            have h2 := hx1 y hm'
            have := ordI_anti x.key y.key
            omega
      subst e
      congr 1
      refine ih hx2 hy2 fun e => ⟨fun he => ?_, fun he => ?_⟩
      · rcases List.mem_cons.1 ((h e).1 (List.mem_cons_of_mem _ he)) with rfl | hm
        · exact absurd (hx1 e he) (fun h => rise_irrefl h)
        · exact hm
      · rcases List.mem_cons.1 ((h e).2 (List.mem_cons_of_mem _ he)) with rfl | hm
        · exact absurd (hy1 e he) (fun h => rise_irrefl h)
        · exact hm
theorem rise_at {es : List Ee} (h : Rise es) {p q : Nat} {a b : Ee} (hpq : p < q) (ha : es[p]? = some a) (hb : es[q]? = some b) : ordI a.key b.key < 0 := by
  obtain ⟨hp, rfl⟩ := List.getElem?_eq_some_iff.1 ha
  obtain ⟨hq, rfl⟩ := List.getElem?_eq_some_iff.1 hb
  exact List.pairwise_iff_getElem.1 h p q hp hq hpq
/-- where a new entry is put, the keys still rise. -/
theorem rise_put {xs : List En} {x : Ee} {i : Nat} (hr : Rise (ers xs)) (hat : At (pge x.key) xs i) (hnew : ∀ z ∈ xs, z.e.key ≠ x.key) : Rise ((ers xs).take i ++ x :: (ers xs).drop i) := by
  have hlo : ∀ a ∈ (ers xs).take i, ordI a.key x.key < 0 := by
    intro a ha
    obtain ⟨p, hp⟩ := List.mem_iff_getElem?.1 ha
    rw [List.getElem?_take] at hp
    split at hp
    · rename_i hpi
      obtain ⟨z, hz⟩ : ∃ z, xs[i - 1]? = some z := ⟨_, List.getElem?_eq_getElem (by have := hat.1; omega)⟩
      have hz' : (ers xs)[i - 1]? = some z.e := by simp [ers, hz]
      have h1 := hat.2.1 z (by omega) hz
      have h2 : ordI z.e.key x.key < 0 := by
        unfold pge at h1
        have := of_decide_eq_false h1
        omega
      by_cases hq : p = i - 1
      · rw [hq, hz'] at hp
        cases hp
        exact h2
      · exact ordI_trans_lt _ _ _ (rise_at hr (show p < i - 1 by omega) hp hz') (by omega)
    · cases hp
  have hhi : ∀ b ∈ (ers xs).drop i, ordI x.key b.key < 0 := by
    intro b hb
    obtain ⟨q, hq⟩ := List.mem_iff_getElem?.1 hb
    rw [List.getElem?_drop] at hq
    have hlt : i + q < xs.length := by have := (List.getElem?_eq_some_iff.1 hq).1; rwa [ers_len] at this
    obtain ⟨z, hz⟩ : ∃ z, xs[i]? = some z := ⟨_, List.getElem?_eq_getElem (by omega)⟩
    have hz' : (ers xs)[i]? = some z.e := by simp [ers, hz]
    have h1 := hat.2.2 z hz
    have h2 : ordI x.key z.e.key < 0 := by
      unfold pge at h1
      have h3 := of_decide_eq_true h1
      have h4 : ordI z.e.key x.key ≠ 0 := fun e => hnew z (List.mem_of_getElem? hz) (ordI_zero _ _ e)
      have := ordI_anti z.e.key x.key
      omega
    by_cases h0 : q = 0
    · subst h0
      rw [Nat.add_zero, hz'] at hq
      cases hq
      exact h2
    · have := rise_at hr (show i < i + q by omega) hz' hq
      exact ordI_trans_lt _ _ _ h2 (by omega)
  unfold Rise at hr ⊢
  refine List.pairwise_append.2 ⟨hr.sublist (List.take_sublist _ _), List.pairwise_cons.2 ⟨hhi, hr.sublist (List.drop_sublist _ _)⟩, ?_⟩
  intro a ha b hb
  rcases List.mem_cons.1 hb with rfl | hb
  · exact hlo a ha
  · exact ordI_trans_lt _ _ _ (hlo a ha) (by have := hhi b hb; omega)
theorem mem_put {es : List Ee} {x : Ee} {i : Nat} (e : Ee) : e ∈ es.take i ++ x :: es.drop i ↔ e = x ∨ e ∈ es := by
  conv => rhs; rw [← List.take_append_drop i es]
  simp only [List.mem_append, List.mem_cons]
  constructor
  · rintro (h | rfl | h)
    · exact .inr (.inl h)
    · exact .inl rfl
    · exact .inr (.inr h)
  · rintro (rfl | h | h)
    · exact .inr (.inl rfl)
    · exact .inl h
    · exact .inr (.inr h)
theorem wts_put (es : List Ee) (x : Ee) (i : Nat) : wts (es.take i ++ x :: es.drop i) = wts es + (x.key.length + x.val.length) := by
  conv => rhs; rw [← List.take_append_drop i es, wts_app]
  rw [wts_app]
  simp [wts]
  omega
end Go.Proofs.Ytcflnkepopcofaa
