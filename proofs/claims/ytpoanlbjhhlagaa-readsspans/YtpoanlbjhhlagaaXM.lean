/- Mathematics of spans: which keys lie in them; rows of spans that rise and are apart: there is one such row, and no other, for a set of keys; putting together. -/
import Derived.Test.YtpoanlbjhhlagaaM
namespace Go.Proofs.Ytpoanlbjhhlagaa
open Go.RowKit
set_option linter.unusedVariables false

theorem ordI_trans_gt (xs ys zs : List Int) (h1 : ordI xs ys ≤ 0) (h2 : ordI ys zs < 0) : ordI xs zs < 0 := by
  rcases Int.lt_or_le (ordI xs zs) 0 with h | h
  · exact h
  · have a := ordI_anti xs zs
    have := ordI_trans_lt ys zs xs h2 (by omega)
    have b := ordI_anti xs ys
    omega
/-- a key lies in a span. -/
def inS (x : Ee) (k : List Int) : Prop := ordI x.key k ≤ 0 ∧ (x.del = true ∨ ordI k x.val < 0)
/-- a span that has keys. -/
def okS (x : Ee) : Prop := (x.del = true ∧ x.val = []) ∨ (x.del = false ∧ ordI x.key x.val < 0)
/-- the keys of spans. -/
def U (xs : List Ee) (k : List Int) : Prop := ∃ x ∈ xs, inS x k
def nxt (x y : Ee) : Prop := x.del = false ∧ ordI x.val y.key < 0
/-- rising, apart, each with keys. -/
def Apt (xs : List Ee) : Prop := (∀ x ∈ xs, okS x) ∧ xs.Pairwise nxt
theorem U_nil (k : List Int) : ¬ U [] k := fun ⟨_, h, _⟩ => by simp at h
theorem U_cons {x : Ee} {xs : List Ee} {k : List Int} : U (x :: xs) k ↔ inS x k ∨ U xs k := by
  constructor
  · rintro ⟨y, hy, h⟩
    rcases List.mem_cons.1 hy with rfl | hy
    · exact .inl h
    · exact .inr ⟨y, hy, h⟩
  · rintro (h | ⟨y, hy, h⟩)
    · exact ⟨x, by simp, h⟩
    · exact ⟨y, by simp [hy], h⟩
theorem U_app {xs ys : List Ee} {k : List Int} : U (xs ++ ys) k ↔ U xs k ∨ U ys k := by
  constructor
  · rintro ⟨y, hy, h⟩
    rcases List.mem_append.1 hy with hy | hy
    · exact .inl ⟨y, hy, h⟩
    · exact .inr ⟨y, hy, h⟩
  · rintro (⟨y, hy, h⟩ | ⟨y, hy, h⟩)
    · exact ⟨y, by simp [hy], h⟩
    · exact ⟨y, by simp [hy], h⟩
theorem U_perm {xs ys : List Ee} (h : xs.Perm ys) {k : List Int} : U xs k ↔ U ys k := ⟨fun ⟨x, hx, h1⟩ => ⟨x, h.mem_iff.1 hx, h1⟩, fun ⟨x, hx, h1⟩ => ⟨x, h.mem_iff.2 hx, h1⟩⟩
theorem own_in {x : Ee} (h : okS x) : inS x x.key := by
  refine ⟨by rw [ordI_self]; omega, ?_⟩
  rcases h with ⟨h, _⟩ | ⟨_, h⟩
  · exact .inl h
  · exact .inr h
theorem apt_nil : Apt [] := ⟨by simp, List.Pairwise.nil⟩
theorem Apt.tail {x : Ee} {xs : List Ee} (h : Apt (x :: xs)) : Apt xs := ⟨fun y hy => h.1 y (by simp [hy]), (List.pairwise_cons.1 h.2).2⟩
theorem Apt.tail_gt {x : Ee} {xs : List Ee} (h : Apt (x :: xs)) {k : List Int} (hk : U xs k) : x.del = false ∧ ordI x.val k < 0 := by
  obtain ⟨y, hy, h1, _⟩ := hk
  obtain ⟨a, b⟩ := (List.pairwise_cons.1 h.2).1 y hy
  exact ⟨a, ordI_trans_lt _ _ _ b h1⟩
theorem okS.lt {x : Ee} (h : okS x) (hd : x.del = false) : ordI x.key x.val < 0 := by
  rcases h with ⟨h, _⟩ | ⟨_, h⟩
  · rw [h] at hd; cases hd
  · exact h
theorem Apt.key_le {x : Ee} {xs : List Ee} (h : Apt (x :: xs)) {k : List Int} (hk : U (x :: xs) k) : ordI x.key k ≤ 0 := by
  rcases U_cons.1 hk with h1 | h1
  · exact h1.1
  · obtain ⟨a, b⟩ := h.tail_gt h1
    have c := (h.1 x (by simp)).lt a
    have := ordI_trans_lt _ _ _ c (Int.le_of_lt b)
    omega
theorem Apt.val_out {x : Ee} {xs : List Ee} (h : Apt (x :: xs)) (hd : x.del = false) : ¬ U (x :: xs) x.val := fun hk => by
  rcases U_cons.1 hk with h1 | h1
  · rcases h1.2 with h2 | h2
    · rw [hd] at h2; cases h2
    · rw [ordI_self] at h2; omega
  · have := (h.tail_gt h1).2
    rw [ordI_self] at this; omega
theorem Apt.open_last {x : Ee} {xs : List Ee} (h : Apt (x :: xs)) (hd : x.del = true) : xs = [] := by
  cases xs with
  | nil => rfl
  | cons y ys =>
    have := ((List.pairwise_cons.1 h.2).1 y (by simp)).1
    rw [hd] at this; cases this
/-- there is one row, and no other, that rises and is apart, for a set of keys. -/
theorem apt_uniq : ∀ {xs ys : List Ee}, Apt xs → Apt ys → (∀ k, U xs k ↔ U ys k) → xs = ys
  | [], [], _, _, _ => rfl
  | [], y :: ys, _, hy, h => absurd ((h y.key).2 ⟨y, by simp, own_in (hy.1 y (by simp))⟩) (U_nil _)
  | x :: xs, [], hx, _, h => absurd ((h x.key).1 ⟨x, by simp, own_in (hx.1 x (by simp))⟩) (U_nil _)
  | x :: xs, y :: ys, hx, hy, h => by
    have ox := hx.1 x (by simp)
    have oy := hy.1 y (by simp)
    have k1 : ordI x.key y.key ≤ 0 := hx.key_le ((h y.key).2 ⟨y, by simp, own_in oy⟩)
    have k2 : ordI y.key x.key ≤ 0 := hy.key_le ((h x.key).1 ⟨x, by simp, own_in ox⟩)
    have ek : x.key = y.key := ordI_zero _ _ (by have := ordI_anti x.key y.key; omega)
    have ev : x.del = y.del ∧ x.val = y.val := by
      rcases ox with ⟨a1, a2⟩ | ⟨a1, a2⟩ <;> rcases oy with ⟨b1, b2⟩ | ⟨b1, b2⟩
      · exact ⟨a1.trans b1.symm, a2.trans b2.symm⟩
      · refine absurd ((h y.val).1 ⟨x, by simp, ?_, .inl a1⟩) (hy.val_out b1)
        rw [ek]; exact Int.le_of_lt b2
      · refine absurd ((h x.val).2 ⟨y, by simp, ?_, .inl b1⟩) (hx.val_out a1)
        rw [← ek]; exact Int.le_of_lt a2
      · refine ⟨a1.trans b1.symm, ?_⟩
        rcases ordI_cases x.val y.val with e | e | e
        · refine absurd ((h x.val).2 ⟨y, by simp, ?_, .inr (by omega)⟩) (hx.val_out a1)
          rw [← ek]; exact Int.le_of_lt a2
        · exact ordI_zero _ _ e
        · have := ordI_anti x.val y.val
          refine absurd ((h y.val).1 ⟨x, by simp, ?_, .inr (by omega)⟩) (hy.val_out b1)
          rw [ek]; exact Int.le_of_lt b2
    have exy : x = y := by
      cases x; cases y
      simp only at ek ev
      obtain ⟨rfl, rfl⟩ := ev
      subst ek
      rfl
    subst exy
    congr 1
    by_cases hd : x.del = true
    · rw [hx.open_last hd, hy.open_last hd]
    · have hd' : x.del = false := by simpa using hd
      refine apt_uniq hx.tail hy.tail fun k => ⟨fun hk => ?_, fun hk => ?_⟩
      · rcases U_cons.1 ((h k).1 (U_cons.2 (.inr hk))) with h1 | h1
        · rcases h1.2 with h2 | h2
          · exact absurd h2 hd
          · have := (hx.tail_gt hk).2
            have := ordI_anti x.val k
            omega
        · exact h1
      · rcases U_cons.1 ((h k).2 (U_cons.2 (.inr hk))) with h1 | h1
        · rcases h1.2 with h2 | h2
          · exact absurd h2 hd
          · have := (hy.tail_gt hk).2
            have := ordI_anti x.val k
            omega
        · exact h1
/-- spans that rise by their beginnings. -/
def SrtS (xs : List Ee) : Prop := xs.Pairwise (fun a b => ordI a.key b.key ≤ 0)
/-- x, and what comes behind it, put together. -/
def tgo : Ee → List Ee → List Ee
  | x, [] => [x]
  | x, y :: ys => if x.del = false ∧ 0 < ordI y.key x.val then x :: tgo y ys else if x.del = false ∧ (y.del = true ∨ 0 < ordI y.val x.val) then tgo ⟨x.key, y.val, y.del⟩ ys else tgo x ys
def tog : List Ee → List Ee
  | [] => []
  | x :: ys => tgo x ys
theorem tgo_head : ∀ (x : Ee) (ys : List Ee), ∃ z zs, tgo x ys = z :: zs ∧ z.key = x.key
  | x, [] => ⟨x, [], rfl, rfl⟩
  | x, y :: ys => by
    unfold tgo
    split
    · exact ⟨x, _, rfl, rfl⟩
    · split
      · obtain ⟨z, zs, h1, h2⟩ := tgo_head ⟨x.key, y.val, y.del⟩ ys
        exact ⟨z, zs, h1, h2⟩
      · exact tgo_head x ys
theorem SrtS.skip {x y : Ee} {ys : List Ee} (h : SrtS (x :: y :: ys)) : SrtS (x :: ys) := by
  obtain ⟨h1, h2⟩ := List.pairwise_cons.1 h
  exact List.pairwise_cons.2 ⟨fun z hz => h1 z (by simp [hz]), (List.pairwise_cons.1 h2).2⟩
theorem tgo_apt : ∀ (x : Ee) (ys : List Ee), okS x → (∀ y ∈ ys, okS y) → SrtS (x :: ys) → Apt (tgo x ys) ∧ ∀ k, U (tgo x ys) k ↔ U (x :: ys) k
  | x, [], hx, _, _ => ⟨⟨by simpa [tgo] using hx, by simp [tgo]⟩, fun _ => Iff.rfl⟩
  | x, y :: ys, hx, hy, hs => by
    have oy := hy y (by simp)
    have hys : ∀ z ∈ ys, okS z := fun z hz => hy z (by simp [hz])
    have hxy : ordI x.key y.key ≤ 0 := (List.pairwise_cons.1 hs).1 y (by simp)
    unfold tgo
    split
    · rename_i h1
      obtain ⟨a1, a2⟩ := tgo_apt y ys oy hys (List.pairwise_cons.1 hs).2
      obtain ⟨z0, zs, e1, e2⟩ := tgo_head y ys
      refine ⟨⟨fun z hz => ?_, List.pairwise_cons.2 ⟨fun z hz => ⟨h1.1, ?_⟩, a1.2⟩⟩, fun k => ?_⟩
      · rcases List.mem_cons.1 hz with rfl | hz
        · exact hx
        · exact a1.1 z hz
      · have : ordI y.key z.key ≤ 0 := by
          rw [← e2]
          rw [e1] at a1 hz
          exact a1.key_le ⟨z, hz, own_in (a1.1 z hz)⟩
        have b := ordI_anti y.key x.val
        exact ordI_trans_lt _ _ _ (by omega) this
      · rw [U_cons, a2 k, U_cons, U_cons, U_cons]
    · rename_i h1
      split
      · rename_i h2
        have hle : ordI y.key x.val ≤ 0 := by
          rcases Int.lt_or_le 0 (ordI y.key x.val) with h | h
          · exact absurd ⟨h2.1, h⟩ h1
          · exact h
        have ox : okS ⟨x.key, y.val, y.del⟩ := by
          rcases oy with ⟨b1, b2⟩ | ⟨b1, b2⟩
          · exact .inl ⟨b1, b2⟩
          · refine .inr ⟨b1, ?_⟩
            rcases h2.2 with h3 | h3
            · rw [b1] at h3; cases h3
            · have c := ordI_anti y.val x.val
              exact ordI_trans_lt _ x.val _ (hx.lt h2.1) (show ordI x.val y.val ≤ 0 by omega)
        obtain ⟨a1, a2⟩ := tgo_apt ⟨x.key, y.val, y.del⟩ ys ox hys (by
          obtain ⟨s1, s2⟩ := List.pairwise_cons.1 hs.skip
          exact List.pairwise_cons.2 ⟨s1, s2⟩)
        refine ⟨a1, fun k => ?_⟩
        rw [a2 k, U_cons, U_cons, U_cons]
        constructor
        · rintro (⟨c1, c2⟩ | h)
          · rcases Int.lt_or_le (ordI k x.val) 0 with c3 | c3
            · exact .inl ⟨c1, .inr c3⟩
            · refine .inr (.inl ⟨?_, c2⟩)
              have c4 := ordI_anti k x.val
              exact ordI_trans _ _ _ hle (by omega)
          · exact .inr (.inr h)
        · rintro (⟨c1, c2⟩ | ⟨c1, c2⟩ | h)
          · refine .inl ⟨c1, ?_⟩
            rcases c2 with c2 | c2
            · rw [h2.1] at c2; cases c2
            · rcases h2.2 with h3 | h3
              · exact .inl h3
              · have c4 := ordI_anti y.val x.val
                exact .inr (ordI_trans_lt _ x.val _ c2 (show ordI x.val y.val ≤ 0 by omega))
          · exact .inl ⟨ordI_trans _ _ _ hxy c1, c2⟩
          · exact .inr h
      · rename_i h2
        obtain ⟨a1, a2⟩ := tgo_apt x ys hx hys hs.skip
        refine ⟨a1, fun k => ?_⟩
        rw [a2 k, U_cons, U_cons, U_cons]
        constructor
        · rintro (h | h)
          · exact .inl h
          · exact .inr (.inr h)
        · rintro (h | ⟨c1, c2⟩ | h)
          · exact .inl h
          · refine .inl ⟨ordI_trans _ _ _ hxy c1, ?_⟩
            by_cases hd : x.del = true
            · exact .inl hd
            · have hd' : x.del = false := by simpa using hd
              have h3 : ¬ (y.del = true ∨ 0 < ordI y.val x.val) := fun h => h2 ⟨hd', h⟩
              rcases c2 with c2 | c2
              · exact absurd (.inl c2) h3
              · refine .inr (ordI_trans_lt _ _ _ c2 ?_)
                rcases Int.lt_or_le 0 (ordI y.val x.val) with h | h
                · exact absurd (.inr h) h3
                · exact h
          · exact .inr h
theorem tog_apt {xs : List Ee} (h : ∀ x ∈ xs, okS x) (hs : SrtS xs) : Apt (tog xs) ∧ ∀ k, U (tog xs) k ↔ U xs k := by
  cases xs with
  | nil => exact ⟨apt_nil, fun _ => Iff.rfl⟩
  | cons x ys => exact tgo_apt x ys (h x (by simp)) (fun y hy => h y (by simp [hy])) hs
theorem tgo_len : ∀ (x : Ee) (ys : List Ee), (tgo x ys).length ≤ ys.length + 1
  | x, [] => by simp [tgo]
  | x, y :: ys => by
    unfold tgo
    split
    · have := tgo_len y ys
      simp; omega
    · split
      · have := tgo_len ⟨x.key, y.val, y.del⟩ ys
        simp; omega
      · have := tgo_len x ys
        simp; omega
theorem tog_len (xs : List Ee) : (tog xs).length ≤ xs.length := by
  cases xs with
  | nil => simp [tog]
  | cons x ys => simpa [tog] using tgo_len x ys
/-- where a key stands in a row that is apart. -/
theorem has_is {xs : List Ee} (h : Apt xs) {k : List Int} {m : Nat} (hm0 : m ≤ xs.length) (h1 : ∀ x, 0 < m → xs[m - 1]? = some x → ordI x.key k < 0) (h2 : ∀ x, xs[m]? = some x → 0 ≤ ordI x.key k) :
    U xs k ↔ ((∃ x, xs[m]? = some x ∧ x.key = k) ∨ ∃ x, 0 < m ∧ xs[m - 1]? = some x ∧ (x.del = true ∨ 0 < ordI x.val k)) := by
  have pw : ∀ i j x y, i < j → xs[i]? = some x → xs[j]? = some y → nxt x y := fun i j x y hij hx hy => by
    obtain ⟨hi, rfl⟩ := List.getElem?_eq_some_iff.1 hx
    obtain ⟨hj, rfl⟩ := List.getElem?_eq_some_iff.1 hy
    exact List.pairwise_iff_getElem.1 h.2 i j hi hj hij
  constructor
  · rintro ⟨x, hx, c1, c2⟩
    obtain ⟨i, hi⟩ := List.getElem?_of_mem hx
    rcases Nat.lt_or_ge i m with hm | hm
    · right
      by_cases he : i = m - 1
      · subst he
        refine ⟨x, by omega, hi, c2.imp id fun c => ?_⟩
        have := ordI_anti k x.val; omega
      · have hz : m - 1 < xs.length := by omega
        have hn := pw i (m - 1) x xs[m - 1] (by omega) hi (List.getElem?_eq_getElem hz)
        have hk := h1 xs[m - 1] (by omega) (List.getElem?_eq_getElem hz)
        rcases c2 with c2 | c2
        · rw [hn.1] at c2; cases c2
        · have a := ordI_trans_lt _ _ _ hn.2 (Int.le_of_lt hk)
          have b := ordI_anti k x.val
          omega
    · left
      by_cases he : i = m
      · subst he
        have e := h2 x hi
        exact ⟨x, hi, ordI_zero x.key k (by omega)⟩
      · have hl := (List.getElem?_eq_some_iff.1 hi).1
        have hz : m < xs.length := by omega
        have hn := pw m i xs[m] x (by omega) (List.getElem?_eq_getElem hz) hi
        have h3 := h2 xs[m] (List.getElem?_eq_getElem hz)
        have o := (h.1 xs[m] (List.getElem_mem _)).lt hn.1
        have a := ordI_trans_lt _ _ _ o (Int.le_of_lt hn.2)
        have b := ordI_trans_lt _ _ _ a c1
        omega
  · rintro (⟨x, hx, rfl⟩ | ⟨x, hm, hx, c⟩)
    · exact ⟨x, List.mem_of_getElem? hx, own_in (h.1 x (List.mem_of_getElem? hx))⟩
    · refine ⟨x, List.mem_of_getElem? hx, Int.le_of_lt (h1 x hm hx), c.imp id fun c => ?_⟩
      have := ordI_anti x.val k; omega
end Go.Proofs.Ytpoanlbjhhlagaa
