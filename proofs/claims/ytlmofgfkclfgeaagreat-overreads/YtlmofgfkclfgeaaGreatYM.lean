/- A chain, step by step; what it comes to. -/
import Derived.Test.YtlmofgfkclfgeaaGreatYL
namespace Go.Proofs.YtlmofgfkclfgeaaGreat
open Go.RowKit Go.Maps
set_option linter.unusedVariables false

/-- how a chain stands: the disk, the pages at hand, the page that comes next. -/
structure Tk where
  S : DS
  A : List Pge
  a : Nat
section
variable (most : Nat) (S : DS) (A : List Pge) (a : Nat)
def trk : Nat → Tk
  | 0 => ⟨S, A, a⟩
  | i + 1 => ⟨(rdo most (trk i).S (trk i).A (trk i).a).S, (rdo most (trk i).S (trk i).A (trk i).a).A, nx4 (rdo most (trk i).S (trk i).A (trk i).a).pl⟩
def lkk (i : Nat) : RdT := rdo most (trk most S A a i).S (trk most S A a i).A (trk most S A a i).a
def okk (size i : Nat) : Bool := lkOk (lkk most S A a i) (size - 1004 * i)
def vk : Nat → List Int
  | 0 => []
  | i + 1 => vk i ++ (lkk most S A a i).pl.drop 4
def pk : Nat → List Nat
  | 0 => []
  | i + 1 => pk i ++ [(trk most S A a i).a]
end
variable {most : Nat} {S : DS} {A : List Pge} {a size n : Nat}
theorem trk_succ (i : Nat) : trk most S A a (i + 1) = ⟨(lkk most S A a i).S, (lkk most S A a i).A, nx4 (lkk most S A a i).pl⟩ := rfl
/-- a page that is right: what chn asks. -/
theorem chn_ok {j i : Nat} (hn : 1004 * (n - 1) + 1 ≤ size ∧ size ≤ 1004 * n) (hi : n = i + (j + 1)) (R : RdT) (ok : Bool) (h : lkOk R (size - 1004 * i) = ok) :
    (ok = true → R.e = 0 ∧ ((R.k = 3 ∧ R.pl.length = 4 + lng size n j) ∧ prtOk R.pl (decide (j = 0)) = true) ∧ (if j = 0 then 0 else nx4 R.pl) = nx4 R.pl) ∧ (ok = false → (R.e = 0 ∧ ¬ ((R.k = 3 ∧ R.pl.length = 4 + lng size n j) ∧ prtOk R.pl (decide (j = 0)) = true)) ∨ R.e ≠ 0) := by
  have h1 : lng size n j = min 1004 (size - 1004 * i) := by unfold lng; rw [hi]; congr 3; omega
  have h2 : decide (size - 1004 * i ≤ 1004) = decide (j = 0) := decide_eq_decide.2 (by omega)
  unfold lkOk at h
  rw [h2, ← h1] at h
  by_cases he : R.e = 0
  · rw [decide_eq_true he, Bool.true_and] at h
    by_cases hf : R.k = 3 ∧ R.pl.length = 4 + lng size n j
    · rw [decide_eq_true hf, Bool.true_and] at h
      rw [h]
      refine ⟨fun ht => ⟨he, ⟨hf, ht⟩, ?_⟩, fun hf2 => .inl ⟨he, fun hh => by rw [hf2] at hh; exact absurd hh.2 (by simp)⟩⟩
      by_cases hj : j = 0
      · rw [if_pos hj]
        rw [ht, hj] at h
        unfold prtOk at h
        simp at h
        exact h.symm
      · rw [if_neg hj]
    · rw [decide_eq_false hf, Bool.false_and] at h
      exact ⟨(fun ht => by rw [ht] at h; cases h), fun _ => .inl ⟨he, fun hh => hf hh.1⟩⟩
  · rw [decide_eq_false he, Bool.false_and] at h
    exact ⟨(fun ht => by rw [ht] at h; cases h), fun _ => .inr he⟩
theorem chn_tr (hn : 1004 * (n - 1) + 1 ≤ size ∧ size ≤ 1004 * n) : ∀ i, i ≤ n → (∀ k, k < i → okk most S A a size k = true) →
    chn most size n n S A a [] [] = chn most size n (n - i) (trk most S A a i).S (trk most S A a i).A (trk most S A a i).a (vk most S A a i) (pk most S A a i)
  | 0, _, _ => rfl
  | i + 1, hi, hk => by
    rw [chn_tr hn i (by omega) (fun k h => hk k (by omega))]
    obtain ⟨j, hj⟩ : ∃ j, n - i = j + 1 := ⟨n - i - 1, by omega⟩
    obtain ⟨h1, h2, h3⟩ := (chn_ok hn (show n = i + (j + 1) by omega) (lkk most S A a i) _ rfl).1 (hk i (by omega))
    rw [hj, chn]
    rw [show rdo most (trk most S A a i).S (trk most S A a i).A (trk most S A a i).a = lkk most S A a i from rfl]
    rw [if_neg (by rw [h1]; simp), if_pos h2, h3, show n - (i + 1) = j by omega]
    rfl
/-- so many rounds: all but the last one are right. -/
structure Rds (most : Nat) (S : DS) (A : List Pge) (a size n r : Nat) : Prop where
  le : 1 ≤ r ∧ r ≤ n
  ok : ∀ k, k + 1 < r → okk most S A a size k = true
  last : okk most S A a size (r - 1) = false ∨ (okk most S A a size (r - 1) = true ∧ r = n)
theorem rds_any (hn : 1 ≤ n) : ∃ r, Rds most S A a size n r := by
  have h : ∀ m, m ≤ n → 1 ≤ m → (∀ k, k + 1 < m → okk most S A a size k = true) → ∃ r, Rds most S A a size n r := by
    intro m
    induction hd : n - m generalizing m with
    | zero =>
      intro h1 h2 h3
      have e : m = n := by omega
      subst e
      cases hb : okk most S A a size (m - 1) with
      | false => exact ⟨m, ⟨h2, h1⟩, h3, .inl hb⟩
      | true => exact ⟨m, ⟨h2, h1⟩, h3, .inr ⟨hb, rfl⟩⟩
    | succ d ih =>
      intro h1 h2 h3
      cases hb : okk most S A a size (m - 1) with
      | false => exact ⟨m, ⟨h2, h1⟩, h3, .inl hb⟩
      | true =>
        refine ih (m + 1) (by omega) (by omega) (by omega) fun k hk => ?_
        by_cases e : k + 1 < m
        · exact h3 k e
        · have : k = m - 1 := by omega
          rw [this]; exact hb
  exact h 1 hn (Nat.le_refl _) (fun k hk => by omega)
theorem Rds.all {r : Nat} (h : Rds most S A a size n r) (hok : okk most S A a size (r - 1) = true) : ∀ k, k < r → okk most S A a size k = true := fun k hk => by
  by_cases e : k + 1 < r
  · exact h.ok k e
  · have : k = r - 1 := by omega
    rw [this]; exact hok
theorem Rds.chn {r : Nat} (h : Rds most S A a size n r) (hn : 1004 * (n - 1) + 1 ≤ size ∧ size ≤ 1004 * n) :
    chn most size n n S A a [] [] = if okk most S A a size (r - 1) = true then ⟨vk most S A a r, pk most S A a r, 0, (trk most S A a r).S, (trk most S A a r).A⟩ else ⟨[], [], lkEr (lkk most S A a (r - 1)), (trk most S A a r).S, (trk most S A a r).A⟩ := by
  have hle := h.le
  cases hb : okk most S A a size (r - 1) with
  | true =>
    rw [if_pos rfl]
    have hr : r = n := by
      rcases h.last with h1 | h1
      · rw [hb] at h1; cases h1
      · exact h1.2
    rw [chn_tr hn r hle.2 (h.all hb), hr, Nat.sub_self]
    rfl
  | false =>
    rw [if_neg (by simp)]
    obtain ⟨i, hi⟩ : ∃ i, r = i + 1 := ⟨r - 1, by omega⟩
    subst hi
    rw [Nat.add_sub_cancel] at hb ⊢
    rw [chn_tr hn i (by omega) (fun k hk => h.ok k (by omega))]
    obtain ⟨j, hj⟩ : ∃ j, n - i = j + 1 := ⟨n - i - 1, by omega⟩
    rw [hj, Go.Proofs.YtlmofgfkclfgeaaGreat.chn]
    rw [show rdo most (trk most S A a i).S (trk most S A a i).A (trk most S A a i).a = lkk most S A a i from rfl]
    rcases (chn_ok hn (show n = i + (j + 1) by omega) (lkk most S A a i) _ rfl).2 hb with ⟨h1, h2⟩ | h1
    · rw [if_neg (by rw [h1]; simp), if_neg h2]
      unfold lkEr
      rw [if_pos h1]
      rfl
    · rw [if_pos h1]
      unfold lkEr
      rw [if_neg h1]
      rfl
theorem vk_len {r : Nat} (hs : 1004 * (r - 1) ≤ size) (hok : ∀ k, k < r → okk most S A a size k = true) : (vk most S A a r).length = min (1004 * r) size ∧ (pk most S A a r).length = r := by
  induction r with
  | zero => simp [vk, pk]
  | succ i ih =>
    obtain ⟨h1, h2⟩ := ih (by omega) (fun k hk => hok k (by omega))
    have h3 := hok i (by omega)
    unfold okk lkOk at h3
    simp only [Bool.and_eq_true, decide_eq_true_eq] at h3
    refine ⟨?_, ?_⟩
    · simp only [vk, List.length_append, List.length_drop, h1]
      have := h3.2.1.2
      omega
    · simp [pk, h2]
end Go.Proofs.YtlmofgfkclfgeaaGreat
