/- Mathematics: the order of bytes; what begins with some bytes lies between these and the next. -/
import Derived.Test.YtegoeaofjnpehaaA
namespace Go.Proofs.Ytegoeaofjnpehaa
set_option linter.unusedVariables false

/-- bytes compared. -/
def ordI : List Int → List Int → Int
  | [], [] => 0
  | [], _ :: _ => -1
  | _ :: _, [] => 1
  | x :: xs, y :: ys => if x < y then -1 else if y < x then 1 else ordI xs ys
theorem ordI_self (xs : List Int) : ordI xs xs = 0 := by
  induction xs with
  | nil => rfl
  | cons x xs ih => simp [ordI, ih]
theorem ordI_zero (xs ys : List Int) (h : ordI xs ys = 0) : xs = ys := by
  induction xs generalizing ys with
  | nil => cases ys with
    | nil => rfl
    | cons y ys => simp [ordI] at h
  | cons x xs ih => cases ys with
    | nil => simp [ordI] at h
    | cons y ys =>
      unfold ordI at h
      split at h
      · simp at h
      · split at h
        · simp at h
        · rw [ih ys h, show x = y by omega]
theorem ordI_nil (xs : List Int) : 0 ≤ ordI xs [] := by cases xs <;> simp [ordI]
theorem ordI_pre (pre xs ys : List Int) : ordI (pre ++ xs) (pre ++ ys) = ordI xs ys := by
  induction pre with
  | nil => rfl
  | cons p pre ih => simp [ordI, ih]
theorem ordI_begins (b z : List Int) : 0 ≤ ordI (b ++ z) b := by
  have := ordI_pre b z []
  rw [List.append_nil] at this
  rw [this]
  exact ordI_nil z
/-- b's bytes up to p, that one more. -/
def aft (b : List Int) (p : Nat) : List Int := b.take p ++ [b.getD p 0 + 1]
theorem split_at (b : List Int) (p : Nat) (hp : p < b.length) : b = b.take p ++ b.getD p 0 :: b.drop (p + 1) := by
  conv => lhs; rw [← List.take_append_drop p b, List.drop_eq_getElem_cons hp]
  rw [List.getD_eq_getElem?_getD, List.getElem?_eq_getElem hp]
  rfl
theorem before_aft (b z : List Int) (p : Nat) (hp : p < b.length) : ordI (b ++ z) (aft b p) < 0 := by
  have h := split_at b p hp
  have e : b ++ z = b.take p ++ (b.getD p 0 :: (b.drop (p + 1) ++ z)) := by
    conv => lhs; rw [h]
    simp
  rw [e]
  unfold aft
  rw [ordI_pre]
  simp [ordI]
  omega
theorem full_begins (s r : List Int) (hs : ∀ c ∈ s, c = 255) (hr : Byts r) (h : 0 ≤ ordI r s) : ∃ z, r = s ++ z := by
  induction s generalizing r with
  | nil => exact ⟨r, rfl⟩
  | cons c s ih =>
    have hc : c = 255 := hs c (by simp)
    subst hc
    cases r with
    | nil => simp [ordI] at h
    | cons x r =>
      have hx := hr x (by simp)
      unfold ordI at h
      split at h
      · simp at h
      · split at h
        · omega
        · obtain ⟨z, rfl⟩ := ih r (fun c hc => hs c (by simp [hc])) (fun c hc => hr c (by simp [hc])) h
          exact ⟨z, by rw [show x = 255 by omega]; rfl⟩
theorem between_begins (pre s r : List Int) (c : Int) (hs : ∀ c ∈ s, c = 255) (hr : Byts r) (h1 : 0 ≤ ordI r (pre ++ c :: s)) (h2 : ordI r (pre ++ [c + 1]) < 0) : ∃ z, r = pre ++ c :: s ++ z := by
  induction pre generalizing r with
  | nil =>
    cases r with
    | nil => simp [ordI] at h1
    | cons x r =>
      simp only [List.nil_append] at h1 h2
      unfold ordI at h1 h2
      split at h1
      · simp at h1
      · split at h2
        · split at h1
          · omega
          · obtain ⟨z, rfl⟩ := full_begins s r hs (fun c hc => hr c (by simp [hc])) h1
            exact ⟨z, by rw [show x = c by omega]; rfl⟩
        · split at h2
          · simp at h2
          · have := ordI_nil r; omega
  | cons p pre ih =>
    cases r with
    | nil => simp [ordI] at h1
    | cons x r =>
      simp only [List.cons_append] at h1 h2
      unfold ordI at h1 h2
      split at h1
      · simp at h1
      · split at h1
        · split at h2 <;> omega
        · split at h2
          · omega
          · obtain ⟨z, rfl⟩ := ih r (fun c hc => hr c (by simp [hc])) h1 h2
            exact ⟨z, by rw [show x = p by omega]; simp⟩
/-- does r begin with b? -/
def beg (r b : List Int) : Bool := decide (b.length ≤ r.length) && decide (r.take b.length = b)
theorem beg_of (r b z : List Int) (h : r = b ++ z) : beg r b = true := by subst h; simp [beg]
theorem beg_is (r b : List Int) (h : beg r b = true) : ∃ z, r = b ++ z := by
  simp [beg] at h
  exact ⟨r.drop b.length, by conv => lhs; rw [← List.take_append_drop b.length r, h.2]⟩
theorem beg_mid (r b : List Int) (p : Nat) (hp : p < b.length) (hr : Byts r) (h2 : ∀ i, p < i → i < b.length → b.getD i 0 = 255) : beg r b = (decide (0 ≤ ordI r b) && decide (ordI r (aft b p) < 0)) := by
  by_cases hb : beg r b = true
  · obtain ⟨z, rfl⟩ := beg_is r b hb
    rw [hb]
    have h3 := ordI_begins b z
    have h4 := before_aft b z p hp
    simp [h3, h4]
  · have hbf : beg r b = false := by simpa using hb
    rw [hbf]
    symm
    rw [Bool.and_eq_false_iff]
    by_cases h3 : 0 ≤ ordI r b
    · right
      rw [decide_eq_false_iff_not]
      intro h4
      apply hb
      have hs := split_at b p hp
      have hd : ∀ c ∈ b.drop (p + 1), c = 255 := by
        intro c hc
        obtain ⟨i, hi, rfl⟩ := List.mem_iff_getElem.1 hc
        rw [List.length_drop] at hi
        have := h2 (p + 1 + i) (by omega) (by omega)
        rw [List.getD_eq_getElem?_getD, List.getElem?_eq_getElem (by omega)] at this
        simpa using this
      rw [hs] at h3
      unfold aft at h4
      obtain ⟨z, hz⟩ := between_begins (b.take p) (b.drop (p + 1)) r (b.getD p 0) hd hr h3 h4
      exact beg_of r b z (by rw [hz, ← hs])
    · left
      simpa using h3
/-- where bytes have one below 255, the last such place. -/
theorem last_at (b : List Int) (hb : Byts b) : (∀ i, i < b.length → b.getD i 0 = 255) ∨ ∃ p, p < b.length ∧ b.getD p 0 < 255 ∧ ∀ i, p < i → i < b.length → b.getD i 0 = 255 := by
  suffices ∀ n, n ≤ b.length → (∀ i, b.length - n ≤ i → i < b.length → b.getD i 0 = 255) ∨ ∃ p, p < b.length ∧ b.getD p 0 < 255 ∧ ∀ i, p < i → i < b.length → b.getD i 0 = 255 by
    rcases this b.length (Nat.le_refl _) with h | h
    · exact .inl fun i hi => h i (by omega) hi
    · exact .inr h
  intro n
  induction n with
  | zero => intro _; exact .inl fun i h1 h2 => by omega
  | succ n ih =>
    intro hn
    rcases ih (by omega) with h | h
    · by_cases hc : b.getD (b.length - (n + 1)) 0 < 255
      · exact .inr ⟨b.length - (n + 1), by omega, hc, fun i h1 h2 => h i (by omega) h2⟩
      · refine .inl fun i h1 h2 => ?_
        by_cases e : i = b.length - (n + 1)
        · subst e
          have := hb.at (b.length - (n + 1))
          omega
        · exact h i (by omega) h2
    · exact .inr h
end Go.Proofs.Ytegoeaofjnpehaa
