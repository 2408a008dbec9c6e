/- Mathematics of a buffer: bytes as texts, the order of bytes, what is said. -/
import Derived.Test.YtpoanlbjhhlagaaA
import Derived.WalkLawsBesides
namespace Go.Proofs.Ytpoanlbjhhlagaa
open Go.RowKit
set_option linter.unusedVariables false
/-- bytes as a text. -/
def bk (ys : List Int) : ByteArray := ⟨(ys.map fun z => UInt8.ofNat z.toNat).toArray⟩
theorem bk_inj (xs ys : List Int) (hx : Byts xs) (hy : Byts ys) (h : bk xs = bk ys) : xs = ys := by
  have h1 : (xs.map fun z => UInt8.ofNat z.toNat) = ys.map fun z => UInt8.ofNat z.toNat := by
    have := congrArg (fun b : ByteArray => b.data.toList) h
    simpa [bk] using this
  have hback : ∀ l : List Int, Byts l → (l.map fun z => UInt8.ofNat z.toNat).map (fun b => (b.toNat : Int)) = l := by
    intro l hl
    rw [List.map_map]
    conv => rhs; rw [← List.map_id l]
    apply List.map_congr_left
    intro z hz
    have := hl z hz
    simp; omega
  rw [← hback xs hx, ← hback ys hy, h1]
/-- bytes compared. -/
def ordI : List Int → List Int → Int
  | [], [] => 0
  | [], _ :: _ => -1
  | _ :: _, [] => 1
  | x :: xs, y :: ys => if x < y then -1 else if y < x then 1 else ordI xs ys
theorem ordI_self (xs : List Int) : ordI xs xs = 0 := by
  induction xs with
  | nil => rfl
  | cons x xs ih => simp [ordI, ih]
theorem ordI_zero (xs ys : List Int) (h : ordI xs ys = 0) : xs = ys := by
  induction xs generalizing ys with
  | nil => cases ys with
    | nil => rfl
    | cons y ys => simp [ordI] at h
  | cons x xs ih => cases ys with
    | nil => simp [ordI] at h
    | cons y ys =>
      unfold ordI at h
      split at h
      · simp at h
      · split at h
        · simp at h
        · rw [ih ys h, show x = y by omega]
theorem ordI_nil (xs : List Int) : 0 ≤ ordI xs [] := by cases xs <;> simp [ordI]
theorem ordI_pre (pre xs ys : List Int) : ordI (pre ++ xs) (pre ++ ys) = ordI xs ys := by
  induction pre with
  | nil => rfl
  | cons p pre ih => simp [ordI, ih]
theorem ordI_begins (b z : List Int) : 0 ≤ ordI (b ++ z) b := by
  have := ordI_pre b z []
  rw [List.append_nil] at this
  rw [this]
  exact ordI_nil z
theorem bk_list (xs : List Int) : (bk xs).toList = xs.map fun z => UInt8.ofNat z.toNat := by
  rw [ByteArray.toList_eq]
  simp [bk]
theorem u8_lt (x y : Int) (hx : 0 ≤ x ∧ x ≤ 255) (hy : 0 ≤ y ∧ y ≤ 255) : (UInt8.ofNat x.toNat < UInt8.ofNat y.toNat) ↔ x < y := by
  rw [UInt8.lt_iff_toNat_lt]
  simp
  omega
theorem u8_eq (x y : Int) (hx : 0 ≤ x ∧ x ≤ 255) (hy : 0 ≤ y ∧ y ≤ 255) : (UInt8.ofNat x.toNat = UInt8.ofNat y.toNat) ↔ x = y := by
  constructor
  · intro h
    have := congrArg UInt8.toNat h
    simp at this
    omega
  · rintro rfl; rfl
theorem less_is (xs ys : List Int) (hx : Byts xs) (hy : Byts ys) : Op.bytesLess (xs.map fun z => UInt8.ofNat z.toNat) (ys.map fun z => UInt8.ofNat z.toNat) = decide (ordI xs ys < 0) := by
  induction xs generalizing ys with
  | nil => cases ys <;> simp [Op.bytesLess, ordI]
  | cons x xs ih => cases ys with
    | nil => simp [Op.bytesLess, ordI]
    | cons y ys =>
      have h1 := hx x (by simp)
      have h2 := hy y (by simp)
      have ih' := ih ys (fun c hc => hx c (by simp [hc])) (fun c hc => hy c (by simp [hc]))
      simp only [List.map_cons, Op.bytesLess, ih']
      rw [show ordI (x :: xs) (y :: ys) = if x < y then -1 else if y < x then 1 else ordI xs ys from rfl]
      have l1 := u8_lt x y h1 h2
      have l2 := u8_eq x y h1 h2
      by_cases hlt : x < y
      · simp [l1.2 hlt, hlt]
      · have hn : ¬ (UInt8.ofNat x.toNat < UInt8.ofNat y.toNat) := fun h => hlt (l1.1 h)
        by_cases he : x = y
        · subst he
          have hni : ¬ (UInt8.ofNat x.toNat < UInt8.ofNat x.toNat) := hn
          simp [hni]
        · have hne : ¬ (UInt8.ofNat x.toNat = UInt8.ofNat y.toNat) := fun h => he (l2.1 h)
          have hgt : y < x := by omega
          simp [hn, hne, hlt, hgt]
theorem eq_is (xs ys : List Int) (hx : Byts xs) (hy : Byts ys) : ((xs.map fun z => UInt8.ofNat z.toNat) == (ys.map fun z => UInt8.ofNat z.toNat)) = decide (xs = ys) := by
  rw [Bool.eq_iff_iff]
  simp only [beq_iff_eq, decide_eq_true_eq]
  constructor
  · intro h
    have : bk xs = bk ys := by unfold bk; rw [h]
    exact bk_inj xs ys hx hy this
  · rintro rfl; rfl
theorem ordI_cases (xs ys : List Int) : ordI xs ys = -1 ∨ ordI xs ys = 0 ∨ ordI xs ys = 1 := by
  induction xs generalizing ys with
  | nil => cases ys <;> simp [ordI]
  | cons x xs ih => cases ys with
    | nil => simp [ordI]
    | cons y ys =>
      unfold ordI
      split
      · simp
      · split
        · simp
        · exact ih ys
theorem text_less (xs ys : List Int) (hx : Byts xs) (hy : Byts ys) : Op.bytesLess (bk xs).toList (bk ys).toList = decide (ordI xs ys < 0) := by rw [bk_list, bk_list]; exact less_is xs ys hx hy
theorem text_eq (xs ys : List Int) (hx : Byts xs) (hy : Byts ys) : ((bk xs).toList == (bk ys).toList) = decide (xs = ys) := by rw [bk_list, bk_list]; exact eq_is xs ys hx hy
theorem ordI_anti (xs ys : List Int) : ordI ys xs = - ordI xs ys := by
  induction xs generalizing ys with
  | nil => cases ys <;> simp [ordI]
  | cons x xs ih => cases ys with
    | nil => simp [ordI]
    | cons y ys =>
      unfold ordI
      by_cases h : x < y
      · have : ¬ y < x := by omega
        simp [h, this]
      · by_cases h' : y < x
        · simp [h, h']
        · simp [h, h', ih ys]
theorem ordI_trans (xs ys zs : List Int) (h1 : ordI xs ys ≤ 0) (h2 : ordI ys zs ≤ 0) : ordI xs zs ≤ 0 := by
  induction xs generalizing ys zs with
  | nil => cases zs <;> simp [ordI]
  | cons x xs ih => cases ys with
    | nil => simp [ordI] at h1
    | cons y ys => cases zs with
      | nil => simp [ordI] at h2
      | cons z zs =>
        unfold ordI at h1 h2 ⊢
        by_cases a1 : x < y
        · by_cases a2 : y < z
          · have : x < z := by omega
            simp [this]
          · by_cases a3 : z < y
            · simp [a2, a3] at h2
            · have : x < z := by omega
              simp [this]
        · by_cases a2 : y < x
          · simp [a1, a2] at h1
          · by_cases b1 : y < z
            · have : x < z := by omega
              simp [this]
            · by_cases b2 : z < y
              · simp [b1, b2] at h2
              · have c1 : ¬ x < z := by omega
                have c2 : ¬ z < x := by omega
                simp [a1, a2, b1, b2, c1, c2] at h1 h2 ⊢
                exact ih ys zs h1 h2
theorem ordI_trans_lt (xs ys zs : List Int) (h1 : ordI xs ys < 0) (h2 : ordI ys zs ≤ 0) : ordI xs zs < 0 := by
  have h3 := ordI_trans xs ys zs (by omega) h2
  rcases Int.lt_or_eq_of_le h3 with h | h
  · exact h
  · have e := ordI_zero xs zs h
    subst e
    have := ordI_anti xs ys
    omega
theorem ordI_nilr (xs : List Int) : 0 < ordI xs [] ↔ xs ≠ [] := by cases xs <;> simp [ordI]

/-- what is said of a key. -/
structure Ee where
  key : List Int
  val : List Int
  del : Bool
deriving Inhabited
end Go.Proofs.Ytpoanlbjhhlagaa
