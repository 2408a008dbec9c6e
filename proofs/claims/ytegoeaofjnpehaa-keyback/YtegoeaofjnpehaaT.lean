/- Contract of the order of bytes. -/
import Derived.Test.YtegoeaofjnpehaaS
import Derived.Test.YtegoeaofjnpehaaU
import Derived.WalkLawsBesides
namespace Go.Proofs.Ytegoeaofjnpehaa
open Go.RowKit
set_option linter.unusedVariables false
theorem bk_list (xs : List Int) : (bk xs).toList = xs.map fun z => UInt8.ofNat z.toNat := by
  rw [ByteArray.toList_eq]
  simp [bk]
theorem u8_lt (x y : Int) (hx : 0 ≤ x ∧ x ≤ 255) (hy : 0 ≤ y ∧ y ≤ 255) : (UInt8.ofNat x.toNat < UInt8.ofNat y.toNat) ↔ x < y := by
  rw [UInt8.lt_iff_toNat_lt]
  simp
  omega
theorem u8_eq (x y : Int) (hx : 0 ≤ x ∧ x ≤ 255) (hy : 0 ≤ y ∧ y ≤ 255) : (UInt8.ofNat x.toNat = UInt8.ofNat y.toNat) ↔ x = y := by
  constructor
  · intro h
    have := congrArg UInt8.toNat h
    simp at this
    omega
  · rintro rfl; rfl
theorem less_is (xs ys : List Int) (hx : Byts xs) (hy : Byts ys) : Op.bytesLess (xs.map fun z => UInt8.ofNat z.toNat) (ys.map fun z => UInt8.ofNat z.toNat) = decide (ordI xs ys < 0) := by
  induction xs generalizing ys with
  | nil => cases ys <;> simp [Op.bytesLess, ordI]
  | cons x xs ih => cases ys with
    | nil => simp [Op.bytesLess, ordI]
    | cons y ys =>
      have h1 := hx x (by simp)
      have h2 := hy y (by simp)
      have ih' := ih ys (fun c hc => hx c (by simp [hc])) (fun c hc => hy c (by simp [hc]))
      simp only [List.map_cons, Op.bytesLess, ih']
      rw [show ordI (x :: xs) (y :: ys) = if x < y then -1 else if y < x then 1 else ordI xs ys from rfl]
      have l1 := u8_lt x y h1 h2
      have l2 := u8_eq x y h1 h2
      by_cases hlt : x < y
      · simp [l1.2 hlt, hlt]
      · have hn : ¬ (UInt8.ofNat x.toNat < UInt8.ofNat y.toNat) := fun h => hlt (l1.1 h)
        by_cases he : x = y
        · subst he
          have hni : ¬ (UInt8.ofNat x.toNat < UInt8.ofNat x.toNat) := hn
          simp [hni]
        · have hne : ¬ (UInt8.ofNat x.toNat = UInt8.ofNat y.toNat) := fun h => he (l2.1 h)
          have hgt : y < x := by omega
          simp [hn, hne, hlt, hgt]
theorem eq_is (xs ys : List Int) (hx : Byts xs) (hy : Byts ys) : ((xs.map fun z => UInt8.ofNat z.toNat) == (ys.map fun z => UInt8.ofNat z.toNat)) = decide (xs = ys) := by
  rw [Bool.eq_iff_iff]
  simp only [beq_iff_eq, decide_eq_true_eq]
  constructor
  · intro h
    have h1 := sb_bk xs hx
    have h2 := sb_bk ys hy
    have : bk xs = bk ys := by unfold bk; rw [h]
    rw [← h1, ← h2, this]
  · rintro rfl; rfl
theorem ordI_cases (xs ys : List Int) : ordI xs ys = -1 ∨ ordI xs ys = 0 ∨ ordI xs ys = 1 := by
  induction xs generalizing ys with
  | nil => cases ys <;> simp [ordI]
  | cons x xs ih => cases ys with
    | nil => simp [ordI]
    | cons y ys =>
      unfold ordI
      split
      · simp
      · split
        · simp
        · exact ih ys
set_option maxHeartbeats 1600000 in
set_option maxRecDepth 1000000 in
theorem order_any (a b : Option Addr) (l1 c1 l2 c2 : Nat) (xs ys : List Int) (w : World) (h1 : xs.length = l1) (h2 : ys.length = l2) (n1 : a = none → l1 = 0 ∧ c1 = 0) (n2 : b = none → l2 = 0 ∧ c2 = 0) (r1 : Row w a xs) (r2 : Row w b ys) (b1 : Byts xs) (b2 : Byts ys) :
    Calls Try.prog 9 #[.slice a l1 c1, .slice b l2 c2] w fun e w' => e = .returned (.int .i64 (ordI xs ys)) ∧ w' = w := by
  have k1 := run_text w a l1 c1 xs h1 n1 r1 b1
  have k2 := run_text w b l2 c2 ys h2 n2 r2 b2
  have HL := hide (less_is xs ys b1 b2)
  have HE := hide (eq_is xs ys b1 b2)
  rw [← bk_list, ← bk_list] at HL HE
  have hl := HL.out
  have he := HE.out
  have HC := hide (ordI_cases xs ys)
  have HZ := hide (ordI_zero xs ys)
  clear h1 h2 n1 n2 r1 r2 b1 b2
  by_cases hlt : ordI xs ys < 0
  · have HV : Hid (ordI xs ys = -1) := by rcases HC.out with h | h | h <;> rw [Hid] <;> omega
    rw [decide_eq_true hlt] at hl
    clear he hlt
    go_enter Try.func9, Try.ntmps9
    go_wp2
    go_ret
    exact ⟨by rw [HV.out]; rfl, rfl⟩
  · rw [decide_eq_false hlt] at hl
    by_cases heq : xs = ys
    · have HV : Hid (ordI xs ys = 0) := by rw [heq]; exact ordI_self ys
      rw [decide_eq_true heq] at he
      clear heq hlt
      go_enter Try.func9, Try.ntmps9
      go_wp2
      go_ret
      exact ⟨by rw [HV.out]; rfl, rfl⟩
    · have HV : Hid (ordI xs ys = 1) := by rcases HC.out with h | h | h <;> rw [Hid] <;> first | omega | exact absurd (HZ.out h) heq
      rw [decide_eq_false heq] at he
      clear heq hlt
      go_enter Try.func9, Try.ntmps9
      go_wp2
      go_ret
      exact ⟨by rw [HV.out]; rfl, rfl⟩
end Go.Proofs.Ytegoeaofjnpehaa
