/- Contracts of the document's order of two values. -/
import Derived.Test.YtegoeaofjnpehaaVT
namespace Go.Proofs.Ytegoeaofjnpehaa
open Go.RowKit
set_option linter.unusedVariables false

set_option maxHeartbeats 800000 in
theorem number_any (a b : Int) (w : World) : Calls Try.prog 29 #[.int .i64 a, .int .i64 b] w fun e w' => e = .returned (.int .i64 (num a b)) ∧ w' = w := by
  by_cases h1 : a < b
  · have HV : Hid (num a b = -1) := by simp [Hid, num, h1]
    have hd : decide (a < b) = true := by simp [h1]
    go_enter Try.func29, Try.ntmps29
    go_wp2
    go_ret
    exact ⟨by rw [HV.out]; rfl, rfl⟩
  · by_cases h2 : b < a
    · have HV : Hid (num a b = 1) := by simp [Hid, num, h1, h2]
      have hd : decide (a < b) = false := by simp [h1]
      have hd2 : decide (b < a) = true := by simp [h2]
      go_enter Try.func29, Try.ntmps29
      go_wp2
      go_ret
      exact ⟨by rw [HV.out]; rfl, rfl⟩
    · have HV : Hid (num a b = 0) := by simp [Hid, num, h1, h2]
      have hd : decide (a < b) = false := by simp [h1]
      have hd2 : decide (b < a) = false := by simp [h2]
      go_enter Try.func29, Try.ntmps29
      go_wp2
      go_ret
      exact ⟨by rw [HV.out]; rfl, rfl⟩
theorem bk_sb (s : ByteArray) : bk (sb s) = s := by
  unfold bk sb
  cases s with
  | mk d =>
    simp only [List.map_map]
    congr 1
    apply Array.ext'
    simp only []
    conv => rhs; rw [← List.map_id d.toList]
    apply List.map_congr_left
    intro b hb
    simp
theorem text_lists (xs ys : List Int) (w : World) (b1 : Byts xs) (b2 : Byts ys) : Calls Try.prog 30 #[.string (bk xs), .string (bk ys)] w fun e w' => e = .returned (.int .i64 (ordI xs ys)) ∧ w' = w := by
  have HL := hide (less_is xs ys b1 b2)
  have HE := hide (eq_is xs ys b1 b2)
  rw [← bk_list, ← bk_list] at HL HE
  have hl := HL.out
  have he := HE.out
  have HC := hide (ordI_cases xs ys)
  have HZ := hide (ordI_zero xs ys)
  clear b1 b2
  by_cases hlt : ordI xs ys < 0
  · have HV : Hid (ordI xs ys = -1) := by rcases HC.out with h | h | h <;> rw [Hid] <;> omega
    rw [decide_eq_true hlt] at hl
    clear he hlt
    go_enter Try.func30, Try.ntmps30
    go_wp2
    go_ret
    exact ⟨by rw [HV.out]; rfl, rfl⟩
  · rw [decide_eq_false hlt] at hl
    by_cases heq : xs = ys
    · have HV : Hid (ordI xs ys = 0) := by rw [heq]; exact ordI_self ys
      rw [decide_eq_true heq] at he
      clear heq hlt
      go_enter Try.func30, Try.ntmps30
      go_wp2
      go_ret
      exact ⟨by rw [HV.out]; rfl, rfl⟩
    · have HV : Hid (ordI xs ys = 1) := by rcases HC.out with h | h | h <;> rw [Hid] <;> first | omega | exact absurd (HZ.out h) heq
      rw [decide_eq_false heq] at he
      clear heq hlt
      go_enter Try.func30, Try.ntmps30
      go_wp2
      go_ret
      exact ⟨by rw [HV.out]; rfl, rfl⟩
theorem text_any (s t : ByteArray) (w : World) : Calls Try.prog 30 #[.string s, .string t] w fun e w' => e = .returned (.int .i64 (ordI (sb s) (sb t))) ∧ w' = w := by
  have := text_lists (sb s) (sb t) w (sb_byts s) (sb_byts t)
  rwa [bk_sb, bk_sb] at this
def cmpL : List T → List T → Int
  | [], [] => 0
  | [], _ :: _ => -1
  | _ :: _, [] => 1
  | u :: a, v :: b => if u.cmp v = 0 then cmpL a b else u.cmp v
theorem TL.cmp_is : ∀ (l m : TL), l.cmp m = cmpL l.list m.list
  | .nil, .nil => by simp [TL.cmp, TL.list, cmpL]
  | .nil, .cons _ _ => by simp [TL.cmp, TL.list, cmpL]
  | .cons _ _, .nil => by simp [TL.cmp, TL.list, cmpL]
  | .cons u r, .cons v s => by simp only [TL.cmp, TL.list, cmpL, TL.cmp_is r s]
def cmpF : List (ByteArray × T) → List (ByteArray × T) → Int
  | [], [] => 0
  | [], _ :: _ => -1
  | _ :: _, [] => 1
  | u :: a, v :: b => if ordI (sb u.1) (sb v.1) = 0 then (if u.2.cmp v.2 = 0 then cmpF a b else u.2.cmp v.2) else ordI (sb u.1) (sb v.1)
theorem FL.cmp_is : ∀ (l m : FL), l.cmp m = cmpF l.list m.list
  | .nil, .nil => by simp [FL.cmp, FL.list, cmpF]
  | .nil, .cons _ _ _ => by simp [FL.cmp, FL.list, cmpF]
  | .cons _ _ _, .nil => by simp [FL.cmp, FL.list, cmpF]
  | .cons _ u r, .cons _ v s => by simp only [FL.cmp, FL.list, cmpF, FL.cmp_is r s]
theorem cmpL_next (l m : List T) (j : Nat) (u v : T) (hu : l[j]? = some u) (hv : m[j]? = some v) : cmpL (l.drop j) (m.drop j) = if u.cmp v = 0 then cmpL (l.drop (j + 1)) (m.drop (j + 1)) else u.cmp v := by
  obtain ⟨hj, rfl⟩ := List.getElem?_eq_some_iff.1 hu
  obtain ⟨hj', rfl⟩ := List.getElem?_eq_some_iff.1 hv
  conv => lhs; rw [List.drop_eq_getElem_cons hj, List.drop_eq_getElem_cons hj']
  rw [cmpL]
theorem cmpL_end (l m : List T) (j : Nat) (hj : j ≤ l.length) (hj' : j ≤ m.length) (h : ¬ (j < l.length ∧ j < m.length)) : cmpL (l.drop j) (m.drop j) = num l.length m.length := by
  by_cases h1 : j < l.length
  · have h2 : m.length = j := by omega
    rw [List.drop_eq_getElem_cons h1, List.drop_eq_nil_of_le (by omega : m.length ≤ j), cmpL, num, if_neg (by omega), if_pos (by omega)]
  · rw [List.drop_eq_nil_of_le (by omega : l.length ≤ j)]
    by_cases h2 : j < m.length
    · rw [List.drop_eq_getElem_cons h2, cmpL, num, if_pos (by omega)]
    · rw [List.drop_eq_nil_of_le (by omega : m.length ≤ j), cmpL, num, if_neg (by omega), if_neg (by omega)]
theorem cmpF_next (l m : List (ByteArray × T)) (j : Nat) (u v : ByteArray × T) (hu : l[j]? = some u) (hv : m[j]? = some v) : cmpF (l.drop j) (m.drop j) = if ordI (sb u.1) (sb v.1) = 0 then (if u.2.cmp v.2 = 0 then cmpF (l.drop (j + 1)) (m.drop (j + 1)) else u.2.cmp v.2) else ordI (sb u.1) (sb v.1) := by
  obtain ⟨hj, rfl⟩ := List.getElem?_eq_some_iff.1 hu
  obtain ⟨hj', rfl⟩ := List.getElem?_eq_some_iff.1 hv
  conv => lhs; rw [List.drop_eq_getElem_cons hj, List.drop_eq_getElem_cons hj']
  rw [cmpF]
theorem cmpF_end (l m : List (ByteArray × T)) (j : Nat) (hj : j ≤ l.length) (hj' : j ≤ m.length) (h : ¬ (j < l.length ∧ j < m.length)) : cmpF (l.drop j) (m.drop j) = num l.length m.length := by
  by_cases h1 : j < l.length
  · have h2 : m.length = j := by omega
    rw [List.drop_eq_getElem_cons h1, List.drop_eq_nil_of_le (by omega : m.length ≤ j), cmpF, num, if_neg (by omega), if_pos (by omega)]
  · rw [List.drop_eq_nil_of_le (by omega : l.length ≤ j)]
    by_cases h2 : j < m.length
    · rw [List.drop_eq_getElem_cons h2, cmpF, num, if_pos (by omega)]
    · rw [List.drop_eq_nil_of_le (by omega : m.length ≤ j), cmpF, num, if_neg (by omega), if_neg (by omega)]
theorem num_bd (a b : Int) : -1 ≤ num a b ∧ num a b ≤ 1 := by
  unfold num
  split
  · omega
  · split <;> omega
theorem ordI_bds (a b : List Int) : -1 ≤ ordI a b ∧ ordI a b ≤ 1 := by rcases ordI_cases a b with h | h | h <;> omega
mutual
theorem T.cmp_bd : ∀ u v : T, -1 ≤ u.cmp v ∧ u.cmp v ≤ 1
  | .mk k bo n t ya yc y la lc l fa fc f, .mk k' bo' n' t' ya' yc' y' la' lc' l' fa' fc' f' => by
    have h1 := TL.cmp_bd l l'
    have h2 := FL.cmp_bd f f'
    have h3 := num_bd n n'
    have h4 := num_bd k k'
    have h5 := ordI_bds (sb t) (sb t')
    have h6 := ordI_bds y y'
    simp only [T.cmp]
    repeat' split
    all_goals omega
theorem TL.cmp_bd : ∀ u v : TL, -1 ≤ u.cmp v ∧ u.cmp v ≤ 1
  | .nil, .nil => by simp [TL.cmp]
  | .nil, .cons _ _ => by simp [TL.cmp]
  | .cons _ _, .nil => by simp [TL.cmp]
  | .cons u r, .cons v s => by
    have h1 := T.cmp_bd u v
    have h2 := TL.cmp_bd r s
    simp only [TL.cmp]
    split <;> omega
theorem FL.cmp_bd : ∀ u v : FL, -1 ≤ u.cmp v ∧ u.cmp v ≤ 1
  | .nil, .nil => by simp [FL.cmp]
  | .nil, .cons _ _ _ => by simp [FL.cmp]
  | .cons _ _ _, .nil => by simp [FL.cmp]
  | .cons a u r, .cons b v s => by
    have h1 := T.cmp_bd u v
    have h2 := FL.cmp_bd r s
    have h3 := ordI_bds (sb a) (sb b)
    simp only [FL.cmp]
    split
    · split <;> omega
    · omega
end
end Go.Proofs.Ytegoeaofjnpehaa
