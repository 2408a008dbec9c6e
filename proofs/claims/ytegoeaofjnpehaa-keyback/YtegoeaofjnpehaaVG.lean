/- Contracts of runes and names. -/
import Derived.Test.YtegoeaofjnpehaaVF
import Derived.Laws.RangeAny
import Derived.WalkSpells
namespace Go.Proofs.Ytegoeaofjnpehaa
open Go.RowKit
set_option linter.unusedVariables false

/-- does a text begin with the rune that stands for what is none? -/
def hpB (s : ByteArray) : Bool := decide (3 ≤ s.size) && ((s.extract 0 3).toList == [239, 191, 189])
set_option maxHeartbeats 800000 in
theorem hasp_any (s : ByteArray) (w : World) : Calls Try.prog 59 #[.string s, .string ⟨#[239, 191, 189]⟩] w fun e w' => e = .returned (.bool (hpB s)) ∧ w' = w := by
  by_cases h : 3 ≤ s.size
  · have HV : Hid (hpB s = ((s.extract 0 3).toList == [239, 191, 189])) := by simp [hpB, Hid, h]
    have hd : decide ((3 : Int) ≤ (s.size : Int)) = true := by simp; omega
    go_enter Try.func59, Try.ntmps59
    go_wp2
    go_ret
    exact ⟨by rw [HV.out]; rfl, rfl⟩
  · have HV : Hid (hpB s = false) := by simp [hpB, Hid, h]
    have hd : decide ((3 : Int) ≤ (s.size : Int)) = false := by simp; omega
    go_enter Try.func59, Try.ntmps59
    go_wp2
    go_ret
    exact ⟨by rw [HV.out]; rfl, rfl⟩
set_option maxHeartbeats 800000 in
theorem hasp2_any (s : ByteArray) (w : World) : Calls Try.prog 56 #[.string s, .string ⟨#[239, 191, 189]⟩] w fun e w' => e = .returned (.bool (hpB s)) ∧ w' = w := by
  go_enter Try.func56, Try.ntmps56
  go_wp2_with fail
  refine (hasp_any s w).mono ?_
  rintro e w1 ⟨rfl, rfl⟩
  go_wp2
  go_ret
  exact ⟨rfl, rfl⟩
/-- begins a text that is told to begin with r with a byte that is part of no rune? -/
def tornB (s : ByteArray) (r : Int) : Bool := decide (r = 65533) && !hpB s
set_option maxHeartbeats 800000 in
theorem torn_any (s : ByteArray) (r : Int) (w : World) : Calls Try.prog 53 #[.string s, .int .i32 r] w fun e w' => e = .returned (.bool (tornB s r)) ∧ w' = w := by
  by_cases h : r = 65533
  · have HV : Hid (tornB s r = !hpB s) := by simp [tornB, Hid, h]
    subst h
    go_enter Try.func53, Try.ntmps53
    go_wp2_with fail
    refine (hasp2_any s w).mono ?_
    rintro e w1 ⟨rfl, rfl⟩
    go_wp2
    go_ret
    exact ⟨by rw [HV.out]; rfl, rfl⟩
  · have HV : Hid (tornB s r = false) := by simp [tornB, Hid, h]
    have hb : (r == 65533) = false := by simp [h]
    clear h
    go_enter Try.func53, Try.ntmps53
    go_wp2
    go_ret
    exact ⟨by rw [HV.out]; rfl, rfl⟩
def dgB (r : Int) : Bool := decide (48 ≤ r) && decide (r ≤ 57)
set_option maxHeartbeats 800000 in
theorem digit_any (r : Int) (w : World) : Calls Try.prog 58 #[.int .i32 r] w fun e w' => e = .returned (.bool (dgB r)) ∧ w' = w := by
  by_cases h : 48 ≤ r
  · have HV : Hid (dgB r = decide (r ≤ 57)) := by simp [dgB, Hid, h]
    go_enter Try.func58, Try.ntmps58
    go_wp2
    go_ret
    exact ⟨by rw [HV.out]; rfl, rfl⟩
  · have HV : Hid (dgB r = false) := by simp [dgB, Hid]; omega
    have h' : r < 48 := by omega
    clear h
    go_enter Try.func58, Try.ntmps58
    go_wp2
    go_ret
    exact ⟨by rw [HV.out]; rfl, rfl⟩
theorem ret_bool {a b : Bool} (h : a = b) : Ending.returned (.bool a) = .returned (.bool b) := by rw [h]
/-- may a rune be in a name? -/
def inB (r : Int) : Bool := decide (97 ≤ r ∧ r ≤ 122 ∨ 65 ≤ r ∧ r ≤ 90 ∨ (48 ≤ r ∧ r ≤ 57) ∨ r = 95 ∨ 128 ≤ r)
set_option maxHeartbeats 1600000 in
set_option maxRecDepth 1000000 in
theorem inname_any (r : Int) (w : World) : Calls Try.prog 57 #[.int .i32 r] w fun e w' => e = .returned (.bool (inB r)) ∧ w' = w := by
  by_cases h1 : 97 ≤ r ∧ r ≤ 122
  · have HV : Hid (inB r = true) := by simp [inB, Hid, h1]
    obtain ⟨h1, h2⟩ := h1
    go_enter Try.func57, Try.ntmps57
    go_wp2
    go_ret
    exact ⟨by rw [HV.out]; rfl, rfl⟩
  · by_cases h2 : 65 ≤ r ∧ r ≤ 90
    · have HV : Hid (inB r = true) := by simp [inB, Hid, h2]
      obtain ⟨h3, h4⟩ := h2
      have h5 : r < 97 := by omega
      clear h1
      go_enter Try.func57, Try.ntmps57
      go_wp2
      go_ret
      exact ⟨by rw [HV.out]; rfl, rfl⟩
    · have HD : Hid (dgB r = decide (48 ≤ r ∧ r ≤ 57)) := by simp [dgB, Hid]
      have b1 : (decide (97 ≤ r) && decide (r ≤ 122)) = false := by simpa using h1
      by_cases h3 : 48 ≤ r ∧ r ≤ 57
      · have HV : Hid (inB r = true) := by simp [inB, Hid, h3]
        have hD : dgB r = true := by rw [HD.out]; simp [h3]
        obtain ⟨h4, h5⟩ := h3
        have h6 : r < 97 := by omega
        have h7 : r < 65 := by omega
        clear h1 h2 b1
        go_enter Try.func57, Try.ntmps57
        go_wp2_with fail
        refine (digit_any r w).mono ?_
        rintro e w1 ⟨rfl, rfl⟩
        rw [hD]
        go_wp2
        go_ret
        exact ⟨by rw [HV.out]; rfl, rfl⟩
      · have hD : dgB r = false := by rw [HD.out]; simp [h3]
        by_cases h4 : r = 95
        · have HV : Hid (inB r = true) := by simp [inB, Hid, h4]
          subst h4
          clear h1 h2 h3 b1 HD
          go_enter Try.func57, Try.ntmps57
          go_wp2_with fail
          refine (digit_any 95 w).mono ?_
          rintro e w1 ⟨rfl, rfl⟩
          rw [hD]
          go_wp2
          go_ret
          exact ⟨by rw [HV.out]; rfl, rfl⟩
        · have hb : (r == 95) = false := by simp [h4]
          by_cases h5 : 128 ≤ r
          · have HV : Hid (inB r = true) := by simp [inB, Hid, h5]
            have h6 : 122 < r := by omega
            have h7 : 90 < r := by omega
            have h8 : 97 ≤ r := by omega
            have h9 : 65 ≤ r := by omega
            clear h1 h2 h3 h4 b1 HD
            go_enter Try.func57, Try.ntmps57
            go_wp2_with fail
            refine (digit_any r w).mono ?_
            rintro e w1 ⟨rfl, rfl⟩
            rw [hD]
            go_wp2
            go_ret
            exact ⟨by rw [HV.out]; rfl, rfl⟩
          · have HV : Hid (inB r = false) := by
              rw [Hid, inB, decide_eq_false]
              omega
            have h6 : r < 128 := by omega
            have hcs : (r < 97 ∨ 122 < r) ∧ (r < 65 ∨ 90 < r) := by omega
            clear h1 h2 h3 h4 h5 b1 HD
            rcases hcs with ⟨g1 | g1, g2 | g2⟩
            all_goals first
              | (exfalso; omega)
              | (go_enter Try.func57, Try.ntmps57
                 go_wp2_with fail
                 refine (digit_any r w).mono ?_
                 rintro e w1 ⟨rfl, rfl⟩
                 rw [hD]
                 go_wp2
                 go_ret
                 refine ⟨ret_bool ?_, rfl⟩
                 rw [HV.out]
                 simp
                 omega)
theorem width_pos (s : ByteArray) (pos : Nat) (h : pos < s.size) : 1 ≤ (Utf8.decode s pos).2 := by
  by_cases ha : (s[pos]'h).toNat < 128
  · rw [decode_ascii s pos h ha]
    exact Nat.le_refl _
  · exact (decode_high s pos h (by omega)).2
/-- a text's runes counted; false: some byte is part of none. -/
def rnF (s : ByteArray) : Nat → Nat → Nat → Nat × Bool
  | 0, _, n => (n, true)
  | f + 1, pos, n => if pos < s.size then if tornB (s.extract pos s.size) (Utf8.decode s pos).1 then (0, false) else rnF s f (pos + (Utf8.decode s pos).2) (n + 1) else (n, true)
def rn (s : ByteArray) : Nat × Bool := rnF s s.size 0 0
theorem rnF_end (s : ByteArray) (f pos n : Nat) (h : ¬ pos < s.size) : rnF s f pos n = (n, true) := by
  cases f with
  | zero => rfl
  | succ f => simp [rnF, h]
set_option maxHeartbeats 1600000 in
set_option maxRecDepth 1000000 in
theorem runes_any (s : ByteArray) (w : World) (hs : s.size ≤ 1000000000) : Calls Try.prog 49 #[.string s] w fun e w' => e = .returned (.tuple #[.int .i64 ((rn s).1 : Int), .bool (rn s).2]) ∧ Below w.heap.size w w' := by
  go_enter Try.func49, Try.ntmps49
  go_wp2
  go_loopw [4] (fun n w' => ∃ (pos f c : Nat), w' = w.iter s pos ∧ n = .int .i64 (c : Int) ∧ rnF s f pos c = rn s ∧ s.size ≤ pos + f ∧ c ≤ pos) (fun _ w' => s.size - w'.iterPos w.heap.size)
  case atStart => exact ⟨0, s.size, 0, rfl, rfl, rfl, by omega, by omega⟩
  case round =>
    obtain ⟨pos, f, c, rfl, rfl, hc, hf, hcp⟩ := hrel
    have HC := hide hc
    clear hc
    by_cases hp : pos < s.size
    · have hnx : ∀ ty, (Instr.next (.pointer (some ⟨w.heap.size, 0, none⟩)) true ty).run Try.prog (w.iter s pos) = _ := fun ty => run_next_any w s pos ty hp
      have hwd := width_pos s pos hp
      obtain ⟨g, rfl⟩ : ∃ g, f = g + 1 := ⟨f - 1, by omega⟩
      have HS : Hid (rnF s (g + 1) pos c = if tornB (s.extract pos s.size) (Utf8.decode s pos).1 then (0, false) else rnF s g (pos + (Utf8.decode s pos).2) (c + 1)) := by simp [rnF, Hid, hp]
      have hp2 : (pos : Int) ≤ (s.size : Int) := by omega
      go_wp2_with fail
      refine (torn_any _ _ _).mono ?_
      rintro e w1 ⟨rfl, rfl⟩
      generalize tornB (s.extract pos s.size) (Utf8.decode s pos).1 = b at *
      cases b
      · have HS' : Hid (rnF s (g + 1) pos c = rnF s g (pos + (Utf8.decode s pos).2) (c + 1)) := HS.out
        go_wp2
        go_roundw
        case rel => exact ⟨pos + (Utf8.decode s pos).2, g, c + 1, rfl, by go_num, HS'.out.symm.trans HC.out, by omega, by omega⟩
        case measure => simp; omega
      · have HS' : Hid ((0, false) = rn s) := HS.out.symm.trans HC.out
        go_wp2
        go_ret2
        exact ⟨by rw [← HS'.out]; rfl, below_iter _ _ _⟩
    · have hnx : ∀ ty, (Instr.next (.pointer (some ⟨w.heap.size, 0, none⟩)) true ty).run Try.prog (w.iter s pos) = _ := fun ty => run_next_end w s pos ty hp
      have HE := hide ((rnF_end s f pos c hp).symm.trans HC.out)
      go_wp2
      go_ret2
      exact ⟨by rw [← HE.out]; rfl, below_iter _ _ _⟩
/-- may a text be a name? -/
def nmF (s : ByteArray) : Nat → Nat → Nat → Bool
  | 0, _, n => decide (0 < n)
  | f + 1, pos, n => if pos < s.size then if decide (32 < n + 1) || tornB (s.extract pos s.size) (Utf8.decode s pos).1 || !inB (Utf8.decode s pos).1 || (decide (pos = 0) && dgB (Utf8.decode s pos).1) then false else nmF s f (pos + (Utf8.decode s pos).2) (n + 1) else decide (0 < n)
def nmB (s : ByteArray) : Bool := nmF s s.size 0 0
theorem nmF_end (s : ByteArray) (f pos n : Nat) (h : ¬ pos < s.size) : nmF s f pos n = decide (0 < n) := by
  cases f with
  | zero => rfl
  | succ f => simp [nmF, h]
set_option maxHeartbeats 3200000 in
set_option maxRecDepth 1000000 in
theorem name_any (s : ByteArray) (w : World) (hs : s.size ≤ 1000000000) : Calls Try.prog 54 #[.string s] w fun e w' => e = .returned (.bool (nmB s)) ∧ Below w.heap.size w w' := by
  go_enter Try.func54, Try.ntmps54
  go_wp2
  go_loopw [3] (fun n w' => ∃ (pos f c : Nat), w' = w.iter s pos ∧ n = .int .i64 (c : Int) ∧ nmF s f pos c = nmB s ∧ s.size ≤ pos + f ∧ c ≤ pos) (fun _ w' => s.size - w'.iterPos w.heap.size)
  case atStart => exact ⟨0, s.size, 0, rfl, rfl, rfl, by omega, by omega⟩
  case round =>
    obtain ⟨pos, f, c, rfl, rfl, hc, hf, hcp⟩ := hrel
    have HC := hide hc
    clear hc
    by_cases hp : pos < s.size
    · have hnx : ∀ ty, (Instr.next (.pointer (some ⟨w.heap.size, 0, none⟩)) true ty).run Try.prog (w.iter s pos) = _ := fun ty => run_next_any w s pos ty hp
      have hwd := width_pos s pos hp
      obtain ⟨g, rfl⟩ : ∃ g, f = g + 1 := ⟨f - 1, by omega⟩
      have HS : Hid (nmF s (g + 1) pos c = if decide (32 < c + 1) || tornB (s.extract pos s.size) (Utf8.decode s pos).1 || !inB (Utf8.decode s pos).1 || (decide (pos = 0) && dgB (Utf8.decode s pos).1) then false else nmF s g (pos + (Utf8.decode s pos).2) (c + 1)) := by simp [nmF, Hid, hp]
      have hp2 : (pos : Int) ≤ (s.size : Int) := by omega
      by_cases h32 : 32 < c + 1
      · have HR : Hid (nmB s = false) := by rw [Hid, ← HC.out, HS.out]; simp [h32]
        have hd : decide ((32 : Int) < (c : Int) + 1) = true := by simp; omega
        go_wp2
        go_ret
        exact ⟨by rw [HR.out]; rfl, below_iter _ _ _⟩
      · have hd : decide ((32 : Int) < (c : Int) + 1) = false := by simp; omega
        have hcs : decide (32 < c + 1) = false := by simp; omega
        rw [hcs, Bool.false_or] at HS
        clear hcs
        go_wp2_with fail
        refine (torn_any _ _ _).mono ?_
        rintro e w1 ⟨rfl, rfl⟩
        generalize tornB (s.extract pos s.size) (Utf8.decode s pos).1 = b at *
        cases b
        · go_wp2_with fail
          refine (inname_any _ _).mono ?_
          rintro e w1 ⟨rfl, rfl⟩
          generalize inB ((Utf8.decode s pos).1 : Int) = b2 at *
          cases b2
          · have HR : Hid (nmB s = false) := by rw [Hid, ← HC.out, HS.out]; rfl
            go_wp2
            go_ret
            exact ⟨by rw [HR.out]; rfl, below_iter _ _ _⟩
          · by_cases h0 : pos = 0
            · subst h0
              go_wp2_with fail
              refine (digit_any _ _).mono ?_
              rintro e w1 ⟨rfl, rfl⟩
              generalize dgB ((Utf8.decode s 0).1 : Int) = b3 at *
              cases b3
              · have HS' : Hid (nmF s (g + 1) 0 c = nmF s g (0 + (Utf8.decode s 0).2) (c + 1)) := HS.out
                go_wp2
                go_roundw
                case rel => exact ⟨0 + (Utf8.decode s 0).2, g, c + 1, by simp, by go_num, HS'.out.symm.trans HC.out, by omega, by omega⟩
                case measure => simp; omega
              · have HR : Hid (nmB s = false) := by rw [Hid, ← HC.out, HS.out]; rfl
                go_wp2
                go_ret
                exact ⟨by rw [HR.out]; rfl, below_iter _ _ _⟩
            · have hb0 : ((pos : Int) == 0) = false := by simp [h0]
              have HS' : Hid (nmF s (g + 1) pos c = nmF s g (pos + (Utf8.decode s pos).2) (c + 1)) := by
                rw [Hid, HS.out]
                simp [h0]
              clear h0
              go_wp2
              go_roundw
              case rel => exact ⟨pos + (Utf8.decode s pos).2, g, c + 1, rfl, by go_num, HS'.out.symm.trans HC.out, by omega, by omega⟩
              case measure => simp; omega
        · have HR : Hid (nmB s = false) := by rw [Hid, ← HC.out, HS.out]; rfl
          go_wp2
          go_ret
          exact ⟨by rw [HR.out]; rfl, below_iter _ _ _⟩
    · have hnx : ∀ ty, (Instr.next (.pointer (some ⟨w.heap.size, 0, none⟩)) true ty).run Try.prog (w.iter s pos) = _ := fun ty => run_next_end w s pos ty hp
      have HE := hide ((nmF_end s f pos c hp).symm.trans HC.out)
      go_wp2
      go_ret
      refine ⟨ret_bool ?_, below_iter _ _ _⟩
      rw [← HE.out]
end Go.Proofs.Ytegoeaofjnpehaa
