/- Reading what was written: a reader that stands where the bytes of a call begin reads that call, and stands behind them. -/
import Derived.Test.YtobkmjkcbihfbaaN
import Derived.Test.YtobkmjkcbihfbaaI
namespace Go.Proofs.Ytobkmjkcbihfbaa
open Go.RowKit
set_option linter.unusedVariables false

theorem back_len {bs es t : List Int} {i : Nat} (h : bs.drop i = es ++ t) : i + es.length ≤ bs.length ∨ es = [] := by
  have h1 := congrArg List.length h
  rw [List.length_drop, List.length_append] at h1
  rcases Nat.eq_zero_or_pos es.length with h2 | h2
  · exact .inr (List.eq_nil_of_length_eq_zero h2)
  · left; omega
theorem back_take {bs es t : List Int} {i : Nat} (h : bs.drop i = es ++ t) (hi : i ≤ bs.length) : tk bs i 0 (es.length : Nat) = (i + es.length, 0, es) := by
  have h2 : i + es.length ≤ bs.length := by
    rcases back_len h with h3 | h3
    · exact h3
    · rw [h3]; simpa using hi
  rw [tk_ok bs i es.length h2, h, List.take_left]
theorem back_on {bs es t : List Int} {i : Nat} (h : bs.drop i = es ++ t) : bs.drop (i + es.length) = t := by
  rw [← List.drop_drop, h, List.drop_left]
theorem back_fixed {bs t : List Int} {i v n : Nat} (h : bs.drop i = fb v n ++ t) (hi : i ≤ bs.length) : tk bs i 0 (n : Nat) = (i + n, 0, fb v n) := by
  have h1 := back_take h hi
  rw [fb_len] at h1
  exact h1
theorem back_nm {bs t : List Int} {i v : Nat} (h : bs.drop i = vb v ++ t) (hv : v < 18446744073709551616) : nm bs i 0 = (v, (vb v).length, 0) := by
  rw [nm_ok, h, vint_vb v t hv]
theorem back_text {bs ys t : List Int} {i : Nat} (h : bs.drop i = (vb ys.length ++ ys) ++ t) (hi : i ≤ bs.length) (hy : ys.length ≤ 1000000) : rt bs i 0 = (ys, i + (vb ys.length ++ ys).length, 0) := by
  rw [List.append_assoc] at h
  have h1 := back_nm h (by omega)
  have h2 := back_take h hi
  have h3 := back_on h
  have h5 : i + (vb ys.length).length ≤ bs.length := by
    rcases back_len h with h6 | h6
    · exact h6
    · have := vb_pos ys.length
      rw [h6] at this; simp at this
  have h4 := back_take h3 h5
  have h7 := congrArg List.length h3
  rw [List.length_drop, List.length_append] at h7
  rw [rt_ok bs i 0 (by rw [h1]; simp only []; omega), h1]
  simp only []
  rw [h2]
  simp only []
  rw [h4, List.length_append]
  simp only [Nat.add_assoc]

section
variable {p i k v : Nat} {a : Option Addr} {bs ys t : List Int} {w : World}
/-- a reader behind a call: it stands behind that call's bytes, and nothing else has turned. -/
def Red (w : World) (p : Nat) (a : Option Addr) (bs : List Int) (i : Nat) (es : List Int) (w' : World) : Prop := Rd w' p a bs (i + es.length) 0 ∧ w.grownBy w' (some p)

theorem en0 (v : Nat) (ys : List Int) : en 0 v ys = fb v 1 := rfl
theorem en1 (v : Nat) (ys : List Int) : en 1 v ys = fb v 2 := rfl
theorem en2 (v : Nat) (ys : List Int) : en 2 v ys = fb v 4 := rfl
theorem en3 (v : Nat) (ys : List Int) : en 3 v ys = fb v 8 := rfl
theorem en4 (v : Nat) (ys : List Int) : en 4 v ys = vb v := rfl
theorem en5 (v : Nat) (ys : List Int) : en 5 v ys = vb (zz (s64 v)) := rfl
theorem en6 (v : Nat) (ys : List Int) : en 6 v ys = ys := rfl
theorem en7 (v : Nat) (ys : List Int) : en 7 v ys = vb ys.length ++ ys := rfl

theorem back0 (hr : Rd w p a bs i 0) (h : bs.drop i = en 0 v ys ++ t) :
    Calls Try.prog 26 #[.pointer (some ⟨p, 0, none⟩)] w fun r w' => r = .returned (.int .u8 ((v % 256 : Nat) : Int)) ∧ Red w p a bs i (en 0 v ys) w' := by
  rw [en0] at h ⊢
  have e := back_fixed h hr.le
  refine (ru8_any p a bs i 0 w hr).mono ?_
  rintro r w' ⟨rfl, h1, h2⟩
  rw [show ((1 : Nat) : Int) = 1 from rfl] at e
  rw [e] at h1 ⊢
  simp only [] at h1 ⊢
  rw [jn_fb v 1 (by omega)]
  exact ⟨by rw [Nat.pow_one, Nat.mod_mod], by rw [Red, fb_len]; exact ⟨h1, h2⟩⟩
theorem back1 (hr : Rd w p a bs i 0) (h : bs.drop i = en 1 v ys ++ t) :
    Calls Try.prog 27 #[.pointer (some ⟨p, 0, none⟩)] w fun r w' => r = .returned (.int .u16 ((v % 65536 : Nat) : Int)) ∧ Red w p a bs i (en 1 v ys) w' := by
  rw [en1] at h ⊢
  have e := back_fixed h hr.le
  refine (ru16_any p a bs i 0 w hr).mono ?_
  rintro r w' ⟨rfl, h1, h2⟩
  rw [show ((2 : Nat) : Int) = 2 from rfl] at e
  rw [e] at h1 ⊢
  simp only [] at h1 ⊢
  rw [jn_fb v 2 (by omega)]
  exact ⟨by rw [show (256 : Nat) ^ 2 = 65536 from rfl, Nat.mod_mod], by rw [Red, fb_len]; exact ⟨h1, h2⟩⟩
theorem back2 (hr : Rd w p a bs i 0) (h : bs.drop i = en 2 v ys ++ t) :
    Calls Try.prog 28 #[.pointer (some ⟨p, 0, none⟩)] w fun r w' => r = .returned (.int .u32 ((v % 4294967296 : Nat) : Int)) ∧ Red w p a bs i (en 2 v ys) w' := by
  rw [en2] at h ⊢
  have e := back_fixed h hr.le
  refine (ru32_any p a bs i 0 w hr).mono ?_
  rintro r w' ⟨rfl, h1, h2⟩
  rw [show ((4 : Nat) : Int) = 4 from rfl] at e
  rw [e] at h1 ⊢
  simp only [] at h1 ⊢
  rw [jn_fb v 4 (by omega)]
  exact ⟨by rw [show (256 : Nat) ^ 4 = 4294967296 from rfl, Nat.mod_mod], by rw [Red, fb_len]; exact ⟨h1, h2⟩⟩
theorem back3 (hr : Rd w p a bs i 0) (h : bs.drop i = en 3 v ys ++ t) (hv : v < 18446744073709551616) :
    Calls Try.prog 29 #[.pointer (some ⟨p, 0, none⟩)] w fun r w' => r = .returned (.int .u64 (v : Int)) ∧ Red w p a bs i (en 3 v ys) w' := by
  rw [en3] at h ⊢
  have e := back_fixed h hr.le
  refine (ru64_any p a bs i 0 w hr).mono ?_
  rintro r w' ⟨rfl, h1, h2⟩
  rw [show ((8 : Nat) : Int) = 8 from rfl] at e
  rw [e] at h1 ⊢
  simp only [] at h1 ⊢
  rw [jn_fb v 8 (by omega), show (256 : Nat) ^ 8 = 18446744073709551616 from rfl, Nat.mod_eq_of_lt hv]
  exact ⟨rfl, by rw [Red, fb_len]; exact ⟨h1, h2⟩⟩
theorem back4 (hr : Rd w p a bs i 0) (h : bs.drop i = en 4 v ys ++ t) (hv : v < 18446744073709551616) :
    Calls Try.prog 30 #[.pointer (some ⟨p, 0, none⟩)] w fun r w' => r = .returned (.int .u64 (v : Int)) ∧ Red w p a bs i (en 4 v ys) w' := by
  rw [en4] at h ⊢
  have e := back_nm h hv
  have e2 := back_take h hr.le
  refine (rvarint_any p a bs i 0 w hr).mono ?_
  rintro r w' ⟨rfl, h1, h2⟩
  rw [e] at h1 ⊢
  simp only [] at h1 ⊢
  rw [e2] at h1
  exact ⟨by trivial, h1, h2⟩
theorem back5 (hr : Rd w p a bs i 0) (h : bs.drop i = en 5 v ys ++ t) :
    Calls Try.prog 31 #[.pointer (some ⟨p, 0, none⟩)] w fun r w' => r = .returned (.int .i64 (s64 v)) ∧ Red w p a bs i (en 5 v ys) w' := by
  rw [en5] at h ⊢
  have e := back_nm h (zz_lt _ (s64_bd v).1 (s64_bd v).2)
  have e2 := back_take h hr.le
  refine (rsigned_any p a bs i 0 w hr).mono ?_
  rintro r w' ⟨rfl, h1, h2⟩
  rw [e] at h1 ⊢
  simp only [] at h1 ⊢
  rw [e2] at h1
  rw [zr_zz]
  exact ⟨rfl, h1, h2⟩
theorem back6 (hr : Rd w p a bs i 0) (h : bs.drop i = en 6 v ys ++ t) (hy : ys.length ≤ 1000000) :
    Calls Try.prog 32 #[.pointer (some ⟨p, 0, none⟩), .int .i64 (ys.length : Int)] w fun r w' => ∃ a', r = .returned (.slice a' ys.length ys.length) ∧ Row w' a' ys ∧ Red w p a bs i (en 6 v ys) w' := by
  rw [en6] at h ⊢
  have e2 := back_take h hr.le
  refine (rraw_any p a bs i 0 ys.length w hr (by omega) (by omega)).mono ?_
  rintro r w' ⟨a', m, rfl, hm, ho, -, h1, h2⟩
  rw [e2] at hm ho h1
  simp only [] at hm ho h1
  subst hm
  exact ⟨a', rfl, ho.row, h1, h2⟩
theorem back7 (hr : Rd w p a bs i 0) (h : bs.drop i = en 7 v ys ++ t) (hy : ys.length ≤ 1000000) :
    Calls Try.prog 33 #[.pointer (some ⟨p, 0, none⟩)] w fun r w' => r = .returned (.string (bk ys)) ∧ Red w p a bs i (en 7 v ys) w' := by
  rw [en7] at h ⊢
  have e := back_text h hr.le hy
  refine (rtext_any p a bs i 0 w hr).mono ?_
  rintro r w' ⟨rfl, h1, h2⟩
  rw [e] at h1 ⊢
  exact ⟨rfl, h1, h2⟩
end
end Go.Proofs.Ytobkmjkcbihfbaa
