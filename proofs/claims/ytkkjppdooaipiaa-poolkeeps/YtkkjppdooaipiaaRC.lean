/- The reader: the sum at the end. -/
import Derived.Test.YtkkjppdooaipiaaRB
namespace Go.Proofs.Ytkkjppdooaipiaa
open Go.RowKit
set_option linter.unusedVariables false

theorem Rdr.set {w : World} {p : Nat} {zs : List Int} (h : Rdr w p zs) {a' : Option Addr} {n' c' : Nat} {ys : List Int} (hl : ys.length = n') (hc : n' ≤ c') (hm : c' ≤ 9223372036854775807) (hb : a' = none → n' = 0 ∧ c' = 0) (hr : RowN w p a' ys) (h8 : Byts ys) :
    Rdr (w.setCell ⟨p, 0, none⟩ (.slice a' n' c')) p ys := by
  obtain ⟨a, n, c, h⟩ := h
  exact ⟨_, _, _, h.set hl hc hm hb hr h8⟩
theorem Rdr.cells {w : World} {p : Nat} {zs : List Int} (h : Rdr w p zs) : ∃ a c, w.cell? ⟨p, 0, none⟩ = some (.slice a zs.length c) ∧ w.frozen? ⟨p, 0, none⟩ = false := by
  obtain ⟨a, n, c, h⟩ := h
  exact ⟨a, c, by rw [h.c0, h.len], h.f0⟩
theorem Rdr.byts {w : World} {p : Nat} {zs : List Int} (h : Rdr w p zs) : Byts zs := by obtain ⟨a, n, c, h⟩ := h; exact h.byts
theorem Rdr.small {w : World} {p : Nat} {zs : List Int} (h : Rdr w p zs) : zs.length ≤ 9223372036854775807 := by
  obtain ⟨a, n, c, h⟩ := h
  have := h.len; have := h.cap; have := h.max; omega

set_option maxHeartbeats 800000 in
theorem unseal_gen (p size : Nat) (zs : List Int) (w : World) (h : Rdr w p zs) (hs : 4 ≤ size) (hs2 : size ≤ 5000) :
    Calls Try.prog 56 #[.pointer (some ⟨p, 0, none⟩), .int .i64 (size : Int)] w fun e w' => ((Pg.Rt size zs → e = .returned (.tuple #[]) ∧ Rdr w' p (zs.take (size - 4))) ∧ (¬ Pg.Rt size zs → e = .panicked flt)) ∧ w.grownBy w' (some p) := by
  by_cases hl : zs.length = size
  · obtain ⟨a0, c0, k0, f0⟩ := h.cells
    rw [hl] at k0
    have h8 := h.byts
    have HP : Hid (Pg.Rt size zs ↔ Crc.leV (zs.drop (size - 4)) = Crc.more 0 (zs.take (size - 4))) := hide ⟨fun h => h.2, fun h => ⟨hl, h⟩⟩
    have e1 : zs.take (size - 4) ++ zs.drop (size - 4) = zs := List.take_append_drop _ _
    have l1 : (zs.take (size - 4)).length = size - 4 := by rw [List.length_take]; omega
    have l2 : (zs.drop (size - 4)).length = 4 := by rw [List.length_drop]; omega
    have b1 := h8.take (size - 4)
    have b2 := h8.drop (size - 4)
    rw [← e1] at h
    generalize Pg.Rt size zs = PP at *
    generalize zs.take (size - 4) = xs at *
    generalize zs.drop (size - 4) = ys at *
    have HT : Hid (Calls Try.prog 61 #[.pointer (some ⟨p, 0, none⟩), .int .i64 ((size : Int) - 4)] w fun e w' => ∃ a c, e = .returned (.slice a (size - 4) c) ∧ (size - 4) ≤ c ∧ c ≤ 9223372036854775807 ∧ (a = none → (size - 4) = 0 ∧ c = 0) ∧ RowN w' p a xs ∧ Rdr w' p ys ∧ w.grownBy w' (some p)) := by
      have e : ((size : Int) - 4) = ((size - 4 : Nat) : Int) := by omega
      rw [e]
      exact take_ok p (size - 4) xs ys w l1 h
    have HB1 := hide b1
    have HB2 := hide b2
    have HL1 := hide l1
    have HL2 := hide l2
    clear h8 hl e1 h b1 b2 l1 l2
    go_enter Try.func56, Try.ntmps56
    go_wp2_with fail
    refine (must_yes _ _ (by simp) _).mono ?_
    rintro e w' ⟨rfl, rfl⟩
    go_wp2_with fail
    refine HT.out.mono ?_
    rintro e w1 ⟨a, c, rfl, hkc, hc, hn, hrow, hrd, hg⟩
    have HRow := hide hrow
    have HN := hide hn
    have HG1 := hide hg
    have HNum := hide (num_ok p 4 ys [] w1 HL2.out (by omega) (by rw [List.append_nil]; exact hrd) HB2.out)
    clear hn hrow hrd hg
    go_wp2_with fail
    refine HNum.out.mono ?_
    rintro e w2 ⟨rfl, hrd2, hg2⟩
    have HRow2 := hide (HRow.out.grown hg2)
    have HRd2 := hide hrd2
    have HG2 := hide (grown_trans HG1.out hg2)
    clear hrd2 hg2
    have HV : Hid (Crc.leV ys < 4294967296) := by
      have := Crc.leV_lt ys HB2.out
      rw [HL2.out] at this
      have e4 : (256 : Nat) ^ 4 = 4294967296 := by decide
      rw [e4] at this
      exact this
    have hM := Crc.more_lt 0 xs (by omega) HB1.out
    have HSum := hide (sum_any a (size - 4) c xs w2 HL1.out (by omega) HRow2.out.row HB1.out)
    have hV := HV.out
    generalize Crc.leV ys = V at *
    generalize Crc.more 0 xs = M at *
    go_wp2_with fail
    refine HSum.out.mono ?_
    rintro e w3 ⟨rfl, hb3⟩
    have HRow3 := hide (HRow2.out.grown (grown_below hb3))
    have HRd3 := hide (HRd2.out.below hb3)
    have HG3 := hide (grown_trans HG2.out (grown_below hb3))
    clear hb3
    by_cases hvm : V = M
    · subst hvm
      have HPP : Hid PP := hide (HP.out.2 rfl)
      obtain ⟨a3, c3, k3, f3⟩ := HRd3.out.cells
      go_wp2_with fail
      refine (must_yes _ _ (by simp) _).mono ?_
      rintro e w' ⟨rfl, rfl⟩
      go_wp2
      go_end0
      exact ⟨⟨fun _ => ⟨rfl, HRd3.out.set HL1.out hkc hc HN.out HRow3.out HB1.out⟩, fun h => absurd HPP.out h⟩, grown_trans HG3.out (grown_setCellP _ _ _ _)⟩
    · have HPP : Hid (¬ PP) := hide fun h => hvm (HP.out.1 h)
      have hne : ((V : Int) == (M : Int)) = false := by simp; omega
      clear hvm
      go_wp2_with fail
      refine (must_no _ _ rfl _).mono ?_
      rintro e w' ⟨rfl, rfl⟩
      exact ⟨rfl, ⟨fun h => absurd h HPP.out, fun _ => rfl⟩, HG3.out⟩
  · obtain ⟨a0, c0, k0, f0⟩ := h.cells
    have hne : ((zs.length : Int) == (size : Int)) = false := by simp; omega
    have hsm := h.small
    have HP : Hid (¬ Pg.Rt size zs) := hide fun h => hl h.1
    clear h hl
    generalize zs.length = n at *
    generalize Pg.Rt size zs = PP at *
    go_enter Try.func56, Try.ntmps56
    go_wp2_with fail
    refine (must_no _ _ rfl _).mono ?_
    rintro e w' ⟨rfl, rfl⟩
    exact ⟨rfl, ⟨fun h => absurd h HP.out, fun _ => rfl⟩, grown_refl _ _⟩
end Go.Proofs.Ytkkjppdooaipiaa
