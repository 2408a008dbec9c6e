/- Contracts of the document's reader: varints, numbers of either sign, texts. -/
import Derived.Test.YtobkmjkcbihfbaaXc
namespace Go.Proofs.Ytobkmjkcbihfbaa
open Go.RowKit
set_option linter.unusedVariables false

theorem vgo_zero (k v : Nat) (bs : List Int) (h : (vgo k v bs).2.2 ≠ 0) : (vgo k v bs).1 = 0 ∧ (vgo k v bs).2.1 = 0 := by
  induction bs generalizing k v with
  | nil => exact ⟨rfl, rfl⟩
  | cons c t ih =>
    rw [vgo_cons] at h ⊢
    split at h
    · rename_i h1; rw [if_pos h1]; exact ⟨rfl, rfl⟩
    · rename_i h1
      split at h
      · simp at h
      · rename_i h2
        rw [if_neg h1, if_neg h2]
        exact ih _ _ h
theorem tk_zero (bs : List Int) (i e : Nat) (hi : i ≤ bs.length) : tk bs i e 0 = (i, e, []) := by
  by_cases h : e = 0
  · subst h
    have := tk_ok bs i 0 (by omega)
    simpa using this
  · exact tk_err _ _ _ _ h

set_option maxHeartbeats 1600000 in
set_option maxRecDepth 1000000 in
theorem xvar_any (p : Nat) (a : Option Addr) (c : Nat) (bs : List Int) (i e : Nat) (w : World) (hr : Xd w p a c bs i e) :
    Calls Try.prog 71 #[.pointer (some ⟨p, 0, none⟩)] w fun r w' => r = .returned (.int .u64 ((nm bs i e).1 : Int)) ∧ Xd w' p a c bs (tk bs i (nm bs i e).2.2 (nm bs i e).2.1).1 (tk bs i (nm bs i e).2.2 (nm bs i e).2.1).2.1 ∧ w.grownBy w' (some p) := by
  have HR := hide hr
  have hle := hr.le
  have hsm := hr.small
  have hcap := hr.cap
  have hcaps := hr.caps
  have k0 := hr.c0
  have k1 := hr.c1
  have k2 := hr.c2
  clear hr
  by_cases he : e = 0
  · subst he
    have HNm := hide (nm_ok bs i)
    have hE := vgo_err 0 0 (bs.drop i)
    have HZ := hide (vgo_zero 0 0 (bs.drop i))
    have hM := nm_small bs i 0
    rw [HNm.out] at hM
    have HRow := hide (HR.out.row.cutc i (bs.length - i) c hcap (by omega))
    have HTk : Hid ((bs.drop i).take (bs.length - i) = bs.drop i) := List.take_of_length_le (by rw [List.length_drop]; omega)
    have HLn : Hid ((bs.drop i).length = bs.length - i) := List.length_drop
    have HBy := hide (HR.out.byts.drop i)
    have HC : ∀ W : World, Hid (Row W (if c = i then a else Option.map (fun x => x.add i) a) ((bs.drop i).take (bs.length - i)) → Calls Try.prog 81 #[.slice (if c = i then a else Option.map (fun x => x.add i) a) (bs.length - i) (c - i)] W fun r w' => r = .returned (.tuple #[.int .u64 ((vint (bs.drop i)).1 : Int), .int .i64 ((vint (bs.drop i)).2.1 : Int), .int .i64 ((vint (bs.drop i)).2.2 : Int)]) ∧ w' = W) := by
      intro W h
      rw [HTk.out] at h
      exact xvarint_any _ _ _ (bs.drop i) W h HBy.out HLn.out (by omega)
    have hE2 : (vint (bs.drop i)).2.2 < 65536 := hE
    have HZ2 : Hid ((vint (bs.drop i)).2.2 ≠ 0 → (vint (bs.drop i)).1 = 0 ∧ (vint (bs.drop i)).2.1 = 0) := HZ.out
    clear hE HTk HLn HBy HZ
    generalize hV : (vint (bs.drop i)).1 = V at *
    generalize hMM : (vint (bs.drop i)).2.1 = M at *
    generalize hX : (vint (bs.drop i)).2.2 = X at *
    have HV : Hid (nm bs i 0 = (V, M, X)) := by rw [Hid, HNm.out, ← hV, ← hMM, ← hX]
    clear hV hMM hX HNm
    rw [HV.out]
    simp only []
    have HTz : Hid (X ≠ 0 → tk bs i X (M : Int) = (i, X, [])) := fun h => tk_err _ _ _ _ h
    have HTo : Hid (X = 0 → tk bs i X (M : Int) = (i + M, 0, (bs.drop i).take M)) := by intro h; subst h; exact tk_ok bs i M (by omega)
    generalize (bs.drop i).take (bs.length - i) = ys at *
    generalize hN : bs.length = N at *
    have HN := hide hN
    clear hN
    go_enter Try.func71, Try.ntmps71
    go_wp2
    go_quiet (first | (go_at_call 81; exact Calls.quiet_of_same ((HC _).out (HRow.out.drewN _))))
    have HR1 := hide (HR.out.drewN nq)
    have HG1 := hide (grown_drewN (grown_refl w (some p)) nq)
    generalize w.drewN nq = W at *
    generalize (if c = i then a else Option.map (fun x => x.add i) a) = AA at *
    have k11 := HR1.out.c1
    have f11 := HR1.out.f 1
    clear k0 k1 k2 HC HRow HR
    by_cases hx : X = 0
    · have HT := hide (HTo.out hx)
      subst hx
      have HXs := hide (HR1.out.setAt (i + M) (by have := HN.out; omega))
      go_wp2
      have hsum : (i : Int) + (M : Int) = ((i + M : Nat) : Int) := by omega
      rw [hsum]
      go_ret
      exact ⟨rfl, by rw [HT.out]; exact HXs.out, grown_trans HG1.out (grown_setCell _ _ _ _)⟩
    · have hne : ((X : Int) != 0) = true := by simp; omega
      have HT := hide (HTz.out hx)
      obtain ⟨rfl, rfl⟩ := HZ2.out hx
      go_wp2_with fail
      refine (xfail_any p a c bs i X _ HR1.out hE2 hx).mono ?_
      rintro r w2 ⟨rfl, hr2, hg2⟩
      have HR2 := hide hr2
      have HG2 := hide (grown_trans HG1.out hg2)
      clear hr2 hg2
      go_wp2
      go_ret
      exact ⟨rfl, by rw [HT.out]; exact HR2.out, HG2.out⟩
  · have hne : ((e : Int) != 0) = true := by simp; omega
    have HNm := hide (nm_err bs i e he)
    have HT : Hid (tk bs i e ((0 : Nat) : Int) = (i, e, [])) := tk_err _ _ _ _ he
    rw [HNm.out]
    simp only []
    go_enter Try.func71, Try.ntmps71
    go_wp2
    go_ret
    exact ⟨rfl, by rw [HT.out]; exact HR.out, grown_refl _ _⟩

set_option maxHeartbeats 800000 in
set_option maxRecDepth 1000000 in
theorem zagzig_any (v : Nat) (hv : v < 18446744073709551616) (w : World) : Calls Try.prog 83 #[.int .u64 (v : Int)] w fun r w' => r = .returned (.int .i64 (zr v)) ∧ w' = w := by
  by_cases hodd : v % 2 = 1
  · have e2 : ((v : Int) % 2 == 1) = true := by simp; omega
    have HZ : Hid (zr v = -((v : Int) / 2) - 1) := by rw [Hid, zr, if_pos hodd]; omega
    go_enter Try.func83, Try.ntmps83
    go_wp2
    go_ret
    exact ⟨by rw [HZ.out]; rfl, rfl⟩
  · have e2 : ((v : Int) % 2 == 1) = false := by simp; omega
    have HZ : Hid (zr v = (v : Int) / 2) := by rw [Hid, zr, if_neg hodd]; omega
    go_enter Try.func83, Try.ntmps83
    go_wp2
    go_ret
    exact ⟨by rw [HZ.out]; rfl, rfl⟩
set_option maxHeartbeats 800000 in
set_option maxRecDepth 1000000 in
theorem xsigned_any (p : Nat) (a : Option Addr) (c : Nat) (bs : List Int) (i e : Nat) (w : World) (hr : Xd w p a c bs i e) :
    Calls Try.prog 72 #[.pointer (some ⟨p, 0, none⟩)] w fun r w' => r = .returned (.int .i64 (zr (nm bs i e).1)) ∧ Xd w' p a c bs (tk bs i (nm bs i e).2.2 (nm bs i e).2.1).1 (tk bs i (nm bs i e).2.2 (nm bs i e).2.1).2.1 ∧ w.grownBy w' (some p) := by
  have HC := hide (xvar_any p a c bs i e w hr)
  have hv := nm_lt bs i e hr.byts
  clear hr
  generalize hV : (nm bs i e).1 = V at *
  clear hV
  go_enter Try.func72, Try.ntmps72
  go_wp2_with fail
  refine HC.out.mono ?_
  rintro r w1 ⟨rfl, hrd, hg⟩
  have HR := hide (And.intro hrd hg)
  clear hrd hg HC
  go_wp2_with fail
  refine (zagzig_any V hv _).mono ?_
  rintro r w2 ⟨rfl, rfl⟩
  go_wp2
  go_ret
  exact ⟨rfl, HR.out⟩
end Go.Proofs.Ytobkmjkcbihfbaa
