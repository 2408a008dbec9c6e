/- Contracts of the reader's varints and texts, of what it tells, and of its beginning. -/
import Derived.Test.YtehapglbenaikaaKS
import Derived.Laws.IdiomStrings
namespace Go.Proofs.Ytehapglbenaikaa
open Go.RowKit
set_option linter.unusedVariables false

theorem vgo_long (k v : Nat) (bs : List Int) : (vgo k v bs).2.1 ≤ k + bs.length := by
  induction bs generalizing k v with
  | nil => simp [vgo]
  | cons c t ih =>
    rw [vgo_cons]
    split
    · simp
    · split
      · simp
      · have := ih (k + 1) (v + (c.toNat - 128) * 128 ^ k)
        simp; omega
theorem vgo_lt (k v : Nat) (bs : List Int) (hk : k ≤ 9) (hv : v < 128 ^ k) (hb : Byts bs) : (vgo k v bs).1 < 18446744073709551616 := by
  induction bs generalizing k v with
  | nil => simp [vgo]
  | cons c t ih =>
    have hp := pow128_le k hk
    have hc := hb c (by simp)
    rw [vgo_cons]
    split
    · simp
    · rename_i hn
      split
      · rename_i h128
        show v + c.toNat * 128 ^ k < 18446744073709551616
        by_cases h9 : k = 9
        · subst h9
          have e : c = 1 := by
            rcases Classical.em (c = 1) with h | h
            · exact h
            · exact absurd (.inl ⟨rfl, h⟩) hn
          subst e
          have e2 : (128 : Nat) ^ 9 = 9223372036854775808 := by decide
          rw [e2] at hv ⊢
          simp; omega
        · have h8 := Nat.pow_le_pow_right (n := 128) (by omega) (show k ≤ 8 by omega)
          have e : (128 : Nat) ^ 8 = 72057594037927936 := by decide
          have : c.toNat * 128 ^ k ≤ 127 * 72057594037927936 := Nat.mul_le_mul (by omega) (by omega)
          omega
      · rename_i h128
        have h9 : k ≠ 9 := fun e => by
          subst e
          exact hn (.inl ⟨rfl, by omega⟩)
        refine ih (k + 1) _ (by omega) ?_ (fun d hd => hb d (by simp [hd]))
        have : (c.toNat - 128) * 128 ^ k ≤ 127 * 128 ^ k := Nat.mul_le_mul_right _ (by omega)
        rw [Nat.pow_succ]
        omega
theorem nm_small (bs : List Int) (i e : Nat) : (nm bs i e).2.1 ≤ bs.length - i := by
  by_cases h : e = 0
  · subst h
    rw [nm_ok]
    have := vgo_long 0 0 (bs.drop i)
    rw [List.length_drop] at this
    rw [vint]; omega
  · rw [nm_err _ _ _ h]; simp
theorem nm_lt (bs : List Int) (i e : Nat) (hb : Byts bs) : (nm bs i e).1 < 18446744073709551616 := by
  by_cases h : e = 0
  · subst h; rw [nm_ok]; exact vgo_lt 0 0 _ (by omega) (by simp) (hb.drop i)
  · rw [nm_err _ _ _ h]; simp
theorem nm_err_lt (bs : List Int) (i e : Nat) (he : e < 65536) : (nm bs i e).2.2 < 65536 := by
  by_cases h : e = 0
  · subst h; rw [nm_ok]; exact vgo_err 0 0 _
  · rw [nm_err _ _ _ h]; exact he

set_option maxHeartbeats 800000 in
set_option maxRecDepth 1000000 in
theorem rvarint_any (p : Nat) (a : Option Addr) (bs : List Int) (i e : Nat) (w : World) (hr : Rd w p a bs i e) :
    Calls Try.prog 51 #[.pointer (some ⟨p, 0, none⟩)] w fun r w' => r = .returned (.int .u64 ((nm bs i e).1 : Int)) ∧ Rd w' p a bs (tk bs i (nm bs i e).2.2 (nm bs i e).2.1).1 (tk bs i (nm bs i e).2.2 (nm bs i e).2.1).2.1 ∧ w.grownBy w' (some p) := by
  have HC := hide (number_any p a bs i e w hr)
  have hsm := hr.small
  have hn := nm_small bs i e
  clear hr
  generalize hV : (nm bs i e).1 = V at *
  generalize hM : (nm bs i e).2.1 = M at *
  generalize hX : (nm bs i e).2.2 = X at *
  clear hV hM hX
  go_enter Try.func51, Try.ntmps51
  go_wp2_with fail
  refine HC.out.mono ?_
  rintro r w1 ⟨rfl, hrd, hg⟩
  have HT := hide (take_any p a bs i X (M : Int) w1 hrd (by omega) (by omega))
  have HG := hide hg
  clear hrd hg HC
  go_wp2_with fail
  refine HT.out.mono ?_
  rintro r w2 ⟨a1, m, c1, rfl, hlen, hmc, hcm, hbare, hrow, hrd, hg⟩
  have HR := hide hrd
  have HG2 := hide (grown_trans HG.out hg)
  clear hlen hmc hcm hbare hrow hrd hg HT
  go_wp2
  go_ret
  exact ⟨rfl, HR.out, HG2.out⟩

/-- a number without sign as one of either sign. -/
def zr (v : Nat) : Int := if v % 2 = 1 then -1 - ((v / 2 : Nat) : Int) else ((v / 2 : Nat) : Int)
theorem and1 (n : Nat) (hn : n < 18446744073709551616) : bits .and .u64 (n : Int) 1 = ((n % 2 : Nat) : Int) := by
  have h := u64_and_nat n 1 hn (by omega)
  rw [Nat.and_one_is_mod] at h
  exact h

set_option maxHeartbeats 800000 in
set_option maxRecDepth 1000000 in
theorem rsigned_any (p : Nat) (a : Option Addr) (bs : List Int) (i e : Nat) (w : World) (hr : Rd w p a bs i e) :
    Calls Try.prog 29 #[.pointer (some ⟨p, 0, none⟩)] w fun r w' => r = .returned (.int .i64 (zr (nm bs i e).1)) ∧ Rd w' p a bs (tk bs i (nm bs i e).2.2 (nm bs i e).2.1).1 (tk bs i (nm bs i e).2.2 (nm bs i e).2.1).2.1 ∧ w.grownBy w' (some p) := by
  have HC := hide (rvarint_any p a bs i e w hr)
  have hv := nm_lt bs i e hr.byts
  clear hr
  generalize hV : (nm bs i e).1 = V at *
  have HV := hide hV
  clear hV
  have e1 := and1 V hv
  go_enter Try.func29, Try.ntmps29
  go_wp2_with fail
  refine HC.out.mono ?_
  rintro r w1 ⟨rfl, hrd, hg⟩
  have HR := hide (And.intro hrd hg)
  clear hrd hg HC
  by_cases hodd : V % 2 = 1
  · have e2 : (((V % 2 : Nat) : Int) == 1) = true := by simp; omega
    have HE := hide (not_i64 ((V : Int) / 2) (by omega) (by omega))
    have HZ : Hid (zr V = -1 - (V : Int) / 2) := by rw [Hid, zr, if_pos hodd]; omega
    go_wp2
    go_ret
    exact ⟨ret_int (HE.out.trans HZ.out.symm), HR.out⟩
  · have e2 : (((V % 2 : Nat) : Int) == 1) = false := by simp; omega
    have HZ : Hid (zr V = (V : Int) / 2) := by rw [Hid, zr, if_neg hodd]; omega
    go_wp2
    go_ret
    exact ⟨by rw [HZ.out]; rfl, HR.out⟩

theorem tk_byts (bs : List Int) (i e : Nat) (n : Int) (hb : Byts bs) : Byts (tk bs i e n).2.2 := by
  rw [tk]
  split
  · intro c hc; simp at hc
  · split
    · intro c hc; simp at hc
    · split
      · intro c hc; simp at hc
      · exact (hb.drop i).take _
theorem tk_place (bs : List Int) (i e : Nat) (n : Int) (hi : i ≤ bs.length) : (tk bs i e n).1 ≤ bs.length := by
  rw [tk]
  split
  · exact hi
  · split
    · exact hi
    · split
      · exact hi
      · show i + n.toNat ≤ bs.length
        omega

/-- a text: its bytes, where the reader stands then, its error. -/
def rt (bs : List Int) (i e : Nat) : List Int × Nat × Nat :=
  if bs.length - i - (nm bs i e).2.1 < (nm bs i e).1 then ([], i, ferr (nm bs i e).2.2 20)
  else ((tk bs (tk bs i (nm bs i e).2.2 (nm bs i e).2.1).1 (tk bs i (nm bs i e).2.2 (nm bs i e).2.1).2.1 (nm bs i e).1).2.2,
    (tk bs (tk bs i (nm bs i e).2.2 (nm bs i e).2.1).1 (tk bs i (nm bs i e).2.2 (nm bs i e).2.1).2.1 (nm bs i e).1).1,
    (tk bs (tk bs i (nm bs i e).2.2 (nm bs i e).2.1).1 (tk bs i (nm bs i e).2.2 (nm bs i e).2.1).2.1 (nm bs i e).1).2.1)

theorem rt_short (bs : List Int) (i e : Nat) (h : bs.length - i - (nm bs i e).2.1 < (nm bs i e).1) : rt bs i e = ([], i, ferr (nm bs i e).2.2 20) := by rw [rt, if_pos h]
theorem rt_ok (bs : List Int) (i e : Nat) (h : ¬ bs.length - i - (nm bs i e).2.1 < (nm bs i e).1) : rt bs i e = ((tk bs (tk bs i (nm bs i e).2.2 (nm bs i e).2.1).1 (tk bs i (nm bs i e).2.2 (nm bs i e).2.1).2.1 (nm bs i e).1).2.2,
    (tk bs (tk bs i (nm bs i e).2.2 (nm bs i e).2.1).1 (tk bs i (nm bs i e).2.2 (nm bs i e).2.1).2.1 (nm bs i e).1).1,
    (tk bs (tk bs i (nm bs i e).2.2 (nm bs i e).2.1).1 (tk bs i (nm bs i e).2.2 (nm bs i e).2.1).2.1 (nm bs i e).1).2.1) := by rw [rt, if_neg h]
set_option maxHeartbeats 1600000 in
set_option maxRecDepth 1000000 in
theorem rtext_any (p : Nat) (a : Option Addr) (bs : List Int) (i e : Nat) (w : World) (hr : Rd w p a bs i e) :
    Calls Try.prog 30 #[.pointer (some ⟨p, 0, none⟩)] w fun r w' => r = .returned (.string (bk (rt bs i e).1)) ∧ Rd w' p a bs (rt bs i e).2.1 (rt bs i e).2.2 ∧ w.grownBy w' (some p) := by
  have HC := hide (number_any p a bs i e w hr)
  have hsm := hr.small
  have hle := hr.le
  have hn := nm_small bs i e
  have hv := nm_lt bs i e hr.byts
  have HBy := hide hr.byts
  have HS := hide (rt_short bs i e)
  have HO := hide (rt_ok bs i e)
  clear hr
  generalize hV : (nm bs i e).1 = V at *
  generalize hM : (nm bs i e).2.1 = M at *
  generalize hX : (nm bs i e).2.2 = X at *
  clear hV hM hX
  go_enter Try.func30, Try.ntmps30
  go_wp2_with fail
  refine HC.out.mono ?_
  rintro r w1 ⟨rfl, hrd, hg⟩
  have HR1 := hide hrd
  have HG1 := hide hg
  have HLf := hide (left_any p a bs i X w1 hrd)
  clear hrd hg HC
  go_wp2_with fail
  refine HLf.out.mono ?_
  rintro r w2 ⟨rfl, hb2⟩
  have HR2 := hide (HR1.out.below hb2)
  have HG2 := hide (grown_trans HG1.out (grown_below hb2))
  clear hb2 HLf HR1 HG1
  by_cases hgt : bs.length - i - M < V
  · have HFl := hide (fail_any p a bs i X 20 w2 HR2.out (by omega))
    have HT := hide (HS.out hgt)
    have hd : decide ((bs.length : Int) - i - M < (V : Int)) = true := by simp; omega
    clear HS HO
    generalize hN : bs.length = N at *
    clear hN
    go_wp2_with fail
    refine HFl.out.mono ?_
    rintro r w3 ⟨rfl, hr3, hg3⟩
    have HR3 := hide hr3
    have HG3 := hide (grown_trans HG2.out hg3)
    clear hr3 hg3
    go_wp2
    go_ret
    exact ⟨by rw [HT.out]; rfl, by rw [HT.out]; exact HR3.out, HG3.out⟩
  · have HTk := hide (take_any p a bs i X (M : Int) w2 HR2.out (by omega) (by omega))
    have HT := hide (HO.out hgt)
    have hd : decide ((bs.length : Int) - i - M < (V : Int)) = false := by simp; omega
    clear HS HO
    generalize hN : bs.length = N at *
    clear hN
    go_wp2_with fail
    refine HTk.out.mono ?_
    rintro r w3 ⟨a1, m, c1, rfl, -, -, -, -, -, hr3, hg3⟩
    have HTk2 := hide (take_any p a bs _ _ (V : Int) w3 hr3 (by omega) (by omega))
    have HG3 := hide (grown_trans HG2.out hg3)
    clear hr3 hg3 HTk
    go_wp2_with fail
    refine HTk2.out.mono ?_
    rintro r w4 ⟨a2, m2, c2, rfl, hlen, hmc, hcm, hbare, hrow, hrd, hg⟩
    have HR4 := hide hrd
    have HG4 := hide (grown_trans HG3.out hg)
    have hcv := run_text w4 a2 m2 c2 _ hlen hbare hrow (tk_byts _ _ _ _ HBy.out)
    clear hlen hmc hcm hbare hrow hrd hg HTk2
    go_wp2
    go_ret
    exact ⟨by rw [HT.out]; rfl, by rw [HT.out]; exact HR4.out, HG4.out⟩

/-- the place that a reader tells with its error. -/
def erAt (e i : Nat) : Nat := if e = 0 then 0 else i
/-- what a reader says at the end. -/
def enEr (n i e : Nat) : Nat := if e = 0 ∧ i < n then 21 else e
set_option maxHeartbeats 800000 in
set_option maxRecDepth 1000000 in
theorem end_any (p : Nat) (a : Option Addr) (bs : List Int) (i e : Nat) (w : World) (hr : Rd w p a bs i e) :
    Calls Try.prog 35 #[.pointer (some ⟨p, 0, none⟩)] w fun r w' => r = .returned (.int .u16 (enEr bs.length i e : Int)) ∧ Below w.heap.size w w' := by
  have HL := hide (left_any p a bs i e w hr)
  have k2 := hr.c2
  have hle := hr.le
  have HR := hide hr
  generalize hZ : enEr bs.length i e = z
  have HZ := hide hZ
  clear hZ
  clear hr
  by_cases he : e = 0
  · subst he
    go_enter Try.func35, Try.ntmps35
    go_wp2_with fail
    refine HL.out.mono ?_
    rintro r w1 ⟨rfl, hb1⟩
    have HB := hide hb1
    have k3 := (HR.out.below hb1).c2
    clear hb1 k2 HL
    by_cases hlt : i < bs.length
    · have hz : z = 21 := by rw [← HZ.out, enEr, if_pos ⟨rfl, hlt⟩]
      subst hz
      have hd : 0 < bs.length - i := by omega
      generalize bs.length - i = N at *
      go_wp2
      go_ret
      exact ⟨rfl, HB.out⟩
    · have hz : z = 0 := by rw [← HZ.out, enEr, if_neg (by omega)]
      subst hz
      have hd : bs.length - i = 0 := by omega
      go_wp2
      go_ret
      exact ⟨rfl, HB.out⟩
  · have hz : z = e := by rw [← HZ.out, enEr, if_neg (by omega)]
    subst hz
    have hne : ((z : Int) == 0) = false := by simp; omega
    go_enter Try.func35, Try.ntmps35
    go_wp2
    go_ret
    exact ⟨rfl, Below.refl _ _⟩

set_option maxHeartbeats 800000 in
set_option maxRecDepth 1000000 in
theorem read_any (a : Option Addr) (n c : Nat) (zs : List Int) (w : World) (hl : zs.length = n) (hr : Row w a zs) (hby : Byts zs) (hb : n ≤ 100000000000000) :
    Calls Try.prog 26 #[.slice a n c] w fun r w' => ∃ (p : Nat) (a' : Option Addr), r = .returned (.pointer (some ⟨p, 0, none⟩)) ∧ Rd w' p a' zs 0 0 ∧ w.heap.size ≤ p ∧ (∀ ad, a' = some ad → w.heap.size ≤ ad.block) ∧ Below w.heap.size w w' := by
  have HC := hide (copied_any a n c zs w hl hr (by omega))
  have HL := hide hl
  have HBy := hide hby
  clear hl hr hby
  go_enter Try.func26, Try.ntmps26
  go_wp2_with fail
  refine HC.out.mono ?_
  rintro r w1 ⟨a1, rfl, hown, hfr, hb1⟩
  have HO := hide hown
  have HF := hide hfr
  have HB := hide hb1
  clear hown hfr hb1 HC
  go_wp2
  go_ret
  obtain ⟨a2, c2, e2, -, -, hbare, hrow, hblk⟩ := HO.out.shape
  obtain ⟨rfl, -, rfl⟩ : a1 = a2 ∧ n = zs.length ∧ n = c2 := by simpa using e2
  refine ⟨w1.heap.size, a1, rfl, ⟨?_, hrow.below (below_alloc _ _), ?_, ?_, HBy.out, by omega, by have := HL.out; omega, by omega, ?_⟩, HB.out.size, ?_, HB.out.trans ((below_alloc _ _).mono HB.out.size)⟩
  · rw [heap_alloc_new, HL.out]; rfl
  · intro ad had e
    subst had
    have := HO.out.lt ((hblk ad.block).1 ⟨ad, rfl, rfl⟩)
    omega
  · intro h
    exact List.eq_nil_of_length_eq_zero (hbare h).1
  · intro ad had
    subst had
    have := HO.out.lt ((hblk ad.block).1 ⟨ad, rfl, rfl⟩)
    simp; omega
  · intro ad had
    rcases HF.out with h | h
    · rw [h] at had; cases had
    · rw [h] at had; cases had; exact Nat.le_refl _
end Go.Proofs.Ytehapglbenaikaa
