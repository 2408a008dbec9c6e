/- Contract of a call of a writer by its kind, beside the bytes by definition. -/
import Derived.Test.YtobkmjkcbihfbaaH
import Derived.Test.YtobkmjkcbihfbaaG
namespace Go.Proofs.Ytobkmjkcbihfbaa
open Go.RowKit
set_option linter.unusedVariables false

/-- a number of 64 bits taken as one of either sign. -/
def s64 (v : Nat) : Int := IntKind.i64.wrap (v : Int)
theorem s64_bd (v : Nat) : -9223372036854775808 ≤ s64 v ∧ s64 v ≤ 9223372036854775807 := by
  unfold s64
  simp [IntKind.wrap, IntKind.bits, IntKind.signed]
  omega
/-- the bytes of a call, by its kind. -/
def en (k v : Nat) (ys : List Int) : List Int :=
  if k = 0 then fb v 1 else if k = 1 then fb v 2 else if k = 2 then fb v 4 else if k = 3 then fb v 8 else if k = 4 then vb v else if k = 5 then vb (zz (s64 v)) else if k = 6 then ys else vb ys.length ++ ys
theorem fb_mod (v n m : Nat) (h : n ≤ m) : fb (v % 256 ^ m) n = fb v n := by
  induction n with
  | zero => rfl
  | succ n ih =>
    have e : v % 256 ^ m / 256 ^ n % 256 = v / 256 ^ n % 256 := by
      have hd : 256 ^ m = 256 ^ n * (256 * 256 ^ (m - n - 1)) := by
        rw [← Nat.mul_assoc, ← Nat.pow_succ, ← Nat.pow_add]
        congr 1; omega
      rw [hd, Nat.mod_mul_right_div_self, Nat.mod_mul_right_mod]
    rw [fb, fb, e, ih (by omega)]
theorem fb_mod1 (v : Nat) : fb (v % 256) 1 = fb v 1 := fb_mod v 1 1 (by omega)
theorem fb_mod2 (v : Nat) : fb (v % 65536) 2 = fb v 2 := fb_mod v 2 2 (by omega)
theorem fb_mod4 (v : Nat) : fb (v % 4294967296) 4 = fb v 4 := fb_mod v 4 4 (by omega)
theorem en_long (k v : Nat) (ys : List Int) (hv : v < 18446744073709551616) (hy : ys.length ≤ 1000000) : (en k v ys).length ≤ 10 + ys.length := by
  unfold en
  have h1 := vb_ten v hv
  have h2 := vb_ten (zz (s64 v)) (zz_lt _ (s64_bd v).1 (s64_bd v).2)
  have h3 := vb_ten ys.length (by omega)
  split
  · rw [fb_len]; omega
  split
  · rw [fb_len]; omega
  split
  · rw [fb_len]; omega
  split
  · rw [fb_len]; omega
  split
  · omega
  split
  · omega
  split
  · omega
  · rw [List.length_append]; omega

/-- what a call of a writer by its kind gives. -/
def Put (w : World) (p : Nat) (zs es : List Int) (r : Ending) (w' : World) : Prop :=
  ∃ (a' : Option Addr) (n' c' : Nat), r = .returned (.slice a' n' c') ∧ es.length = n' ∧ (a' = none → n' = 0 ∧ c' = 0) ∧ Row w' a' es ∧ Wr w' p (zs ++ es) ∧ Wrote p w w'

theorem put_fresh {w w1 w2 : World} {p : Nat} {zs es : List Int} {x : Value} (hw : Wr w1 p (zs ++ es)) (ho : Wrote p w w1) (hf : Fresh w1 w2 x es) : Put w p zs es (.returned x) w2 := by
  obtain ⟨h1, h2, h3⟩ := hf
  obtain ⟨a, c, rfl, _, _, hb, hr, _⟩ := h1.shape
  exact ⟨a, _, c, rfl, rfl, hb, hr, hw.below h3, ho.trans (Wrote.of_below hw.lt h3)⟩
theorem box_cell {w w1 w2 : World} {p : Nat} {zs : List Int} {cs : Array Value} {t : TypeId} (hw : Wr w p zs) (he : w1 = w.alloc (.cells cs t)) (ho : Wrote p w1 w2) (j : Nat) : w2.cell? ⟨w.heap.size, j, none⟩ = cs[j]? := by
  subst he
  have hn : ¬ foot (w.alloc (.cells cs t)) p w.heap.size := fun hf => by
    have := hw.foot_lt ((foot_same ((below_alloc w (.cells cs t)).block p hw.lt)).1 hf)
    omega
  rw [World.cell?_of_block (a := ⟨w.heap.size, j, none⟩) (ho.block w.heap.size (by simp) hn)]
  rw [World.cell?, heap_alloc_new]
  rfl

set_option maxHeartbeats 3200000 in
set_option maxRecDepth 1000000 in
theorem puts_any (p k v : Nat) (N : Int) (a : Option Addr) (n c : Nat) (a2 : Option Addr) (n2 c2 : Nat) (zs ys : List Int) (w : World) (hw : Wr w p zs) (hk : k < 256) (hv : v < 18446744073709551616)
    (hl : ys.length = n) (hl2 : ys.length = n2) (hn : a = none → n = 0 ∧ c = 0) (hn2 : a2 = none → n2 = 0 ∧ c2 = 0) (hr : Row w a ys) (hr2 : Row w a2 ys) (hby : Byts ys) (hsz : ys.length ≤ 1000000) (hb : zs.length ≤ 10000000000000)
    (hap : ys = [] ∨ ∀ ad, a2 = some ad → ¬ foot w p ad.block) :
    Calls Try.prog 12 #[.pointer (some ⟨p, 0, none⟩), .agg #[.int .u8 (k : Int), .int .u64 (v : Int), .int .i64 N, .slice a2 n2 c2], .slice a n c] w fun r w' => Put w p zs (en (k % 8) v ys) r w' := by
  have HW := hide hw
  have HL := hide hl
  have HL2 := hide hl2
  have HN := hide hn
  have HN2 := hide hn2
  have HR := hide hr
  have HR2 := hide hr2
  have HBy := hide hby
  have HAp := hide hap
  have hsz2 : n2 ≤ 1000000 := by omega
  have hsz1 : n ≤ 1000000 := by omega
  clear hl hl2 hn hn2 hr hr2 hby hap hw hsz
  have hmod : k % 8 < 8 := Nat.mod_lt _ (by omega)
  have HB1 := hide (below_alloc w (.cells #[.int .u8 (k : Int), .int .u64 (v : Int), .int .i64 N, .slice a2 n2 c2] 57))
  have HW1 := hide (HW.out.below HB1.out)
  have HO1 := hide (Wrote.of_below HW.out.lt HB1.out)
  generalize hj : k % 8 = j at *
  have hj2 : (k : Int) % 8 = (j : Int) := by omega
  have HJ := hide hj
  clear hj
  by_cases h0 : j = 0
  · subst h0
    have HE : Hid (en 0 v ys = fb v 1) := rfl
    go_enter Try.func12, Try.ntmps12
    go_wp2_with fail
    have hc : (v : Int) % 256 = ((v % 256 : Nat) : Int) := by omega
    rw [hc]
    clear hc
    refine (wu8_any p (v % 256) zs _ HW1.out (by omega) (by omega)).mono ?_
    rintro e W2 ⟨rfl, hw2, ho2⟩
    replace hw2 := (fb_mod1 v) ▸ hw2
    have bx := box_cell HW.out rfl ho2 1
    have HW2 := hide hw2
    have HO2 := hide (HO1.out.trans ho2)
    clear hw2 ho2
    go_wp2_with fail
    refine (ref_fixed_any v 1 W2 hv (by omega)).mono ?_
    rintro e W3 ⟨x, rfl, hfr⟩
    obtain ⟨a3, n3, c3, rfl, -⟩ := hfr.1.shape2
    have HF := hide (put_fresh HW2.out HO2.out hfr)
    clear hfr
    go_wp2
    go_ret
    rw [HE.out]
    exact HF.out
  by_cases h1 : j = 1
  · subst h1
    have HE : Hid (en 1 v ys = fb v 2) := rfl
    go_enter Try.func12, Try.ntmps12
    go_wp2_with fail
    have hc : IntKind.u16.wrap (v : Int) = ((v % 65536 : Nat) : Int) := by simp [IntKind.wrap, IntKind.bits, IntKind.signed]
    rw [hc]
    clear hc
    refine (wu16_any p (v % 65536) zs _ HW1.out (by omega) (by omega)).mono ?_
    rintro e W2 ⟨rfl, hw2, ho2⟩
    replace hw2 := (fb_mod2 v) ▸ hw2
    have bx := box_cell HW.out rfl ho2 1
    have HW2 := hide hw2
    have HO2 := hide (HO1.out.trans ho2)
    clear hw2 ho2
    go_wp2_with fail
    refine (ref_fixed_any v 2 W2 hv (by omega)).mono ?_
    rintro e W3 ⟨x, rfl, hfr⟩
    obtain ⟨a3, n3, c3, rfl, -⟩ := hfr.1.shape2
    have HF := hide (put_fresh HW2.out HO2.out hfr)
    clear hfr
    go_wp2
    go_ret
    rw [HE.out]
    exact HF.out
  by_cases h2 : j = 2
  · subst h2
    have HE : Hid (en 2 v ys = fb v 4) := rfl
    go_enter Try.func12, Try.ntmps12
    go_wp2_with fail
    have hc : (v : Int) % 4294967296 = ((v % 4294967296 : Nat) : Int) := by omega
    rw [hc]
    clear hc
    refine (wu32_any p (v % 4294967296) zs _ HW1.out (by omega) (by omega)).mono ?_
    rintro e W2 ⟨rfl, hw2, ho2⟩
    replace hw2 := (fb_mod4 v) ▸ hw2
    have bx := box_cell HW.out rfl ho2 1
    have HW2 := hide hw2
    have HO2 := hide (HO1.out.trans ho2)
    clear hw2 ho2
    go_wp2_with fail
    refine (ref_fixed_any v 4 W2 hv (by omega)).mono ?_
    rintro e W3 ⟨x, rfl, hfr⟩
    obtain ⟨a3, n3, c3, rfl, -⟩ := hfr.1.shape2
    have HF := hide (put_fresh HW2.out HO2.out hfr)
    clear hfr
    go_wp2
    go_ret
    rw [HE.out]
    exact HF.out
  by_cases h3 : j = 3
  · subst h3
    have HE : Hid (en 3 v ys = fb v 8) := rfl
    go_enter Try.func12, Try.ntmps12
    go_wp2_with fail
    refine (wu64_any p v zs _ HW1.out hv (by omega)).mono ?_
    rintro e W2 ⟨rfl, hw2, ho2⟩
    have bx := box_cell HW.out rfl ho2 1
    have HW2 := hide hw2
    have HO2 := hide (HO1.out.trans ho2)
    clear hw2 ho2
    go_wp2_with fail
    refine (ref_fixed_any v 8 W2 hv (by omega)).mono ?_
    rintro e W3 ⟨x, rfl, hfr⟩
    obtain ⟨a3, n3, c3, rfl, -⟩ := hfr.1.shape2
    have HF := hide (put_fresh HW2.out HO2.out hfr)
    clear hfr
    go_wp2
    go_ret
    rw [HE.out]
    exact HF.out
  by_cases h4 : j = 4
  · subst h4
    have HE : Hid (en 4 v ys = vb v) := rfl
    go_enter Try.func12, Try.ntmps12
    go_wp2_with fail
    refine (wvarint_any p v zs _ HW1.out hv (by omega)).mono ?_
    rintro e W2 ⟨rfl, hw2, ho2⟩
    have bx := box_cell HW.out rfl ho2 1
    have HW2 := hide hw2
    have HO2 := hide (HO1.out.trans ho2)
    clear hw2 ho2
    go_wp2_with fail
    refine (ref_varint_any v W2 hv).mono ?_
    rintro e W3 ⟨x, rfl, hfr⟩
    obtain ⟨a3, n3, c3, rfl, -⟩ := hfr.1.shape2
    have HF := hide (put_fresh HW2.out HO2.out hfr)
    clear hfr
    go_wp2
    go_ret
    rw [HE.out]
    exact HF.out
  by_cases h5 : j = 5
  · subst h5
    have HE : Hid (en 5 v ys = vb (zz (s64 v))) := rfl
    have hs := s64_bd v
    have hsv : IntKind.i64.wrap (v : Int) = s64 v := rfl
    go_enter Try.func12, Try.ntmps12
    go_wp2_with fail
    refine (wsigned_any p (s64 v) zs _ HW1.out hs.1 hs.2 (by omega)).mono ?_
    rintro e W2 ⟨rfl, hw2, ho2⟩
    have bx := box_cell HW.out rfl ho2 1
    have HW2 := hide hw2
    have HO2 := hide (HO1.out.trans ho2)
    clear hw2 ho2
    go_wp2_with fail
    refine (ref_zigzag_any (s64 v) W2 hs.1 hs.2).mono ?_
    rintro e W3 ⟨rfl, rfl⟩
    go_wp2_with fail
    refine (ref_varint_any (zz (s64 v)) _ (zz_lt _ hs.1 hs.2)).mono ?_
    rintro e W3 ⟨x, rfl, hfr⟩
    obtain ⟨a3, n3, c3, rfl, -⟩ := hfr.1.shape2
    have HF := hide (put_fresh HW2.out HO2.out hfr)
    clear hfr
    go_wp2
    go_ret
    rw [HE.out]
    exact HF.out
  by_cases h6 : j = 6
  · subst h6
    have HE : Hid (en 6 v ys = ys) := rfl
    have HL1 := HL.out
    go_enter Try.func12, Try.ntmps12
    go_wp2_with fail
    refine (wraw_any p a n c zs ys _ HW1.out HL.out HN.out (HR.out.below HB1.out) (by omega)).mono ?_
    rintro e W2 ⟨rfl, hw2, ho2⟩
    have bx := box_cell HW.out rfl ho2 3
    have HW2 := hide hw2
    have HO2 := hide (HO1.out.trans ho2)
    have HR3 : Hid (Row W2 a2 ys) := by
      rcases HAp.out with hap | hap
      · exact .inl hap
      rcases HR2.out with h | ⟨b, off, rfl, hlt, hc⟩
      · exact .inl h
      · exact .inr ⟨b, off, rfl, Nat.lt_of_lt_of_le hlt HO2.out.size, fun i hi => (World.cell?_of_block (a := ⟨b, off + i, none⟩) (HO2.out.block b hlt (hap _ rfl))).trans (hc i hi)⟩
    clear hw2 ho2
    go_wp2
    go_ret
    rw [HE.out]
    exact ⟨a2, n2, c2, rfl, HL2.out, HN2.out, HR3.out, HW2.out, HO2.out⟩
  · have h7 : j = 7 := by omega
    subst h7
    have HE : Hid (en 7 v ys = vb ys.length ++ ys) := rfl
    have HS : Hid (sb (bk ys) = ys) := sb_bk ys HBy.out
    have HZ : Hid ((bk ys).size = ys.length) := by rw [Hid, ← sb_len, HS.out]
    have hz2 : (bk ys).size ≤ 1000000 := by rw [HZ.out, HL2.out]; exact hsz2
    have hcv := run_text _ a2 n2 c2 ys HL2.out HN2.out (HR2.out.below HB1.out) HBy.out
    go_enter Try.func12, Try.ntmps12
    go_wp2_with fail
    refine (wtext_any p (bk ys) zs _ HW1.out hz2 (by omega)).mono ?_
    rintro e W2 ⟨rfl, hw2, ho2⟩
    have bx := box_cell HW.out rfl ho2 3
    rw [HS.out, HZ.out] at hw2
    have HW2 := hide hw2
    have HO2 := hide (HO1.out.trans ho2)
    have HR3 : Hid (Row W2 a2 ys) := by
      rcases HAp.out with hap | hap
      · exact .inl hap
      rcases HR2.out with h | ⟨b, off, rfl, hlt, hc⟩
      · exact .inl h
      · exact .inr ⟨b, off, rfl, Nat.lt_of_lt_of_le hlt HO2.out.size, fun i hi => (World.cell?_of_block (a := ⟨b, off + i, none⟩) (HO2.out.block b hlt (hap _ rfl))).trans (hc i hi)⟩
    have hcv2 := run_text W2 a2 n2 c2 ys HL2.out HN2.out HR3.out HBy.out
    clear hw2 ho2 hcv
    go_wp2_with fail
    refine (ref_text_any (bk ys) W2 hz2).mono ?_
    rintro e W3 ⟨x, rfl, hfr⟩
    obtain ⟨a3, n3, c3, rfl, -⟩ := hfr.1.shape2
    rw [HS.out, HZ.out] at hfr
    have HF := hide (put_fresh HW2.out HO2.out hfr)
    clear hfr
    go_wp2
    go_ret
    rw [HE.out]
    exact HF.out
end Go.Proofs.Ytobkmjkcbihfbaa
