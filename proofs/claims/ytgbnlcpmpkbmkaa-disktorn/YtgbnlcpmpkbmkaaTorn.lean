/- The Go function DiskTorn answers true for all bytes and all that is kept, and leaves what is kept as it was: a page whose write was under way when the power went has in each of its sectors what it had, or what was written. No condition. -/
import Derived.Test.YtgbnlcpmpkbmkaaDV
import Derived.Test.YtgbnlcpmpkbmkaaDW
import Derived.Deep.RegionHeld3
namespace Go.Proofs.Ytgbnlcpmpkbmkaa.Torn
open Go.ChangeShapes Go.WideShapes Go.ChangeAt Go.RowKit
set_option linter.unusedVariables false

set_option maxHeartbeats 6400000 in
set_option maxRecDepth 1000000 in
theorem walk (o n : Int) (ka : Option Addr) (kc : Nat) (bs : List Bool) (w : World) (hbo : 0 ≤ o ∧ o ≤ 255) (hbn : 0 ≤ n ∧ n ≤ 255) (hbr : BRow w ka bs) (hbl : bs.length ≤ 9223372036854775807) :
    Calls Try.prog 8 #[.int .u8 o, .int .u8 n, .slice ka bs.length kc] w fun e w' => e = .returned (.bool true) ∧ Below w.heap.size w w' := by
  have HLt := hide hbr.lt
  have HBr : Hid (∀ W, Below w.heap.size w W → BRow W ka bs) := fun W hb => hbr.below hb HLt.out
  clear hbr
  go_enter Try.func8, Try.ntmps8
  go_wp2_with fail
  refine (new_at 2 2 w rfl (by omega) (by omega)).mono ?_
  rintro e w1 ⟨O1, p, q, rfl, hd, hf⟩
  have HD1 : Hid (DkAt w1 p q K0 O1) := hd
  have HF1 := hide hf
  clear hd hf
  go_wp2_with fail
  refine (known_any w1).mono ?_
  rintro e w2 ⟨rfl, hb⟩
  have HD2 := hide (HD1.out.below hb)
  have HF2 := hide (HF1.out.on hb)
  clear hb HD1 HF1
  go_wp2_with fail
  refine (filled_at 1024 1024 o w2 rfl (by omega)).mono ?_
  rintro e w3 ⟨rfl, hrow, hlt, hb⟩
  have HR3 := hide hrow
  have hlt3 := hlt
  have HNo : Hid (¬ O1 w2.heap.size) := fun h => by have := HD2.out.lt _ h; omega
  have HD3 := hide (HD2.out.below hb)
  have HF3 := hide (HF2.out.on hb)
  clear hrow hlt hb HF2
  go_wp2_with fail
  refine (write_ok p q O1 K0 1 1 w2.heap.size 1024 o 8 w3 HD3.out rfl hbo HNo.out HR3.out hlt3 (by rw [k0.2.1]; omega) (by rw [k0.2.1]) (by omega) (by rw [k0.2.2.1]; omega) (by rw [k0.2.2.2]; omega) k0.1).mono ?_
  rintro e w4 ⟨rfl, O4, hd, hg⟩
  have HD4 : Hid (DkAt w4 p q (T1 o) O4) := hd
  have HF4 := hide (HF3.out.go hg)
  clear hd hg HR3 hlt3 HNo HD3 HF3 HD2
  go_wp2_with fail
  refine (sync_ok p q O4 (T1 o) w4 HD4.out (by rw [(t1 o).2]; omega) (t1 o).1).mono ?_
  rintro e w5 ⟨rfl, O5, hd, hg⟩
  have HD5 : Hid (DkAt w5 p q (T2 o) O5) := hd
  have HF5 := hide (HF4.out.go hg)
  clear hd hg HD4 HF4
  go_wp2_with fail
  refine (filled_at 1024 1024 n w5 rfl (by omega)).mono ?_
  rintro e w6 ⟨rfl, hrow, hlt, hb⟩
  have HR6 := hide hrow
  have hlt6 := hlt
  have HNo : Hid (¬ O5 w5.heap.size) := fun h => by have := HD5.out.lt _ h; omega
  have HD6 := hide (HD5.out.below hb)
  have HF6 := hide (HF5.out.on hb)
  clear hrow hlt hb HF5
  go_wp2_with fail
  refine (write_ok p q O5 (T2 o) 1 1 w5.heap.size 1024 n 8 w6 HD6.out rfl hbn HNo.out HR6.out hlt6 (by rw [(t2 o).2.1]; omega) (by rw [(t2 o).2.1]) (by omega) (by rw [(t2 o).2.2.1]; omega) (by rw [(t2 o).2.2.2]; omega) (t2 o).1).mono ?_
  rintro e w7 ⟨rfl, O7, hd, hg⟩
  have HD7 : Hid (DkAt w7 p q (T3 o n) O7) := hd
  have HF7 := hide (HF6.out.go hg)
  clear hd hg HR6 hlt6 HNo HD6 HF6 HD5
  have HBk := hide (HBr.out w7 HF7.out.below)
  go_wp2_with fail
  refine (cut_any p q O7 (T3 o n) ka kc bs w7 HD7.out HBk.out (fun h0 ad e ho => by have h1 := HLt.out h0 ad e; have h2 := HF7.out.own _ ho; omega) (fun h0 ad e => Nat.lt_of_lt_of_le (HLt.out h0 ad e) HF7.out.size) hbl).mono ?_
  rintro e w8 ⟨rfl, O8, hd, hg⟩
  have HD8 : Hid (DkAt w8 p q (T4 o n bs) O8) := hd
  have HF8 := hide (HF7.out.go hg)
  clear hd hg HD7 HF7 HBk
  go_wp2_with fail
  refine (read_ok p q O8 (T4 o n bs) 1 1 w8 HD8.out rfl (by rw [(t4 o n bs).2.1]; omega) (by rw [(t4 o n bs).2.2]; omega) (t4 o n bs).1).mono ?_
  rintro e w9 ⟨vx, rfl, hown, hap, hnew, hd, hg⟩
  obtain ⟨xa, xc, rfl⟩ := own_page hown (rd_len HD8.out.good 8 8 (by rw [(t4 o n bs).2.1]; omega))
  have HF9 := hide (HF8.out.go hg)
  have HO9 := hide hown
  have hxc := own_cap hown
  have hxm := own_capm hown
  have HX : Hid (∀ i, i < 8 → sec (rd (T4 o n bs) 8 8) i = List.replicate 128 (if kp bs i = true then n else o)) := fun i hi => by rw [sec_rd HD8.out.good 8 8 (by rw [(t4 o n bs).2.1]; omega) i hi, torn o n bs i hi]
  have HRl := hide (rd_len' o n bs HD8.out)
  clear hown hap hnew hd hg HD8 HF8
  go_wp2
  have HFr9 : Hid (Fr w.heap.size w w9) := ⟨HF9.out.below, HF9.out.size⟩
  go_loopw [11] (fun i wr' => ∃ k : Nat, k ≤ 8 ∧ i = .int .i64 (k : Int) ∧ Own wr' (.slice (some ⟨xa, 0, none⟩) 1024 xc) (rd (T4 o n bs) 8 8) ∧ Fr w.heap.size w wr') (fun i _ => 8 - (intOf i).toNat)
  case atStart => exact ⟨0, by omega, rfl, HO9.out, HFr9.out⟩
  case round =>
    obtain ⟨k, hk, rfl, hown, hfr⟩ := hrel
    have HO := hide hown
    have HFr := hide hfr
    clear hown hfr
    by_cases hlt : k < 8
    · have HRw : Hid (Row wr (some ⟨xa, 128 * k, none⟩) (List.replicate 128 (if kp bs k = true then n else o))) := by
        rw [← HX.out k hlt]
        have := (own_row HO.out).cut k hlt HRl.out
        rw [Nat.mul_comm 128 k]
        exact this
      obtain ⟨c, HC⟩ : ∃ c : Int, Hid (c = if kp bs k = true then n else o) := ⟨_, rfl⟩
      rw [← HC.out] at HRw
      have hx1 : IntKind.i64.wrap (128 * (k : Int)) = 128 * (k : Int) := by rw [IntKind.wrap_i64]; omega
      have hx2 : IntKind.i64.wrap (128 * (k : Int) + 128) = 128 * (k : Int) + 128 := by rw [IntKind.wrap_i64]; omega
      have hA1 : (0 : Int) ≤ 128 * (k : Int) := by omega
      have hA2 : 128 * (k : Int) ≤ 128 * (k : Int) + 128 := by omega
      have hA3 : 128 * (k : Int) + 128 ≤ (xc : Int) := by omega
      have hA4 : (0 : Int) ≤ 128 * (k : Int) + 128 := by omega
      have HSm : Hid (∀ W g, Row W (some ⟨xa, 128 * k, none⟩) (List.replicate 128 c) → Row W (some ⟨g, 0, none⟩) (List.replicate 128 c) → Calls Try.prog 21 #[.slice (some ⟨xa, (128 * (k : Int)).toNat, none⟩) ((128 * (k : Int) + 128).toNat - (128 * (k : Int)).toNat) (xc - (128 * (k : Int)).toNat), .slice (some ⟨g, 0, none⟩) 128 128] W fun e w' => e = .returned (.bool true) ∧ Below W.heap.size W w') := fun W g h1 h2 => by
        rw [show (128 * (k : Int)).toNat = 128 * k by omega, show (128 * (k : Int) + 128).toNat - 128 * k = 128 by omega]
        have := sameb_any (some ⟨xa, 128 * k, none⟩) (some ⟨g, 0, none⟩) 128 128 (xc - 128 * k) 128 _ _ W (by simp) (by simp) (by omega) (by omega) h1 h2
        rwa [sameB_self] at this
      have HFl := hide (fun W => filled_at 128 128 c W rfl (by omega))
      by_cases hkb : k < bs.length
      · have hkd : decide (k < bs.length) = true := by simp [hkb]
        obtain ⟨b0, of0, rfl, hcell⟩ := brow_at (HBr.out wr HFr.out.below) hkb
        cases hkp : kp bs k
        · have hc : c = o := by rw [HC.out, hkp]; rfl
          subst hc
          rw [hkp] at hcell
          clear HC
          go_wp2
          go_region_held3 (fun W => True) (trivial) ((first | (go_at_call 23; refine (HFl.out _).mono ?_; intro r' w11 hh; obtain ⟨rfl, hrow, hl, hb⟩ := hh; have HR2 := hide hrow; have HFr2 := hide ((HFr.out.on (Below.refl _ _).drew).on hb); have HO2 := hide ((HO.out.on (Below.refl _ _).drew).on hb); have HRw2 := hide ((HRw.out.below (Below.refl _ _).drew).below hb); clear hrow hl hb) | (go_at_call 21; refine (HSm.out _ _ HRw2.out HR2.out).mono ?_; intro r' w12 hh; obtain ⟨rfl, hb⟩ := hh; have HFr3 := hide (HFr2.out.on hb); have HO3 := hide (HO2.out.on hb); clear hb)))
          go_wp2
          go_roundw
          case rel => exact ⟨k + 1, by omega, by go_num, HO3.out, HFr3.out⟩
          case measure => simp [intOf]; omega
          
        · have hc : c = n := by rw [HC.out, hkp]; rfl
          subst hc
          rw [hkp] at hcell
          clear HC
          go_wp2
          go_region_held3 (fun W => True) (trivial) ((first | (go_at_call 23; refine (HFl.out _).mono ?_; intro r' w11 hh; obtain ⟨rfl, hrow, hl, hb⟩ := hh; have HR2 := hide hrow; have HFr2 := hide ((HFr.out.on (Below.refl _ _).drew).on hb); have HO2 := hide ((HO.out.on (Below.refl _ _).drew).on hb); have HRw2 := hide ((HRw.out.below (Below.refl _ _).drew).below hb); clear hrow hl hb) | (go_at_call 21; refine (HSm.out _ _ HRw2.out HR2.out).mono ?_; intro r' w12 hh; obtain ⟨rfl, hb⟩ := hh; have HFr3 := hide (HFr2.out.on hb); have HO3 := hide (HO2.out.on hb); clear hb)))
          go_wp2
          go_roundw
          case rel => exact ⟨k + 1, by omega, by go_num, HO3.out, HFr3.out⟩
          case measure => simp [intOf]; omega
          
      · have hkd : decide (k < bs.length) = false := by simp; omega
        have hc : c = o := by rw [HC.out, kp_out bs k (by omega)]; rfl
        subst hc
        clear HC
        go_wp2
        go_region_held3 (fun W => True) (trivial) ((first | (go_at_call 23; refine (HFl.out _).mono ?_; intro r' w11 hh; obtain ⟨rfl, hrow, hl, hb⟩ := hh; have HR2 := hide hrow; have HFr2 := hide ((HFr.out.on (Below.refl _ _).drew).on hb); have HO2 := hide ((HO.out.on (Below.refl _ _).drew).on hb); have HRw2 := hide ((HRw.out.below (Below.refl _ _).drew).below hb); clear hrow hl hb) | (go_at_call 21; refine (HSm.out _ _ HRw2.out HR2.out).mono ?_; intro r' w12 hh; obtain ⟨rfl, hb⟩ := hh; have HFr3 := hide (HFr2.out.on hb); have HO3 := hide (HO2.out.on hb); clear hb)))
        go_wp2
        go_roundw
        case rel => exact ⟨k + 1, by omega, by go_num, HO3.out, HFr3.out⟩
        case measure => simp [intOf]; omega
        
    · have e : k = 8 := by omega
      subst e
      go_wp2
      go_ret
      exact ⟨rfl, HFr.out.below⟩
set_option maxHeartbeats 1600000 in
set_option maxRecDepth 100000 in
theorem lifted (os : Os) (started : os.Started) (H : Type) (enc : TypeId × Value → H) :
    ReturnsInHanded {} Try.checked os 8 .any (Rows.diskTornSpec.pre6 enc Try.prog Try.f8 Rows.diskTornRow.domain false) (Rows.diskTornSpec.post enc Try.prog Try.f8 false true false false) := by
  refine returnsInHanded_of_change (C := Try.checked) own started (by kernel_rfl) Try.func8
    (ChangeSpec.witness6 (enc := enc) (C := Try.checked) false ⟨#[], #[.int .u8 0, .int .u8 0, .slice none 0 0], []⟩ 8 (by kernel_rfl) (by kernel_rfl) (by kernel_rfl) (by kernel_rfl)) ?_
  intro W base args ds gs before hval0 hW hcnd _
  have hval : ∀ (j : Nat) t v, Try.f8.params[j]? = some t → args[j]? = some v → Value.okWide Try.prog W .any base t v := hval0
  have hW' := hW
  obtain ⟨p, q, hA0, hV, rfl, hfz, hnd⟩ := hW
  have hA : DataW.TrodAll enc Try.prog W 0 (fun _ => true) true Try.f8.params.toList args.toList ds p := hA0
  rw [Try.params8] at hA hval
  obtain ⟨v0, vs0, d0, ds0, p0, q0, hargs, rfl, rfl, h0, r0⟩ := trodAll_cons hA
  obtain ⟨v1, vs1, d1, ds1, p1, q1, rfl, rfl, rfl, h1, r1⟩ := trodAll_cons r0
  obtain ⟨v2, vs2, d2, ds2, p2, q2, rfl, rfl, rfl, h2, r2⟩ := trodAll_cons r1
  obtain ⟨rfl, rfl, rfl⟩ := trodAll_nil r2
  obtain rfl : args = #[v0, v1, v2] := by cases args; simp_all
  obtain ⟨rfl, rfl⟩ := trodVars_none hV
  obtain ⟨a0, rfl, rfl, rfl, w0⟩ := open_int Try.underlying5 (hval 0 5 v0 rfl rfl) h0
  obtain ⟨a1, rfl, rfl, rfl, w1⟩ := open_int Try.underlying5 (hval 1 5 v1 rfl rfl) h1
  obtain ⟨a2, len2, cap2, rfl⟩ := okWide_slice Try.underlying72 (hval 2 72 v2 rfl rfl)
  have k2 := h2
  have lt2 : ∀ x ∈ p2, x.block < W.heap.size := by obtain ⟨m, hm⟩ := k2; exact DataW.trod_lt m _ _ _ hm
  obtain ⟨da2, dc2, dd2, e2, m2, n2⟩ : ∃ da dc, ∃ ds : List Bool, Value.slice a2 len2 cap2 = .slice da ds.length dc ∧ BRow W da ds ∧ ds.length ≤ 9223372036854775807 := by
    obtain ⟨fuel, hf⟩ := h2
    exact read_bools fuel _ _ hf
  cases e2
  clear hA0 hval0
  have hwk := walk a0 a1 a2 cap2 dd2 W (bounds_u8 w0) (bounds_u8 w1) m2 n2
  refine hwk.mono fun e W' ⟨he, bel⟩ => ?_
  subst he
  exact ⟨_, rfl, _, _, _, [], _, [], hW', trodAll_mk1 (shut_bool Try.underlying4 _), (trodAll_cons_mk (shut_int Try.underlying5 w0) (trodAll_cons_mk (shut_int Try.underlying5 w1) (trodAll_cons_mk (Below.trod laidOut (by kernel_rfl) (of_decide_eq_true (by kernel_rfl)) k2 bel lt2) trodAll_mk0))), rfl, bel.frame _, fun h => by cases h⟩

theorem over : Rows.diskTornRow.holds Try.pinned (OpenSpec.ofChange Rows.diskTornSpec) :=
  OpenClaim.holds_of_wide 8 Try.f8 rfl rfl rfl rfl rfl rfl rfl ⟨rfl, rfl, rfl, rfl, rfl⟩ rfl rfl rfl rfl rfl (by kernel_rfl) Try.func8 (by kernel_rfl)
    (of_decide_eq_true (by kernel_rfl)) (by unfold Func.isWrapper; first | (rw [if_pos (by decide +kernel)]; kernel_rfl) | (rw [if_neg (by decide +kernel)]; exact ⟨rfl, rfl⟩))
    (fun os started H enc _ => lifted os started H enc)

end Go.Proofs.Ytgbnlcpmpkbmkaa.Torn
namespace Go.Proofs.Ytgbnlcpmpkbmkaa
theorem diskTorn_holds : Rows.DiskTornSaid := Torn.over
#print axioms diskTorn_holds
end Go.Proofs.Ytgbnlcpmpkbmkaa
