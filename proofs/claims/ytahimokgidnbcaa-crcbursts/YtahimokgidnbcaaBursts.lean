/- The Go function CrcBursts answers true for every bytes, place and change that are handed in, and leaves the bytes as they were: any change within 32 bits that stand in a row changes the sum. No condition. -/
import Derived.Test.YtahimokgidnbcaaF
import Derived.Test.YtahimokgidnbcaaBM
import Derived.Deep.AppendLies
namespace Go.Proofs.Ytahimokgidnbcaa.Bursts
open Go.ChangeShapes Go.WideShapes Go.ChangeAt Go.RowKit
open Go.ChangeMaps (open_string shut_string)
set_option linter.unusedVariables false

theorem and_bit (C k : Nat) (hC : C < 4294967296) : C.testBit k = true ↔ bits .and .u32 ((C : Int) / 2 ^ k) 1 = 1 := by
  have e : ((C : Int) / 2 ^ k) = ((C / 2 ^ k : Nat) : Int) := by simp
  have hd : C / 2 ^ k < 4294967296 := Nat.lt_of_le_of_lt (Nat.div_le_self _ _) hC
  rw [e, and1 _ hd, Nat.testBit_eq_decide_div_mod_eq]
  simp; omega

theorem and_bit0 (C k : Nat) (hC : C < 4294967296) (h : ¬ C.testBit k = true) : bits .and .u32 ((C : Int) / 2 ^ k) 1 = 0 := by
  have e : ((C : Int) / 2 ^ k) = ((C / 2 ^ k : Nat) : Int) := by simp
  have hd : C / 2 ^ k < 4294967296 := Nat.lt_of_le_of_lt (Nat.div_le_self _ _) hC
  rw [Nat.testBit_eq_decide_div_mod_eq] at h
  rw [e, and1 _ hd]
  simp at h
  omega
theorem flip_is (c : Int) (hc : 0 ≤ c ∧ c ≤ 255) (t : Nat) (ht : t < 8) : (bits .xor .u8 c (2 ^ t % 256)).toNat = c.toNat ^^^ 2 ^ t ∧ 0 ≤ bits .xor .u8 c (2 ^ t % 256) ∧ bits .xor .u8 c (2 ^ t % 256) ≤ 255 := by
  have hp : 2 ^ t < 2 ^ 8 := Nat.pow_lt_pow_right (by omega) ht
  have e : ((2 : Int) ^ t % 256) = ((2 ^ t : Nat) : Int) := by
    have e0 : ((2 : Int) ^ t) = ((2 ^ t : Nat) : Int) := by simp
    rw [e0]
    generalize (2 : Nat) ^ t = p at *
    omega
  have hx : c.toNat ^^^ 2 ^ t < 2 ^ 8 := Nat.xor_lt_two_pow (by omega) hp
  rw [e]
  generalize (2 : Nat) ^ t = p at *
  rw [u8_xor c _ hc.1 (by omega) (by omega) (by omega), Int.toNat_natCast, Int.toNat_natCast]
  omega
theorem byts_set {xs : List Int} (h : Byts xs) (j : Nat) (v : Int) (hv : 0 ≤ v ∧ v ≤ 255) : Byts (xs.set j v) := by
  intro c hc
  rcases List.mem_or_eq_of_mem_set hc with h1 | rfl
  · exact h c h1
  · exact hv
theorem ret_bool {a b : Bool} (h : a = b) : Ending.returned (.bool a) = .returned (.bool b) := by rw [h]
theorem last_is (xs zs : List Int) (F E : Nat) (T : Bool) (hl : xs.length = zs.length) (hF : F ≤ 8 * zs.length) (hE : E < 2 ^ 32) (hn : Crc.num xs = Crc.num zs ^^^ 2 ^ F * E) (hT : T = true ↔ E ≠ 0) :
    ((((Crc.more 0 xs : Nat) : Int) != ((Crc.more 0 zs : Nat) : Int)) == T) = true := by
  have h := Crc.burst xs zs F E hl hF (by omega) hn
  by_cases e : E = 0
  · have h1 := h.2 e
    have h2 : T = false := by cases T <;> simp_all
    rw [h1, h2]; simp
  · have h1 : ¬ Crc.more 0 xs = Crc.more 0 zs := fun x => e (h.1 x)
    have h2 : T = true := hT.2 e
    rw [h2]
    simp
    omega

set_option maxHeartbeats 1600000 in
theorem walk_body (b off len cap : Nat) (at1 : Int) (C : Nat) (zs : List Int) (w : World) (h1 : 0 < len) (hbig : len ≤ 100000) (hlc : len ≤ cap) (hcm : cap ≤ 9223372036854775807) (hC : C < 4294967296) (hat : -9223372036854775808 ≤ at1 ∧ at1 ≤ 9223372036854775807)
    (hl : zs.length = len) (hr : Row w (some ⟨b, off, none⟩) zs) (hby : Byts zs) :
    Calls Try.prog 6 #[.slice (some ⟨b, off, none⟩) len cap, .int .i64 at1, .int .u32 (C : Int)] w fun e w' => e = .returned (.bool true) ∧ Below w.heap.size w w' := by
  obtain ⟨i0, hi, hz0, hz1, hz2⟩ := info_parts Try.info5
  have R0 := hide hr
  have B0 := hide hby
  have L0 := hide hl
  clear hr hby hl
  have hne : ((len : Int) == 0) = false := by simp; omega
  have hne8 : ((8 * (len : Int)) == 0) = false := by simp; omega
  have key : (∃ F : Nat, F < 8 * len ∧ at1.tmod (8 * (len : Int)) = (F : Int)) ∨ (∃ (F : Nat) (t : Int), F < 8 * len ∧ t < 0 ∧ -9223372036854775808 ≤ t ∧ at1.tmod (8 * (len : Int)) = t ∧ t + 8 * (len : Int) = (F : Int)) := by
    have h2 : (at1.tmod (8 * (len : Int))).natAbs < 8 * len := by
      rw [Int.natAbs_tmod]
      have e : (8 * (len : Int)).natAbs = 8 * len := by omega
      rw [e]; exact Nat.mod_lt _ (by omega)
    generalize at1.tmod (8 * (len : Int)) = t at *
    by_cases ht : 0 ≤ t
    · exact .inl ⟨t.toNat, by omega, by omega⟩
    · exact .inr ⟨(t + 8 * (len : Int)).toNat, t, by omega, by omega, by omega, rfl, by omega⟩
  rcases key with ⟨F, hF, htm⟩ | ⟨F, t, hF, ht0, ht1, htm, htF⟩
  all_goals
    go_enter Try.func6, Try.ntmps6
    go_wp2_with (at_builtin; refine wpList_append_lies _ (by rfl) (.tmp 33) (.tmp 34) 23 (by rfl) w.heap.size 5 i0 (.int .u8 0) 1 1 Try.underlying23 hi hz0 hz1 hz2 rfl (by omega) (.slice none 0 0) 0 [] (by rfl) (World.ownsRow_nil _ _ _ _) ⟨b, off, none⟩ len cap (zs.map (Value.int .u8)) (by rfl) (by have := L0.out; simp [this]) (R0.out.news _ rfl) (ints_oneCell _ _) h1 (by unfold maxLen; omega) (by omega) (Nat.le_refl _) w.heap.size rfl ?_; intro g cap2 w1 hown1 hgrow1 hat1 hlt1)
    simp only [Nat.zero_add, List.nil_append] at hown1
    have hb1 : Below w.heap.size w w1 := (Below.refl w.heap.size w).grown hgrow1 (Nat.le_refl _) (fun k hk => by cases hk)
    have hg : w.heap.size ≤ g := by
      rcases hat1 with h | h
      · cases h
      · omega
    clear hgrow1 hat1 hlt1
    have HO := hide hown1
    have HB := hide hb1
    clear hown1 hb1
    go_loopw [9, 10] (fun tn i wr => ∃ (k : Nat) (xs : List Int) (T : Bool), k ≤ 32 ∧ i = .int .i64 k ∧ tn = .bool T ∧ (T = true ↔ Crc.eff C F (8 * len) k ≠ 0) ∧ xs.length = len ∧ Byts xs ∧ Crc.num xs = Crc.num zs ^^^ 2 ^ F * Crc.eff C F (8 * len) k ∧ wr.ownsRow w.heap.size 5 1 (.slice (some ⟨g, 0, none⟩) len cap2) len (xs.map (Value.int .u8)) ∧ Below w.heap.size w wr) (fun _ i _ => 32 - (intOf i).toNat)
    case atStart => exact ⟨0, zs, false, Nat.zero_le _, rfl, rfl, by simp [Crc.eff], L0.out, B0.out, by simp [Crc.eff], HO.out, HB.out⟩
    case round =>
      clear HO HB
      obtain ⟨k, xs, T, hk, rfl, rfl, hT, hxl, hxb, hxn, hown, hbel⟩ := hrel
      have HT := hide hT
      clear hT
      have XL := hide hxl
      have XB := hide hxb
      have XN := hide hxn
      have HO := hide hown
      have HB := hide hbel
      clear hxl hxb hxn hown hbel
      by_cases hlt : k < 32
      · by_cases hyes : C.testBit k = true ∧ F + k < 8 * len
        · have e1 : bits .and .u32 ((C : Int) / 2 ^ k) 1 = 1 := (and_bit C k hC).1 hyes.1
          have e2 : (F : Int) + (k : Int) < 8 * (len : Int) := by have := hyes.2; omega
          have hj : (F + k) / 8 < xs.length := by have := XL.out; omega
          have g1 : wr.cell? ⟨g, (F + k) / 8, none⟩ = some (.int .u8 (xs.getD ((F + k) / 8) 0)) := by
            rw [HO.out.cellAt ((F + k) / 8) (by omega)]; simp [hj]
          have g2 := HO.out.frozenAt ((F + k) / 8)
          have d1 := XB.out.at ((F + k) / 8)
          generalize hcc : xs.getD ((F + k) / 8) 0 = c at *
          have HC := hide hcc
          have HY := hide hyes
          clear hcc hyes
          go_wp2
          go_roundw
          case rel =>
            have hv := flip_is c d1 ((F + k) % 8) (Nat.mod_lt _ (by omega))
            generalize bits BinOp.xor IntKind.u8 c (2 ^ ((F + k) % 8) % 256) = v at *
            exact ⟨k + 1, xs.set ((F + k) / 8) v, true, by omega, by go_num, rfl, ⟨fun _ => Crc.eff_ne C F (8 * len) k HY.out.1 HY.out.2, fun _ => rfl⟩, by rw [List.length_set]; exact XL.out, byts_set XB.out _ v hv.2,
              by rw [Crc.eff_yes C F (8 * len) k HY.out.1 HY.out.2]; exact Crc.num_round xs zs F k _ ((F + k) / 8) ((F + k) % 8) v hj (by omega) XN.out (by rw [HC.out]; exact hv.1),
              by rw [List.map_set]; exact (HO.out.stored _ _).1, HB.out.setCell hg _⟩
          case measure => simp [intOf]; omega
        · have HE := hide (Crc.eff_no C F (8 * len) k hyes)
          have hw : bits .and .u32 ((C : Int) / 2 ^ k) 1 = 0 ∨ (bits .and .u32 ((C : Int) / 2 ^ k) 1 = 1 ∧ 8 * (len : Int) ≤ (F : Int) + (k : Int)) := by
            by_cases hb : C.testBit k = true
            · exact .inr ⟨(and_bit C k hC).1 hb, by have : ¬ F + k < 8 * len := fun h => hyes ⟨hb, h⟩; omega⟩
            · exact .inl (and_bit0 C k hC hb)
          clear hyes
          rcases hw with e1 | ⟨e1, e2⟩
          all_goals
            go_wp2
            go_roundw
            case rel => exact ⟨k + 1, xs, T, by omega, by go_num, rfl, by rw [HE.out]; exact HT.out, XL.out, XB.out, by rw [HE.out]; exact XN.out, HO.out, HB.out⟩
            case measure => simp [intOf]; omega
      · obtain rfl : k = 32 := by omega
        have rx := hide (row_of_owns HO.out)
        have rb := hide (R0.out.below HB.out)
        have hfin := hide (last_is xs zs F (Crc.eff C F (8 * len) 32) T (by rw [XL.out, L0.out]) (by rw [L0.out]; omega) (Crc.eff_lt _ _ _ _) XN.out HT.out)
        clear HT XN
        go_wp2_with fail
        refine (known_any _).mono ?_
        rintro e w2 ⟨rfl, hb2⟩
        have rx2 := hide (rx.out.below hb2)
        have rb2 := hide (rb.out.below hb2)
        have HB2 := hide (HB.out.trans (hb2.mono HB.out.size))
        clear hb2
        go_wp2_with fail
        refine (sum_any _ len cap2 xs _ XL.out (by omega) rx2.out XB.out).mono ?_
        rintro e w3 ⟨rfl, hb3⟩
        have rb3 := hide (rb2.out.below hb3)
        have HB3 := hide (HB2.out.trans (hb3.mono HB2.out.size))
        clear hb3
        go_wp2_with fail
        refine (sum_any _ len cap zs _ L0.out (by omega) rb3.out B0.out).mono ?_
        rintro e w4 ⟨rfl, hb4⟩
        have HB4 := hide (HB3.out.trans (hb4.mono HB3.out.size))
        clear hb4
        go_wp2
        go_ret
        exact ⟨ret_bool hfin.out, HB4.out⟩

set_option maxHeartbeats 800000 in
theorem walk (a0 : Option Addr) (len0 cap0 : Nat) (z0 : List Int) (a1 : Int) (a2 : Int) (w : World) (w0 : IsRow .u8 w a0 len0 cap0 z0) (w1 : (Lit.int .i64 a1).wf = true) (w2 : (Lit.int .u32 a2).wf = true) :
    Calls Try.prog 6 #[.slice a0 len0 cap0, .int .i64 a1, .int .u32 a2] w fun e w' => e = .returned (.bool true) ∧ Below w.heap.size w w' := by
  have b1 := bounds_i64 w1
  have b2 := bounds_u32 w2
  obtain ⟨C, rfl⟩ := Int.eq_ofNat_of_zero_le b2.1
  obtain ⟨hrow, hbyt, hlen, hlc, hcm, hnil⟩ := isrow_row w0
  generalize z0.take len0 = zs at *
  unfold maxLen at hcm
  clear w0 w1 w2 hnil
  by_cases h : 0 < len0 ∧ len0 ≤ 100000
  · rcases hrow with h0 | ⟨b, off, rfl, hlt, hc⟩
    · subst h0; simp at hlen; omega
    · exact walk_body b off len0 cap0 a1 C zs w h.1 h.2 hlc hcm (by omega) (by omega) hlen (.inr ⟨b, off, rfl, hlt, hc⟩) hbyt
  · clear hrow hbyt hlen
    have hw : len0 = 0 ∨ (((len0 : Int) == 0) = false ∧ (100000 : Int) < (len0 : Int)) := by
      by_cases h0 : len0 = 0
      · exact .inl h0
      · refine .inr ⟨by simp; omega, by omega⟩
    clear h
    rcases hw with rfl | ⟨h0, h1⟩
    all_goals
      go_enter Try.func6, Try.ntmps6
      go_wp2_with fail
      refine (known_any _).mono ?_
      rintro e w3 ⟨rfl, hb3⟩
      go_wp2
      go_ret
      exact ⟨rfl, hb3⟩

set_option maxRecDepth 100000 in
theorem lifted (os : Os) (started : os.Started) (H : Type) (enc : TypeId × Value → H) :
    ReturnsInHanded {} Try.checked os 6 .any (Rows.crcBurstsSpec.pre6 enc Try.prog Try.f6 Rows.crcBurstsRow.domain false) (Rows.crcBurstsSpec.post enc Try.prog Try.f6 false true false false) := by
  refine returnsInHanded_of_change (C := Try.checked) own started (by kernel_rfl) Try.func6
    (ChangeSpec.witness6 (enc := enc) (C := Try.checked) false ⟨#[], #[.slice none 0 0, .int .i64 0, .int .u32 0], []⟩ 8 (by kernel_rfl) (by kernel_rfl) (by kernel_rfl) (by kernel_rfl)) ?_
  intro W base args ds gs before hval0 hW hcnd _
  have hval : ∀ (j : Nat) t v, Try.f6.params[j]? = some t → args[j]? = some v → Value.okWide Try.prog W .any base t v := hval0
  have hW' := hW
  obtain ⟨p, q, hA0, hV, rfl, hfz, hnd⟩ := hW
  have hA : DataW.TrodAll enc Try.prog W 0 (fun _ => true) true Try.f6.params.toList args.toList ds p := hA0
  rw [Try.params6] at hA hval
  obtain ⟨v0, vs0, d0, ds0, p0, q0, hargs, rfl, rfl, h0, r0⟩ := trodAll_cons hA
  obtain ⟨v1, vs1, d1, ds1, p1, q1, rfl, rfl, rfl, h1, r1⟩ := trodAll_cons r0
  obtain ⟨v2, vs2, d2, ds2, p2, q2, rfl, rfl, rfl, h2, r2⟩ := trodAll_cons r1
  obtain ⟨rfl, rfl, rfl⟩ := trodAll_nil r2
  obtain rfl : args = #[v0, v1, v2] := by cases args; simp_all
  obtain ⟨rfl, rfl⟩ := trodVars_none hV
  obtain ⟨a0, len0, cap0, rfl⟩ := okWide_slice Try.underlying23 (hval 0 23 v0 rfl rfl)
  have k0 := h0
  have lt0 : ∀ x ∈ p0, x.block < W.heap.size := by obtain ⟨m, hm⟩ := k0; exact DataW.trod_lt m _ _ _ hm
  obtain ⟨z0, w0⟩ : ∃ zs, IsRow .u8 W a0 len0 cap0 zs := by
    obtain ⟨fuel, hf⟩ := h0
    rcases open_ints Try.underlying23 Try.underlying5 (by kernel_rfl) hf with ⟨hcs, _⟩ | ⟨x, l, c, zs, hcs, _, hl, hm, hz, _, hcell, hwz⟩
    · simp [Value.cells] at hcs
      obtain ⟨rfl, rfl, rfl⟩ := hcs
      exact ⟨[], .inl ⟨rfl, rfl, rfl, rfl⟩⟩
    · simp [Value.cells] at hcs
      obtain ⟨rfl, rfl, rfl⟩ := hcs
      exact ⟨zs, .inr ⟨_, rfl, hl, hm, by simpa using hz, hcell, hwz⟩⟩
  obtain ⟨a1, rfl, rfl, rfl, w1⟩ := open_int Try.underlying3 (hval 1 3 v1 rfl rfl) h1
  obtain ⟨a2, rfl, rfl, rfl, w2⟩ := open_int Try.underlying22 (hval 2 22 v2 rfl rfl) h2
  clear hA0 hval0
  refine (walk a0 len0 cap0 z0 a1 a2 W w0 w1 w2).mono fun e W' ⟨he, bel⟩ => ?_
  subst he
  exact ⟨_, rfl, _, _, _, [], _, [], hW', trodAll_mk1 (shut_bool Try.underlying4 _), (trodAll_cons_mk (Below.trod laidOut (by kernel_rfl) (of_decide_eq_true (by kernel_rfl)) k0 bel lt0) (trodAll_cons_mk (shut_int Try.underlying3 w1) (trodAll_cons_mk (shut_int Try.underlying22 w2) trodAll_mk0))), rfl, bel.frame _, fun h => by cases h⟩

theorem over : Rows.crcBurstsRow.holds Try.pinned (OpenSpec.ofChange Rows.crcBurstsSpec) :=
  OpenClaim.holds_of_wide 6 Try.f6 rfl rfl rfl rfl rfl rfl rfl ⟨rfl, rfl, rfl, rfl, rfl⟩ rfl rfl rfl rfl rfl (by kernel_rfl) Try.func6 (by kernel_rfl)
    (of_decide_eq_true (by kernel_rfl)) (by unfold Func.isWrapper; first | (rw [if_pos (by decide +kernel)]; kernel_rfl) | (rw [if_neg (by decide +kernel)]; exact ⟨rfl, rfl⟩))
    (fun os started H enc _ => lifted os started H enc)

end Go.Proofs.Ytahimokgidnbcaa.Bursts
namespace Go.Proofs.Ytahimokgidnbcaa
theorem crcBursts_holds : Rows.CrcBurstsSaid := Bursts.over
#print axioms crcBursts_holds
end Go.Proofs.Ytahimokgidnbcaa
