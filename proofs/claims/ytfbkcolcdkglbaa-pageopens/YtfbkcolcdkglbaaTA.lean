/- Bytes with some bits of 32 in a row turned. -/
import Derived.Test.YtfbkcolcdkglbaaFR
import Derived.Deep.AppendLies
namespace Go.Proofs.Ytfbkcolcdkglbaa
open Go.RowKit
set_option linter.unusedVariables false

theorem and_bit (C k : Nat) (hC : C < 4294967296) : C.testBit k = true ↔ bits .and .u32 ((C : Int) / 2 ^ k) 1 = 1 := by
  have e : ((C : Int) / 2 ^ k) = ((C / 2 ^ k : Nat) : Int) := by simp
  have hd : C / 2 ^ k < 4294967296 := Nat.lt_of_le_of_lt (Nat.div_le_self _ _) hC
  rw [e, and1 _ hd, Nat.testBit_eq_decide_div_mod_eq]
  simp; omega

theorem and_bit0 (C k : Nat) (hC : C < 4294967296) (h : ¬ C.testBit k = true) : bits .and .u32 ((C : Int) / 2 ^ k) 1 = 0 := by
  have e : ((C : Int) / 2 ^ k) = ((C / 2 ^ k : Nat) : Int) := by simp
  have hd : C / 2 ^ k < 4294967296 := Nat.lt_of_le_of_lt (Nat.div_le_self _ _) hC
  rw [Nat.testBit_eq_decide_div_mod_eq] at h
  rw [e, and1 _ hd]
  simp at h
  omega
theorem flip_is (c : Int) (hc : 0 ≤ c ∧ c ≤ 255) (t : Nat) (ht : t < 8) : (bits .xor .u8 c (2 ^ t % 256)).toNat = c.toNat ^^^ 2 ^ t ∧ 0 ≤ bits .xor .u8 c (2 ^ t % 256) ∧ bits .xor .u8 c (2 ^ t % 256) ≤ 255 := by
  have hp : 2 ^ t < 2 ^ 8 := Nat.pow_lt_pow_right (by omega) ht
  have e : ((2 : Int) ^ t % 256) = ((2 ^ t : Nat) : Int) := by
    have e0 : ((2 : Int) ^ t) = ((2 ^ t : Nat) : Int) := by simp
    rw [e0]
    generalize (2 : Nat) ^ t = p at *
    omega
  have hx : c.toNat ^^^ 2 ^ t < 2 ^ 8 := Nat.xor_lt_two_pow (by omega) hp
  rw [e]
  generalize (2 : Nat) ^ t = p at *
  rw [u8_xor c _ hc.1 (by omega) (by omega) (by omega), Int.toNat_natCast, Int.toNat_natCast]
  omega
theorem byts_set {xs : List Int} (h : Byts xs) (j : Nat) (v : Int) (hv : 0 ≤ v ∧ v ≤ 255) : Byts (xs.set j v) := by
  intro c hc
  rcases List.mem_or_eq_of_mem_set hc with h1 | rfl
  · exact h c h1
  · exact hv

/-- bytes with some bits of 32 in a row turned; whether there are such. -/
def TurnOut (zs : List Int) (w : World) (e : Ending) (w' : World) : Prop :=
  ∃ (xs : List Int) (v : Value) (T : Bool) (F E : Nat), e = .returned (.tuple #[v, .bool T]) ∧ Made w v xs w' ∧ xs.length = zs.length ∧ Byts xs ∧ F ≤ 8 * zs.length ∧ E < 4294967296 ∧ Crc.num xs = Crc.num zs ^^^ 2 ^ F * E ∧ (T = true ↔ E ≠ 0)

set_option maxHeartbeats 1600000 in
set_option maxRecDepth 1000000 in
theorem turned_any (a : Option Addr) (len cap : Nat) (at1 : Int) (C : Nat) (zs : List Int) (w : World) (hz : Inn w a len cap zs) (h1 : 0 < len) (hbig : len ≤ 100000) (hC : C < 4294967296) (hat : -9223372036854775808 ≤ at1 ∧ at1 ≤ 9223372036854775807) :
    Calls Try.prog 26 #[.slice a len cap, .int .i64 at1, .int .u32 (C : Int)] w fun e w' => TurnOut zs w e w' := by
  obtain ⟨i0, hi, hz0, hz1, hz2⟩ := info_parts Try.info5
  have R0 := hide hz.row
  have B0 := hide hz.byts
  have L0 := hide hz.len
  obtain ⟨b, off, rfl⟩ : ∃ b off, a = some ⟨b, off, none⟩ := by
    rcases hz.row with h | ⟨b, off, h, _⟩
    · have := hz.len; rw [h] at this; simp at this; omega
    · exact ⟨b, off, h⟩
  clear hz
  have hne8 : ((8 * (len : Int)) == 0) = false := by simp; omega
  have key : (∃ F : Nat, F < 8 * len ∧ at1.tmod (8 * (len : Int)) = (F : Int)) ∨ (∃ (F : Nat) (t : Int), F < 8 * len ∧ t < 0 ∧ -9223372036854775808 ≤ t ∧ at1.tmod (8 * (len : Int)) = t ∧ t + 8 * (len : Int) = (F : Int)) := by
    have h2 : (at1.tmod (8 * (len : Int))).natAbs < 8 * len := by
      rw [Int.natAbs_tmod]
      have e : (8 * (len : Int)).natAbs = 8 * len := by omega
      rw [e]; exact Nat.mod_lt _ (by omega)
    generalize at1.tmod (8 * (len : Int)) = t at *
    by_cases ht : 0 ≤ t
    · exact .inl ⟨t.toNat, by omega, by omega⟩
    · exact .inr ⟨(t + 8 * (len : Int)).toNat, t, by omega, by omega, by omega, rfl, by omega⟩
  rcases key with ⟨F, hF, htm⟩ | ⟨F, t, hF, ht0, ht1, htm, htF⟩
  all_goals
    go_enter Try.func26, Try.ntmps26
    go_wp2_with (at_builtin; refine wpList_append_lies _ (by rfl) (.tmp 25) (.tmp 26) 23 (by rfl) 0 5 i0 (.int .u8 0) 1 1 Try.underlying23 hi hz0 hz1 hz2 rfl (by omega) (.slice none 0 0) 0 [] (by rfl) (World.ownsRow_nil _ _ _ _) ⟨b, off, none⟩ len cap (zs.map (Value.int .u8)) (by rfl) (by have := L0.out; simp [this]) (R0.out.news _ rfl) (ints_oneCell _ _) h1 (by unfold maxLen; omega) (by omega) (Nat.zero_le _) w.heap.size rfl ?_; intro g cap2 w1 hown1 hgrow1 hat1 hlt1)
    simp only [Nat.zero_add, List.nil_append] at hown1
    have hb1 : Below w.heap.size w w1 := (Below.refl w.heap.size w).grown hgrow1 (Nat.le_refl _) (fun k hk => by cases hk)
    have hg : w.heap.size ≤ g := by
      rcases hat1 with h | h
      · cases h
      · omega
    clear hgrow1 hat1 hlt1
    have HO := hide hown1
    have HB := hide hb1
    clear hown1 hb1
    go_loopw [10, 11] (fun tn i wr => ∃ (k : Nat) (xs : List Int) (T : Bool), k ≤ 32 ∧ i = .int .i64 k ∧ tn = .bool T ∧ (T = true ↔ Crc.eff C F (8 * len) k ≠ 0) ∧ xs.length = len ∧ Byts xs ∧ Crc.num xs = Crc.num zs ^^^ 2 ^ F * Crc.eff C F (8 * len) k ∧ wr.ownsRow 0 5 1 (.slice (some ⟨g, 0, none⟩) len cap2) len (xs.map (Value.int .u8)) ∧ Below w.heap.size w wr) (fun _ i _ => 32 - (intOf i).toNat)
    case atStart => exact ⟨0, zs, false, Nat.zero_le _, rfl, rfl, by simp [Crc.eff], L0.out, B0.out, by simp [Crc.eff], HO.out, HB.out⟩
    case round =>
      clear HO HB
      obtain ⟨k, xs, T, hk, rfl, rfl, hT, hxl, hxb, hxn, hown, hbel⟩ := hrel
      have HT := hide hT
      clear hT
      have XL := hide hxl
      have XB := hide hxb
      have XN := hide hxn
      have HO := hide hown
      have HB := hide hbel
      clear hxl hxb hxn hown hbel
      by_cases hlt : k < 32
      · by_cases hyes : C.testBit k = true ∧ F + k < 8 * len
        · have e1 : bits .and .u32 ((C : Int) / 2 ^ k) 1 = 1 := (and_bit C k hC).1 hyes.1
          have e2 : (F : Int) + (k : Int) < 8 * (len : Int) := by have := hyes.2; omega
          have hj : (F + k) / 8 < xs.length := by have := XL.out; omega
          have g1 : wr.cell? ⟨g, (F + k) / 8, none⟩ = some (.int .u8 (xs.getD ((F + k) / 8) 0)) := by
            rw [HO.out.cellAt ((F + k) / 8) (by omega)]; simp [hj]
          have g2 := HO.out.frozenAt ((F + k) / 8)
          have d1 := XB.out.at ((F + k) / 8)
          generalize hcc : xs.getD ((F + k) / 8) 0 = c at *
          have HC := hide hcc
          have HY := hide hyes
          clear hcc hyes
          go_wp2
          go_roundw
          case rel =>
            have hv := flip_is c d1 ((F + k) % 8) (Nat.mod_lt _ (by omega))
            generalize bits BinOp.xor IntKind.u8 c (2 ^ ((F + k) % 8) % 256) = v at *
            exact ⟨k + 1, xs.set ((F + k) / 8) v, true, by omega, by go_num, rfl, ⟨fun _ => Crc.eff_ne C F (8 * len) k HY.out.1 HY.out.2, fun _ => rfl⟩, by rw [List.length_set]; exact XL.out, byts_set XB.out _ v hv.2,
              by rw [Crc.eff_yes C F (8 * len) k HY.out.1 HY.out.2]; exact Crc.num_round xs zs F k _ ((F + k) / 8) ((F + k) % 8) v hj (by omega) XN.out (by rw [HC.out]; exact hv.1),
              by rw [List.map_set]; exact (HO.out.stored _ _).1, HB.out.setCell hg _⟩
          case measure => simp [intOf]; omega
        · have HE := hide (Crc.eff_no C F (8 * len) k hyes)
          have hw : bits .and .u32 ((C : Int) / 2 ^ k) 1 = 0 ∨ (bits .and .u32 ((C : Int) / 2 ^ k) 1 = 1 ∧ 8 * (len : Int) ≤ (F : Int) + (k : Int)) := by
            by_cases hb : C.testBit k = true
            · exact .inr ⟨(and_bit C k hC).1 hb, by have : ¬ F + k < 8 * len := fun h => hyes ⟨hb, h⟩; omega⟩
            · exact .inl (and_bit0 C k hC hb)
          clear hyes
          rcases hw with e1 | ⟨e1, e2⟩
          all_goals
            go_wp2
            go_roundw
            case rel => exact ⟨k + 1, xs, T, by omega, by go_num, rfl, by rw [HE.out]; exact HT.out, XL.out, XB.out, by rw [HE.out]; exact XN.out, HO.out, HB.out⟩
            case measure => simp [intOf]; omega
      · obtain rfl : k = 32 := by omega
        have HM : Hid (Made w (.slice (some ⟨g, 0, none⟩) len cap2) xs wr) := hide ⟨by have := HO.out; rw [← XL.out] at this ⊢; exact this, by intro k hk; simp [Value.ownBlock] at hk; omega, HB.out⟩
        go_wp2
        refine bodyPost_ret (v := .tuple #[.slice (some ⟨g, 0, none⟩) len cap2, .bool T]) (by simp [results, Try.results26, go_sem]) rfl ?_
        exact ⟨xs, _, T, F, Crc.eff C F (8 * len) 32, rfl, HM.out, by rw [XL.out, L0.out], XB.out, by rw [L0.out]; omega, Crc.eff_lt _ _ _ _, XN.out, HT.out⟩
end Go.Proofs.Ytfbkcolcdkglbaa
