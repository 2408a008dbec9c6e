/- The document's Rune. -/
import Derived.Test.YtegoeaofjnpehabVA
import Derived.WalkLawsBesides
import Derived.BigQuiet
import Derived.Test.YtegoeaofjnpehabVH
import Derived.Test.YtegoeaofjnpehabKJ
namespace Go.Proofs.Ytegoeaofjnpehab
open Go.RowKit
set_option linter.unusedVariables false
set_option maxHeartbeats 1600000 in
set_option maxRecDepth 1000000 in
theorem rune_one (s : ByteArray) (w : World) (hs : 0 < s.size) (b : Nat) (hb : (s[0]'hs).toNat = b) (h1 : b < 128) :
    Calls Try.prog 58 #[.string s] w fun e w' => (∃ r : Int, e = .returned (.tuple #[.int .i64 r, .int .i64 1])) ∧ w' = w := by
  have hz : ((s.size : Int) == 0) = false := by rw [beq_eq_false_iff_ne]; omega
  have d1 : (b : Int) < 128 := by omega
  go_enter Try.func58, Try.ntmps58
  go_wp2
  go_ret2
  exact ⟨⟨_, rfl⟩, rfl⟩
set_option maxHeartbeats 1600000 in
set_option maxRecDepth 1000000 in
theorem isrune_ok (v : Nat) (w : World) (hv : Utf8.valid (v : Int) = true) : Calls Try.prog 63 #[.int .i64 (v : Int)] w fun e w' => e = .returned (.bool true) ∧ w' = w := by
  unfold Utf8.valid at hv
  simp only [Bool.or_eq_true, Bool.and_eq_true, decide_eq_true_eq] at hv
  have d0 : decide ((0 : Int) ≤ (v : Int)) = true := by simp
  have d1 : decide ((v : Int) ≤ 1114111) = true := by simp; omega
  by_cases h : (v : Int) < 55296
  · have d2 : decide ((v : Int) < 55296) = true := by simp; omega
    clear hv
    go_enter Try.func63, Try.ntmps63
    go_wp2
    go_ret
    exact ⟨rfl, rfl⟩
  · have d2 : decide ((v : Int) < 55296) = false := by simp; omega
    have d3 : decide ((57343 : Int) < (v : Int)) = true := by simp; omega
    clear hv
    go_enter Try.func63, Try.ntmps63
    go_wp2
    go_ret
    exact ⟨rfl, rfl⟩
set_option maxHeartbeats 3200000 in
set_option maxRecDepth 1000000 in
theorem rune_2 (s : ByteArray) (w : World) (hs : 2 ≤ s.size) (B V : Nat → Nat) (hB : ∀ i (h : i < s.size), i < 2 → (s[i]'h).toNat = B i) (h0 : 192 ≤ B 0 ∧ B 0 < 224) (hc : ∀ i, 1 ≤ i → i < 2 → 128 ≤ B i ∧ B i < 192) (hV1 : V 1 = B 0 - 192) (hV : ∀ i, 1 ≤ i → i < 2 → V (i + 1) = 64 * V i + B i - 128) (hV9 : ∀ i, i ≤ 2 → V i ≤ 100000000) (hl : 128 ≤ V 2) (hv : Utf8.valid (V 2 : Int) = true) :
    Calls Try.prog 58 #[.string s] w fun e w' => (∃ r : Int, e = .returned (.tuple #[.int .i64 r, .int .i64 2])) ∧ w' = w := by
  have hsz : 0 < s.size := by omega
  have hz : ((s.size : Int) == 0) = false := by rw [beq_eq_false_iff_ne]; omega
  obtain ⟨b, hb⟩ : ∃ b, b = B 0 := ⟨_, rfl⟩
  have e0 : (s[0]'hsz).toNat = b := by rw [hb]; exact hB 0 hsz (by omega)
  rw [← hb] at h0 hV1
  have HB := hide hB
  have HC := hide hc
  have HV := hide hV
  have HV9 := hide hV9
  have HV1 : Hid (((V 1 : Nat) : Int) = (b : Int) - 192) := by rw [Hid, hV1]; omega
  have HI := hide (fun W => isrune_ok (V 2) W hv)
  have HL := hide hl
  have a0 : ¬ (b : Int) < 128 := by omega
  have a1 : decide ((192 : Int) ≤ (b : Int)) = true := by simp; omega
  have a2 : decide ((b : Int) < 224) = true := by simp; omega
  have c1 : ¬ (s.size : Int) < 2 := by omega
  have wb : wrap64 (b : Int) = (b : Int) := by unfold wrap64; omega
  have wb2 : IntKind.i64.wrap ((b : Int) - 192) = (b : Int) - 192 := by rw [IntKind.wrap_i64]; omega
  clear hB hc hV hV1 hV9 hv hl h0 hb
  go_enter Try.func58, Try.ntmps58
  go_wp2
  go_loopw [6, 8] (fun x y wr => ∃ i : Nat, 1 ≤ i ∧ i ≤ 2 ∧ y = .int .i64 (i : Int) ∧ x = .int .i64 ((V i : Nat) : Int) ∧ wr = w) (fun _ y _ => 2 - (intOf y).toNat)
  case atStart => exact ⟨1, by omega, by omega, rfl, by rw [HV1.out], rfl⟩
  case round =>
    obtain ⟨i, hi1, hi2, rfl, rfl, rfl⟩ := hrel
    clear e0
    by_cases hlt : i < 2
    · have k1 : (i : Int) < 2 := by omega
      have hil : i < s.size := by omega
      obtain ⟨d, hd⟩ : ∃ d, d = B i := ⟨_, rfl⟩
      have e1 : (s[i]'hil).toNat = d := by rw [hd]; exact HB.out i hil hlt
      have hcd := HC.out i hi1 hlt
      rw [← hd] at hcd
      have HN : Hid (64 * ((V i : Nat) : Int) + (d : Int) - 128 = ((V (i + 1) : Nat) : Int)) := by rw [Hid, HV.out i hi1 hlt, ← hd]; omega
      have h9 := HV9.out i (by omega)
      have wd : wrap64 (d : Int) = (d : Int) := by unfold wrap64; omega
      have k2 : decide ((d : Int) < 128) = false := by simp; omega
      have k3 : decide ((192 : Int) ≤ (d : Int)) = false := by simp; omega
      have w1 : IntKind.i64.wrap (64 * ((V i : Nat) : Int)) = 64 * ((V i : Nat) : Int) := by rw [IntKind.wrap_i64]; omega
      have w2 : IntKind.i64.wrap (64 * ((V i : Nat) : Int) + (d : Int)) = 64 * ((V i : Nat) : Int) + (d : Int) := by rw [IntKind.wrap_i64]; omega
      have w3 : IntKind.i64.wrap (64 * ((V i : Nat) : Int) + (d : Int) - 128) = 64 * ((V i : Nat) : Int) + (d : Int) - 128 := by rw [IntKind.wrap_i64]; omega
      clear hd hcd
      go_wp2
      go_roundw
      case rel => exact ⟨i + 1, by omega, by omega, by go_num, by rw [HN.out], by trivial⟩
      case measure => simp [intOf]; omega
    · have hin : i = 2 := by omega
      subst hin
      have hl := HL.out
      have k4 : decide (((V 2 : Nat) : Int) < 128) = false := by simp; omega
      clear hl
      generalize V 2 = vn at *
      go_wp2_with (go_at_call 63; refine (HI.out _).mono ?_; rintro e w2 ⟨rfl, rfl⟩)
      go_ret2
      exact ⟨⟨_, rfl⟩, rfl⟩
set_option maxHeartbeats 3200000 in
set_option maxRecDepth 1000000 in
theorem rune_3 (s : ByteArray) (w : World) (hs : 3 ≤ s.size) (B V : Nat → Nat) (hB : ∀ i (h : i < s.size), i < 3 → (s[i]'h).toNat = B i) (h0 : 224 ≤ B 0 ∧ B 0 < 240) (hc : ∀ i, 1 ≤ i → i < 3 → 128 ≤ B i ∧ B i < 192) (hV1 : V 1 = B 0 - 224) (hV : ∀ i, 1 ≤ i → i < 3 → V (i + 1) = 64 * V i + B i - 128) (hV9 : ∀ i, i ≤ 3 → V i ≤ 100000000) (hl : 2048 ≤ V 3) (hv : Utf8.valid (V 3 : Int) = true) :
    Calls Try.prog 58 #[.string s] w fun e w' => (∃ r : Int, e = .returned (.tuple #[.int .i64 r, .int .i64 3])) ∧ w' = w := by
  have hsz : 0 < s.size := by omega
  have hz : ((s.size : Int) == 0) = false := by rw [beq_eq_false_iff_ne]; omega
  obtain ⟨b, hb⟩ : ∃ b, b = B 0 := ⟨_, rfl⟩
  have e0 : (s[0]'hsz).toNat = b := by rw [hb]; exact hB 0 hsz (by omega)
  rw [← hb] at h0 hV1
  have HB := hide hB
  have HC := hide hc
  have HV := hide hV
  have HV9 := hide hV9
  have HV1 : Hid (((V 1 : Nat) : Int) = (b : Int) - 224) := by rw [Hid, hV1]; omega
  have HI := hide (fun W => isrune_ok (V 3) W hv)
  have HL := hide hl
  have a0 : ¬ (b : Int) < 128 := by omega
  have a1 : decide ((192 : Int) ≤ (b : Int)) = true := by simp; omega
  have a2 : decide ((b : Int) < 224) = false := by simp; omega
  have a3 : decide ((224 : Int) ≤ (b : Int)) = true := by simp; omega
  have a4 : decide ((b : Int) < 240) = true := by simp; omega
  have c1 : ¬ (s.size : Int) < 3 := by omega
  have wb : wrap64 (b : Int) = (b : Int) := by unfold wrap64; omega
  have wb2 : IntKind.i64.wrap ((b : Int) - 224) = (b : Int) - 224 := by rw [IntKind.wrap_i64]; omega
  clear hB hc hV hV1 hV9 hv hl h0 hb
  go_enter Try.func58, Try.ntmps58
  go_wp2
  go_loopw [6, 8] (fun x y wr => ∃ i : Nat, 1 ≤ i ∧ i ≤ 3 ∧ y = .int .i64 (i : Int) ∧ x = .int .i64 ((V i : Nat) : Int) ∧ wr = w) (fun _ y _ => 3 - (intOf y).toNat)
  case atStart => exact ⟨1, by omega, by omega, rfl, by rw [HV1.out], rfl⟩
  case round =>
    obtain ⟨i, hi1, hi2, rfl, rfl, rfl⟩ := hrel
    clear e0
    by_cases hlt : i < 3
    · have k1 : (i : Int) < 3 := by omega
      have hil : i < s.size := by omega
      obtain ⟨d, hd⟩ : ∃ d, d = B i := ⟨_, rfl⟩
      have e1 : (s[i]'hil).toNat = d := by rw [hd]; exact HB.out i hil hlt
      have hcd := HC.out i hi1 hlt
      rw [← hd] at hcd
      have HN : Hid (64 * ((V i : Nat) : Int) + (d : Int) - 128 = ((V (i + 1) : Nat) : Int)) := by rw [Hid, HV.out i hi1 hlt, ← hd]; omega
      have h9 := HV9.out i (by omega)
      have wd : wrap64 (d : Int) = (d : Int) := by unfold wrap64; omega
      have k2 : decide ((d : Int) < 128) = false := by simp; omega
      have k3 : decide ((192 : Int) ≤ (d : Int)) = false := by simp; omega
      have w1 : IntKind.i64.wrap (64 * ((V i : Nat) : Int)) = 64 * ((V i : Nat) : Int) := by rw [IntKind.wrap_i64]; omega
      have w2 : IntKind.i64.wrap (64 * ((V i : Nat) : Int) + (d : Int)) = 64 * ((V i : Nat) : Int) + (d : Int) := by rw [IntKind.wrap_i64]; omega
      have w3 : IntKind.i64.wrap (64 * ((V i : Nat) : Int) + (d : Int) - 128) = 64 * ((V i : Nat) : Int) + (d : Int) - 128 := by rw [IntKind.wrap_i64]; omega
      clear hd hcd
      go_wp2
      go_roundw
      case rel => exact ⟨i + 1, by omega, by omega, by go_num, by rw [HN.out], by trivial⟩
      case measure => simp [intOf]; omega
    · have hin : i = 3 := by omega
      subst hin
      have hl := HL.out
      have k4 : decide (((V 3 : Nat) : Int) < 2048) = false := by simp; omega
      clear hl
      generalize V 3 = vn at *
      go_wp2_with (go_at_call 63; refine (HI.out _).mono ?_; rintro e w2 ⟨rfl, rfl⟩)
      go_ret2
      exact ⟨⟨_, rfl⟩, rfl⟩
set_option maxHeartbeats 3200000 in
set_option maxRecDepth 1000000 in
theorem rune_4 (s : ByteArray) (w : World) (hs : 4 ≤ s.size) (B V : Nat → Nat) (hB : ∀ i (h : i < s.size), i < 4 → (s[i]'h).toNat = B i) (h0 : 240 ≤ B 0 ∧ B 0 < 248) (hc : ∀ i, 1 ≤ i → i < 4 → 128 ≤ B i ∧ B i < 192) (hV1 : V 1 = B 0 - 240) (hV : ∀ i, 1 ≤ i → i < 4 → V (i + 1) = 64 * V i + B i - 128) (hV9 : ∀ i, i ≤ 4 → V i ≤ 100000000) (hl : 65536 ≤ V 4) (hv : Utf8.valid (V 4 : Int) = true) :
    Calls Try.prog 58 #[.string s] w fun e w' => (∃ r : Int, e = .returned (.tuple #[.int .i64 r, .int .i64 4])) ∧ w' = w := by
  have hsz : 0 < s.size := by omega
  have hz : ((s.size : Int) == 0) = false := by rw [beq_eq_false_iff_ne]; omega
  obtain ⟨b, hb⟩ : ∃ b, b = B 0 := ⟨_, rfl⟩
  have e0 : (s[0]'hsz).toNat = b := by rw [hb]; exact hB 0 hsz (by omega)
  rw [← hb] at h0 hV1
  have HB := hide hB
  have HC := hide hc
  have HV := hide hV
  have HV9 := hide hV9
  have HV1 : Hid (((V 1 : Nat) : Int) = (b : Int) - 240) := by rw [Hid, hV1]; omega
  have HI := hide (fun W => isrune_ok (V 4) W hv)
  have HL := hide hl
  have a0 : ¬ (b : Int) < 128 := by omega
  have a1 : decide ((192 : Int) ≤ (b : Int)) = true := by simp; omega
  have a2 : decide ((b : Int) < 224) = false := by simp; omega
  have a3 : decide ((224 : Int) ≤ (b : Int)) = true := by simp; omega
  have a4 : decide ((b : Int) < 240) = false := by simp; omega
  have a5 : decide ((240 : Int) ≤ (b : Int)) = true := by simp; omega
  have a6 : decide ((b : Int) < 248) = true := by simp; omega
  have c1 : ¬ (s.size : Int) < 4 := by omega
  have wb : wrap64 (b : Int) = (b : Int) := by unfold wrap64; omega
  have wb2 : IntKind.i64.wrap ((b : Int) - 240) = (b : Int) - 240 := by rw [IntKind.wrap_i64]; omega
  clear hB hc hV hV1 hV9 hv hl h0 hb
  go_enter Try.func58, Try.ntmps58
  go_wp2
  go_loopw [6, 8] (fun x y wr => ∃ i : Nat, 1 ≤ i ∧ i ≤ 4 ∧ y = .int .i64 (i : Int) ∧ x = .int .i64 ((V i : Nat) : Int) ∧ wr = w) (fun _ y _ => 4 - (intOf y).toNat)
  case atStart => exact ⟨1, by omega, by omega, rfl, by rw [HV1.out], rfl⟩
  case round =>
    obtain ⟨i, hi1, hi2, rfl, rfl, rfl⟩ := hrel
    clear e0
    by_cases hlt : i < 4
    · have k1 : (i : Int) < 4 := by omega
      have hil : i < s.size := by omega
      obtain ⟨d, hd⟩ : ∃ d, d = B i := ⟨_, rfl⟩
      have e1 : (s[i]'hil).toNat = d := by rw [hd]; exact HB.out i hil hlt
      have hcd := HC.out i hi1 hlt
      rw [← hd] at hcd
      have HN : Hid (64 * ((V i : Nat) : Int) + (d : Int) - 128 = ((V (i + 1) : Nat) : Int)) := by rw [Hid, HV.out i hi1 hlt, ← hd]; omega
      have h9 := HV9.out i (by omega)
      have wd : wrap64 (d : Int) = (d : Int) := by unfold wrap64; omega
      have k2 : decide ((d : Int) < 128) = false := by simp; omega
      have k3 : decide ((192 : Int) ≤ (d : Int)) = false := by simp; omega
      have w1 : IntKind.i64.wrap (64 * ((V i : Nat) : Int)) = 64 * ((V i : Nat) : Int) := by rw [IntKind.wrap_i64]; omega
      have w2 : IntKind.i64.wrap (64 * ((V i : Nat) : Int) + (d : Int)) = 64 * ((V i : Nat) : Int) + (d : Int) := by rw [IntKind.wrap_i64]; omega
      have w3 : IntKind.i64.wrap (64 * ((V i : Nat) : Int) + (d : Int) - 128) = 64 * ((V i : Nat) : Int) + (d : Int) - 128 := by rw [IntKind.wrap_i64]; omega
      clear hd hcd
      go_wp2
      go_roundw
      case rel => exact ⟨i + 1, by omega, by omega, by go_num, by rw [HN.out], by trivial⟩
      case measure => simp [intOf]; omega
    · have hin : i = 4 := by omega
      subst hin
      have hl := HL.out
      have k4 : decide (((V 4 : Nat) : Int) < 65536) = false := by simp; omega
      clear hl
      generalize V 4 = vn at *
      go_wp2_with (go_at_call 63; refine (HI.out _).mono ?_; rintro e w2 ⟨rfl, rfl⟩)
      go_ret2
      exact ⟨⟨_, rfl⟩, rfl⟩
end Go.Proofs.Ytegoeaofjnpehab
/- A text's runes, as the program and the document tell them. -/
namespace Go.Proofs.Ytegoeaofjnpehab
open Go.RowKit
set_option linter.unusedVariables false

theorem ext_size (s : ByteArray) (p : Nat) : (s.extract p s.size).size = s.size - p := by
  rw [ByteArray.size_extract]; omega
theorem get_is (s : ByteArray) (i : Nat) (h : i < s.size) : (s[i]'h).toNat = (s.get! i).toNat := by
  congr 1
  show s[i] = s.data[i]!
  rw [getElem!_pos s.data i h]
  rfl
theorem ext_at (s : ByteArray) (p i : Nat) (h : i < (s.extract p s.size).size) : ((s.extract p s.size)[i]'h).toNat = (s.get! (p + i)).toNat := by
  have hl : p + i < s.size := by rw [ext_size] at h; omega
  rw [ByteArray.getElem_extract]
  exact get_is s (p + i) hl
theorem three_at (u : ByteArray) (hu : u = ⟨#[239, 191, 189]⟩) (i : Nat) (h : i < u.size) (hi : i < 3) : (u[i]'h).toNat = [239, 191, 189].getD i 0 := by
  subst hu
  match i, hi with
  | 0, _ => rfl
  | 1, _ => rfl
  | 2, _ => rfl
theorem hp_bytes (s : ByteArray) (p : Nat) (h : hpB (s.extract p s.size) = true) : p + 3 ≤ s.size ∧ (s.get! (p + 0)).toNat = 239 ∧ (s.get! (p + 1)).toNat = 191 ∧ (s.get! (p + 2)).toNat = 189 := by
  unfold hpB at h
  simp only [Bool.and_eq_true, decide_eq_true_eq, beq_iff_eq] at h
  obtain ⟨h1, h2⟩ := h
  have hz := ext_size s p
  rw [ByteArray.toList_eq] at h2
  have hu : (s.extract p s.size).extract 0 3 = ⟨#[239, 191, 189]⟩ := by
    generalize (s.extract p s.size).extract 0 3 = u at h2
    cases u with | mk d => exact congrArg ByteArray.mk (Array.ext' h2)
  have hsz : ((s.extract p s.size).extract 0 3).size = 3 := by rw [hu]; rfl
  have key : ∀ i (hi : i < 3), (((s.extract p s.size).extract 0 3)[i]'(by omega)).toNat = (s.get! (p + i)).toNat := fun i hi => by
    rw [ByteArray.getElem_extract]
    have := ext_at s p (0 + i) (by omega)
    rw [this, Nat.zero_add]
  refine ⟨by omega, ?_, ?_, ?_⟩
  · rw [← key 0 (by omega), three_at _ hu 0 _ (by omega)]; rfl
  · rw [← key 1 (by omega), three_at _ hu 1 _ (by omega)]; rfl
  · rw [← key 2 (by omega), three_at _ hu 2 _ (by omega)]; rfl
/-- a rune that is right: the document's Rune tells as many bytes. -/
theorem rune_any (s : ByteArray) (p : Nat) (w : World) (hp : p < s.size) (ht : tornB (s.extract p s.size) ((Utf8.decode s p).1 : Int) = false) :
    (1 ≤ (Utf8.decode s p).2 ∧ p + (Utf8.decode s p).2 ≤ s.size) ∧ Calls Try.prog 58 #[.string (s.extract p s.size)] w fun e w' => (∃ r : Int, e = .returned (.tuple #[.int .i64 r, .int .i64 ((Utf8.decode s p).2 : Int)])) ∧ w' = w := by
  have hz := ext_size s p
  have hh : hpB (s.extract p s.size) = true → p + 3 ≤ s.size ∧ (s.get! (p + 0)).toNat = 239 ∧ (s.get! (p + 1)).toNat = 191 ∧ (s.get! (p + 2)).toNat = 189 := hp_bytes s p
  have hbs : ∀ i, (s.get! (p + i)).toNat < 256 := fun i => (s.get! (p + i)).toNat_lt
  obtain ⟨B, hB⟩ : ∃ B : Nat → Nat, B = fun i => (s.get! (p + i)).toNat := ⟨_, rfl⟩
  have hat : ∀ i (h : i < (s.extract p s.size).size), ((s.extract p s.size)[i]'h).toNat = B i := fun i h => by rw [hB]; exact ext_at s p i h
  have hno : ∀ x : Nat, x = 65533 → tornB (s.extract p s.size) (x : Int) = false → p + 3 ≤ s.size ∧ B 0 = 239 ∧ B 1 = 191 ∧ B 2 = 189 := fun x hx h => by
    subst hx
    unfold tornB at h
    simp at h
    rw [hB]
    exact hh h
  have hb : ∀ i, B i < 256 := fun i => by rw [hB]; exact hbs i
  have hg : ∀ i, (s.get! (p + i)).toNat = B i := fun i => by rw [hB]
  clear hB hh hbs
  unfold Utf8.decode at ht ⊢
  simp only [hg] at ht ⊢
  by_cases h1 : B 0 < 128
  · simp only [if_pos h1] at ht ⊢
    exact ⟨⟨by omega, by omega⟩, rune_one _ w (by omega) (B 0) (hat 0 (by omega)) h1⟩
  · simp only [if_neg h1] at ht ⊢
    split at ht <;> rename_i h2
    · rw [if_pos h2]
      simp only [Bool.and_eq_true, decide_eq_true_eq, beq_iff_eq] at h2
      obtain ⟨h2a, h2b, h2c⟩ := h2
      by_cases h3 : B 0 % 32 * 64 + B 1 % 64 ≥ 128
      · rw [if_pos h3] at ht ⊢
        refine ⟨⟨by show 1 ≤ 2; omega, by show p + 2 ≤ s.size; omega⟩, ?_⟩
        refine rune_2 _ w (by omega) B (fun i => if i = 1 then B 0 - 192 else 64 * (B 0 - 192) + B 1 - 128) (fun i h _ => hat i h) ⟨by omega, by omega⟩ (fun i i1 i2 => ?_) rfl (fun i i1 i2 => ?_) (fun i hi => ?_) ?_ ?_
        · have : i = 1 := by omega
          subst this; omega
        · have : i = 1 := by omega
          subst this; rfl
        · have := hb 0; have := hb 1; show (if i = 1 then _ else _) ≤ _; split <;> omega
        · show 128 ≤ 64 * (B 0 - 192) + B 1 - 128; omega
        · show Utf8.valid ((64 * (B 0 - 192) + B 1 - 128 : Nat) : Int) = true
          have := hb 0; have := hb 1
          unfold Utf8.valid
          simp; omega
      · rw [if_neg h3] at ht
        obtain ⟨g1, g2, g3, g4⟩ := hno _ rfl ht
        omega
    · rw [if_neg h2]
      split at ht <;> rename_i h3
      · rw [if_pos h3]
        simp only [Bool.and_eq_true, decide_eq_true_eq, beq_iff_eq] at h3
        obtain ⟨⟨h3a, h3b, h3c⟩, h3d, h3e⟩ := h3
        split at ht <;> rename_i h4
        · rw [if_pos h4]
          simp only [Bool.and_eq_true, decide_eq_true_eq] at h4
          refine ⟨⟨by show 1 ≤ 3; omega, by show p + 3 ≤ s.size; omega⟩, ?_⟩
          have hv : 64 * (64 * (B 0 - 224) + B 1 - 128) + B 2 - 128 = B 0 % 16 * 4096 + B 1 % 64 * 64 + B 2 % 64 := by omega
          refine rune_3 _ w (by omega) B (fun i => if i = 1 then B 0 - 224 else if i = 2 then 64 * (B 0 - 224) + B 1 - 128 else 64 * (64 * (B 0 - 224) + B 1 - 128) + B 2 - 128) (fun i h _ => hat i h) ⟨by omega, by omega⟩ (fun i i1 i2 => ?_) rfl (fun i i1 i2 => ?_) (fun i hi => ?_) ?_ ?_
          · have : i = 1 ∨ i = 2 := by omega
            rcases this with rfl | rfl <;> omega
          · have : i = 1 ∨ i = 2 := by omega
            rcases this with rfl | rfl <;> rfl
          · have := hb 0; have := hb 1; have := hb 2; show (if i = 1 then _ else if i = 2 then _ else _) ≤ _; (repeat' split) <;> omega
          · show 2048 ≤ 64 * (64 * (B 0 - 224) + B 1 - 128) + B 2 - 128; rw [hv]; exact h4.1
          · show Utf8.valid ((64 * (64 * (B 0 - 224) + B 1 - 128) + B 2 - 128 : Nat) : Int) = true; rw [hv]; exact h4.2
        · rw [if_neg h4] at *
          obtain ⟨g1, g2, g3, g4⟩ := hno _ rfl ht
          exfalso
          apply h4
          rw [g2, g3, g4]
          decide
      · rw [if_neg h3]
        split at ht <;> rename_i h4
        · rw [if_pos h4]
          simp only [Bool.and_eq_true, decide_eq_true_eq, beq_iff_eq] at h4
          obtain ⟨⟨⟨h4a, h4b, h4c⟩, h4d, h4e⟩, h4f, h4g⟩ := h4
          split at ht <;> rename_i h5
          · rw [if_pos h5]
            simp only [Bool.and_eq_true, decide_eq_true_eq] at h5
            refine ⟨⟨by show 1 ≤ 4; omega, by show p + 4 ≤ s.size; omega⟩, ?_⟩
            have hv : 64 * (64 * (64 * (B 0 - 240) + B 1 - 128) + B 2 - 128) + B 3 - 128 = B 0 % 8 * 262144 + B 1 % 64 * 4096 + B 2 % 64 * 64 + B 3 % 64 := by omega
            refine rune_4 _ w (by omega) B (fun i => if i = 1 then B 0 - 240 else if i = 2 then 64 * (B 0 - 240) + B 1 - 128 else if i = 3 then 64 * (64 * (B 0 - 240) + B 1 - 128) + B 2 - 128 else 64 * (64 * (64 * (B 0 - 240) + B 1 - 128) + B 2 - 128) + B 3 - 128) (fun i h _ => hat i h) ⟨by omega, by omega⟩ (fun i i1 i2 => ?_) rfl (fun i i1 i2 => ?_) (fun i hi => ?_) ?_ ?_
            · have : i = 1 ∨ i = 2 ∨ i = 3 := by omega
              rcases this with rfl | rfl | rfl <;> omega
            · have : i = 1 ∨ i = 2 ∨ i = 3 := by omega
              rcases this with rfl | rfl | rfl <;> rfl
            · have := hb 0; have := hb 1; have := hb 2; have := hb 3; show (if i = 1 then _ else if i = 2 then _ else if i = 3 then _ else _) ≤ _; (repeat' split) <;> omega
            · show 65536 ≤ 64 * (64 * (64 * (B 0 - 240) + B 1 - 128) + B 2 - 128) + B 3 - 128; rw [hv]; exact h5.1
            · show Utf8.valid ((64 * (64 * (64 * (B 0 - 240) + B 1 - 128) + B 2 - 128) + B 3 - 128 : Nat) : Int) = true; rw [hv]; exact h5.2
          · rw [if_neg h5] at *
            obtain ⟨g1, g2, g3, g4⟩ := hno _ rfl ht
            omega
        · obtain ⟨g1, g2, g3, g4⟩ := hno _ rfl ht
          exfalso
          apply h3
          rw [g2, g3, g4]
          simp
          omega
end Go.Proofs.Ytegoeaofjnpehab
/- The document's Runes. -/
namespace Go.Proofs.Ytegoeaofjnpehab
open Go.RowKit
set_option linter.unusedVariables false
def strLen : Value → Nat
  | .string s => s.size
  | _ => 0
theorem ext_ext (s : ByteArray) (p k : Nat) : (s.extract p s.size).extract k (s.extract p s.size).size = s.extract (p + k) s.size := by
  rw [ByteArray.extract_extract, ext_size]
  congr 1
  omega
set_option maxHeartbeats 1600000 in
set_option maxRecDepth 1000000 in
theorem runes_doc (s : ByteArray) (w : World) (hs : s.size ≤ 1000000) (hv : (rn s).2 = true) : Calls Try.prog 54 #[.string s] w fun e w' => e = .returned (.int .i64 ((rn s).1 : Int)) ∧ w' = w := by
  have HV := hide hv
  have HS := hide hs
  clear hv hs
  go_enter Try.func54, Try.ntmps54
  go_wp2
  go_loopw [0, 3] (fun x y wr => ∃ (z : ByteArray) (p f c : Nat), x = .string z ∧ Hid (z = s.extract p s.size) ∧ y = .int .i64 (c : Int) ∧ Hid (rnF s f p c = rn s) ∧ s.size ≤ p + f ∧ c ≤ p ∧ p ≤ s.size ∧ wr = w) (fun x _ _ => strLen x)
  case atStart => exact ⟨s, 0, s.size, 0, rfl, by rw [Hid, ByteArray.extract_zero_size], rfl, hide rfl, by omega, by omega, by omega, rfl⟩
  case round =>
    obtain ⟨z, p, f, c, rfl, HZ, rfl, HR, hf, hc, hp, rfl⟩ := hrel
    obtain ⟨L, HL⟩ : ∃ L, Hid (L = z.size) := ⟨_, rfl⟩
    have hL : L = s.size - p := by rw [HL.out, HZ.out, ext_size]
    by_cases hlt : p < s.size
    · obtain ⟨f', rfl⟩ : ∃ f', f = f' + 1 := ⟨f - 1, by omega⟩
      have h0 := HR.out
      rw [rnF, if_pos hlt] at h0
      have hnt : tornB (s.extract p s.size) ((Utf8.decode s p).1 : Int) = false := by
        cases ht : tornB (s.extract p s.size) ((Utf8.decode s p).1 : Int) with
        | false => rfl
        | true =>
          rw [ht, if_pos rfl] at h0
          have := HV.out
          rw [← h0] at this
          cases this
      rw [hnt, if_neg (by simp)] at h0
      obtain ⟨⟨k1, k2⟩, hcall⟩ := rune_any s p wr hlt hnt
      rw [← HZ.out] at hcall
      have HC := hide hcall
      have HN := hide h0
      obtain ⟨k, hk⟩ : ∃ k, k = (Utf8.decode s p).2 := ⟨_, rfl⟩
      rw [← hk] at HC HN k1 k2
      have hz0 : decide ((0 : Int) < (z.size : Int)) = true := by rw [← HL.out]; simp; omega
      have hz1 : (0 : Int) < (z.size : Int) := by rw [← HL.out]; omega
      have hz2 : ((k : Int) == 0) = false := by rw [beq_eq_false_iff_ne]; omega
      have hz3 : (k : Int) ≤ (z.size : Int) := by rw [← HL.out]; omega
      have wn : IntKind.i64.wrap ((c : Int) + 1) = (c : Int) + 1 := by have := HS.out; rw [IntKind.wrap_i64]; omega
      clear h0 hcall hnt hk HR
      go_wp2_with (go_at_call 58; refine HC.out.mono ?_; rintro e w2 ⟨⟨r, rfl⟩, rfl⟩)
      go_roundw
      case rel => exact ⟨_, p + k, f', c + 1, rfl, by have := ext_ext s p k; rw [← HZ.out] at this; exact this, by go_num, HN, by omega, by omega, by omega, by trivial⟩
      case measure => show (z.extract k z.size).size < z.size; rw [ByteArray.size_extract]; have := HL.out; omega
    · have hpe : p = s.size := by omega
      have h0 := HR.out
      rw [rnF_end s f p c hlt] at h0
      have HN := hide h0
      have hz0 : decide ((0 : Int) < (z.size : Int)) = false := by rw [← HL.out]; simp; omega
      have hz1 : ¬ (0 : Int) < (z.size : Int) := by rw [← HL.out]; omega
      clear h0 HR
      go_wp2
      go_ret
      exact ⟨by rw [← HN.out]; rfl, rfl⟩
end Go.Proofs.Ytegoeaofjnpehab
/- The document's own of a value that may stand in a key. -/
namespace Go.Proofs.Ytegoeaofjnpehab
open Go.RowKit
set_option linter.unusedVariables false

abbrev agv (k : Int) (bo : Bool) (n : Int) (t : ByteArray) (ya : Option Addr) (yl yc : Nat) (la : Option Addr) (ll lc : Nat) (fa : Option Addr) (fc : Nat) : Value := .agg #[.int .u8 k, .bool bo, .int .i64 n, .string t, .slice ya yl yc, .slice la ll lc, .slice fa 0 fc]
set_option maxHeartbeats 1600000 in
set_option maxRecDepth 1000000 in
theorem own1  (ya : Option Addr) (yc : Nat) (la : Option Addr) (lc : Nat) (fa : Option Addr) (fc : Nat) (w : World)  :
    Calls Try.prog 41 #[agv 1 false 0 ⟨#[]⟩ ya 0 yc la 0 lc fa fc] w fun e w' => e = .returned (.int .i64 0) ∧ Below w.heap.size w w' := by
  have HX := hide (below_alloc w (.cells #[.int .u8 1, .bool false, .int .i64 0, .string ⟨#[]⟩, .slice ya 0 yc, .slice la 0 lc, .slice fa 0 fc] 32))
  have hz : ((rn ⟨#[]⟩).1 : Int) = ((0 : Nat) : Int) := by decide
  have HR := hide (fun W => hz ▸ runes_doc ⟨#[]⟩ W (by decide) (by decide))
  simp only [agv]
  go_enter Try.func41, Try.ntmps41
  go_wp2
  go_loopw [3] (fun i wr => i = .int .i64 0 ∧ wr = w.alloc (.cells #[.int .u8 1, .bool false, .int .i64 0, .string ⟨#[]⟩, .slice ya 0 yc, .slice la 0 lc, .slice fa 0 fc] 32)) (fun _ _ => 0)
  case atStart => exact ⟨rfl, rfl⟩
  case round =>
    obtain ⟨rfl, rfl⟩ := hrel
    go_wp2_with (go_at_call 54; refine (HR.out _).mono ?_; rintro e w1 ⟨rfl, rfl⟩)
    all_goals (go_ret; exact ⟨rfl, HX.out⟩)
set_option maxHeartbeats 1600000 in
set_option maxRecDepth 1000000 in
theorem own2 (bo : Bool) (ya : Option Addr) (yc : Nat) (la : Option Addr) (lc : Nat) (fa : Option Addr) (fc : Nat) (w : World)  :
    Calls Try.prog 41 #[agv 2 bo 0 ⟨#[]⟩ ya 0 yc la 0 lc fa fc] w fun e w' => e = .returned (.int .i64 0) ∧ Below w.heap.size w w' := by
  have HX := hide (below_alloc w (.cells #[.int .u8 2, .bool bo, .int .i64 0, .string ⟨#[]⟩, .slice ya 0 yc, .slice la 0 lc, .slice fa 0 fc] 32))
  have hz : ((rn ⟨#[]⟩).1 : Int) = ((0 : Nat) : Int) := by decide
  have HR := hide (fun W => hz ▸ runes_doc ⟨#[]⟩ W (by decide) (by decide))
  simp only [agv]
  cases bo
  · skip
    go_enter Try.func41, Try.ntmps41
    go_wp2
    go_loopw [3] (fun i wr => i = .int .i64 0 ∧ wr = w.alloc (.cells #[.int .u8 2, .bool false, .int .i64 0, .string ⟨#[]⟩, .slice ya 0 yc, .slice la 0 lc, .slice fa 0 fc] 32)) (fun _ _ => 0)
    case atStart => exact ⟨rfl, rfl⟩
    case round =>
      obtain ⟨rfl, rfl⟩ := hrel
      go_wp2_with (go_at_call 54; refine (HR.out _).mono ?_; rintro e w1 ⟨rfl, rfl⟩)
      all_goals (go_ret; exact ⟨rfl, HX.out⟩)
  · skip
    go_enter Try.func41, Try.ntmps41
    go_wp2
    go_loopw [3] (fun i wr => i = .int .i64 0 ∧ wr = w.alloc (.cells #[.int .u8 2, .bool true, .int .i64 0, .string ⟨#[]⟩, .slice ya 0 yc, .slice la 0 lc, .slice fa 0 fc] 32)) (fun _ _ => 0)
    case atStart => exact ⟨rfl, rfl⟩
    case round =>
      obtain ⟨rfl, rfl⟩ := hrel
      go_wp2_with (go_at_call 54; refine (HR.out _).mono ?_; rintro e w1 ⟨rfl, rfl⟩)
      all_goals (go_ret; exact ⟨rfl, HX.out⟩)
set_option maxHeartbeats 1600000 in
set_option maxRecDepth 1000000 in
theorem own3 (n : Int) (ya : Option Addr) (yc : Nat) (la : Option Addr) (lc : Nat) (fa : Option Addr) (fc : Nat) (w : World)  :
    Calls Try.prog 41 #[agv 3 false n ⟨#[]⟩ ya 0 yc la 0 lc fa fc] w fun e w' => e = .returned (.int .i64 0) ∧ Below w.heap.size w w' := by
  have HX := hide (below_alloc w (.cells #[.int .u8 3, .bool false, .int .i64 n, .string ⟨#[]⟩, .slice ya 0 yc, .slice la 0 lc, .slice fa 0 fc] 32))
  have hz : ((rn ⟨#[]⟩).1 : Int) = ((0 : Nat) : Int) := by decide
  have HR := hide (fun W => hz ▸ runes_doc ⟨#[]⟩ W (by decide) (by decide))
  simp only [agv]
  by_cases hn : n = 0
  · subst hn
    go_enter Try.func41, Try.ntmps41
    go_wp2
    go_loopw [3] (fun i wr => i = .int .i64 0 ∧ wr = w.alloc (.cells #[.int .u8 3, .bool false, .int .i64 0, .string ⟨#[]⟩, .slice ya 0 yc, .slice la 0 lc, .slice fa 0 fc] 32)) (fun _ _ => 0)
    case atStart => exact ⟨rfl, rfl⟩
    case round =>
      obtain ⟨rfl, rfl⟩ := hrel
      go_wp2_with (go_at_call 54; refine (HR.out _).mono ?_; rintro e w1 ⟨rfl, rfl⟩)
      all_goals (go_ret; exact ⟨rfl, HX.out⟩)
  · have hnb : (n == 0) = false := by simpa using hn
    go_enter Try.func41, Try.ntmps41
    go_wp2
    go_loopw [3] (fun i wr => i = .int .i64 0 ∧ wr = w.alloc (.cells #[.int .u8 3, .bool false, .int .i64 n, .string ⟨#[]⟩, .slice ya 0 yc, .slice la 0 lc, .slice fa 0 fc] 32)) (fun _ _ => 0)
    case atStart => exact ⟨rfl, rfl⟩
    case round =>
      obtain ⟨rfl, rfl⟩ := hrel
      go_wp2_with (go_at_call 54; refine (HR.out _).mono ?_; rintro e w1 ⟨rfl, rfl⟩)
      all_goals (go_ret; exact ⟨rfl, HX.out⟩)
set_option maxHeartbeats 1600000 in
set_option maxRecDepth 1000000 in
theorem own4 (t : ByteArray) (ya : Option Addr) (yc : Nat) (la : Option Addr) (lc : Nat) (fa : Option Addr) (fc : Nat) (w : World) (ht : t.size ≤ 1000000) (hv : (rn t).2 = true) (h1 : (rn t).1 ≤ 1000) :
    Calls Try.prog 41 #[agv 4 false 0 t ya 0 yc la 0 lc fa fc] w fun e w' => e = .returned (.int .i64 0) ∧ Below w.heap.size w w' := by
  have HX := hide (below_alloc w (.cells #[.int .u8 4, .bool false, .int .i64 0, .string t, .slice ya 0 yc, .slice la 0 lc, .slice fa 0 fc] 32))
  have HR := hide (fun W => runes_doc t W ht hv)
  generalize (rn t).1 = q at HR h1
  simp only [agv]
  by_cases he : t = ⟨#[]⟩
  · subst he
    go_enter Try.func41, Try.ntmps41
    go_wp2
    go_loopw [3] (fun i wr => i = .int .i64 0 ∧ wr = w.alloc (.cells #[.int .u8 4, .bool false, .int .i64 0, .string ⟨#[]⟩, .slice ya 0 yc, .slice la 0 lc, .slice fa 0 fc] 32)) (fun _ _ => 0)
    case atStart => exact ⟨rfl, rfl⟩
    case round =>
      obtain ⟨rfl, rfl⟩ := hrel
      go_wp2_with (go_at_call 54; refine (HR.out _).mono ?_; rintro e w1 ⟨rfl, rfl⟩)
      all_goals (go_ret; exact ⟨rfl, HX.out⟩)
  · have hnl : ¬ t.toList = [] := fun h => he (by rw [ByteArray.toList_eq] at h; cases t with | mk d => cases d with | mk l => simp at h; rw [h])
    go_enter Try.func41, Try.ntmps41
    go_wp2
    go_loopw [3] (fun i wr => i = .int .i64 0 ∧ wr = w.alloc (.cells #[.int .u8 4, .bool false, .int .i64 0, .string t, .slice ya 0 yc, .slice la 0 lc, .slice fa 0 fc] 32)) (fun _ _ => 0)
    case atStart => exact ⟨rfl, rfl⟩
    case round =>
      obtain ⟨rfl, rfl⟩ := hrel
      go_wp2_with (go_at_call 54; refine (HR.out _).mono ?_; rintro e w1 ⟨rfl, rfl⟩)
      all_goals (go_ret; exact ⟨rfl, HX.out⟩)
set_option maxHeartbeats 1600000 in
set_option maxRecDepth 1000000 in
theorem own5 (yl : Nat) (ya : Option Addr) (yc : Nat) (la : Option Addr) (lc : Nat) (fa : Option Addr) (fc : Nat) (w : World) (hy : yl ≤ 4000) :
    Calls Try.prog 41 #[agv 5 false 0 ⟨#[]⟩ ya yl yc la 0 lc fa fc] w fun e w' => e = .returned (.int .i64 0) ∧ Below w.heap.size w w' := by
  have HX := hide (below_alloc w (.cells #[.int .u8 5, .bool false, .int .i64 0, .string ⟨#[]⟩, .slice ya yl yc, .slice la 0 lc, .slice fa 0 fc] 32))
  have hz : ((rn ⟨#[]⟩).1 : Int) = ((0 : Nat) : Int) := by decide
  have HR := hide (fun W => hz ▸ runes_doc ⟨#[]⟩ W (by decide) (by decide))
  simp only [agv]
  by_cases hn : yl = 0
  · subst hn
    go_enter Try.func41, Try.ntmps41
    go_wp2
    go_loopw [3] (fun i wr => i = .int .i64 0 ∧ wr = w.alloc (.cells #[.int .u8 5, .bool false, .int .i64 0, .string ⟨#[]⟩, .slice ya 0 yc, .slice la 0 lc, .slice fa 0 fc] 32)) (fun _ _ => 0)
    case atStart => exact ⟨rfl, rfl⟩
    case round =>
      obtain ⟨rfl, rfl⟩ := hrel
      go_wp2_with (go_at_call 54; refine (HR.out _).mono ?_; rintro e w1 ⟨rfl, rfl⟩)
      all_goals (go_ret; exact ⟨rfl, HX.out⟩)
  · have hnb : (0 : Int) < (yl : Int) := by omega
    go_enter Try.func41, Try.ntmps41
    go_wp2
    go_loopw [3] (fun i wr => i = .int .i64 0 ∧ wr = w.alloc (.cells #[.int .u8 5, .bool false, .int .i64 0, .string ⟨#[]⟩, .slice ya yl yc, .slice la 0 lc, .slice fa 0 fc] 32)) (fun _ _ => 0)
    case atStart => exact ⟨rfl, rfl⟩
    case round =>
      obtain ⟨rfl, rfl⟩ := hrel
      go_wp2_with (go_at_call 54; refine (HR.out _).mono ?_; rintro e w1 ⟨rfl, rfl⟩)
      all_goals (go_ret; exact ⟨rfl, HX.out⟩)
set_option maxHeartbeats 1600000 in
set_option maxRecDepth 1000000 in
theorem own6 (ll : Nat) (ya : Option Addr) (yc : Nat) (la : Option Addr) (lc : Nat) (fa : Option Addr) (fc : Nat) (w : World)  :
    Calls Try.prog 41 #[agv 6 false 0 ⟨#[]⟩ ya 0 yc la ll lc fa fc] w fun e w' => e = .returned (.int .i64 0) ∧ Below w.heap.size w w' := by
  have HX := hide (below_alloc w (.cells #[.int .u8 6, .bool false, .int .i64 0, .string ⟨#[]⟩, .slice ya 0 yc, .slice la ll lc, .slice fa 0 fc] 32))
  have hz : ((rn ⟨#[]⟩).1 : Int) = ((0 : Nat) : Int) := by decide
  have HR := hide (fun W => hz ▸ runes_doc ⟨#[]⟩ W (by decide) (by decide))
  simp only [agv]
  by_cases hn : ll = 0
  · subst hn
    go_enter Try.func41, Try.ntmps41
    go_wp2
    go_loopw [3] (fun i wr => i = .int .i64 0 ∧ wr = w.alloc (.cells #[.int .u8 6, .bool false, .int .i64 0, .string ⟨#[]⟩, .slice ya 0 yc, .slice la 0 lc, .slice fa 0 fc] 32)) (fun _ _ => 0)
    case atStart => exact ⟨rfl, rfl⟩
    case round =>
      obtain ⟨rfl, rfl⟩ := hrel
      go_wp2_with (go_at_call 54; refine (HR.out _).mono ?_; rintro e w1 ⟨rfl, rfl⟩)
      all_goals (go_ret; exact ⟨rfl, HX.out⟩)
  · have hnb : (0 : Int) < (ll : Int) := by omega
    go_enter Try.func41, Try.ntmps41
    go_wp2
    go_loopw [3] (fun i wr => i = .int .i64 0 ∧ wr = w.alloc (.cells #[.int .u8 6, .bool false, .int .i64 0, .string ⟨#[]⟩, .slice ya 0 yc, .slice la ll lc, .slice fa 0 fc] 32)) (fun _ _ => 0)
    case atStart => exact ⟨rfl, rfl⟩
    case round =>
      obtain ⟨rfl, rfl⟩ := hrel
      go_wp2_with (go_at_call 54; refine (HR.out _).mono ?_; rintro e w1 ⟨rfl, rfl⟩)
      all_goals (go_ret; exact ⟨rfl, HX.out⟩)
end Go.Proofs.Ytegoeaofjnpehab
