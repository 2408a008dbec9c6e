/- Contracts of writing a number's bytes, and those of a text. -/
import Derived.Test.YtegoeaofjnpehaaG
namespace Go.Proofs.Ytegoeaofjnpehaa
open Go.RowKit
set_option linter.unusedVariables false

/-- a number, its highest bit turned over. -/
def nX (n : Int) : Int := bits BinOp.xor IntKind.u64 (IntKind.u64.wrap n) 9223372036854775808
/-- the first k of eight bytes. -/
def nbs (X : Int) (k : Nat) : List Int := (List.range k).map fun j => X / 2 ^ (56 - 8 * j) % 256
theorem nbs_len (X : Int) (k : Nat) : (nbs X k).length = k := by simp [nbs]
theorem nbs_snoc (X : Int) (k : Nat) : nbs X (k + 1) = nbs X k ++ [X / 2 ^ (56 - 8 * k) % 256] := by simp [nbs, List.range_succ]
theorem byte_bd (y : Int) : 0 ≤ y % 256 ∧ y % 256 ≤ 255 := by omega
theorem map_snoc (f : Int → Int) (xs : List Int) (c : Int) : (xs ++ [c]).map f = xs.map f ++ [f c] := by simp

set_option maxHeartbeats 1600000 in
set_option maxRecDepth 1000000 in
theorem wnum_any (W : World) (po pt q : Nat) (m n : Int) (zs : List Int) (h : PutS W po pt q m zs) (hb : zs.length + 8 ≤ 140737488355328) :
    Calls Try.prog 38 #[.int .i64 n, .func (.func 27) #[] #[.pointer (some ⟨po, 0, none⟩), .pointer (some ⟨pt, 0, none⟩)]] W fun e W' => e = .returned (.tuple #[]) ∧ PutS W' po pt q m (zs ++ (nbs (nX n) 8).map (tn m)) ∧ Wrote po W W' := by
  have H := hide h
  have HB := hide hb
  clear h hb
  go_enter Try.func38, Try.ntmps38
  go_wp2
  generalize hX : bits BinOp.xor IntKind.u64 (IntKind.u64.wrap n) 9223372036854775808 = X at *
  have HX : Hid (nX n = X) := hX
  clear hX
  go_loopw [5] (fun s wr => ∃ k : Nat, k ≤ 8 ∧ s = .int .i64 (56 - 8 * k) ∧ PutS wr po pt q m (zs ++ (nbs X k).map (tn m)) ∧ Wrote po W wr) (fun s _ => (intOf s + 8).toNat)
  case atStart => exact ⟨0, by omega, rfl, by simpa [nbs] using H.out, Wrote.refl _ _⟩
  case round =>
    obtain ⟨k, hk, rfl, hp, ho⟩ := hrel
    have HP := hide hp
    have HO := hide ho
    clear hp ho H
    by_cases hlt : k < 8
    · have hd : decide ((8 : Int) * (k : Int) ≤ 56) = true := by simp; omega
      have HS := hide (nbs_snoc X k)
      go_wp2_with fail
      generalize X / 2 ^ (56 - 8 * k) = y at *
      refine (put_any wr po pt q m (y % 256) _ HP.out (byte_bd y) (by have := HB.out; simp [nbs_len]; omega)).mono ?_
      rintro e W1 ⟨rfl, hp1, ho1⟩
      have HP1 := hide hp1
      have HO1 := hide ho1
      clear hp1 ho1
      go_wp2
      go_roundw
      case rel => exact ⟨k + 1, by omega, by go_num, by rw [HS.out, map_snoc, ← List.append_assoc]; exact HP1.out, HO.out.trans HO1.out⟩
      case measure => simp [intOf]; omega
    · have hk8 : k = 8 := by omega
      subst hk8
      go_wp2
      go_end0
      exact ⟨rfl, by rw [HX.out]; exact HP.out, HO.out⟩

/-- what is put for a text's bytes. -/
def esc (bs : List Int) : List Int := bs.flatMap fun c => if c = 0 then [0, 255] else [c]
theorem esc_snoc (bs : List Int) (c : Int) : esc (bs ++ [c]) = esc bs ++ (if c = 0 then [0, 255] else [c]) := by simp [esc]
theorem esc_len (bs : List Int) : (esc bs).length ≤ 2 * bs.length := by
  induction bs with
  | nil => simp [esc]
  | cons c t ih =>
    have : esc (c :: t) = (if c = 0 then [0, 255] else [c]) ++ esc t := by simp [esc]
    rw [this, List.length_append]
    split <;> simp <;> omega
/-- a row that the writer at po does not write into. -/
def Off (W : World) (po : Nat) (a : Option Addr) : Prop := ∀ ad, a = some ad → ad.block < W.heap.size ∧ ¬ foot W po ad.block
theorem Off.wrote {W W' : World} {po : Nat} {a : Option Addr} (h : Off W po a) (ho : Wrote po W W') : Off W' po a := fun ad e =>
  ⟨Nat.lt_of_lt_of_le (h ad e).1 ho.size, fun hf => (ho.foot _ hf).elim (h ad e).2 (fun hs => by have := (h ad e).1; omega)⟩
theorem Row.wrote {W W' : World} {po : Nat} {a : Option Addr} {zs : List Int} (h : Row W a zs) (hf : Off W po a) (ho : Wrote po W W') : Row W' a zs := by
  rcases h with h | ⟨b, off, rfl, hlt, hc⟩
  · exact .inl h
  · refine .inr ⟨b, off, rfl, Nat.lt_of_lt_of_le hlt ho.size, fun i hi => ?_⟩
    have := ho.block b hlt (hf _ rfl).2
    exact (World.cell?_of_block (a := ⟨b, off + i, none⟩) this).trans (hc i hi)

set_option maxHeartbeats 1600000 in
set_option maxRecDepth 1000000 in
theorem wcon_any (W : World) (po pt q : Nat) (m : Int) (a : Option Addr) (len cap : Nat) (zs bs : List Int) (h : PutS W po pt q m zs) (hl : bs.length = len) (hr : Row W a bs) (hf : Off W po a) (hy : Byts bs) (hlb : len ≤ 10000000) (hb : zs.length ≤ 10000000) :
    Calls Try.prog 39 #[.slice a len cap, .func (.func 27) #[] #[.pointer (some ⟨po, 0, none⟩), .pointer (some ⟨pt, 0, none⟩)]] W fun e W' => e = .returned (.tuple #[]) ∧ PutS W' po pt q m (zs ++ (esc bs ++ [0, 1]).map (tn m)) ∧ Wrote po W W' := by
  have H := hide h
  have HL := hide hl
  have HR := hide hr
  have HF := hide hf
  have HY := hide hy
  clear h hl hr hf hy
  go_enter Try.func39, Try.ntmps39
  go_wp2
  go_loopw [8] (fun i wr => ∃ k : Nat, k ≤ len ∧ i = .int .i64 k ∧ PutS wr po pt q m (zs ++ (esc (bs.take k)).map (tn m)) ∧ Wrote po W wr) (fun i _ => len - (intOf i).toNat)
  case atStart => exact ⟨0, by omega, rfl, by simpa [esc] using H.out, Wrote.refl _ _⟩
  case round =>
    obtain ⟨k, hk, rfl, hp, ho⟩ := hrel
    have HP := hide hp
    have HO := hide ho
    clear hp ho H
    have HE := hide (esc_len (bs.take k))
    have HTk : Hid ((bs.take k).length ≤ k) := List.length_take_le _ _
    by_cases hlt : k < len
    · have hlk : k < bs.length := by have := HL.out; omega
      have HS := hide ((congrArg esc (take_snoc bs k hlk)).trans (esc_snoc _ _))
      have HBy := hide (HY.out.at k)
      rcases HR.out.wrote HF.out HO.out with h0 | ⟨b, o, rfl, _, hc⟩
      · subst h0; simp at hlk
      have g := hc k hlk
      clear hc
      generalize bs.getD k 0 = c at *
      go_wp2_with fail
      refine (put_any wr po pt q m c _ HP.out HBy.out (by have := HE.out; have := HTk.out; simp; omega)).mono ?_
      rintro e W1 ⟨rfl, hp1, ho1⟩
      have HP1 := hide hp1
      have HO1 := hide ho1
      clear hp1 ho1 g HP
      by_cases hc0 : c = 0
      · subst hc0
        go_wp2_with fail
        refine (put_any W1 po pt q m 255 _ HP1.out (by omega) (by have := HE.out; have := HTk.out; simp; omega)).mono ?_
        rintro e W2 ⟨rfl, hp2, ho2⟩
        have HP2 := hide hp2
        have HO2 := hide ho2
        clear hp2 ho2 HP1
        go_wp2
        go_roundw
        case rel => exact ⟨k + 1, by omega, by go_num, by rw [HS.out]; simpa using HP2.out, HO.out.trans (HO1.out.trans HO2.out)⟩
        case measure => simp [intOf]; omega
      · have hcb : (c == 0) = false := by simp [hc0]
        go_wp2
        go_roundw
        case rel => exact ⟨k + 1, by omega, by go_num, by rw [HS.out, if_neg hc0, List.map_append, ← List.append_assoc]; simpa using HP1.out, HO.out.trans HO1.out⟩
        case measure => simp [intOf]; omega
    · have hke : bs.take k = bs := List.take_of_length_le (by have := HL.out; omega)
      rw [hke] at HP HE HTk
      clear hke
      go_wp2_with fail
      refine (put_any wr po pt q m 0 _ HP.out (by omega) (by have := HE.out; have := HL.out; simp; omega)).mono ?_
      rintro e W1 ⟨rfl, hp1, ho1⟩
      have HP1 := hide hp1
      have HO1 := hide ho1
      clear hp1 ho1 HP
      go_wp2_with fail
      refine (put_any W1 po pt q m 1 _ HP1.out (by omega) (by have := HE.out; have := HL.out; simp; omega)).mono ?_
      rintro e W2 ⟨rfl, hp2, ho2⟩
      have HP2 := hide hp2
      have HO2 := hide ho2
      clear hp2 ho2 HP1
      go_wp2
      go_end0
      exact ⟨rfl, by rw [List.map_append, ← List.append_assoc]; simpa using HP2.out, HO.out.trans (HO1.out.trans HO2.out)⟩
end Go.Proofs.Ytegoeaofjnpehaa
