/- Pages and states of which some bits were turned; whether Open and GetMeta take them. -/
import Derived.Test.YtfbkcolcdkglbaaTA
import Derived.Test.YtfbkcolcdkglbaaSB
namespace Go.Proofs.Ytfbkcolcdkglbaa
open Go.RowKit
set_option linter.unusedVariables false
namespace Pg
open Crc
theorem pow0 (F : Nat) : 2 ^ F * 0 = 0 := Nat.mul_zero _
theorem opn_turned {kind number F E : Nat} {pl xs : List Int} (h1 : 1 ≤ kind) (h4 : kind ≤ 4) (hl : pl.length ≤ 1008) (h8 : B8 pl) (hx : B8 xs) (hxl : xs.length = (pg kind number pl).length) (hF : F ≤ 8 * (pg kind number pl).length) (hE : E < 4294967296)
    (hn : num xs = num (pg kind number pl) ^^^ 2 ^ F * E) : (opn number xs).isSome = decide (E = 0) := by
  by_cases e : E = 0
  · subst e
    rw [Nat.mul_zero, Nat.xor_zero] at hn
    rw [num_inj xs _ hxl hx (pg_b8 kind number pl h8) hn, opn_pg kind number pl h1 h4 hl]
    simp
  · have h := turned_rt 1024 (pg kind number pl) xs F E (by omega) (pg_b8 kind number pl h8) hx (pg_right kind number pl hl h8) hxl hF hE hn
    rw [opn_wrong hx (fun hr => e (h.1 hr))]
    simp [e]
theorem get_turned {m : M} {F E : Nat} {xs : List Int} (hm : m.May) (hx : B8 xs) (hxl : xs.length = (mt m).length) (hF : F ≤ 8 * (mt m).length) (hE : E < 4294967296)
    (hn : num xs = num (mt m) ^^^ 2 ^ F * E) : (E = 0 → get xs = some m) ∧ (E ≠ 0 → get xs = none) := by
  constructor
  · intro e
    subst e
    rw [Nat.mul_zero, Nat.xor_zero] at hn
    rw [num_inj xs _ hxl hx (mt_b8 m) hn, get_mt' m hm]
  · intro e
    have h := turned_rt 128 (mt m) xs F E (by omega) (mt_b8 m) hx (mt_right m) hxl hF hE hn
    apply get_wrong
    rw [List.take_of_length_le (by rw [hxl, mt_length]; omega)]
    exact fun hr => e (h.1 hr)
end Pg

/-- Open, and whether it was taken. -/
theorem open_err {w : World} {a : Option Addr} {n c : Nat} {zs : List Int} (number : Nat) (hn : number < 4294967296) (h : Inn w a n c zs) (B : Bool) (hB : (Pg.opn number zs).isSome = B) :
    Calls Try.prog 18 #[.int .u32 (number : Int), .slice a n c] w fun e w' => ∃ (kv : Nat) (a' : Option Addr) (n' c' er : Nat), e = .returned (.tuple #[.int .u8 (kv : Int), .slice a' n' c', .int .u16 (er : Int)]) ∧ ((er : Int) == 0) = B ∧ Below w.heap.size w w' := by
  refine (open_inn number _ rfl hn h).mono ?_
  rintro e w' ⟨hy, hno⟩
  subst hB
  cases hO : Pg.opn number zs with
  | none =>
    obtain ⟨rfl, hb⟩ := hno hO
    exact ⟨0, none, 0, 0, 80, rfl, by simp, hb⟩
  | some x =>
    obtain ⟨k, pl⟩ := x
    obtain ⟨v, rfl, hm⟩ := hy k pl hO
    obtain ⟨a', n', c', rfl, -⟩ := hm.1.shape2
    exact ⟨k, a', n', c', 0, rfl, by simp, hm.2.2⟩
theorem get_inn {w : World} {a : Option Addr} {n c : Nat} {zs : List Int} (h : Inn w a n c zs) : Calls Try.prog 22 #[.slice a n c] w fun e w' => GetOut (Pg.get zs) w e w' :=
  get_any a n c zs w h.len h.cap h.max h.bare h.row h.byts
/-- GetMeta, and whether it was taken. -/
theorem get_err {w : World} {a : Option Addr} {n c : Nat} {zs : List Int} (h : Inn w a n c zs) (B : Bool) (hB : (Pg.get zs).isSome = B) :
    Calls Try.prog 22 #[.slice a n c] w fun e w' => ∃ (m : Pg.M) (er : Nat), e = .returned (.tuple #[mv m, .int .u16 (er : Int)]) ∧ ((er : Int) == 0) = B ∧ Below w.heap.size w w' := by
  refine (get_inn h).mono ?_
  rintro e w' ⟨hy, hno, hb⟩
  subst hB
  cases hO : Pg.get zs with
  | none => exact ⟨mz, 80, hno hO, by simp, hb⟩
  | some m => exact ⟨m, 0, hy m hO, by simp, hb⟩
theorem best_inn {w : World} {a b : Option Addr} {n c m d : Nat} {xs ys : List Int} (hx : Inn w a n c xs) (hy : Inn w b m d ys) :
    Calls Try.prog 24 #[.slice a n c, .slice b m d] w fun e w' => e = .returned (.tuple #[mv (bst xs ys).1, .int .u16 ((bst xs ys).2 : Int)]) ∧ Below w.heap.size w w' := best_any a b n c m d xs ys w hx hy
theorem turned_inn {w : World} {a : Option Addr} {n c : Nat} {zs : List Int} {at1 : Int} {C : Nat} (h : Inn w a n c zs) (h1 : 0 < n) (hbig : n ≤ 100000) (hC : C < 4294967296) (hat : -9223372036854775808 ≤ at1 ∧ at1 ≤ 9223372036854775807) :
    Calls Try.prog 26 #[.slice a n c, .int .i64 at1, .int .u32 (C : Int)] w fun e w' => TurnOut zs w e w' := turned_any a n c at1 C zs w h h1 hbig hC hat
end Go.Proofs.Ytfbkcolcdkglbaa
