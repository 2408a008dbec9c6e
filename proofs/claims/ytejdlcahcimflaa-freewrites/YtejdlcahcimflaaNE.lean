/- Four bytes as a number, the lowest first; Decode. -/
import Derived.Test.YtejdlcahcimflaaNC
import Derived.Test.YtejdlcahcimflaaOW
import Derived.Laws.BitsAllLaws
namespace Go.Proofs.Ytejdlcahcimflaa
open Go.RowKit Go.Maps
set_option linter.unusedVariables false
variable {w w' : World}
/-- four bytes as a number. -/
def g4 (a b c d : Nat) : Nat := a + 256 * b + 65536 * c + 16777216 * d
theorem or_add {k a b : Nat} (h : a < 2 ^ k) : a ||| (b * 2 ^ k) = a + b * 2 ^ k := by
  rw [Nat.or_comm, Nat.mul_comm, ← Nat.two_pow_add_eq_or_of_lt h, Nat.add_comm]
theorem or4 (b0 b1 b2 b3 : Nat) (h0 : b0 < 256) (h1 : b1 < 256) (h2 : b2 < 256) (h3 : b3 < 256) : bits BinOp.or IntKind.u32 (bits BinOp.or IntKind.u32 (bits BinOp.or IntKind.u32 (b0 : Int) ((b1 : Int) * 256)) ((b2 : Int) * 65536)) ((b3 : Int) * 16777216) = ((g4 b0 b1 b2 b3 : Nat) : Int) := by
  have e1 : ((b1 : Int) * 256) = ((b1 * 2 ^ 8 : Nat) : Int) := by omega
  have e2 : ((b2 : Int) * 65536) = ((b2 * 2 ^ 16 : Nat) : Int) := by omega
  have e3 : ((b3 : Int) * 16777216) = ((b3 * 2 ^ 24 : Nat) : Int) := by omega
  rw [e1, e2, e3, u32_or_nat _ _ (by omega) (by omega), or_add (by omega), u32_or_nat _ _ (by omega) (by omega), or_add (by omega), u32_or_nat _ _ (by omega) (by omega), or_add (by omega)]
  unfold g4
  omega
set_option maxHeartbeats 1600000 in
set_option maxRecDepth 1000000 in
theorem getNumber_any (w : World) (p o n c b0 b1 b2 b3 : Nat) (hn : 4 ≤ n) (h0 : b0 < 256) (h1 : b1 < 256) (h2 : b2 < 256) (h3 : b3 < 256)
    (c0 : w.cell? ⟨p, o, none⟩ = some (.int .u8 (b0 : Int))) (c1 : w.cell? ⟨p, o + 1, none⟩ = some (.int .u8 (b1 : Int))) (c2 : w.cell? ⟨p, o + 2, none⟩ = some (.int .u8 (b2 : Int))) (c3 : w.cell? ⟨p, o + 3, none⟩ = some (.int .u8 (b3 : Int))) :
    Calls Try.prog 25 #[.slice (some ⟨p, o, none⟩) n c] w fun e w' => e = .returned (.int .u32 ((g4 b0 b1 b2 b3 : Nat) : Int)) ∧ Same w w' := by
  have hor := or4 b0 b1 b2 b3 h0 h1 h2 h3
  go_enter Try.func25, Try.ntmps25
  go_wp2
  go_quiet (fail)
  go_wp2
  go_ret
  exact ⟨by rw [← hor]; rfl, (Same.refl w).drewN _⟩
theorem getNumber_row (a : Option Addr) (n c x : Nat) (R : List Int) (hx : x ≤ 4294967295) (hn : 4 ≤ n) (h : Row w a (le4 x ++ R)) :
    Calls Try.prog 25 #[.slice a n c] w fun e w' => e = .returned (.int .u32 (x : Int)) ∧ Same w w' := by
  rcases h with h | ⟨b, o, rfl, hlt, hc⟩
  · simp [le4] at h
  · have h4 : ∀ i v, (le4 x)[i]? = some v → w.cell? ⟨b, o + i, none⟩ = some (.int .u8 v) := fun i v hv => by
      obtain ⟨hi, e⟩ := List.getElem?_eq_some_iff.1 hv
      have := hc i (by rw [List.length_append]; omega)
      rw [this, List.getD_eq_getElem?_getD, List.getElem?_append_left hi, hv]; rfl
    have e : g4 (x % 256) (x / 256 % 256) (x / 65536 % 256) (x / 16777216) = x := by unfold g4; omega
    have k := getNumber_any w b o n c (x % 256) (x / 256 % 256) (x / 65536 % 256) (x / 16777216) hn (by omega) (by omega) (by omega) (by omega) (h4 0 _ rfl) (h4 1 _ rfl) (h4 2 _ rfl) (h4 3 _ rfl)
    rw [e] at k
    exact k
theorem Row.cut4 {a : Option Addr} {zs : List Int} (h : Row w a zs) (q c : Nat) (hc : zs.length ≤ c) : Row w (if c = q then a else a.map (fun x => x.add q)) (zs.drop q) := by
  by_cases hq : q < zs.length
  · rw [if_neg (by omega)]
    rcases h with rfl | ⟨b, off, rfl, hlt, hh⟩
    · exact .inl (by simp)
    · refine .inr ⟨b, off + q, by rw [Option.map_some, Addr.add_lit], hlt, fun i hi => ?_⟩
      rw [List.length_drop] at hi
      rw [Nat.add_assoc, hh (q + i) (by omega)]
      simp [List.getD_eq_getElem?_getD]
  · exact .inl (List.drop_of_length_le (by omega))
end Go.Proofs.Ytejdlcahcimflaa
