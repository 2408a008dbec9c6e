/- What a list of calls that came in is known to be; contract of asking whether there is more of it than is looked at. -/
import Derived.Test.YtobkmjkcbihfbaaI
namespace Go.Proofs.Ytobkmjkcbihfbaa
open Go.RowKit
set_option linter.unusedVariables false

/-- a call that came in. -/
structure Cal where
  k : Nat
  v : Nat
  n : Int
  a : Option Addr
  l : Nat
  c : Nat
  bs : List Int
/-- what a walk is told of a list of calls that came in. -/
structure Cals (w : World) (a : Option Addr) (len : Nat) (O : Nat → Cal) : Prop where
  at_ : 0 < len → ∃ b off, a = some ⟨b, off, none⟩ ∧ b < w.heap.size ∧ ∀ r, r < len →
    w.cell? ⟨b, off + r * 4, none⟩ = some (.int .u8 ((O r).k : Int)) ∧ w.cell? ⟨b, off + r * 4 + 1, none⟩ = some (.int .u64 ((O r).v : Int)) ∧
    w.cell? ⟨b, off + r * 4 + 2, none⟩ = some (.int .i64 (O r).n) ∧ w.cell? ⟨b, off + r * 4 + 3, none⟩ = some (.slice (O r).a (O r).l (O r).c)
  row : ∀ r, r < len → Row w (O r).a (O r).bs
  byts : ∀ r, r < len → Byts (O r).bs
  long : ∀ r, r < len → (O r).bs.length = (O r).l
  small : ∀ r, r < len → (O r).l ≤ 140737488355328
  bare : ∀ r, r < len → (O r).a = none → (O r).l = 0 ∧ (O r).c = 0
  kind : ∀ r, r < len → (O r).k < 256
  num : ∀ r, r < len → (O r).v < 18446744073709551616
  cnt : ∀ r, r < len → -9223372036854775808 ≤ (O r).n ∧ (O r).n ≤ 9223372036854775807
  inn : ∀ r, r < len → ∀ ad, (O r).a = some ad → ad.block < w.heap.size ∨ (O r).bs = []

/-- how many bytes the first k calls hold. -/
def tot (O : Nat → Cal) : Nat → Nat
  | 0 => 0
  | k + 1 => tot O k + (O k).l
theorem tot_mono (O : Nat → Cal) (k j : Nat) (h : k ≤ j) : tot O k ≤ tot O j := by
  induction j with
  | zero => have : k = 0 := by omega
            subst this; exact Nat.le_refl _
  | succ j ih =>
    by_cases e : k = j + 1
    · subst e; exact Nat.le_refl _
    · have := ih (by omega)
      rw [tot]; omega

set_option maxHeartbeats 800000 in
set_option maxRecDepth 1000000 in
theorem much_any (a : Option Addr) (len cap : Nat) (O : Nat → Cal) (w : World) (hlen : len ≤ 140737488355328) (h : Cals w a len O) :
    Calls Try.prog 8 #[.slice a len cap] w fun e w' => (e = .returned (.bool true) ∨ (e = .returned (.bool false) ∧ len + tot O len ≤ 20000)) ∧ w' = w := by
  have H := hide h
  clear h
  go_enter Try.func8, Try.ntmps8
  go_wp2
  go_loop [3, 4] (fun n i => ∃ k : Nat, k ≤ len ∧ i = .int .i64 (k : Int) ∧ n = .int .i64 ((len + tot O k : Nat) : Int) ∧ len + tot O k ≤ 140737488375328) (fun _ i => len - (intOf i).toNat)
  case atStart => exact ⟨0, Nat.zero_le _, rfl, by simp [tot], by simp [tot]; omega⟩
  case round =>
    obtain ⟨k, hk, rfl, rfl, hs⟩ := hrel
    have HT : Hid (∀ j, len + tot O (j + 1) = (len + tot O j) + (O j).l) := fun j => by rw [tot]; omega
    by_cases hlt : k < len
    · by_cases hbd : len + tot O k ≤ 20000
      · obtain ⟨b, off, rfl, hb, hc⟩ := H.out.at_ (by omega)
        obtain ⟨_, _, _, g⟩ := hc k hlt
        have hL := H.out.small k hlt
        have HN := hide (HT.out k)
        generalize hN : len + tot O k = M at *
        generalize hm : (O k).l = m at *
        generalize (O k).c = c at *
        generalize (O k).a = ak at *
        clear hc hN hm
        go_wp2
        go_round
        case rel => exact ⟨k + 1, by omega, by go_num, by rw [HN.out]; go_num, by rw [HN.out]; omega⟩
        case measure => simp [intOf]; omega
      · have HF : Hid (¬ len + tot O k ≤ 20000) := hbd
        generalize hN : len + tot O k = M at *
        clear hN
        go_wp2
        go_ret
        exact ⟨.inl rfl, rfl⟩
    · have hke : k = len := by omega
      subst hke
      by_cases hbd : k + tot O k ≤ 20000
      · have HF := hide hbd
        generalize hN : k + tot O k = M at *
        have HN := hide hN
        clear hN
        have hd : decide (20000 < (M : Int)) = false := by simp; omega
        go_wp2
        go_ret
        exact ⟨.inr ⟨rfl, HN.out ▸ HF.out⟩, rfl⟩
      · generalize hN : k + tot O k = M at *
        clear hN
        have hd : decide (20000 < (M : Int)) = true := by simp; omega
        go_wp2
        go_ret
        exact ⟨.inl rfl, rfl⟩
end Go.Proofs.Ytobkmjkcbihfbaa
