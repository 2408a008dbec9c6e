/- The document's own Encode refuses; both Encodes, whatever they are handed. -/
import Derived.Test.YtjpiacjfmgijfaaOJ
namespace Go.Proofs.Ytjpiacjfmgijfaa
open Go.RowKit Go.Maps
set_option linter.unusedVariables false
variable {w w' : World}
set_option maxHeartbeats 3200000 in
set_option maxRecDepth 1000000 in
theorem rencode_no (w : World) (a a' : Option Addr) (n c m c' : Nat) (hn : n ≤ 9223372036854775807) (ys : List Nat) (hl' : ys.length = m) (hm : m ≤ 1000000) (hr' : Rw w a' ys) (hz' : W32 ys) (hbad : m = 0 ∨ m ≠ need n ∨ ys.all okp = false) :
    Calls Try.prog 11 #[.slice a n c, .slice a' m c'] w fun e w' => e = .returned (.tuple #[.slice none 0 0, .int .u16 120]) ∧ w' = w := by
  obtain ⟨p, hp⟩ : ∃ p, p = need n := ⟨_, rfl⟩
  have hp9 := need_le n
  rw [← hp] at hbad hp9
  have HN : Hid (∀ W, Calls Try.prog 16 #[.int .i64 (n : Int)] W fun e w' => e = .returned (.int .i64 (p : Int)) ∧ w' = W) := fun W => by rw [hp]; exact rneed_any W n hn
  have HL' := hide hl'
  have HR' := hide hr'
  have HZ' := hide hz'
  clear hl' hr' hz' hp
  by_cases h0 : p = 0
  · have hq0 : ((p : Int) == 0) = true := by rw [beq_iff_eq]; omega
    have H0 := hide h0
    clear h0 hbad
    go_enter Try.func11, Try.ntmps11
    go_wp2_with (go_at_call 16; refine (HN.out _).mono ?_; rintro e w2 ⟨rfl, hw2⟩; rw [hw2]; clear hw2 w2)
    go_ret2
    exact ⟨rfl, rfl⟩
  · have hq0 : ((p : Int) == 0) = false := by rw [beq_eq_false_iff_ne]; omega
    by_cases h1 : m = p
    · have hq1 : ((m : Int) != (p : Int)) = false := by rw [bne_eq_false_iff_eq]; omega
      have hal : ys.all okp = false := by rcases hbad with e | e | e; omega; exact absurd h1 e; exact e
      have HAl := hide hal
      have H1 := hide h1
      clear hbad hal h0 h1
      go_enter Try.func11, Try.ntmps11
      go_wp2_with (go_at_call 16; refine (HN.out _).mono ?_; rintro e w2 ⟨rfl, hw2⟩; rw [hw2]; clear hw2 w2)
      go_loop [7] (fun i => ∃ k : Nat, k ≤ m ∧ i = .int .i64 k ∧ ∀ l, l < k → okp (ys.getD l 0) = true) (fun i => m - (intOf i).toNat)
      case atStart => exact ⟨0, Nat.zero_le _, rfl, fun l hl => by omega⟩
      case round =>
        obtain ⟨k, hk, rfl, hall⟩ := hrel
        have HA := hide hall
        clear hall
        by_cases hlt : k < m
        · have hlk : k < ys.length := by have := HL'.out; omega
          have hkp : (k : Int) < (p : Int) := by have := H1.out; omega
          have hkm : (k : Int) < (m : Int) := by omega
          have hz := HZ'.out.at k
          rcases HR'.out with h0 | ⟨b, o, rfl, _, hcc⟩
          · subst h0; simp at hlk
          have g1 := hcc k hlk
          clear hcc hlk
          have HAk : Hid (okp (ys.getD k 0) = true → ∀ l, l < k + 1 → okp (ys.getD l 0) = true) := fun hy l hl => by
            by_cases e : l < k
            · exact HA.out l e
            · obtain rfl : l = k := by omega
              exact hy
          generalize ys.getD k 0 = y at *
          by_cases hy1 : 2 ≤ y
          · have hy2 : ¬ (y : Int) < 2 := by omega
            by_cases hy3 : y ≤ 16383
            · have hy4 : ¬ (16383 : Int) < (y : Int) := by omega
              go_wp2
              go_round
              case rel => exact ⟨k + 1, by omega, by go_num, HAk.out (by unfold okp; simp [hy1, hy3])⟩
              case measure => simp [intOf]; omega
            · have hy4 : (16383 : Int) < (y : Int) := by omega
              go_wp2
              go_ret2
              exact ⟨rfl, rfl⟩
          · have hy2 : (y : Int) < 2 := by omega
            go_wp2
            go_ret2
            exact ⟨rfl, rfl⟩
        · exact absurd (all_at.2 (fun i hi => HA.out i (by have := HL'.out; omega))) (by rw [HAl.out]; simp)
    · have hq1 : ((m : Int) != (p : Int)) = true := by rw [bne_iff_ne]; omega
      clear hbad h0 h1
      go_enter Try.func11, Try.ntmps11
      go_wp2_with (go_at_call 16; refine (HN.out _).mono ?_; rintro e w2 ⟨rfl, hw2⟩; rw [hw2]; clear hw2 w2)
      go_ret2
      exact ⟨rfl, rfl⟩
/-- may these be written? -/
def good (n : Nat) (ys : List Nat) : Prop := ys.length ≠ 0 ∧ ys.length = need n ∧ ys.all okp = true
instance (n : Nat) (ys : List Nat) : Decidable (good n ys) := inferInstanceAs (Decidable (_ ∧ _ ∧ _))
def encE (n : Nat) (ys : List Nat) : Nat := if good n ys then 0 else 120
def encN (n : Nat) (ys : List Nat) : Nat := if good n ys then ys.length else 0
/-- what an Encode tells. -/
structure EncOut (w : World) (n : Nat) (zs : List Int) (ys : List Nat) (e : Ending) (w' : World) : Prop where
  out : ∃ v a c vs, v = .slice a (encN n ys) c ∧ e = .returned (.tuple #[v, .int .u16 (encE n ys : Int)]) ∧ vs.length = encN n ys ∧ Ro w' v w.heap.size vs (pay zs ys)
  bel : Below w.heap.size w w'
theorem encN_le (n : Nat) (ys : List Nat) : encN n ys ≤ 9 := by
  unfold encN
  split
  · rename_i h; rw [h.2.1]; exact need_le n
  · omega
theorem bad_of {n : Nat} {ys : List Nat} (h : ¬ good n ys) : ys.length = 0 ∨ ys.length ≠ need n ∨ ys.all okp = false := by
  by_cases h0 : ys.length = 0
  · exact .inl h0
  · by_cases h1 : ys.length = need n
    · refine .inr (.inr ?_)
      cases h2 : ys.all okp with
      | false => rfl
      | true => exact absurd ⟨h0, h1, h2⟩ h
    · exact .inr (.inl h1)
theorem some_of {a : Option Addr} {n : Nat} {zs : List Int} (hr : Row w a zs) (hl : zs.length = n) (hn : 0 < n) : ∃ b o, a = some ⟨b, o, none⟩ := by
  rcases hr with rfl | ⟨b, o, e, _⟩
  · simp at hl; omega
  · exact ⟨b, o, e⟩
theorem encode_all (w : World) (a a' : Option Addr) (n c m c' : Nat) (zs : List Int) (ys : List Nat) (hl : zs.length = n) (hnc : n ≤ c) (hc : c ≤ 9223372036854775807) (hr : Row w a zs)
    (hl' : ys.length = m) (hm : m ≤ 1000000) (hmc : m ≤ c') (hr' : Rw w a' ys) (hz' : W32 ys) :
    Calls Try.prog 6 #[.slice a n c, .slice a' m c'] w (EncOut w n zs ys) := by
  by_cases hg : good n ys
  · obtain ⟨g0, g1, g2⟩ := hg
    obtain ⟨b0, off, rfl⟩ := some_of hr hl (by have := need_pos (n := n) (by omega); omega)
    refine (encode_ok w a' b0 off n c m c' zs ys hl hnc hc hr hl' (by omega) (by omega) hmc hr' hz' g2).mono ?_
    rintro e w' ⟨v, vs, rfl, h1, h2, h3⟩
    have hN : encN n ys = m := by unfold encN; rw [if_pos ⟨g0, g1, g2⟩, hl']
    have hE : encE n ys = 0 := by unfold encE; rw [if_pos ⟨g0, g1, g2⟩]
    obtain ⟨av, cv, rfl⟩ := row_shape h2.row
    exact ⟨⟨_, av, cv, vs, by rw [hN, h1], by rw [hE]; rfl, by rw [hN, h1], h2⟩, h3⟩
  · refine (encode_no w a a' n c m c' (by omega) ys hl' hm hr' hz' (by rw [← hl']; exact bad_of hg)).mono ?_
    rintro e w' ⟨rfl, h3⟩
    have hN : encN n ys = 0 := by unfold encN; rw [if_neg hg]
    have hE : encE n ys = 120 := by unfold encE; rw [if_neg hg]
    exact ⟨⟨_, none, 0, [], by rw [hN], by rw [hE]; rfl, by rw [hN]; rfl, Ro.nil _ _ _⟩, h3⟩
theorem rencode_all (w : World) (a a' : Option Addr) (n c m c' : Nat) (zs : List Int) (ys : List Nat) (hl : zs.length = n) (hnc : n ≤ c) (hc : c ≤ 9223372036854775807) (hr : Row w a zs)
    (hl' : ys.length = m) (hm : m ≤ 1000000) (hmc : m ≤ c') (hr' : Rw w a' ys) (hz' : W32 ys) :
    Calls Try.prog 11 #[.slice a n c, .slice a' m c'] w (EncOut w n zs ys) := by
  by_cases hg : good n ys
  · obtain ⟨g0, g1, g2⟩ := hg
    obtain ⟨b0, off, rfl⟩ := some_of hr hl (by have := need_pos (n := n) (by omega); omega)
    refine (rencode_ok w a' b0 off n c m c' zs ys hl hnc hc hr hl' (by omega) (by omega) hmc hr' hz' g2).mono ?_
    rintro e w' ⟨v, vs, rfl, h1, h2, h3⟩
    have hN : encN n ys = m := by unfold encN; rw [if_pos ⟨g0, g1, g2⟩, hl']
    have hE : encE n ys = 0 := by unfold encE; rw [if_pos ⟨g0, g1, g2⟩]
    obtain ⟨av, cv, rfl⟩ := row_shape h2.row
    exact ⟨⟨_, av, cv, vs, by rw [hN, h1], by rw [hE]; rfl, by rw [hN, h1], h2⟩, h3⟩
  · refine (rencode_no w a a' n c m c' (by omega) ys hl' hm hr' hz' (by rw [← hl']; exact bad_of hg)).mono ?_
    rintro e w' ⟨rfl, rfl⟩
    have hN : encN n ys = 0 := by unfold encN; rw [if_neg hg]
    have hE : encE n ys = 120 := by unfold encE; rw [if_neg hg]
    exact ⟨⟨_, none, 0, [], by rw [hN], by rw [hE]; rfl, by rw [hN]; rfl, Ro.nil _ _ _⟩, Below.refl _ _⟩
end Go.Proofs.Ytjpiacjfmgijfaa
