/- Encode refuses; whatever it is handed. -/
import Derived.Test.YtejdlcahcimflaaNF
namespace Go.Proofs.Ytejdlcahcimflaa
open Go.RowKit Go.Maps
set_option linter.unusedVariables false
variable {w w' : World}
set_option maxHeartbeats 3200000 in
set_option maxRecDepth 1000000 in
theorem encode_no (w : World) (a a' : Option Addr) (n c n' c' : Nat) (zs ys : List Nat) (hl : zs.length = n) (hn : n ≤ 300000) (hr : Rw w a zs) (hz : W32 zs) (hl' : ys.length = n') (hn' : n' ≤ 300000) (hr' : Rw w a' ys) (hz' : W32 ys)
    (hbad : (rise zs && zs.all okp) = false ∨ ys.all okp = false ∨ (n' ≠ (n + 250) / 251 ∧ n' ≠ (n + 250) / 251 + 1)) :
    Calls Try.prog 5 #[.slice a n c, .slice a' n' c'] w fun e w' => e = .returned (.tuple #[.slice none 0 0, .int .u16 110]) ∧ Below w.heap.size w w' := by
  have HI := hide (isList_any w a n c zs hl (by omega) hr hz)
  have HA := hide (fun W (hW : Same w W) => allMay_any W a' n' c' ys hl' (by omega) (hr'.below hW.below) hz')
  obtain ⟨d, hd⟩ : ∃ d, d = (n + 250) / 251 := ⟨_, rfl⟩
  have hdb : d ≤ 300000 := by omega
  have HNd := hide (need_any w n (by omega))
  rw [← hd] at HNd hbad
  have HD := hide hd
  clear hd hl hr hz hl' hr' hz'
  by_cases h1 : (rise zs && zs.all okp) = true
  · rw [h1] at HI
    by_cases h2 : ys.all okp = true
    · rw [h2] at HA
      have h3 : n' ≠ d ∧ n' ≠ d + 1 := by
        rcases hbad with e | e | e
        · rw [h1] at e; cases e
        · rw [h2] at e; cases e
        · exact e
      have q1 : ((n' : Int) != (d : Int)) = true := by rw [bne_iff_ne]; omega
      have q2 : ((n' : Int) != (d : Int) + 1) = true := by rw [bne_iff_ne]; omega
      clear hbad h1 h2 h3
      go_enter Try.func5, Try.ntmps5
      go_wp2_with (first
        | (go_at_call 16; refine HNd.out.mono ?_; rintro e w1 ⟨rfl, hw1⟩; rw [hw1]; clear hw1)
        | (go_at_call 19; refine HI.out.mono ?_; rintro e w2 ⟨rfl, hs2⟩; have HS2 := hide hs2; clear hs2)
        | (go_at_call 20; refine (HA.out _ HS2.out).mono ?_; rintro e w3 ⟨rfl, hs3⟩; have HS3 := hide (HS2.out.trans hs3); clear hs3))
      go_ret2
      exact ⟨rfl, HS3.out.below⟩
    · rw [bool_false h2] at HA
      clear hbad h1 h2
      go_enter Try.func5, Try.ntmps5
      go_wp2_with (first
        | (go_at_call 16; refine HNd.out.mono ?_; rintro e w1 ⟨rfl, hw1⟩; rw [hw1]; clear hw1)
        | (go_at_call 19; refine HI.out.mono ?_; rintro e w2 ⟨rfl, hs2⟩; have HS2 := hide hs2; clear hs2)
        | (go_at_call 20; refine (HA.out _ HS2.out).mono ?_; rintro e w3 ⟨rfl, hs3⟩; have HS3 := hide (HS2.out.trans hs3); clear hs3))
      go_ret2
      exact ⟨rfl, HS3.out.below⟩
  · rw [bool_false h1] at HI
    clear hbad h1
    go_enter Try.func5, Try.ntmps5
    go_wp2_with (first
      | (go_at_call 16; refine HNd.out.mono ?_; rintro e w1 ⟨rfl, hw1⟩; rw [hw1]; clear hw1)
      | (go_at_call 19; refine HI.out.mono ?_; rintro e w2 ⟨rfl, hs2⟩; have HS2 := hide hs2; clear hs2))
    go_ret2
    exact ⟨rfl, HS2.out.below⟩
/-- may these be written? -/
def egood (zs ys : List Nat) : Prop := (rise zs && zs.all okp) = true ∧ ys.all okp = true ∧ (ys.length = (zs.length + 250) / 251 ∨ ys.length = (zs.length + 250) / 251 + 1)
instance (zs ys : List Nat) : Decidable (egood zs ys) := inferInstanceAs (Decidable (_ ∧ _ ∧ _))
def encE (zs ys : List Nat) : Nat := if egood zs ys then 0 else 110
def encN (zs ys : List Nat) : Nat := if egood zs ys then ys.length else 0
/-- what an Encode tells. -/
structure EncOut (w : World) (zs ys : List Nat) (e : Ending) (w' : World) : Prop where
  out : ∃ v a c vs, v = .slice a (encN zs ys) c ∧ e = .returned (.tuple #[v, .int .u16 (encE zs ys : Int)]) ∧ vs.length = encN zs ys ∧ Rb.Ro w' v w.heap.size vs (pay zs ys)
  bel : Below w.heap.size w w'
theorem bad_of {zs ys : List Nat} (h : ¬ egood zs ys) : (rise zs && zs.all okp) = false ∨ ys.all okp = false ∨ (ys.length ≠ (zs.length + 250) / 251 ∧ ys.length ≠ (zs.length + 250) / 251 + 1) := by
  cases h1 : (rise zs && zs.all okp) with
  | false => exact .inl rfl
  | true =>
    cases h2 : ys.all okp with
    | false => exact .inr (.inl rfl)
    | true => exact .inr (.inr ⟨fun e => h ⟨h1, h2, .inl e⟩, fun e => h ⟨h1, h2, .inr e⟩⟩)
theorem rb_of {g B m : Nat} {vs : List Value} {L : Nat → List Int} (h : Ro w g B vs m L) (hl : vs.length = m) (hg : B ≤ g) (hm : m ≤ 1000000) : Rb.Ro w (.slice (some ⟨g, 0, none⟩) m m) B vs L := by
  refine ⟨?_, fun b hb => ?_, fun j hj => h.own j (by omega), fun j b hj hb => ?_, fun i j b hi hj => h.apart i j b (by omega) (by omega)⟩
  · rw [hl]
    exact ⟨by omega, .inr ⟨g, m, vs.toArray, rfl, Nat.zero_le _, h.blk, Nat.le_refl _, by unfold maxLen; omega, by simp [hl], by simp [← hl]⟩⟩
  · have : g = b := by simpa [Value.ownBlock] using hb
    omega
  · have q := h.low j b (by omega) hb
    exact ⟨q.1, fun e => q.2 (by have : g = b := by simpa [Value.ownBlock] using e
                                 omega)⟩
theorem encode_all (w : World) (a a' : Option Addr) (n c n' c' : Nat) (zs ys : List Nat) (hl : zs.length = n) (hn : n ≤ 300000) (hc : n ≤ c) (hr : Rw w a zs) (hz : W32 zs) (hl' : ys.length = n') (hn' : n' ≤ 300000) (hr' : Rw w a' ys) (hz' : W32 ys) :
    Calls Try.prog 5 #[.slice a n c, .slice a' n' c'] w (EncOut w zs ys) := by
  by_cases hg : egood zs ys
  · obtain ⟨g1, g2, g3⟩ := hg
    refine (encode_ok w a a' n c n' c' zs ys hl hn hc hr hz hl' hn' hr' hz' g1 g2 (by rw [← hl, ← hl']; exact g3)).mono ?_
    rintro e w' ⟨g, vs, rfl, h1, h2, h3, h4⟩
    have hN : encN zs ys = n' := by unfold encN; rw [if_pos ⟨g1, g2, g3⟩, hl']
    have hE : encE zs ys = 0 := by unfold encE; rw [if_pos ⟨g1, g2, g3⟩]
    exact ⟨⟨_, _, _, vs, by rw [hN], by rw [hE]; rfl, by rw [hN, h1], rb_of h3 h1 h2 (by omega)⟩, h4⟩
  · refine (encode_no w a a' n c n' c' zs ys hl hn hr hz hl' hn' hr' hz' (by rw [← hl, ← hl']; exact bad_of hg)).mono ?_
    rintro e w' ⟨rfl, h3⟩
    have hN : encN zs ys = 0 := by unfold encN; rw [if_neg hg]
    have hE : encE zs ys = 110 := by unfold encE; rw [if_neg hg]
    exact ⟨⟨_, none, 0, [], by rw [hN], by rw [hE]; rfl, by rw [hN]; rfl, Rb.Ro.nil _ _ _⟩, h3⟩
end Go.Proofs.Ytejdlcahcimflaa
