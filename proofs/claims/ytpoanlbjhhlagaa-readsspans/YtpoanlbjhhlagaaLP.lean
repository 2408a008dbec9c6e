/- Lent spans are written over: a list of one. -/
import Derived.Test.YtpoanlbjhhlagaaLW
namespace Go.Proofs.Ytpoanlbjhhlagaa
open Go.RowKit Go.Maps
set_option linter.unusedVariables false

theorem six_set {W : World} {g : Nat} {cs : Array Value} (h : W.heap[g]? = some (.cells cs 65 (0, 0))) (i : Nat) (v : Value) : ∃ cs', (W.setCell ⟨g, i, none⟩ v).heap[g]? = some (.cells cs' 65 (0, 0)) ∧ cs'.size = cs.size := by
  rw [heap_setCell_same W g i _ 65 _ h]
  exact ⟨_, rfl, by simp⟩
def Six (W : World) (g : Nat) : Prop := ∃ cs, W.heap[g]? = some (.cells cs 65 (0, 0)) ∧ cs.size = 6
theorem Six.set {W : World} {g : Nat} (h : Six W g) (i : Nat) (v : Value) : Six (W.setCell ⟨g, i, none⟩ v) g := by
  obtain ⟨cs, h1, h2⟩ := h
  obtain ⟨cs', h3, h4⟩ := six_set h1 i v
  exact ⟨cs', h3, h4.trans h2⟩
theorem Six.c {W : World} {g : Nat} (h : Six W g) (i : Nat) (hi : i < 6) : (∃ v, W.cell? ⟨g, i, none⟩ = some v) ∧ W.frozen? ⟨g, i, none⟩ = false := by
  obtain ⟨cs, h1, h2⟩ := h
  refine ⟨⟨cs[i], ?_⟩, by simp [World.frozen?, h1]⟩
  simp [World.cell?, h1, h2, hi]
set_option maxHeartbeats 3200000 in
set_option maxRecDepth 1000000 in
theorem spoils_any {w0 w : World} {g gk gv g9 : Nat} {x : Ee} (hL : Lt w0 w g gk gv g9 x) (hl : x.key.length ≤ 30000 ∧ x.val.length ≤ 30000) :
    Calls Try.prog 32 #[.slice (some ⟨g, 0, none⟩) 1 2] w fun e w' => e = .returned (.tuple #[]) ∧ Mv (fun k => k = g ∨ k = gk ∨ k = gv) w w' := by
  have hgk : g ≠ gk := fun e => by
    subst e
    obtain ⟨c, hc⟩ := hL.key.u8 (k := g) (by simp [Value.ownBlock])
    rw [hL.row] at hc; have := obj_type hc; simp at this
  have hgv : g ≠ gv := fun e => by
    subst e
    obtain ⟨c, hc⟩ := hL.val.u8 (k := g) (by simp [Value.ownBlock])
    rw [hL.row] at hc; have := obj_type hc; simp at this
  have hkv := hL.ne.1
  have hg := lt_of_block hL.row
  have HS1 := hide (Le.spoil_any gk x.key.length (x.key.length + 2) w (Le.own_blk hL.key) (by omega) (by omega))
  have HS2 : Hid (∀ W, w.grownBy W (some gk) → Calls Try.prog 28 #[.slice (some ⟨gv, 0, none⟩) x.val.length (x.val.length + 2)] W fun e w' => e = .returned (.tuple #[]) ∧ W.grownBy w' (some gv)) := hide fun W hW => by
    obtain ⟨cur, hc, hs⟩ := Le.own_blk hL.val
    exact Le.spoil_any gv x.val.length (x.val.length + 2) W ⟨cur, (hW.block gv (lt_of_block hc) (fun e => hkv (Option.some.inj e).symm)).trans hc, hs⟩ (by omega) (by omega)
  have HR := hide hL.row
  obtain ⟨r0, r1, -⟩ : w.cell? ⟨g, 0, none⟩ = some (.slice (some ⟨gk, 0, none⟩) x.key.length (x.key.length + 2)) ∧ w.cell? ⟨g, 1, none⟩ = some (.slice (some ⟨gv, 0, none⟩) x.val.length (x.val.length + 2)) ∧ True := ⟨by simp [World.cell?, hL.row], by simp [World.cell?, hL.row], trivial⟩
  clear hL
  go_enter Try.func32, Try.ntmps32
  go_wp2
  go_loopw [2] (fun i wr => (i = .int .i64 0 ∧ wr = w) ∨ (i = .int .i64 1 ∧ Six wr g ∧ Mv (fun k => k = g ∨ k = gk ∨ k = gv) w wr)) (fun i _ => 1 - (intOf i).toNat)
  case atStart => exact .inl ⟨rfl, rfl⟩
  case round =>
    rcases hrel with ⟨rfl, rfl⟩ | ⟨rfl, h6, hmv⟩
    · have f1 : (0 : Int) < 1 := by omega
      go_wp2_with fail
      refine HS1.out.mono ?_
      rintro e w2 ⟨rfl, hg2⟩
      have hr2 := (hg2.block g hg (fun e => hgk (Option.some.inj e))).trans HR.out
      have q1 : w2.cell? ⟨g, 1, none⟩ = some (.slice (some ⟨gv, 0, none⟩) x.val.length (x.val.length + 2)) := by simp [World.cell?, hr2]
      have HG2 := hide hg2
      have HR2 := hide hr2
      clear hg2 hr2
      go_wp2_with fail
      refine (HS2.out w2 HG2.out).mono ?_
      rintro e w3 ⟨rfl, hg3⟩
      have hr3 := (hg3.block g (lt_of_block HR2.out) (fun e => hgv (Option.some.inj e))).trans HR2.out
      have HM := hide (((Mv.refl (fun k => k = g ∨ k = gk ∨ k = gv) _).grown HG2.out fun k hk => by cases hk; exact .inl (.inr (.inl rfl))).grown hg3 fun k hk => by cases hk; exact .inl (.inr (.inr rfl)))
      have HX : Hid (Six w3 g) := hide ⟨_, hr3, rfl⟩
      clear hg3 hr3
      go_wp2
      go_roundw
      case rel => exact .inr ⟨rfl, HX.out, HM.out⟩
      case measure => simp [intOf]
    · have H6 := hide h6
      have HM := hide hmv
      clear h6 hmv
      go_wp2
      go_loopw [4] (fun i wr => ∃ k : Nat, k ≤ 2 ∧ i = .int .i64 (k : Int) ∧ Six wr g ∧ Mv (fun k => k = g ∨ k = gk ∨ k = gv) w wr) (fun i _ => 2 - (intOf i).toNat)
      case atStart => exact ⟨0, by omega, rfl, H6.out, HM.out⟩
      case round =>
        obtain ⟨k, hk, rfl, h6, hmv⟩ := hrel
        have H6 := hide h6
        have HM := hide hmv
        clear h6 hmv
        by_cases hlt : k < 2
        · obtain ⟨⟨u0, c0⟩, z0⟩ := H6.out.c (k * 3) (by omega)
          obtain ⟨⟨u1, c1⟩, z1⟩ := H6.out.c (k * 3 + 1) (by omega)
          obtain ⟨⟨u2, c2⟩, z2⟩ := H6.out.c (k * 3 + 2) (by omega)
          have f1 : (k : Int) < 2 := by omega
          have f2 : (0 : Int) ≤ (k : Int) := by omega
          go_wp2
          go_roundw
          case rel => exact ⟨k + 1, by omega, by go_num, ((H6.out.set _ _).set _ _).set _ _, ((HM.out.setB (.inl rfl) _ _).setB (.inl rfl) _ _).setB (.inl rfl) _ _⟩
          case measure => simp [intOf]; omega
        · obtain rfl : k = 2 := by omega
          go_wp2
          go_end0
          exact ⟨rfl, HM.out⟩
end Go.Proofs.Ytpoanlbjhhlagaa
