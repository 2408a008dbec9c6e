/- What came in: a slice of bools. -/
import Derived.Test.YtkammfkknfflgaaDU
import Derived.OpenShut
import Derived.ShutString
import Derived.ChangeOld
import Derived.Deep.Slices
namespace Go.Proofs.Ytkammfkknfflgaa
open Go.ChangeShapes Go.WideShapes Go.ChangeAt Go.RowKit Go.Deep
set_option linter.unusedVariables false

theorem own : ownKnob Try.prog.godebug = none := by kernel_rfl
theorem laidOut : laidOutB Try.prog = true := by kernel_rfl
theorem cells4 : Try.prog.cellsOf 4 = 1 := by kernel_rfl
variable {H : Type} {enc : TypeId × Value → H} {W : World}
theorem some_of {α : Type} {xs : List α} {i n : Nat} (h : xs.length = n) (hi : i < n) : ∃ x, xs[i]? = some x := ⟨_, List.getElem?_eq_getElem (by omega)⟩
theorem spot_of {ad : Addr} {cs : List Value} {n m : Nat} (h : W.cells? 0 (ad.add (0 * m)) n = some cs) (hn : 0 < n) : ad.spot = none := by
  obtain ⟨_, hl, hcell⟩ := World.cells?_some h
  have hc0 := hcell 0 hn
  obtain ⟨u0, hu0⟩ := some_of (i := 0) hl hn
  rw [hu0] at hc0
  have := World.cell?_spot hc0
  simpa [Addr.add] using this
set_option maxRecDepth 1000000 in
set_option maxHeartbeats 800000 in
theorem read_bools (fuel : Nat) (v5 : Value) (x : DataW H × List MemPlace) (h : DataW.trod enc Try.prog W 0 (fun _ => true) true fuel 94 [v5] = some x) :
    ∃ da dc, ∃ ds : List Bool, v5 = .slice da ds.length dc ∧ BRow W da ds ∧ ds.length ≤ 9223372036854775807 := by
  rcases DataW.trod_slice Try.underlying94 h with ⟨hcs, _⟩ | ⟨ad, len, cap, elems, rest, n', hn', hcs, _, _, hlc, hcm, hel, hat, _, _⟩
  · cases hcs
    exact ⟨none, 0, [], rfl, .inl rfl, by simp⟩
  · cases hcs
    have hone : ∀ i, i < len → ∃ v : Bool, ∃ b o, some ad = some (⟨b, o, none⟩ : Addr) ∧ b < W.heap.size ∧ W.cell? ⟨b, o + i, none⟩ = some (.bool v) := by
      intro i hi
      obtain ⟨y, ey⟩ := some_of (i := i) hel hi
      have h1 := hat i hi
      rw [ey, cells4] at h1
      obtain ⟨cs', hc1, hc2⟩ := Option.bind_eq_some_iff.1 h1
      obtain ⟨v, hv, _⟩ := DataW.trod_bool Try.underlying4 hc2
      subst hv
      obtain ⟨_, _, hcell⟩ := World.cells?_some hc1
      refine ⟨v, ?_⟩
      obtain ⟨b, o, spot⟩ := ad
      have hc0 := hcell 0 (by omega)
      have hspot : spot = none := by
        obtain ⟨y', ey'⟩ := some_of (i := 0) hel (by omega)
        have h2 := hat 0 (by omega)
        rw [ey', cells4] at h2
        obtain ⟨cs0, hc01, _⟩ := Option.bind_eq_some_iff.1 h2
        exact spot_of hc01 (by omega)
      subst hspot
      rw [Addr.add_lit, Addr.add_lit] at hc0
      refine ⟨b, o, rfl, World.block_lt_of_cell? W _ hc0, ?_⟩
      simpa using hc0
    obtain ⟨F, hF⟩ := choose_lt hone
    refine ⟨some ad, cap, (List.range len).map F, by simp, ?_, by simp; unfold maxLen at hcm; omega⟩
    by_cases h0 : len = 0
    · subst h0; exact .inl rfl
    · obtain ⟨b, o, e, hb, _⟩ := hF 0 (by omega)
      cases e
      refine .inr ⟨b, o, rfl, hb, fun i hi => ?_⟩
      simp at hi
      obtain ⟨b', o', e, _, hc⟩ := hF i hi
      cases e
      rw [hc]
      simp [List.getD_eq_getElem?_getD, hi]
theorem BRow.lt {w : World} {a : Option Addr} {bs : List Bool} (h : BRow w a bs) (h0 : bs ≠ []) : ∀ ad, a = some ad → ad.block < w.heap.size := by
  intro ad e
  rcases h with h | ⟨b, off, rfl, hlt, _⟩
  · exact absurd h h0
  · cases e; exact hlt
end Go.Proofs.Ytkammfkknfflgaa
