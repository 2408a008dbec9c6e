/- Values and bools that came in as slices: what their reading says of memory. -/
import Derived.Test.YtegoeaofjnpehaaVO
import Derived.Test.YtegoeaofjnpehaaVR
namespace Go.Proofs.Ytegoeaofjnpehaa
open Go.ChangeShapes Go.WideShapes Go.ChangeAt Go.RowKit Go.Deep
set_option linter.unusedVariables false

variable {H : Type} {enc : TypeId × Value → H} {W : World}
set_option maxRecDepth 1000000 in
set_option maxHeartbeats 800000 in
theorem read_vals (fuel : Nat) (v5 : Value) (x : DataW H × List MemPlace) (h : DataW.trod enc Try.prog W 0 (fun _ => true) true fuel 22 [v5] = some x) :
    ∃ la lc, ∃ l : TL, v5 = .slice la l.list.length lc ∧ l.Mem W.heap.size W la 0 ∧ (la = none → l.list = [] ∧ lc = 0) ∧ l.list.length ≤ 9223372036854775807 ∧ l.Szd ∧ l.list.length ≤ lc := by
  rcases DataW.trod_slice Try.underlying22 h with ⟨hcs, _⟩ | ⟨ad, len, cap, elems, rest, n', hn', hcs, _, _, hlc, hcm, hel, hat, _, _⟩
  · cases hcs
    exact ⟨none, 0, .nil, rfl, trivial, fun _ => ⟨rfl, rfl⟩, by simp [TL.list], trivial, by simp [TL.list]⟩
  · cases hcs
    have hone : ∀ i, i < len → ∃ v : T, (∃ b o, some ad = some (⟨b, o, none⟩ : Addr) ∧ b < W.heap.size ∧ ∀ x u, v.cells[x]? = some u → W.cell? ⟨b, o + i * 7 + x, none⟩ = some u) ∧ v.Mem W.heap.size W ∧ v.Szd := by
      intro i hi
      obtain ⟨y, ey⟩ := some_of (i := i) hel hi
      have h1 := hat i hi
      rw [ey, cells41] at h1
      obtain ⟨cs', hc1, hc2⟩ := Option.bind_eq_some_iff.1 h1
      obtain ⟨v, hv, hvm, hvs⟩ := read_val n' cs' _ hc2
      obtain ⟨_, hlen7, hcell⟩ := World.cells?_some hc1
      refine ⟨v, ?_, hvm, hvs⟩
      have hlv : v.cells.length = 7 := by rw [hv]; exact hlen7
      obtain ⟨b, o, spot⟩ := ad
      have hc0 := hcell 0 (by omega)
      obtain ⟨u0, hu0⟩ := some_of (i := 0) hlen7 (by omega)
      rw [hu0] at hc0
      have hspot : spot = none := by
        obtain ⟨y', ey'⟩ := some_of (i := 0) hel (by omega)
        have h2 := hat 0 (by omega)
        rw [ey', cells41] at h2
        obtain ⟨cs0, hc01, _⟩ := Option.bind_eq_some_iff.1 h2
        exact spot_of hc01 (by omega)
      subst hspot
      refine ⟨b, o, rfl, ?_, fun x u hu => ?_⟩
      · have := World.block_lt_of_cell? W _ hc0
        rw [Addr.add_lit, Addr.add_lit] at this
        exact this
      · have hx : x < 7 := by have := (List.getElem?_eq_some_iff.1 hu).1; omega
        have := hcell x hx
        rw [Addr.add_lit, Addr.add_lit, ← hv] at this
        rw [this, hu]
    obtain ⟨F, hF⟩ := choose_lt hone
    have := TL.of_mem (N := W.heap.size) (W := W) (a := some ad) F len 0 (fun j _ hj => hF j (by omega))
    exact ⟨some ad, cap, TL.of F 0 len, by rw [TL.of_len], this.1, (by intro h; cases h), by rw [TL.of_len]; unfold maxLen at hcm; omega, this.2, by rw [TL.of_len]; exact hlc⟩
set_option maxRecDepth 1000000 in
set_option maxHeartbeats 800000 in
theorem read_bools (fuel : Nat) (v5 : Value) (x : DataW H × List MemPlace) (h : DataW.trod enc Try.prog W 0 (fun _ => true) true fuel 23 [v5] = some x) :
    ∃ da dc, ∃ ds : List Bool, v5 = .slice da ds.length dc ∧ Bl W.heap.size W da ds ∧ ds.length ≤ 9223372036854775807 := by
  rcases DataW.trod_slice Try.underlying23 h with ⟨hcs, _⟩ | ⟨ad, len, cap, elems, rest, n', hn', hcs, _, _, hlc, hcm, hel, hat, _, _⟩
  · cases hcs
    exact ⟨none, 0, [], rfl, .inl rfl, by simp⟩
  · cases hcs
    have hone : ∀ i, i < len → ∃ v : Bool, ∃ b o, some ad = some (⟨b, o, none⟩ : Addr) ∧ b < W.heap.size ∧ W.cell? ⟨b, o + i, none⟩ = some (.bool v) := by
      intro i hi
      obtain ⟨y, ey⟩ := some_of (i := i) hel hi
      have h1 := hat i hi
      rw [ey, cells4] at h1
      obtain ⟨cs', hc1, hc2⟩ := Option.bind_eq_some_iff.1 h1
      obtain ⟨v, hv, _⟩ := DataW.trod_bool Try.underlying4 hc2
      subst hv
      obtain ⟨_, _, hcell⟩ := World.cells?_some hc1
      refine ⟨v, ?_⟩
      obtain ⟨b, o, spot⟩ := ad
      have hc0 := hcell 0 (by omega)
      have hspot : spot = none := by
        obtain ⟨y', ey'⟩ := some_of (i := 0) hel (by omega)
        have h2 := hat 0 (by omega)
        rw [ey', cells4] at h2
        obtain ⟨cs0, hc01, _⟩ := Option.bind_eq_some_iff.1 h2
        exact spot_of hc01 (by omega)
      subst hspot
      rw [Addr.add_lit, Addr.add_lit] at hc0
      refine ⟨b, o, rfl, World.block_lt_of_cell? W _ hc0, ?_⟩
      simpa using hc0
    obtain ⟨F, hF⟩ := choose_lt hone
    refine ⟨some ad, cap, (List.range len).map F, by simp, ?_, by simp; unfold maxLen at hcm; omega⟩
    by_cases h0 : len = 0
    · subst h0; exact .inl rfl
    · obtain ⟨b, o, e, hb, _⟩ := hF 0 (by omega)
      cases e
      refine .inr ⟨b, o, rfl, hb, fun i hi => ?_⟩
      simp at hi
      obtain ⟨b', o', e, _, hc⟩ := hF i hi
      cases e
      rw [hc]
      simp [List.getD_eq_getElem?_getD, hi]
end Go.Proofs.Ytegoeaofjnpehaa
