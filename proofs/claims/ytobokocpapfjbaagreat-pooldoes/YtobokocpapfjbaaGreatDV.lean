/- What the proofs have in common: what a slice of bytes that came in is known to be. -/
import Derived.Test.YtobokocpapfjbaaGreatRows
import Derived.Test.YtobokocpapfjbaaGreatPM1
import Derived.WalkKit
import Derived.ProofKit
import Derived.OpenShut
import Derived.ShutString
import Derived.ChangeOld
import Derived.Below
import Derived.Deep.Slices
namespace Go.Proofs.YtobokocpapfjbaaGreat
open Go.ChangeShapes Go.WideShapes Go.ChangeAt Go.RowKit
set_option linter.unusedVariables false

theorem own : ownKnob Tryz.prog.godebug = none := by kernel_rfl
theorem laidOut : laidOutB Tryz.prog = true := by kernel_rfl
/-- bytes that came in. -/
structure Inn (w : World) (a : Option Addr) (n c : Nat) (zs : List Int) : Prop where
  len : zs.length = n
  cap : n ≤ c
  max : c ≤ 9223372036854775807
  bare : a = none → n = 0 ∧ c = 0
  row : Row w a zs
  byts : Byts zs
theorem Inn.below {w w' : World} {a : Option Addr} {n c : Nat} {zs : List Int} (h : Inn w a n c zs) (hb : Below w.heap.size w w') : Inn w' a n c zs := ⟨h.len, h.cap, h.max, h.bare, h.row.below hb, h.byts⟩
/-- what a walk is told of a slice of integers that came in. -/
def IsRow (k : IntKind) (w : World) (a : Option Addr) (len cap : Nat) (zs : List Int) : Prop :=
  (a = none ∧ len = 0 ∧ cap = 0 ∧ zs = []) ∨
  ∃ x, a = some x ∧ len ≤ cap ∧ cap ≤ maxLen ∧ zs.length = cap ∧ (∀ i, i < zs.length → w.cell? (x.add i) = some (.int k (zs.getD i 0))) ∧ ∀ n ∈ zs, (Lit.int k n).wf = true
theorem isrow_inn {w : World} {a : Option Addr} {len cap : Nat} {zs : List Int} (h : IsRow .u8 w a len cap zs) : Inn w a len cap (zs.take len) := by
  rcases h with ⟨rfl, rfl, rfl, rfl⟩ | ⟨x, rfl, hl, hm, hz, hcell, hwz⟩
  · exact ⟨rfl, Nat.le_refl _, by omega, fun _ => ⟨rfl, rfl⟩, .inl rfl, (by intro c hc; simp at hc)⟩
  · have hlen : (zs.take len).length = len := by simp; omega
    refine ⟨hlen, hl, by unfold maxLen at hm; omega, by (intro h; cases h), ?_, ?_⟩
    · by_cases h0 : len = 0
      · subst h0; exact .inl rfl
      · obtain ⟨b, off, spot⟩ := x
        have hc := hcell 0 (by omega)
        have hspot : spot = none := by simpa [Addr.add] using World.cell?_spot hc
        subst hspot
        refine .inr ⟨b, off, rfl, ?_, fun i hi => ?_⟩
        · have := World.block_lt_of_cell? w _ hc
          rw [Addr.add_lit] at this
          exact this
        · rw [hlen] at hi
          have := hcell i (by omega)
          rw [Addr.add_lit] at this
          rw [this]; simp [hi]
    · intro c hc
      exact bounds_u8 (hwz c (List.mem_of_mem_take hc))
end Go.Proofs.YtobokocpapfjbaaGreat
/- What came in: a slice of bools. -/
namespace Go.Proofs.YtobokocpapfjbaaGreat
open Go.ChangeShapes Go.WideShapes Go.ChangeAt Go.RowKit Go.Deep
set_option linter.unusedVariables false

theorem cells4 : Tryz.prog.cellsOf 4 = 1 := by kernel_rfl
variable {H : Type} {enc : TypeId × Value → H} {W : World}
theorem some_of {α : Type} {xs : List α} {i n : Nat} (h : xs.length = n) (hi : i < n) : ∃ x, xs[i]? = some x := ⟨_, List.getElem?_eq_getElem (by omega)⟩
theorem spot_of {ad : Addr} {cs : List Value} {n m : Nat} (h : W.cells? 0 (ad.add (0 * m)) n = some cs) (hn : 0 < n) : ad.spot = none := by
  obtain ⟨_, hl, hcell⟩ := World.cells?_some h
  have hc0 := hcell 0 hn
  obtain ⟨u0, hu0⟩ := some_of (i := 0) hl hn
  rw [hu0] at hc0
  have := World.cell?_spot hc0
  simpa [Addr.add] using this
set_option maxRecDepth 1000000 in
set_option maxHeartbeats 800000 in
theorem read_bools (fuel : Nat) (v5 : Value) (x : DataW H × List MemPlace) (h : DataW.trod enc Tryz.prog W 0 (fun _ => true) true fuel 68 [v5] = some x) :
    ∃ da dc, ∃ ds : List Bool, v5 = .slice da ds.length dc ∧ BRow W da ds ∧ ds.length ≤ 9223372036854775807 := by
  rcases DataW.trod_slice Tryz.underlying68 h with ⟨hcs, _⟩ | ⟨ad, len, cap, elems, rest, n', hn', hcs, _, _, hlc, hcm, hel, hat, _, _⟩
  · cases hcs
    exact ⟨none, 0, [], rfl, .inl rfl, by simp⟩
  · cases hcs
    have hone : ∀ i, i < len → ∃ v : Bool, ∃ b o, some ad = some (⟨b, o, none⟩ : Addr) ∧ b < W.heap.size ∧ W.cell? ⟨b, o + i, none⟩ = some (.bool v) := by
      intro i hi
      obtain ⟨y, ey⟩ := some_of (i := i) hel hi
      have h1 := hat i hi
      rw [ey, cells4] at h1
      obtain ⟨cs', hc1, hc2⟩ := Option.bind_eq_some_iff.1 h1
      obtain ⟨v, hv, _⟩ := DataW.trod_bool Tryz.underlying4 hc2
      subst hv
      obtain ⟨_, _, hcell⟩ := World.cells?_some hc1
      refine ⟨v, ?_⟩
      obtain ⟨b, o, spot⟩ := ad
      have hc0 := hcell 0 (by omega)
      have hspot : spot = none := by
        obtain ⟨y', ey'⟩ := some_of (i := 0) hel (by omega)
        have h2 := hat 0 (by omega)
        rw [ey', cells4] at h2
        obtain ⟨cs0, hc01, _⟩ := Option.bind_eq_some_iff.1 h2
        exact spot_of hc01 (by omega)
      subst hspot
      rw [Addr.add_lit, Addr.add_lit] at hc0
      refine ⟨b, o, rfl, World.block_lt_of_cell? W _ hc0, ?_⟩
      simpa using hc0
    obtain ⟨F, hF⟩ := choose_lt hone
    refine ⟨some ad, cap, (List.range len).map F, by simp, ?_, by simp; unfold maxLen at hcm; omega⟩
    by_cases h0 : len = 0
    · subst h0; exact .inl rfl
    · obtain ⟨b, o, e, hb, _⟩ := hF 0 (by omega)
      cases e
      refine .inr ⟨b, o, rfl, hb, fun i hi => ?_⟩
      simp at hi
      obtain ⟨b', o', e, _, hc⟩ := hF i hi
      cases e
      rw [hc]
      simp [List.getD_eq_getElem?_getD, hi]
theorem BRow.lt {w : World} {a : Option Addr} {bs : List Bool} (h : BRow w a bs) (h0 : bs ≠ []) : ∀ ad, a = some ad → ad.block < w.heap.size := by
  intro ad e
  rcases h with h | ⟨b, off, rfl, hlt, _⟩
  · exact absurd h h0
  · cases e; exact hlt
end Go.Proofs.YtobokocpapfjbaaGreat
