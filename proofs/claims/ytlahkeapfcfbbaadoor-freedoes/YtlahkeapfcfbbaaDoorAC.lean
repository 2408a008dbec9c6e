/- Acts that came in: what their reading says of memory. -/
import Derived.Test.YtlahkeapfcfbbaaDoorRows
import Derived.Test.YtlahkeapfcfbbaaDoorB
import Derived.WalkKit
import Derived.ProofKit
import Derived.OpenShut
import Derived.ShutString
import Derived.ChangeOld
import Derived.Deep.Matrix
import Derived.Deep.Slices
import Derived.SizedLaws
namespace Go.Proofs.YtlahkeapfcfbbaaDoor
open Go.ChangeShapes Go.WideShapes Go.ChangeAt Go.RowKit Go.Deep
set_option linter.unusedVariables false

theorem own : ownKnob Tryd.prog.godebug = none := by kernel_rfl
theorem laidOut : laidOutB Tryd.prog = true := by kernel_rfl
/-- an act: its kind, its page, its generation. -/
structure Ac where
  k : Nat
  p : Nat
  g : Int
deriving Inhabited
structure Ac.Ok (x : Ac) : Prop where
  k : x.k < 256
  p : x.p ≤ 4294967295
  g : 0 ≤ x.g ∧ x.g ≤ 18446744073709551615
/-- the cells of an act, from a place on. -/
structure Ac.At (w : World) (b o : Nat) (x : Ac) : Prop where
  c0 : w.cell? ⟨b, o, none⟩ = some (.int .u8 (x.k : Int))
  c1 : w.cell? ⟨b, o + 1, none⟩ = some (.int .u32 (x.p : Int))
  c2 : w.cell? ⟨b, o + 2, none⟩ = some (.int .u64 x.g)
/-- acts that lie in a row. -/
structure Acs (w : World) (a : Option Addr) (n c : Nat) (xs : List Ac) : Prop where
  len : xs.length = n
  max : n ≤ 9223372036854775807
  row : xs = [] ∨ ∃ b off, a = some ⟨b, off, none⟩ ∧ b < w.heap.size ∧ ∀ (i : Nat) (x : Ac), xs[i]? = some x → x.At w b (off + i * 3)
  each : ∀ x ∈ xs, x.Ok
theorem Acs.below {w w' : World} {a : Option Addr} {n c : Nat} {xs : List Ac} (h : Acs w a n c xs) (hb : Below w.heap.size w w') : Acs w' a n c xs := by
  refine ⟨h.len, h.max, ?_, h.each⟩
  rcases h.row with h0 | ⟨b, off, e, hlt, hc⟩
  · exact .inl h0
  · exact .inr ⟨b, off, e, Nat.lt_of_lt_of_le hlt hb.size, fun i x hx => ⟨(hb.cell (p := ⟨b, _, none⟩) hlt).trans (hc i x hx).c0, (hb.cell (p := ⟨b, _, none⟩) hlt).trans (hc i x hx).c1, (hb.cell (p := ⟨b, _, none⟩) hlt).trans (hc i x hx).c2⟩⟩
theorem Acs.at {w : World} {a : Option Addr} {n c : Nat} {xs : List Ac} (h : Acs w a n c xs) {k : Nat} (hk : k < n) : ∃ x b off, xs[k]? = some x ∧ a = some ⟨b, off, none⟩ ∧ b < w.heap.size ∧ x.At w b (off + k * 3) ∧ x.Ok := by
  have hk' : k < xs.length := by rw [h.len]; exact hk
  have hx : xs[k]? = some xs[k] := List.getElem?_eq_getElem hk'
  rcases h.row with h0 | ⟨b, off, e, hlt, hc⟩
  · rw [h0] at hk'; simp at hk'
  · exact ⟨xs[k], b, off, hx, e, hlt, hc k _ hx, h.each _ (List.mem_of_getElem? hx)⟩
theorem cellsA : Tryd.prog.cellsOf 59 = 3 := by kernel_rfl
theorem cells5 : Tryd.prog.cellsOf 5 = 1 := by kernel_rfl
theorem cells32 : Tryd.prog.cellsOf 56 = 1 := by kernel_rfl
theorem cells64 : Tryd.prog.cellsOf 57 = 1 := by kernel_rfl
variable {H : Type} {enc : TypeId × Value → H} {W : World}
theorem three_cells {P : Program} {t : TypeId} {f0 f1 f2 : Field} {ad : Addr} {i n : Nat} {y : DataW H × List MemPlace} {cs' : List Value} (he : P.underlying t = some (.struct #[f0, f1, f2]))
    (o0 : f0.offset = 0) (o1 : f1.offset = 1) (o2 : f2.offset = 2) (c0 : P.cellsOf f0.type = 1) (c1 : P.cellsOf f1.type = 1) (c2 : P.cellsOf f2.type = 1)
    (h1 : W.cells? 0 (ad.add (i * 3)) 3 = some cs') (h2 : DataW.trod enc P W 0 (fun _ => true) true n t cs' = some y) :
    ∃ (v0 v1 v2 : Value) (y0 y1 y2 : DataW H × List MemPlace) (k : Nat), W.cell? (ad.add (i * 3)) = some v0 ∧ W.cell? (ad.add (i * 3 + 1)) = some v1 ∧ W.cell? (ad.add (i * 3 + 2)) = some v2 ∧
      DataW.trod enc P W 0 (fun _ => true) true k f0.type [v0] = some y0 ∧ DataW.trod enc P W 0 (fun _ => true) true k f1.type [v1] = some y1 ∧ DataW.trod enc P W 0 (fun _ => true) true k f2.type [v2] = some y2 := by
  obtain ⟨_, hlen, hcell⟩ := World.cells?_some h1
  obtain ⟨xs, k, hk, hxy, _, hxl, hf⟩ := DataW.trod_struct he h2
  match xs, hxl, cs', hlen with
  | [y0, y1, y2], _, [v0, v1, v2], _ =>
    have g0 := hf 0 f0 rfl
    have g1 := hf 1 f1 rfl
    have g2 := hf 2 f2 rfl
    simp [o0, o1, o2, c0, c1, c2] at g0 g1 g2
    have e0 := hcell 0 (by omega)
    have e1 := hcell 1 (by omega)
    have e2 := hcell 2 (by omega)
    rw [add_add] at e0 e1 e2
    exact ⟨v0, v1, v2, y0, y1, y2, k, by simpa using e0, by simpa using e1, by simpa using e2, g0, g1, g2⟩
theorem one_act {ad : Addr} {i n : Nat} {y : DataW H × List MemPlace} {cs' : List Value} (h1 : W.cells? 0 (ad.add (i * 3)) 3 = some cs') (h2 : DataW.trod enc Tryd.prog W 0 (fun _ => true) true n 59 cs' = some y) :
    ∃ (x : Ac), (W.cell? (ad.add (i * 3)) = some (.int .u8 (x.k : Int)) ∧ W.cell? (ad.add (i * 3 + 1)) = some (.int .u32 (x.p : Int)) ∧ W.cell? (ad.add (i * 3 + 2)) = some (.int .u64 x.g)) ∧ x.Ok := by
  obtain ⟨v0, v1, v2, y0, y1, y2, k, e0, e1, e2, g0, g1, g2⟩ := three_cells Tryd.underlying59 rfl rfl rfl cells5 cells32 cells64 h1 h2
  obtain ⟨z0, r0, _, w0⟩ := DataW.trod_int Tryd.underlying5 g0
  obtain ⟨z1, r1, _, w1⟩ := DataW.trod_int Tryd.underlying56 g1
  obtain ⟨z2, r2, _, w2⟩ := DataW.trod_int Tryd.underlying57 g2
  cases r0
  cases r1
  cases r2
  have b0 := bounds_u8 w0
  have b1 := bounds_u32 w1
  have b2 := bounds_u64 w2
  obtain ⟨K, rfl⟩ := Int.eq_ofNat_of_zero_le b0.1
  obtain ⟨P, rfl⟩ := Int.eq_ofNat_of_zero_le b1.1
  exact ⟨⟨K, P, z2⟩, ⟨e0, e1, e2⟩, ⟨by simp only []; omega, by simp only []; omega, b2⟩⟩
theorem acts_read {a : Option Addr} {len cap fuel : Nat} {x : DataW H × List MemPlace} (h : DataW.trod enc Tryd.prog W 0 (fun _ => true) true fuel 22 [.slice a len cap] = some x) :
    ∃ xs, Acs W a len cap xs := by
  rcases open_slice Tryd.underlying22 h with ⟨hcs, _⟩ | ⟨ad, l, c, m, n, D, Pl, hcs, hb, hl, hm, hmm, rfl, hx⟩
  · cases hcs
    exact ⟨[], ⟨rfl, by omega, .inl rfl, by simp⟩⟩
  · cases hcs
    have hlm : len ≤ m := by rw [hmm]; split <;> omega
    rw [cellsA] at hx
    obtain ⟨O, hO⟩ := choose_lt (fun i (hi : i < len) => by
      obtain ⟨cs', h1, h2⟩ := hx i (by omega)
      exact one_act h1 h2)
    have hlen : ((List.range len).map O).length = len := by simp
    have hget : ∀ k x, ((List.range len).map O)[k]? = some x → k < len ∧ x = O k := by
      intro k x hk
      obtain ⟨h1, h2⟩ := List.getElem?_eq_some_iff.1 hk
      simp at h1 h2
      exact ⟨h1, h2.symm⟩
    refine ⟨(List.range len).map O, ⟨hlen, by unfold maxLen at hm; omega, ?_, ?_⟩⟩
    · by_cases h0 : len = 0
      · subst h0; exact .inl rfl
      · obtain ⟨b, off, spot⟩ := ad
        have hc := (hO 0 (by omega)).1.1
        have hspot : spot = none := by simpa [Addr.add] using World.cell?_spot hc
        subst hspot
        refine .inr ⟨b, off, rfl, ?_, ?_⟩
        · have := World.block_lt_of_cell? W _ hc
          rw [Addr.add_lit] at this
          exact this
        · intro k x hk
          obtain ⟨hkl, rfl⟩ := hget k x hk
          obtain ⟨q0, q1, q2⟩ := (hO k hkl).1
          rw [Addr.add_lit] at q0 q1 q2
          exact ⟨q0, q1, q2⟩
    · intro x hx2
      obtain ⟨k, hk, rfl⟩ := List.mem_map.1 hx2
      exact (hO k (List.mem_range.1 hk)).2
set_option maxRecDepth 1000000 in
theorem acts_open {base0 : Nat} {r : Reach} {v : Value} {d : DataW H} {p : List MemPlace} (hval : Value.okWide Tryd.prog W r base0 22 v) (h : DataW.Trod enc Tryd.prog W 0 (fun _ => true) true 22 v d p) :
    ∃ (a : Option Addr) (n c : Nat) (xs : List Ac), v = .slice a n c ∧ Acs W a n c xs := by
  obtain ⟨a, len, cap, rfl⟩ := okWide_slice Tryd.underlying22 hval
  obtain ⟨fuel, hf⟩ := h
  obtain ⟨xs, h1⟩ := acts_read (fuel := fuel) (x := (d, p)) (by simpa [Value.cells] using hf)
  exact ⟨a, len, cap, xs, rfl, h1⟩
end Go.Proofs.YtlahkeapfcfbbaaDoor
