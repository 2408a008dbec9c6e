/- What lies beside while an act is done. -/
import Derived.Test.YtgohhlngnnmknaaZE
import Derived.Test.YtgohhlngnnmknaaSP
import Derived.Test.YtgohhlngnnmknaaLE
namespace Go.Proofs.Ytgohhlngnnmknaa
open Go.RowKit Go.Maps
set_option linter.unusedVariables false

/-- pairs that stay: in a row that lies lower or is a row of pairs, each of bytes that stay. -/
structure PrU (B0 : Nat) (w : World) (a : Option Addr) (n c : Nat) (us : List En) : Prop where
  prs : Prs w a n c us
  row : us = [] ∨ ∃ b off, a = some ⟨b, off, none⟩ ∧ (b < B0 ∨ ∃ cs, w.heap[b]? = some (.cells cs 74 (0, 0)))
  each : ∀ y ∈ us, EnU B0 y w
theorem PrU.kx {B0 : Nat} {w w' : World} {a : Option Addr} {n c : Nat} {us : List En} (h : PrU B0 w a n c us) (hx : Kx B0 w w') : PrU B0 w' a n c us := by
  have he : ∀ y ∈ us, EnU B0 y w' := fun y hy => (h.each y hy).kx hx
  rcases h.row with h0 | ⟨b, off, rfl, hb⟩
  · exact ⟨⟨h.prs.len, h.prs.bare, h.prs.cap, h.prs.max, .inl h0, fun y hy => (he y hy).ok⟩, .inl h0, he⟩
  · have st : b < w.heap.size → w'.heap[b]? = w.heap[b]? := fun hlt => hx.block b hlt fun h9 => by
      rcases hb with hb | ⟨cs, hb⟩
      · omega
      · exact h9.2 ⟨cs, _, hb, .inr (.inr (.inl rfl))⟩
    refine ⟨⟨h.prs.len, h.prs.bare, h.prs.cap, h.prs.max, ?_, fun y hy => (he y hy).ok⟩, .inr ⟨b, off, rfl, hb.imp id fun ⟨cs, hc⟩ => ⟨cs, (st (lt_of_block hc)).trans hc⟩⟩, he⟩
    rcases h.prs.row with h0 | ⟨b', off', e, hlt, hc⟩
    · exact .inl h0
    · cases e
      refine .inr ⟨b, off, rfl, Nat.lt_of_lt_of_le hlt hx.size, fun k x hk => ?_⟩
      have := hc k x hk
      simp only [World.cell?] at this ⊢
      rw [st hlt]; exact this
theorem PrU.below {B0 : Nat} {w w' : World} {a : Option Addr} {n c : Nat} {us : List En} (h : PrU B0 w a n c us) (hb : Below w.heap.size w w') : PrU B0 w' a n c us := h.kx (Kx.of_below hb)
/-- the act itself, in its box, what was lent, and what lies lower. -/
structure Cx (Wb : World) (B0 g0 g1 g2 : Nat) (kd : Nat) (ka va : Option Addr) (kn kc vn vc : Nat) (key val : List Int) (inn : Bool) (to : Int) (W : World) : Prop where
  op : W.heap[g0]? = some (.cells #[.int .u8 (kd : Int), .slice ka kn kc, .slice va vn vc, .bool inn, .int .i64 to] 62 (0, 0))
  o1 : Own W (.slice (some ⟨g1, 0, none⟩) (kn + 2) (kn + 2)) (key ++ [91, 92])
  o2 : Own W (.slice (some ⟨g2, 0, none⟩) (vn + 2) (vn + 2)) (val ++ [91, 92])
  low : Below Wb.heap.size Wb W
  base : B0 ≤ W.heap.size ∧ Wb.heap.size ≤ B0
  hk : Inn Wb ka kn kc key
  hv : Inn Wb va vn vc val
section
variable {Wb W W' : World} {B0 g0 g1 g2 kd : Nat} {ka va : Option Addr} {kn kc vn vc : Nat} {key val : List Int} {inn : Bool} {to : Int}
theorem Cx.kx (h : Cx Wb B0 g0 g1 g2 kd ka va kn kc vn vc key val inn to W) (hx : Kx B0 W W') : Cx Wb B0 g0 g1 g2 kd ka va kn kc vn vc key val inn to W' :=
  ⟨hx.keep h.op (.inr (.inl rfl)), hx.own h.o1, hx.own h.o2, h.low.trans ((hx.below h.base.1).mono h.base.2), ⟨Nat.le_trans h.base.1 hx.size, h.base.2⟩, h.hk, h.hv⟩
theorem Cx.below (h : Cx Wb B0 g0 g1 g2 kd ka va kn kc vn vc key val inn to W) (hb : Below W.heap.size W W') : Cx Wb B0 g0 g1 g2 kd ka va kn kc vn vc key val inn to W' := h.kx (Kx.of_below hb)
theorem own_row {w : World} {g n c : Nat} {zs : List Int} (h : Own w (.slice (some ⟨g, 0, none⟩) n c) zs) : Row w (some ⟨g, 0, none⟩) zs := by
  rcases h.2 with ⟨e, _⟩ | ⟨g', cap, cur, e, _, hg, hle, _, hs, ht⟩
  · cases e
  · cases e
    refine .inr ⟨g, 0, rfl, lt_of_block hg, fun i hi => ?_⟩
    rw [Nat.zero_add]
    have hi2 : (cur.toList.take (zs.length * 1))[i]? = (zs.map (Value.int .u8))[i]? := by rw [ht]
    rw [List.getElem?_take, if_pos (by omega), List.getElem?_map] at hi2
    simp only [World.cell?, hg]
    simpa [List.getElem?_eq_getElem hi] using hi2
theorem Cx.k1 (h : Cx Wb B0 g0 g1 g2 kd ka va kn kc vn vc key val inn to W) (hkl : kn ≤ 140737488351232) : Inn W (some ⟨g1, 0, none⟩) kn (kn + 2) key :=
  ⟨h.hk.len, by omega, by omega, fun e => (by cases e), Le.row_left (own_row h.o1), h.hk.byts⟩
theorem Cx.v1 (h : Cx Wb B0 g0 g1 g2 kd ka va kn kc vn vc key val inn to W) (hvl : vn ≤ 140737488351232) : Inn W (some ⟨g2, 0, none⟩) vn (vn + 2) val :=
  ⟨h.hv.len, by omega, by omega, fun e => (by cases e), Le.row_left (own_row h.o2), h.hv.byts⟩
theorem Cx.k (h : Cx Wb B0 g0 g1 g2 kd ka va kn kc vn vc key val inn to W) : Inn W ka kn kc key := h.hk.below h.low
theorem Cx.v (h : Cx Wb B0 g0 g1 g2 kd ka va kn kc vn vc key val inn to W) : Inn W va vn vc val := h.hv.below h.low
theorem Cx.cells (h : Cx Wb B0 g0 g1 g2 kd ka va kn kc vn vc key val inn to W) : W.cell? ⟨g0, 0, none⟩ = some (.int .u8 (kd : Int)) ∧ W.cell? ⟨g0, 1, none⟩ = some (.slice ka kn kc) ∧ W.cell? ⟨g0, 2, none⟩ = some (.slice va vn vc) ∧ W.cell? ⟨g0, 3, none⟩ = some (.bool inn) ∧ W.cell? ⟨g0, 4, none⟩ = some (.int .i64 to) := by
  have := h.op
  refine ⟨?_, ?_, ?_, ?_, ?_⟩ <;> simp [World.cell?, this]
theorem Cx.whole1 (h : Cx Wb B0 g0 g1 g2 kd ka va kn kc vn vc key val inn to W) (hkl : kn ≤ 140737488351232) : Calls Try.prog 39 #[.slice (some ⟨g1, 0, none⟩) kn (kn + 2), .slice ka kn kc] W fun e w' => e = .returned (.bool true) ∧ Below W.heap.size W w' :=
  Le.whole_any g1 ka kn kc key W hkl (own_row h.o1) h.k
theorem Cx.whole2 (h : Cx Wb B0 g0 g1 g2 kd ka va kn kc vn vc key val inn to W) (hvl : vn ≤ 140737488351232) : Calls Try.prog 39 #[.slice (some ⟨g2, 0, none⟩) vn (vn + 2), .slice va vn vc] W fun e w' => e = .returned (.bool true) ∧ Below W.heap.size W w' :=
  Le.whole_any g2 va vn vc val W hvl (own_row h.o2) h.v
theorem Cx.spoil1 (h : Cx Wb B0 g0 g1 g2 kd ka va kn kc vn vc key val inn to W) (hkl : kn ≤ 140737488351232) : Calls Try.prog 40 #[.slice (some ⟨g1, 0, none⟩) kn (kn + 2)] W fun e w' => e = .returned (.tuple #[]) ∧ W.grownBy w' (some g1) :=
  Le.spoil_any g1 kn (kn + 2) W (Le.own_blk h.o1) (by omega) (by omega)
theorem spoil2_any {g n : Nat} {zs : List Int} (h : Own W (.slice (some ⟨g, 0, none⟩) (n + 2) (n + 2)) zs) (hl : n ≤ 140737488351232) (hg : W.grownBy W' (some g1)) (hne : g1 ≠ g) : Calls Try.prog 40 #[.slice (some ⟨g, 0, none⟩) n (n + 2)] W' fun e w' => e = .returned (.tuple #[]) ∧ W'.grownBy w' (some g) := by
  obtain ⟨cur, hc, hs⟩ := Le.own_blk h
  exact Le.spoil_any g n (n + 2) W' ⟨cur, (hg.block g (lt_of_block hc) (fun e => hne (by cases e; rfl))).trans hc, hs⟩ (by omega) (by omega)
end
end Go.Proofs.Ytgohhlngnnmknaa
