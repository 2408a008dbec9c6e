/- Entries that came in do not lie in a node's box: a store into a box leaves them. -/
import Derived.Test.YtepaohiacfmabaaIE
namespace Go.Proofs.Ytepaohiacfmabaa
open Go.RowKit
set_option linter.unusedVariables false

theorem box_cell {w : World} {q k : Nat} {t : Bool} {s : Value} (h : w.heap[q]? = some (.cells #[.bool t, s] 24 (0, 0))) : w.cell? ⟨q, k, none⟩ = (#[Value.bool t, s] : Array Value)[k]? := by simp [World.cell?, h]
theorem box_other {w : World} {p q k : Nat} {u v : Value} (h : p ≠ q) : ((w.setCell ⟨q, 0, none⟩ u).setCell ⟨q, 1, none⟩ v).cell? ⟨p, k, none⟩ = w.cell? ⟨p, k, none⟩ :=
  World.cell?_of_block (a := ⟨p, k, none⟩) (two_other h)
theorem Inn.box {w : World} {q : Nat} {t : Bool} {sa : Option Addr} {sl sc : Nat} {u v : Value} {a : Option Addr} {n c : Nat} {zs : List Int} (h : Inn w a n c zs) (hq : w.heap[q]? = some (.cells #[.bool t, .slice sa sl sc] 24 (0, 0))) : Inn ((w.setCell ⟨q, 0, none⟩ u).setCell ⟨q, 1, none⟩ v) a n c zs := by
  refine ⟨h.len, h.cap, h.max, h.bare, ?_, h.byts⟩
  rcases h.row with h0 | ⟨b, off, e, hlt, hc⟩
  · exact .inl h0
  · by_cases hz : zs = []
    · exact .inl hz
    · have hne : b ≠ q := fun hb => by
        subst hb
        obtain ⟨z, zs', rfl⟩ := List.exists_cons_of_ne_nil hz
        have h1 := hc 0 (by simp)
        rw [Nat.add_zero, box_cell hq] at h1
        match off, h1 with
        | 0, h1 => simp at h1
        | 1, h1 => simp at h1
        | (o + 2), h1 => simp at h1
      refine .inr ⟨b, off, e, ?_, fun j hj => (box_other hne).trans (hc j hj)⟩
      simpa [World.setCell] using hlt
theorem En.Ok.box {w : World} {q : Nat} {t : Bool} {sa : Option Addr} {sl sc : Nat} {u v : Value} {x : En} (h : x.Ok w) (hq : w.heap[q]? = some (.cells #[.bool t, .slice sa sl sc] 24 (0, 0))) : x.Ok ((w.setCell ⟨q, 0, none⟩ u).setCell ⟨q, 1, none⟩ v) := ⟨h.key.box hq, h.val.box hq, h.page, h.size⟩
theorem Ens.box {w : World} {q : Nat} {t : Bool} {sa : Option Addr} {sl sc : Nat} {u v : Value} {a : Option Addr} {n c : Nat} {xs : List En} (h : Ens w a n c xs) (hq : w.heap[q]? = some (.cells #[.bool t, .slice sa sl sc] 24 (0, 0))) : Ens ((w.setCell ⟨q, 0, none⟩ u).setCell ⟨q, 1, none⟩ v) a n c xs := by
  refine ⟨h.len, h.cap, h.max, h.bare, ?_, fun x hx => (h.each x hx).box hq⟩
  rcases h.row with h0 | ⟨b, off, e, hlt, hc⟩
  · exact .inl h0
  · by_cases hz : xs = []
    · exact .inl hz
    · have hne : b ≠ q := fun hb => by
        subst hb
        obtain ⟨z, zs', rfl⟩ := List.exists_cons_of_ne_nil hz
        have h1 := hc 2 (.int .u32 (z.e.page : Int)) (by simp [rowc, En.cells])
        rw [box_cell hq] at h1
        simp at h1
      refine .inr ⟨b, off, e, ?_, fun j x hx => (box_other hne).trans (hc j x hx)⟩
      simpa [World.setCell] using hlt
end Go.Proofs.Ytepaohiacfmabaa
