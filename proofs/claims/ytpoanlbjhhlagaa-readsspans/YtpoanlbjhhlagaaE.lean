/- Entries in memory: where they lie, and what they hold. -/
import Derived.Test.YtpoanlbjhhlagaaChecked
import Derived.Test.YtpoanlbjhhlagaaM
import Derived.KernelRfl
import Derived.WalkKit
import Derived.Handy
import Derived.LoopTactic
import Derived.Deep.RegionLaw
import Derived.Deep.QuietTactic
import Derived.BigQuiet
import Derived.WalkSmall
import Derived.Laws.CopyOwn
import Derived.Deep.OwnRows
import Derived.Deep.RegionHeld3
import Derived.Laws.IdiomStrings
import Derived.Laws.Strings
namespace Go.Proofs.Ytpoanlbjhhlagaa
open Go.RowKit
set_option linter.unusedVariables false

theorem Try.info5 : (Try.prog.info? 5).map (fun i => (i.zero, i.size, i.bytes)) = some (some (.int .u8 0), 1, 1) := by kernel_rfl
/-- bytes that lie anywhere. -/
structure Inn (w : World) (a : Option Addr) (n c : Nat) (zs : List Int) : Prop where
  len : zs.length = n
  cap : n ≤ c
  max : c ≤ 9223372036854775807
  bare : a = none → n = 0 ∧ c = 0
  row : Row w a zs
  byts : Byts zs
theorem Inn.below {w w' : World} {a : Option Addr} {n c : Nat} {zs : List Int} (h : Inn w a n c zs) (hb : Below w.heap.size w w') : Inn w' a n c zs := ⟨h.len, h.cap, h.max, h.bare, h.row.below hb, h.byts⟩
theorem Inn.on {w w' : World} {B : Nat} {a : Option Addr} {n c : Nat} {zs : List Int} (h : Inn w a n c zs) (hf : Fr B w w') (hB : w.heap.size ≤ B) : Inn w' a n c zs := h.below (hf.below.mono hB)
theorem inn_nil (w : World) : Inn w none 0 0 [] := ⟨rfl, Nat.le_refl _, by omega, fun _ => ⟨rfl, rfl⟩, .inl rfl, by intro c hc; simp at hc⟩
/-- an entry, and where its bytes lie. -/
structure En where
  e : Ee
  ka : Option Addr
  kc : Nat
  va : Option Addr
  vc : Nat
instance : Inhabited En := ⟨⟨default, none, 0, none, 0⟩⟩
def En.cells (x : En) : List Value := [.slice x.ka x.e.key.length x.kc, .slice x.va x.e.val.length x.vc, .bool x.e.del]
def En.v (x : En) : Value := .agg #[.slice x.ka x.e.key.length x.kc, .slice x.va x.e.val.length x.vc, .bool x.e.del]
theorem En.cells_len (x : En) : x.cells.length = 3 := rfl
structure En.Ok (x : En) (w : World) : Prop where
  key : Inn w x.ka x.e.key.length x.kc x.e.key
  val : Inn w x.va x.e.val.length x.vc x.e.val
theorem En.Ok.below {x : En} {w w' : World} (h : x.Ok w) (hb : Below w.heap.size w w') : x.Ok w' := ⟨h.key.below hb, h.val.below hb⟩
/-- what entries hold. -/
def ers (xs : List En) : List Ee := xs.map En.e
theorem ers_len (xs : List En) : (ers xs).length = xs.length := by simp [ers]
theorem ers_app (xs ys : List En) : ers (xs ++ ys) = ers xs ++ ers ys := by simp [ers]
theorem ers_take (xs : List En) (k : Nat) : (ers xs).take k = ers (xs.take k) := by simp [ers]
theorem ers_drop (xs : List En) (k : Nat) : (ers xs).drop k = ers (xs.drop k) := by simp [ers]
theorem ers_at {xs : List En} {k : Nat} {x : En} (h : xs[k]? = some x) : (ers xs)[k]? = some x.e := by simp [ers, h]
theorem take_at {α : Type} {l : List α} {k : Nat} {x : α} (h : l[k]? = some x) : l.take (k + 1) = l.take k ++ [x] := by
  rw [List.take_add_one, h]; rfl
theorem drop_at {α : Type} {l : List α} {k : Nat} {x : α} (h : l[k]? = some x) : l.drop k = x :: l.drop (k + 1) := by
  obtain ⟨hk, rfl⟩ := List.getElem?_eq_some_iff.1 h
  exact List.drop_eq_getElem_cons hk
/-- the cells of entries, one behind the other. -/
def rowc (xs : List En) : List Value := xs.flatMap En.cells
theorem rowc_len (xs : List En) : (rowc xs).length = xs.length * 3 := by
  induction xs with
  | nil => rfl
  | cons x xs ih =>
    have : rowc (x :: xs) = x.cells ++ rowc xs := by simp [rowc]
    rw [this, List.length_append, ih, En.cells_len, List.length_cons]; omega
theorem rowc_app (xs ys : List En) : rowc (xs ++ ys) = rowc xs ++ rowc ys := by simp [rowc]
theorem rowc_one (x : En) : rowc [x] = x.cells := by simp [rowc]
theorem rowc_at {xs : List En} {k : Nat} {x : En} (h : xs[k]? = some x) {j : Nat} {u : Value} (hu : x.cells[j]? = some u) : (rowc xs)[k * 3 + j]? = some u := by
  induction xs generalizing k with
  | nil => simp at h
  | cons y ys ih =>
    have e : rowc (y :: ys) = y.cells ++ rowc ys := by simp [rowc]
    have hj : j < 3 := by have := (List.getElem?_eq_some_iff.1 hu).1; rwa [En.cells_len] at this
    rw [e]
    cases k with
    | zero =>
      simp at h
      subst h
      rw [List.getElem?_append_left (by rw [En.cells_len]; omega), Nat.zero_mul, Nat.zero_add]
      exact hu
    | succ k =>
      rw [List.getElem?_append_right (by rw [En.cells_len]; omega), En.cells_len, show (k + 1) * 3 + j - 3 = k * 3 + j by omega]
      exact ih (by simpa using h)
theorem rowc_one_cell (xs : List En) : ∀ u ∈ rowc xs, u.oneCell' = true := by
  intro u hu
  simp only [rowc, List.mem_flatMap] at hu
  obtain ⟨x, _, hx⟩ := hu
  simp only [En.cells, List.mem_cons, List.not_mem_nil, or_false] at hx
  rcases hx with rfl | rfl | rfl <;> rfl
/-- entries that lie in a row. -/
structure Ens (w : World) (a : Option Addr) (n c : Nat) (xs : List En) : Prop where
  len : xs.length = n
  cap : n ≤ c
  max : c ≤ 9223372036854775807
  bare : a = none → n = 0 ∧ c = 0
  row : xs = [] ∨ ∃ b off, a = some ⟨b, off, none⟩ ∧ b < w.heap.size ∧ ∀ j u, (rowc xs)[j]? = some u → w.cell? ⟨b, off + j, none⟩ = some u
  each : ∀ x ∈ xs, x.Ok w
section
variable {w w' : World} {a : Option Addr} {n c : Nat} {xs : List En}
theorem Ens.below (h : Ens w a n c xs) (hb : Below w.heap.size w w') : Ens w' a n c xs := by
  refine ⟨h.len, h.cap, h.max, h.bare, ?_, fun x hx => (h.each x hx).below hb⟩
  rcases h.row with h0 | ⟨b, off, rfl, hlt, hc⟩
  · exact .inl h0
  · exact .inr ⟨b, off, rfl, Nat.lt_of_lt_of_le hlt hb.size, fun j u hu => (hb.cell (p := ⟨b, off + j, none⟩) hlt).trans (hc j u hu)⟩
theorem Ens.cells (h : Ens w a n c xs) {k : Nat} {x : En} (hx : xs[k]? = some x) :
    ∃ b off, a = some ⟨b, off, none⟩ ∧ b < w.heap.size ∧ w.cell? ⟨b, off + k * 3, none⟩ = some (.slice x.ka x.e.key.length x.kc) ∧ w.cell? ⟨b, off + k * 3 + 1, none⟩ = some (.slice x.va x.e.val.length x.vc) ∧ w.cell? ⟨b, off + k * 3 + 2, none⟩ = some (.bool x.e.del) := by
  rcases h.row with h0 | ⟨b, off, rfl, hlt, hc⟩
  · subst h0; simp at hx
  · have g := fun j u hu => hc (k * 3 + j) u (rowc_at hx (j := j) hu)
    refine ⟨b, off, rfl, hlt, g 0 _ rfl, ?_, ?_⟩
    · have := g 1 _ rfl; rwa [← Nat.add_assoc] at this
    · have := g 2 _ rfl; rwa [← Nat.add_assoc] at this
theorem Ens.at (h : Ens w a n c xs) {k : Nat} (hk : k < n) : ∃ x, xs[k]? = some x ∧ x.Ok w := by
  have hk' : k < xs.length := by rw [h.len]; exact hk
  exact ⟨xs[k], List.getElem?_eq_getElem hk', h.each _ (List.getElem_mem hk')⟩
theorem ens_nil (w : World) : Ens w none 0 0 [] := ⟨rfl, Nat.le_refl _, by omega, fun _ => ⟨rfl, rfl⟩, .inl rfl, by intro x hx; simp at hx⟩
end
theorem cells_three {w : World} {p t : Nat} {a b c : Value} (h : w.heap[p]? = some (.cells #[a, b, c] t (0, 0))) : w.cell? ⟨p, 0, none⟩ = some a ∧ w.cell? ⟨p, 1, none⟩ = some b ∧ w.cell? ⟨p, 2, none⟩ = some c ∧ ∀ j, w.frozen? ⟨p, j, none⟩ = false := by
  refine ⟨by simp [World.cell?, h], by simp [World.cell?, h], by simp [World.cell?, h], fun j => by simp [World.frozen?, h]⟩
theorem box3 (w : World) (a b c : Value) (t : TypeId) : (w.alloc (.cells #[a, b, c] t)).cell? ⟨w.heap.size, 0, none⟩ = some a ∧ (w.alloc (.cells #[a, b, c] t)).cell? ⟨w.heap.size, 1, none⟩ = some b ∧ (w.alloc (.cells #[a, b, c] t)).cell? ⟨w.heap.size, 2, none⟩ = some c := by
  obtain ⟨h0, h1, h2, _⟩ := cells_three (heap_alloc_new w (.cells #[a, b, c] t))
  exact ⟨h0, h1, h2⟩
theorem cells_two {w : World} {p t : Nat} {v s : Value} (h : w.heap[p]? = some (.cells #[v, s] t (0, 0))) : w.cell? ⟨p, 0, none⟩ = some v ∧ w.cell? ⟨p, 1, none⟩ = some s ∧ w.frozen? ⟨p, 0, none⟩ = false := by
  refine ⟨by simp [World.cell?, h], by simp [World.cell?, h], by simp [World.frozen?, h]⟩
theorem cell_of_one {w : World} {p t : Nat} {v : Value} (h : w.heap[p]? = some (.cells #[v] t (0, 0))) : w.cell? ⟨p, 0, none⟩ = some v := by simp [World.cell?, h]
theorem free_of_one {w : World} {p t : Nat} {v : Value} (h : w.heap[p]? = some (.cells #[v] t (0, 0))) : w.frozen? ⟨p, 0, none⟩ = false := by simp [World.frozen?, h]
theorem run_text (w : World) (a : Option Addr) (n c : Nat) (ys : List Int) (hl : ys.length = n) (hn : a = none → n = 0 ∧ c = 0) (hr : Row w a ys) (hb : Byts ys) : (convert 33 9 (.slice a n c)).run Try.prog w = .ok (.string (bk ys)) w := by
  cases a with
  | none =>
    obtain ⟨rfl, rfl⟩ := hn rfl
    have e : ys = [] := List.eq_nil_of_length_eq_zero hl
    subst e
    rw [run_convert_bytes_string w 33 9 5 none 0 0 Try.underlying33 Try.underlying5 Try.underlying9]
    rfl
  | some ad =>
    have h := run_convert_bytes_back (P := Try.prog) w 33 9 5 ad c (ys.map fun z => UInt8.ofNat z.toNat) Try.underlying33 Try.underlying5 Try.underlying9 (by
      intro j hj
      rw [List.length_map] at hj
      rcases hr with rfl | ⟨b, off, e, _, hc⟩
      · simp at hj
      · obtain rfl := Option.some.inj e
        have h1 := hc j hj
        have := hb (ys[j]) (List.getElem_mem hj)
        rw [Addr.add_lit, h1]
        simp [hj]
        omega)
    rw [List.length_map, hl] at h
    exact h
theorem text_inn {w : World} {a : Option Addr} {n c : Nat} {zs : List Int} (h : Inn w a n c zs) : (convert 33 9 (.slice a n c)).run Try.prog w = .ok (.string (bk zs)) w := run_text w a n c zs h.len h.bare h.row h.byts
end Go.Proofs.Ytpoanlbjhhlagaa
