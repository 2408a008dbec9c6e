/- Contracts of the document's reader: errors, taking bytes, varints. -/
import Derived.Test.YtobkmjkcbihfbaaG
namespace Go.Proofs.Ytobkmjkcbihfbaa
open Go.RowKit
set_option linter.unusedVariables false

/-- a row that has bytes does not lie in block k. -/
def Off (a : Option Addr) (bs : List Int) (k : Nat) : Prop := ∀ ad, a = some ad → ad.block ≠ k ∨ bs = []
theorem Row.off {w w' : World} {a : Option Addr} {zs : List Int} {k : Nat} (h : Row w a zs) (hg : w.grownBy w' (some k)) (ho : Off a zs k) : Row w' a zs := by
  rcases Classical.em (zs = []) with h0 | h0
  · exact .inl h0
  · exact h.other hg fun ad had => (ho ad had).resolve_right h0
/-- the document's reader at p stands at byte i of bs, with the error e; its bytes lie behind a. -/
structure Xd (w : World) (p : Nat) (a : Option Addr) (c : Nat) (bs : List Int) (i e : Nat) : Prop where
  blk : w.heap[p]? = some (.cells #[.slice a bs.length c, .int .i64 (i : Int), .int .i64 (e : Int), .int .i64 (erAt e i : Int)] 67 (0, 0))
  row : Row w a bs
  apart : Off a bs p
  bare : a = none → bs = [] ∧ c = 0
  byts : Byts bs
  le : i ≤ bs.length
  small : bs.length ≤ 100000000000000
  cap : bs.length ≤ c
  caps : c ≤ maxLen
  err : e < 65536
section
variable {w w' : World} {p : Nat} {a : Option Addr} {c : Nat} {bs : List Int} {i e : Nat}
theorem Xd.lt (h : Xd w p a c bs i e) : p < w.heap.size := lt_of_block h.blk
theorem Xd.c0 (h : Xd w p a c bs i e) : w.cell? ⟨p, 0, none⟩ = some (.slice a bs.length c) := by simp [World.cell?, h.blk]
theorem Xd.c1 (h : Xd w p a c bs i e) : w.cell? ⟨p, 1, none⟩ = some (.int .i64 (i : Int)) := by simp [World.cell?, h.blk]
theorem Xd.c2 (h : Xd w p a c bs i e) : w.cell? ⟨p, 2, none⟩ = some (.int .i64 (e : Int)) := by simp [World.cell?, h.blk]
theorem Xd.c3 (h : Xd w p a c bs i e) : w.cell? ⟨p, 3, none⟩ = some (.int .i64 (erAt e i : Int)) := by simp [World.cell?, h.blk]
theorem Xd.f (h : Xd w p a c bs i e) (j : Nat) : w.frozen? ⟨p, j, none⟩ = false := by simp [World.frozen?, h.blk]
theorem Xd.of (h : Xd w p a c bs i e) (hp : w'.heap[p]? = w.heap[p]?) (hr : Row w' a bs) : Xd w' p a c bs i e := ⟨hp.trans h.blk, hr, h.apart, h.bare, h.byts, h.le, h.small, h.cap, h.caps, h.err⟩
theorem Xd.below (h : Xd w p a c bs i e) (hb : Below w.heap.size w w') : Xd w' p a c bs i e := h.of (hb.block p h.lt) (h.row.below hb)
theorem Xd.drewN (h : Xd w p a c bs i e) (n : Nat) : Xd (w.drewN n) p a c bs i e := h.below (below_drewN (Below.refl _ _) _)
theorem Xd.setAt (h : Xd w p a c bs i 0) (i' : Nat) (hi : i' ≤ bs.length) : Xd (w.setCell ⟨p, 1, none⟩ (.int .i64 (i' : Int))) p a c bs i' 0 := by
  refine ⟨?_, h.row.off (grown_setCell _ _ _ _) h.apart, h.apart, h.bare, h.byts, hi, h.small, h.cap, h.caps, h.err⟩
  rw [heap_setCell_same w p 1 _ 67 _ h.blk]; rfl
theorem Xd.setErr (h : Xd w p a c bs i 0) (e' : Nat) (he : e' < 65536) (h0 : e' ≠ 0) : Xd ((w.setCell ⟨p, 2, none⟩ (.int .i64 (e' : Int))).setCell ⟨p, 3, none⟩ (.int .i64 (i : Int))) p a c bs i e' := by
  refine ⟨?_, (h.row.off (grown_setCell _ _ _ _) h.apart).off (grown_setCell _ _ _ _) h.apart, h.apart, h.bare, h.byts, h.le, h.small, h.cap, h.caps, he⟩
  have h1 := heap_setCell_same w p 2 _ 67 (Value.int .i64 (e' : Int)) h.blk
  have e2 : erAt e' i = i := by rw [erAt, if_neg h0]
  rw [heap_setCell_same _ p 3 _ 67 _ h1, e2]; rfl
end
theorem Row.cutc {w : World} {a : Option Addr} {bs : List Int} (h : Row w a bs) (i m c : Nat) (hN : bs.length ≤ c) (him : i + m ≤ bs.length) : Row w (if c = i then a else Option.map (fun x => x.add i) a) ((bs.drop i).take m) := by
  by_cases hm : m = 0
  · subst hm; exact .inl (by simp)
  rcases h with rfl | ⟨b, off, rfl, hlt, hc⟩
  · simp at him; omega
  · rw [if_neg (by omega)]
    refine .inr ⟨b, off + i, by simp [Addr.add_lit], hlt, fun j hj => ?_⟩
    rw [List.length_take, List.length_drop] at hj
    have := hc (i + j) (by omega)
    rw [Nat.add_assoc, this]
    simp [List.getD_eq_getElem?_getD, List.getElem?_drop, show j < m by omega]

set_option maxHeartbeats 800000 in
set_option maxRecDepth 1000000 in
theorem xfail_any (p : Nat) (a : Option Addr) (c : Nat) (bs : List Int) (i E : Nat) (w : World) (hr : Xd w p a c bs i 0) (hE : E < 65536) (h0 : E ≠ 0) :
    Calls Try.prog 82 #[.pointer (some ⟨p, 0, none⟩), .int .i64 (E : Int), .int .i64 (i : Int)] w fun r w' => r = .returned (.tuple #[]) ∧ Xd w' p a c bs i E ∧ w.grownBy w' (some p) := by
  have k2 := hr.c2
  have k3 := hr.c3
  have f2 := hr.f 2
  have f3 := hr.f 3
  have HR := hide hr
  clear hr
  have HC : Hid ((w.setCell ⟨p, 2, none⟩ (.int .i64 (E : Int))).cell? ⟨p, 3, none⟩ = some (.int .i64 (erAt 0 i : Int))) := by
    rw [Hid, World.cell?, heap_setCell_same w p 2 _ 67 _ HR.out.blk]; rfl
  have HF : Hid ((w.setCell ⟨p, 2, none⟩ (.int .i64 (E : Int))).frozen? ⟨p, 3, none⟩ = false) := by
    rw [Hid, World.frozen?, heap_setCell_same w p 2 _ 67 _ HR.out.blk]; rfl
  have hc := HC.out
  have hf := HF.out
  go_enter Try.func82, Try.ntmps82
  go_wp2
  go_end0
  exact ⟨rfl, HR.out.setErr E hE h0, grown_trans (grown_setCell _ _ _ _) (grown_setCell _ _ _ _)⟩

set_option maxHeartbeats 800000 in
set_option maxRecDepth 1000000 in
theorem xend_any (p : Nat) (a : Option Addr) (c : Nat) (bs : List Int) (i e : Nat) (w : World) (hr : Xd w p a c bs i e) :
    Calls Try.prog 25 #[.pointer (some ⟨p, 0, none⟩)] w fun r w' => r = .returned (.int .i64 (enEr bs.length i e : Int)) ∧ Below w.heap.size w w' := by
  have k0 := hr.c0
  have k1 := hr.c1
  have k2 := hr.c2
  have hle := hr.le
  have hsm := hr.small
  clear hr
  generalize hZ : enEr bs.length i e = z
  have HZ := hide hZ
  clear hZ
  generalize bs.length = N at *
  by_cases he : e = 0
  · subst he
    by_cases hlt : i < N
    · have hz : z = 21 := by rw [← HZ.out, enEr, if_pos ⟨rfl, hlt⟩]
      subst hz
      go_enter Try.func25, Try.ntmps25
      go_wp2
      go_quiet (fail)
      go_wp2
      go_ret
      exact ⟨rfl, below_drewN (Below.refl _ _) _⟩
    · have hz : z = 0 := by rw [← HZ.out, enEr, if_neg (by omega)]
      subst hz
      go_enter Try.func25, Try.ntmps25
      go_wp2
      go_quiet (fail)
      go_wp2
      go_ret
      exact ⟨rfl, below_drewN (Below.refl _ _) _⟩
  · have hz : z = e := by rw [← HZ.out, enEr, if_neg (by omega)]
    subst hz
    have hne : ((z : Int) != 0) = true := by simp; omega
    go_enter Try.func25, Try.ntmps25
    go_wp2
    go_ret
    exact ⟨rfl, Below.refl _ _⟩
end Go.Proofs.Ytobkmjkcbihfbaa
