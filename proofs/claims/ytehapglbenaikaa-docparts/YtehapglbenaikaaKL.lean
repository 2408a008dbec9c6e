/- The reader of documents: how many come. -/
import Derived.Test.YtehapglbenaikaaKT
namespace Go.Proofs.Ytehapglbenaikaa
open Go.RowKit
set_option linter.unusedVariables false

/-- the reader at q: its inner reader at p, its slots, how many there have been. -/
def Dr (W : World) (q p : Nat) (sa : Option Addr) (sl sc n : Nat) : Prop := W.heap[q]? = some (.cells #[.pointer (some ⟨p, 0, none⟩), .slice sa sl sc, .int .u64 (n : Int)] 51 (0, 0))
theorem Dr.lt {W : World} {q p : Nat} {sa : Option Addr} {sl sc n : Nat} (h : Dr W q p sa sl sc n) : q < W.heap.size := lt_of_block h
theorem Dr.cells {W : World} {q p : Nat} {sa : Option Addr} {sl sc n : Nat} (h : Dr W q p sa sl sc n) : W.cell? ⟨q, 0, none⟩ = some (.pointer (some ⟨p, 0, none⟩)) ∧ W.cell? ⟨q, 1, none⟩ = some (.slice sa sl sc) ∧ W.cell? ⟨q, 2, none⟩ = some (.int .u64 (n : Int)) := by
  unfold Dr at h
  simp [World.cell?, h]
theorem Dr.free {W : World} {q p : Nat} {sa : Option Addr} {sl sc n : Nat} (h : Dr W q p sa sl sc n) (i : Nat) : W.frozen? ⟨q, i, none⟩ = false := by
  unfold Dr at h
  simp [World.frozen?, h]
/-- of the blocks that were there only those of S have turned. -/
structure Kp (S : Nat → Prop) (w w' : World) : Prop where
  os : w'.os = w.os
  tape : w'.tape = w.tape
  output : w'.output = w.output
  size : w.heap.size ≤ w'.heap.size
  block : ∀ k, k < w.heap.size → ¬ S k → w'.heap[k]? = w.heap[k]?
theorem Kp.refl (S : Nat → Prop) (w : World) : Kp S w w := ⟨rfl, rfl, rfl, Nat.le_refl _, fun _ _ _ => rfl⟩
theorem Kp.trans {S : Nat → Prop} {a b c : World} (h : Kp S a b) (k : Kp S b c) : Kp S a c :=
  ⟨k.os.trans h.os, k.tape.trans h.tape, k.output.trans h.output, Nat.le_trans h.size k.size, fun i hi hn => (k.block i (Nat.lt_of_lt_of_le hi h.size) hn).trans (h.block i hi hn)⟩
theorem Kp.of_grown {S : Nat → Prop} {p : Nat} {w w' : World} (h : w.grownBy w' (some p)) (hp : S p) : Kp S w w' := ⟨h.os, h.tape, h.output, h.size, fun k hk hn => h.block k hk (fun e => hn (by cases e; exact hp))⟩
theorem Kp.of_below {S : Nat → Prop} {w w' : World} (h : Below w.heap.size w w') : Kp S w w' := ⟨h.os, h.tape, h.output, h.size, fun k hk _ => h.block k hk⟩
theorem Dr.setN {W : World} {q p : Nat} {sa : Option Addr} {sl sc n : Nat} (h : Dr W q p sa sl sc n) (n' : Nat) : Dr (W.setCell ⟨q, 2, none⟩ (.int .u64 (n' : Int))) q p sa sl sc n' := by
  unfold Dr at h ⊢
  have hlt := lt_of_block h
  have h' : W.heap[q] = .cells #[.pointer (some ⟨p, 0, none⟩), .slice sa sl sc, .int .u64 (n : Int)] 51 (0, 0) := by simpa [Array.getElem?_eq_getElem hlt] using h
  simp only [World.setCell, Array.getElem?_modify]
  simp [hlt, h', Array.setIfInBounds]
theorem Rd.other {w w' : World} {p k : Nat} {a : Option Addr} {bs : List Int} {i e : Nat} (h : Rd w p a bs i e) (hg : w.grownBy w' (some k)) (hk : k ≠ p) (ha : ∀ ad, a = some ad → ad.block ≠ k) : Rd w' p a bs i e :=
  ⟨(hg.block p h.lt (fun e => hk (by cases e; rfl))).trans h.blk, h.row.other hg ha, h.apart, h.bare, h.byts, h.le, h.small, h.err, fun ad e => Nat.lt_of_lt_of_le (h.inn ad e) hg.size⟩
theorem tk_few (bs : List Int) (i s : Nat) (h : i + s ≤ bs.length) : tk bs i 0 s = (i + s, 0, (bs.drop i).take s) := tk_ok bs i s h
set_option maxHeartbeats 1600000 in
set_option maxRecDepth 1000000 in
theorem count_ok (q p : Nat) (sa : Option Addr) (sl sc n i m s er : Nat) (a : Option Addr) (bs : List Int) (w : World) (hd : Dr w q p sa sl sc n) (hr : Rd w p a bs i 0) (hqp : q ≠ p) (hra : ∀ ad, a = some ad → ad.block ≠ q) (hn : n ≤ 512) (hv : nm bs i 0 = (m, s, er)) (hm : m ≤ 512 - n) :
    Calls Try.prog 31 #[.pointer (some ⟨q, 0, none⟩)] w fun e w' => e = .returned (.tuple #[.int .i64 (m : Int), .bool true]) ∧ Dr w' q p sa sl sc (n + m) ∧ Rd w' p a bs (tk bs i er s).1 (tk bs i er s).2.1 ∧ Kp (fun k => k = p ∨ k = q) w w' := by
  obtain ⟨k0, k1, k2⟩ := hd.cells
  have hV := rvarint_any p a bs i 0 w hr
  rw [hv] at hV
  simp only [] at hV
  generalize tk bs i er s = R at *
  have HV := hide hV
  have HD := hide hd
  have HRa := hide hra
  clear hV hv hd hra
  go_enter Try.func31, Try.ntmps31
  go_wp2_with fail
  refine HV.out.mono ?_
  rintro e V ⟨rfl, hrd, hg⟩
  have HR := hide hrd
  have HD1 : Hid (Dr V q p sa sl sc n) := (hg.block q HD.out.lt (fun e => hqp (by cases e; rfl))).trans HD.out
  have HG : Hid (Kp (fun k => k = p ∨ k = q) w V) := Kp.of_grown hg (.inl rfl)
  clear hrd hg k0 k1 k2
  obtain ⟨k0, k1, k2⟩ := HD1.out.cells
  have f2 := HD1.out.free 2
  have hsub : IntKind.u64.wrap ((512 : Int) - (n : Int)) = (512 : Int) - (n : Int) := by simp only [IntKind.wrap, IntKind.bits, IntKind.signed]; simp; omega
  have hadd : IntKind.u64.wrap ((n : Int) + (m : Int)) = ((n + m : Nat) : Int) := by simp only [IntKind.wrap, IntKind.bits, IntKind.signed]; simp; omega
  have hdec : decide ((512 : Int) - (n : Int) < (m : Int)) = false := by simp; omega
  go_wp2
  go_ret2
  refine ⟨rfl, ?_, ?_, ?_⟩
  · have h9 := HD1.out.setN (n + m)
    simpa using h9
  · exact HR.out.other (grown_setCell _ _ _ _) hqp HRa.out
  · exact HG.out.trans (Kp.of_grown (grown_setCell _ _ _ _) (.inr rfl))
set_option maxHeartbeats 1600000 in
set_option maxRecDepth 1000000 in
theorem count_no (q p : Nat) (sa : Option Addr) (sl sc n i : Nat) (a : Option Addr) (bs : List Int) (w : World) (hd : Dr w q p sa sl sc n) (hr : Rd w p a bs i 0) (hqp : q ≠ p) (hn : n ≤ 512) (hm : 512 - n < (nm bs i 0).1) :
    Calls Try.prog 31 #[.pointer (some ⟨q, 0, none⟩)] w fun e w' => e = .returned (.tuple #[.int .i64 0, .bool false]) ∧ Kp (fun k => k = p ∨ k = q) w w' := by
  obtain ⟨k0, k1, k2⟩ := hd.cells
  have hV := rvarint_any p a bs i 0 w hr
  have HV := hide hV
  have HD := hide hd
  generalize (nm bs i 0).1 = m at *
  clear hV hd
  go_enter Try.func31, Try.ntmps31
  go_wp2_with fail
  refine HV.out.mono ?_
  rintro e V ⟨rfl, hrd, hg⟩
  have HD1 : Hid (Dr V q p sa sl sc n) := (hg.block q HD.out.lt (fun e => hqp (by cases e; rfl))).trans HD.out
  have HG : Hid (Kp (fun k => k = p ∨ k = q) w V) := Kp.of_grown hg (.inl rfl)
  clear hrd hg k0 k1 k2
  obtain ⟨k0, k1, k2⟩ := HD1.out.cells
  have hsub : IntKind.u64.wrap ((512 : Int) - (n : Int)) = (512 : Int) - (n : Int) := by simp only [IntKind.wrap, IntKind.bits, IntKind.signed]; simp; omega
  have hdec : decide ((512 : Int) - (n : Int) < (m : Int)) = true := by simp; omega
  go_wp2
  go_ret2
  exact ⟨rfl, HG.out⟩
end Go.Proofs.Ytehapglbenaikaa
