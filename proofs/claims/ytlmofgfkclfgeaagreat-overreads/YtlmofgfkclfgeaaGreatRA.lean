/- Contracts of the checksum and of going on with one: of any bytes that lie in memory they answer what the plain mathematics says, and turn nothing that was there. -/
import Derived.Test.YtlmofgfkclfgeaaGreatCA
import Derived.Test.YtlmofgfkclfgeaaGreatA
import Derived.Test.YtlmofgfkclfgeaaGreatChecked
import Derived.Test.YtlmofgfkclfgeaaGreatDC
import Derived.KernelRfl
import Derived.WalkKit
import Derived.Handy
import Derived.LoopTactic
import Derived.Deep.RegionLaw
import Derived.Deep.QuietTactic
import Derived.BigQuiet
import Derived.WalkSmall
import Derived.Laws.CopyOwn
import Derived.Deep.OwnRows
import Derived.Deep.RegionHeld3
import Derived.Deep.RegionWith
import Derived.Lib.SlBytesConst
import Derived.WalkLawsBesides
namespace Go.Proofs.YtlmofgfkclfgeaaGreat
open Go.RowKit
set_option linter.unusedVariables false

theorem inv_is (s : Nat) (hs : s < 4294967296) : bits .xor .u32 IntKind.u32.max (s : Int) = ((Crc.inv s : Nat) : Int) := by
  have h := u32_xor_nat 4294967295 s (by omega) hs
  rw [Crc.inv, Crc.ones]
  exact h
theorem xor_is (r c : Nat) (hr : r < 4294967296) (hc : c < 4294967296) : bits .xor .u32 (r : Int) (c : Int) = ((r ^^^ c : Nat) : Int) := u32_xor_nat r c hr hc
theorem half_is (x : Nat) (hx : x < 4294967296) : bits .xor .u32 ((x : Int) / 16) ((Crc.stps 4 (x % 16) : Nat) : Int) = ((Crc.stps 4 x : Nat) : Int) := by
  have e : ((x : Int) / 16) = ((x / 16 : Nat) : Int) := by omega
  rw [e, xor_is _ _ (by omega) (Crc.stps_lt 4 _ (by omega)), Crc.half]
theorem tab_cell (w1 : World) (i : Nat) (h : i < 16) : (w1.alloc (.cells (tab 16) 254)).cell? ⟨w1.heap.size, i, none⟩ = some (.int .u32 ((Crc.stps 4 i : Nat) : Int)) := by
  rw [World.cell?_alloc_at _ _ _ _ rfl, tab_at 16 i h, if_pos h]
/-- all that a round asks of its numbers. -/
theorem round_nums (R C : Nat) (hR : R < 4294967296) (hC : C < 256) : ∃ X Y i1 i2 t1 t2 : Nat, X < 4294967296 ∧ Y < 4294967296 ∧ i1 < 16 ∧ i2 < 16 ∧ t1 = Crc.stps 4 i1 ∧ t2 = Crc.stps 4 i2 ∧
    bits .xor .u32 (R : Int) (C : Int) = (X : Int) ∧ bits .and .u32 (X : Int) 15 = (i1 : Int) ∧ bits .xor .u32 ((X : Int) / 16) (t1 : Int) = (Y : Int) ∧
    bits .and .u32 (Y : Int) 15 = (i2 : Int) ∧ bits .xor .u32 ((Y : Int) / 16) (t2 : Int) = ((Crc.byt R C : Nat) : Int) := by
  have hX := Crc.xor_lt32 R C hR (by omega)
  have hY := Crc.stps_lt 4 _ hX
  refine ⟨R ^^^ C, Crc.stps 4 (R ^^^ C), (R ^^^ C) % 16, Crc.stps 4 (R ^^^ C) % 16, _, _, hX, hY, Nat.mod_lt _ (by omega), Nat.mod_lt _ (by omega), rfl, rfl, xor_is R C hR (by omega), and15 _ hX, half_is _ hX, and15 _ hY, ?_⟩
  rw [← Crc.two_halves]
  exact half_is _ hY

set_option maxHeartbeats 400000 in
theorem more_any (s : Nat) (hs : s < 4294967296) (a : Option Addr) (len cap : Nat) (zs : List Int) (w : World) (hl : zs.length = len) (hbig : len ≤ 9223372036854775807) (hr : Row w a zs) (hb : Byts zs) :
    Calls Tryz.prog 105 #[.int .u32 (s : Int), .slice a len cap] w fun e w' => e = .returned (.int .u32 ((Crc.more s zs : Nat) : Int)) ∧ Below w.heap.size w w' := by
  have HL : Hid (zs.length = len) := hl
  clear hl
  go_enter Tryz.func105, Tryz.ntmps105
  go_wp2_with fail
  refine (half_any _).mono ?_
  rintro e w1 ⟨rfl, hb1⟩
  rw [tab_full]
  go_wp2
  rw [← tab_full, inv_is s hs]
  have hT := tab_cell w1
  have hW := (hb1.alloc hb1.size (.cells (tab 16) 254))
  have hrow := hide (hr.below hW)
  have HW := hide hW
  have HT := hide hT
  clear hT hW hr
  generalize w1.alloc (.cells (tab 16) 254) = W at *
  generalize w1.heap.size = B at *
  clear hb1
  have HB := hide hb
  clear hb
  go_loop [6, 14] (fun r i => ∃ k : Nat, k ≤ len ∧ i = .int .i64 k ∧ r = .int .u32 ((Crc.reg (Crc.inv s) (zs.take k) : Nat) : Int)) (fun _ i => len - (intOf i).toNat)
  case atStart => exact ⟨0, Nat.zero_le _, rfl, rfl⟩
  case round =>
    obtain ⟨k, hk, rfl, rfl⟩ := hrel
    have hR := Crc.reg_lt (Crc.inv s) (zs.take k) (Crc.inv_lt s hs) (HB.out.take k)
    by_cases hlt : k < len
    · have hlk : k < zs.length := by have := HL.out; omega
      rcases hrow.out with h0 | ⟨b, off, rfl, hlt2, hc⟩
      · subst h0; simp at hlk
      have hcb := HB.out.at k
      have hck := hc k hlk
      have HS : Hid (Crc.reg (Crc.inv s) (zs.take (k + 1)) = Crc.byt (Crc.reg (Crc.inv s) (zs.take k)) (zs.getD k 0).toNat) := by rw [Hid, take_snoc zs k hlk, Crc.reg_snoc]
      generalize Crc.reg (Crc.inv s) (zs.take k) = R at *
      generalize zs.getD k 0 = c at *
      obtain ⟨C, rfl⟩ := Int.eq_ofNat_of_zero_le hcb.1
      obtain ⟨X, Y, i1, i2, t1, t2, hX, hY, hi1, hi2, ht1, ht2, e1, e2, e3, e4, e5⟩ := round_nums R C hR (by omega)
      have c1 := HT.out i1 hi1
      have c2 := HT.out i2 hi2
      rw [← ht1] at c1
      rw [← ht2] at c2
      clear ht1 ht2 hc hlt2
      go_wp2
      go_round
      case rel => exact ⟨k + 1, by omega, by go_num, by rw [HS.out, Int.toNat_natCast]⟩
      case measure => simp [intOf]; omega
    · obtain rfl : k = len := by omega
      have HF : Hid (bits .xor .u32 IntKind.u32.max ((Crc.reg (Crc.inv s) (zs.take k) : Nat) : Int) = ((Crc.more s zs : Nat) : Int)) := by
        rw [Hid, inv_is _ hR, Crc.more, List.take_of_length_le (by have := HL.out; omega)]
      go_wp2
      go_ret
      exact ⟨ret_int HF.out, HW.out⟩

set_option maxHeartbeats 400000 in
theorem sum_any (a : Option Addr) (len cap : Nat) (zs : List Int) (w : World) (hl : zs.length = len) (hbig : len ≤ 9223372036854775807) (hr : Row w a zs) (hb : Byts zs) :
    Calls Tryz.prog 104 #[.slice a len cap] w fun e w' => e = .returned (.int .u32 ((Crc.more 0 zs : Nat) : Int)) ∧ Below w.heap.size w w' := by
  have H := hide (more_any 0 (by omega) a len cap zs w hl hbig hr hb)
  clear hl hr hb
  go_enter Tryz.func104, Tryz.ntmps104
  go_wp2_with fail
  refine H.out.mono ?_
  rintro e w1 ⟨rfl, hb1⟩
  go_wp2
  go_ret
  exact ⟨rfl, hb1⟩
end Go.Proofs.YtlmofgfkclfgeaaGreat
/- The writer of pages: each call lays bytes down behind what is there. -/
namespace Go.Proofs.YtlmofgfkclfgeaaGreat
open Go.RowKit
set_option linter.unusedVariables false

theorem src_one (w : World) (x : Int) : Src Tryz.prog 1 22 (.slice (some ⟨w.heap.size, 0, none⟩) 1 1) 1 ([x].map (Value.int .u8)) (w.alloc (.cells #[.int .u8 x] 5)) :=
  Src.ofSlice _ Tryz.underlying22 ⟨w.heap.size, 0, none⟩ 1 1 [.int .u8 x] rfl (by intro j u hj; match j, hj with | 0, hj => simp at hj; subst hj; simp [Addr.add]) (by intro u hu; simp at hu; subst hu; rfl)
theorem Own.drew {w : World} {v : Value} {zs : List Int} (h : Own w v zs) : Own w.drew v zs := h
theorem Own.alloc {w : World} {v : Value} {zs : List Int} (h : Own w v zs) (o : Obj) : Own (w.alloc o) v zs := h.of_block fun k hk => Below.heap_alloc w o k (h.lt hk)
theorem Own.below {w w' : World} {v : Value} {zs : List Int} (h : Own w v zs) (hb : Below w.heap.size w w') : Own w' v zs := h.of_block fun k hk => hb.block k (h.lt hk)
theorem Row.news {w : World} {a : Option Addr} {zs : List Int} (h : Row w a zs) : ∀ ad, a = some ad → ∀ j u, (zs.map (Value.int .u8))[j]? = some u → w.cell? (ad.add j) = some u := by
  intro ad had j u hu
  have hj : j < zs.length := by have := (List.getElem?_eq_some_iff.1 hu).1; simpa using this
  rcases h with rfl | ⟨b, off, rfl, _, hc⟩
  · simp at hj
  · obtain rfl := Option.some.inj had
    rw [Addr.add_lit, hc j hj]
    rw [← hu]; simp [hj]
theorem src_row (w : World) (a : Option Addr) (n c : Nat) (ys : List Int) (hl : ys.length = n) (hn : a = none → n = 0 ∧ c = 0) (hr : Row w a ys) : Src Tryz.prog 1 22 (.slice a n c) n (ys.map (Value.int .u8)) w := by
  cases a with
  | none =>
    obtain ⟨rfl, rfl⟩ := hn rfl
    have e : ys = [] := List.eq_nil_of_length_eq_zero hl
    subst e
    exact Src.ofNil w Tryz.underlying22 0
  | some ad => exact Src.ofSlice w Tryz.underlying22 ad n c _ (by simp [hl]) (hr.news ad rfl) (ints_oneCell _ _)

theorem cells_two {w : World} {p t : Nat} {v s : Value} (h : w.heap[p]? = some (.cells #[v, s] t (0, 0))) : w.cell? ⟨p, 0, none⟩ = some v ∧ w.cell? ⟨p, 1, none⟩ = some s ∧ w.frozen? ⟨p, 0, none⟩ = false := by
  refine ⟨by simp [World.cell?, h], by simp [World.cell?, h], by simp [World.frozen?, h]⟩
end Go.Proofs.YtlmofgfkclfgeaaGreat
/- The writer's end: noughts, and the sum. -/
namespace Go.Proofs.YtlmofgfkclfgeaaGreat
open Go.RowKit
set_option linter.unusedVariables false

end Go.Proofs.YtlmofgfkclfgeaaGreat
/- Contracts of Seal and of the writer as Seal and PutMeta use it. -/
namespace Go.Proofs.YtlmofgfkclfgeaaGreat
open Go.RowKit
set_option linter.unusedVariables false

/-- bytes that a call made: they lie in a new block. -/
def Made (w : World) (v : Value) (zs : List Int) (W : World) : Prop := Own W v zs ∧ (∀ k, v.ownBlock = some k → w.heap.size ≤ k) ∧ Below w.heap.size w W
theorem row_new (w : World) (zs : List Int) (cs : Array Value) (f : Nat × Nat) (h : cs = (zs.map (Value.int .u8)).toArray) : Row (w.alloc (.cells cs 5 f)) (some ⟨w.heap.size, 0, none⟩) zs := by
  refine .inr ⟨_, _, rfl, by simp, fun i hi => ?_⟩
  rw [World.cell?_alloc_mark, h]
  simp [hi]
theorem ret_two {v v' : Value} {k : IntKind} {a a' : Int} (h : v = v') (h2 : a = a') : Ending.returned (.tuple #[v, .int k a]) = .returned (.tuple #[v', .int k a']) := by rw [h, h2]

set_option maxHeartbeats 800000 in
theorem kind_yes (kind : Nat) (w : World) (h1 : 1 ≤ kind) (h4 : kind ≤ 4) : Calls Tryz.prog 100 #[.int .u8 (kind : Int)] w fun e w' => e = .returned (.bool true) ∧ w' = w := by
  have d1 : decide ((1 : Int) ≤ (kind : Int)) = true := by simp; omega
  have d2 : decide ((kind : Int) ≤ 4) = true := by simp; omega
  go_enter Tryz.func100, Tryz.ntmps100
  go_wp2
  go_ret
  exact ⟨rfl, rfl⟩
set_option maxHeartbeats 800000 in
theorem kind_no (kind : Nat) (w : World) (h : ¬ (1 ≤ kind ∧ kind ≤ 4)) : Calls Tryz.prog 100 #[.int .u8 (kind : Int)] w fun e w' => e = .returned (.bool false) ∧ w' = w := by
  by_cases h1 : 1 ≤ kind
  · have d1 : decide ((1 : Int) ≤ (kind : Int)) = true := by simp; omega
    have d2 : decide ((kind : Int) ≤ 4) = false := by simp; omega
    go_enter Tryz.func100, Tryz.ntmps100
    go_wp2
    go_ret
    exact ⟨rfl, rfl⟩
  · have d1 : decide ((1 : Int) ≤ (kind : Int)) = false := by simp; omega
    go_enter Tryz.func100, Tryz.ntmps100
    go_wp2
    go_ret
    exact ⟨rfl, rfl⟩

end Go.Proofs.YtlmofgfkclfgeaaGreat
/- The reader of pages: what it takes, and where it gives up. -/
namespace Go.Proofs.YtlmofgfkclfgeaaGreat
open Go.RowKit
set_option linter.unusedVariables false

/-- what the reader gives up with. -/
abbrev flt : List PanicEntry := [{ v := .iface 243 (.agg #[]), recovered := false }]
/-- bytes that lie elsewhere than in block p. -/
def RowN (w : World) (p : Nat) (a : Option Addr) (zs : List Int) : Prop :=
  zs = [] ∨ ∃ b off, a = some ⟨b, off, none⟩ ∧ b < w.heap.size ∧ b ≠ p ∧ ∀ i, i < zs.length → w.cell? ⟨b, off + i, none⟩ = some (.int .u8 (zs.getD i 0))
theorem RowN.row {w : World} {p : Nat} {a : Option Addr} {zs : List Int} (h : RowN w p a zs) : Row w a zs := by
  rcases h with h | ⟨b, off, h1, h2, _, h3⟩
  · exact .inl h
  · exact .inr ⟨b, off, h1, h2, h3⟩
theorem RowN.grown {w w' : World} {p : Nat} {a : Option Addr} {zs : List Int} (h : RowN w p a zs) (hg : w.grownBy w' (some p)) : RowN w' p a zs := by
  rcases h with h | ⟨b, off, rfl, hlt, hne, hc⟩
  · exact .inl h
  · exact .inr ⟨b, off, rfl, Nat.lt_of_lt_of_le hlt hg.size, hne, fun j hj => hg.cell (hc j hj) (fun e => hne (by simpa using e))⟩
theorem RowN.cut {w : World} {p : Nat} {a : Option Addr} {xs ys : List Int} (h : RowN w p a (xs ++ ys)) (i c : Nat) (hi : xs.length = i) (hc : (xs ++ ys).length ≤ c) : RowN w p (if c = i then a else Option.map (fun x => x.add i) a) ys := by
  by_cases hm : ys = []
  · exact .inl hm
  · rcases h with h | ⟨b, off, rfl, hlt, hne, hcell⟩
    · exact .inl (List.append_eq_nil_iff.1 h).2
    · have : ys.length ≠ 0 := fun e => hm (List.eq_nil_of_length_eq_zero e)
      rw [List.length_append] at hc
      rw [if_neg (by omega)]
      refine .inr ⟨b, off + i, by simp [Addr.add_lit], hlt, hne, fun j hj => ?_⟩
      have := hcell (i + j) (by rw [List.length_append]; omega)
      rw [Nat.add_assoc, this]
      simp only [List.getD_eq_getElem?_getD]
      rw [List.getElem?_append_right (by omega), hi, Nat.add_sub_cancel_left]
theorem RowN.left {w : World} {p : Nat} {a : Option Addr} {xs ys : List Int} (h : RowN w p a (xs ++ ys)) : RowN w p a xs := by
  rcases h with h | ⟨b, off, rfl, hlt, hne, hc⟩
  · exact .inl (List.append_eq_nil_iff.1 h).1
  · refine .inr ⟨b, off, rfl, hlt, hne, fun i hi => ?_⟩
    have := hc i (by simp; omega)
    rw [this]; simp [List.getElem?_append_left hi]
/-- the reader at p has the bytes zs ahead of it. -/
structure Rd (w : World) (p : Nat) (a : Option Addr) (n c : Nat) (zs : List Int) : Prop where
  blk : w.heap[p]? = some (.cells #[.slice a n c] 246 (0, 0))
  len : zs.length = n
  cap : n ≤ c
  max : c ≤ 9223372036854775807
  bare : a = none → n = 0 ∧ c = 0
  row : RowN w p a zs
  byts : Byts zs
theorem grown_setCellP (w : World) (p j : Nat) (v : Value) : w.grownBy (w.setCell ⟨p, j, none⟩ v) (some p) :=
  ⟨rfl, rfl, rfl, by simp [World.setCell], fun k _ hne => Below.heap_setCell _ _ _ _ (fun e => hne (by rw [e]))⟩
theorem grown_refl (w : World) (r : Option Nat) : w.grownBy w r := ⟨rfl, rfl, rfl, Nat.le_refl _, fun _ _ _ => rfl⟩
theorem grown_trans {a b c : World} {r : Option Nat} (h : a.grownBy b r) (k : b.grownBy c r) : a.grownBy c r :=
  ⟨k.os.trans h.os, k.tape.trans h.tape, k.output.trans h.output, Nat.le_trans h.size k.size, fun i hi hn => (k.block i (Nat.lt_of_lt_of_le hi h.size) hn).trans (h.block i hi hn)⟩
theorem grown_below {a b : World} {r : Option Nat} (h : Below a.heap.size a b) : a.grownBy b r := ⟨h.os, h.tape, h.output, h.size, fun i hi _ => h.block i hi⟩
section
variable {w w' : World} {p n c : Nat} {a : Option Addr} {zs : List Int}
theorem Rd.lt (h : Rd w p a n c zs) : p < w.heap.size := lt_of_block h.blk
theorem Rd.c0 (h : Rd w p a n c zs) : w.cell? ⟨p, 0, none⟩ = some (.slice a n c) := by simp [World.cell?, h.blk]
theorem Rd.f0 (h : Rd w p a n c zs) : w.frozen? ⟨p, 0, none⟩ = false := by simp [World.frozen?, h.blk]
theorem Rd.below (h : Rd w p a n c zs) (hb : Below w.heap.size w w') : Rd w' p a n c zs :=
  ⟨(hb.block p h.lt).trans h.blk, h.len, h.cap, h.max, h.bare, h.row.grown (grown_below hb), h.byts⟩
theorem Rd.set (h : Rd w p a n c zs) {a' : Option Addr} {n' c' : Nat} {ys : List Int} (hl : ys.length = n') (hc : n' ≤ c') (hm : c' ≤ 9223372036854775807) (hb : a' = none → n' = 0 ∧ c' = 0) (hr : RowN w p a' ys) (h8 : Byts ys) :
    Rd (w.setCell ⟨p, 0, none⟩ (.slice a' n' c')) p a' n' c' ys :=
  ⟨by rw [heap_setCell_same w p 0 _ 246 _ h.blk]; rfl, hl, hc, hm, hb, hr.grown (grown_setCellP _ _ _ _), h8⟩
end
/-- the reader at p has the bytes zs ahead of it, wherever they lie. -/
def Rdr (w : World) (p : Nat) (zs : List Int) : Prop := ∃ a n c, Rd w p a n c zs
theorem Rdr.below {w w' : World} {p : Nat} {zs : List Int} (h : Rdr w p zs) (hb : Below w.heap.size w w') : Rdr w' p zs := by
  obtain ⟨a, n, c, h⟩ := h; exact ⟨a, n, c, h.below hb⟩
theorem Rdr.lt {w : World} {p : Nat} {zs : List Int} (h : Rdr w p zs) : p < w.heap.size := by obtain ⟨a, n, c, h⟩ := h; exact h.lt

set_option maxHeartbeats 800000 in
theorem must_yes (p : Addr) (b : Bool) (hb : b = true) (w : World) : Calls Tryz.prog 99 #[.pointer (some p), .bool b] w fun e w' => e = .returned (.tuple #[]) ∧ w' = w := by
  subst hb
  go_enter Tryz.func99, Tryz.ntmps99
  go_wp2
  go_end0
  exact ⟨rfl, rfl⟩
set_option maxHeartbeats 800000 in
theorem must_no (p : Addr) (b : Bool) (hb : b = false) (w : World) : Calls Tryz.prog 99 #[.pointer (some p), .bool b] w fun e w' => e = .panicked flt ∧ w' = w := by
  subst hb
  go_enter Tryz.func99, Tryz.ntmps99
  go_wp2
  exact ⟨rfl, rfl, rfl⟩

set_option maxHeartbeats 800000 in
theorem take_ok (p : Nat) (k : Nat) (xs ys : List Int) (w : World) (hk : xs.length = k) (h : Rdr w p (xs ++ ys)) :
    Calls Tryz.prog 102 #[.pointer (some ⟨p, 0, none⟩), .int .i64 (k : Int)] w fun e w' => ∃ a c, e = .returned (.slice a k c) ∧ k ≤ c ∧ c ≤ 9223372036854775807 ∧ (a = none → k = 0 ∧ c = 0) ∧ RowN w' p a xs ∧ Rdr w' p ys ∧ w.grownBy w' (some p) := by
  obtain ⟨a, n, c, hr⟩ := h
  have c0 := hr.c0
  have f0 := hr.f0
  have hcap := hr.cap
  have hmax := hr.max
  have hlen : xs.length + ys.length = n := by have := hr.len; rwa [List.length_append] at this
  have hkn : k ≤ n := by omega
  have d1 : decide ((k : Int) ≤ (n : Int)) = true := by simp; omega
  have HR := hide hr
  have HLn := hide hlen
  have HK := hide hk
  clear hr hlen hk
  by_cases hck : c = k
  · subst hck
    have hy : ys = [] := List.eq_nil_of_length_eq_zero (by have := HLn.out; have := HK.out; omega)
    have hnk : n = c := by omega
    subst hnk
    have HD : Hid (Rdr (w.setCell ⟨p, 0, none⟩ (.slice a 0 0)) p ys) := hide ⟨a, 0, 0, HR.out.set (by rw [hy]; rfl) (Nat.le_refl _) (by omega) (fun _ => ⟨rfl, rfl⟩) (.inl hy) (by rw [hy]; intro c hc; simp at hc)⟩
    go_enter Tryz.func102, Tryz.ntmps102
    go_wp2_with fail
    refine (must_yes _ _ rfl _).mono ?_
    rintro e w' ⟨rfl, rfl⟩
    go_wp2
    go_ret
    exact ⟨_, _, rfl, Nat.le_refl _, hmax, HR.out.bare, HR.out.row.left.grown (grown_setCellP _ _ _ _), HD.out, grown_setCellP _ _ _ _⟩
  · have hcut := HR.out.row.cut k c HK.out (by rw [HR.out.len]; omega)
    rw [if_neg hck] at hcut
    have HD : Hid (Rdr (w.setCell ⟨p, 0, none⟩ (.slice (Option.map (fun x => x.add k) a) (n - k) (c - k))) p ys) := hide ⟨_, _, _, HR.out.set (by have := HLn.out; have := HK.out; omega) (by omega) (by omega) (by intro h; have := HR.out.bare (by simpa using h); omega) hcut (fun x hx => HR.out.byts x (by simp [hx]))⟩
    clear hcut
    go_enter Tryz.func102, Tryz.ntmps102
    go_wp2_with fail
    refine (must_yes _ _ rfl _).mono ?_
    rintro e w' ⟨rfl, rfl⟩
    go_wp2
    go_ret
    exact ⟨_, _, rfl, by omega, hmax, by intro h; have := HR.out.bare h; omega, HR.out.row.left.grown (grown_setCellP _ _ _ _), HD.out, grown_setCellP _ _ _ _⟩

set_option maxHeartbeats 800000 in
theorem take_no (p : Nat) (k : Nat) (zs : List Int) (w : World) (hk : zs.length < k) (hk2 : k ≤ 9223372036854775807) (h : Rdr w p zs) :
    Calls Tryz.prog 102 #[.pointer (some ⟨p, 0, none⟩), .int .i64 (k : Int)] w fun e w' => e = .panicked flt ∧ w.grownBy w' (some p) := by
  obtain ⟨a, n, c, hr⟩ := h
  have c0 := hr.c0
  have hkn : n < k := by have := hr.len; omega
  have d1 : decide (k ≤ n) = false := by simp; omega
  clear hr
  go_enter Tryz.func102, Tryz.ntmps102
  go_wp2_with fail
  refine (must_no _ _ rfl _).mono ?_
  rintro e w' ⟨rfl, rfl⟩
  exact ⟨rfl, rfl, grown_refl _ _⟩

theorem or_byte (N C j : Nat) (hN : N < 256 ^ j) (hC : C < 256) (hj : j ≤ 7) : bits BinOp.or IntKind.u64 (N : Int) (IntKind.u64.wrap ((C : Int) * 2 ^ (8 * j))) = ((N + 256 ^ j * ((C : Int)).toNat : Nat) : Int) := by
  have e2 : (2 : Nat) ^ (8 * j) = 256 ^ j := by rw [Nat.pow_mul]
  have hp : (256 : Nat) ^ j ≤ 256 ^ 7 := Nat.pow_le_pow_right (by omega) hj
  have h7 : (256 : Nat) ^ 7 = 72057594037927936 := by decide
  have e3 : ((C : Int) * 2 ^ (8 * j)) = ((C * 256 ^ j : Nat) : Int) := by rw [← e2]; simp
  have hb : C * 256 ^ j < 18446744073709551616 := by
    have : C * 256 ^ j ≤ 255 * 256 ^ j := Nat.mul_le_mul_right _ (by omega)
    omega
  have hw : IntKind.u64.wrap ((C * 256 ^ j : Nat) : Int) = ((C * 256 ^ j : Nat) : Int) := by
    generalize C * 256 ^ j = X at *
    simp only [IntKind.wrap, IntKind.bits, IntKind.signed]; simp; omega
  have h := Nat.two_pow_add_eq_or_of_lt (i := 8 * j) (b := N) (by rw [e2]; exact hN) C
  rw [e2] at h
  rw [e3, hw, Int.toNat_natCast, u64_or_nat N (C * 256 ^ j) (by omega) hb, Nat.mul_comm C, Nat.or_comm, ← h, Nat.add_comm]
theorem leV_app (a b : List Int) : Crc.leV (a ++ b) = Crc.leV a + 256 ^ a.length * Crc.leV b := by
  induction a with
  | nil => simp [Crc.leV]
  | cons c t ih =>
    rw [List.cons_append, Crc.leV, Crc.leV, ih, List.length_cons, Nat.pow_succ, Nat.mul_add, ← Nat.mul_assoc, Nat.mul_comm (256 ^ t.length) 256, Nat.add_assoc]
theorem leV_one (xs : List Int) (j : Nat) (h : j < xs.length) : Crc.leV (xs.take (j + 1)) = Crc.leV (xs.take j) + 256 ^ j * (xs.getD j 0).toNat := by
  rw [take_snoc xs j h, leV_app, List.length_take, Nat.min_eq_left (by omega)]
  simp [Crc.leV]

set_option maxHeartbeats 800000 in
theorem num_ok (p : Nat) (k : Nat) (xs ys : List Int) (w : World) (hk : xs.length = k) (hk8 : k ≤ 8) (h : Rdr w p (xs ++ ys)) (h8 : Byts xs) :
    Calls Tryz.prog 98 #[.pointer (some ⟨p, 0, none⟩), .int .i64 (k : Int)] w fun e w' => e = .returned (.int .u64 ((Crc.leV xs : Nat) : Int)) ∧ Rdr w' p ys ∧ w.grownBy w' (some p) := by
  have HT := hide (take_ok p k xs ys w hk h)
  have HK := hide hk
  have H8 := hide h8
  clear hk h h8
  go_enter Tryz.func98, Tryz.ntmps98
  go_wp2_with fail
  refine HT.out.mono ?_
  rintro e w1 ⟨a, c, rfl, hkc, hc, hn, hrow, hrd, hg⟩
  have HRow := hide hrow
  have HRd := hide hrd
  have HG := hide hg
  clear hn hrow hrd hg
  go_wp2
  go_loopw [5, 12] (fun x i wr => ∃ j : Nat, j ≤ k ∧ i = .int .i64 (j : Int) ∧ x = .int .u64 ((Crc.leV (xs.take j) : Nat) : Int) ∧ wr = w1) (fun _ i _ => k - (intOf i).toNat)
  case atStart => exact ⟨0, Nat.zero_le _, rfl, rfl, rfl⟩
  case round =>
    obtain ⟨j, hj, rfl, rfl, rfl⟩ := hrel
    by_cases hlt : j < k
    · have hjx : j < xs.length := by have := HK.out; omega
      obtain ⟨b, off, rfl, hcell⟩ : ∃ b off, a = some ⟨b, off, none⟩ ∧ wr.cell? ⟨b, off + j, none⟩ = some (.int .u8 (xs.getD j 0)) := by
        rcases HRow.out with h0 | ⟨b, off, h1, _, _, h2⟩
        · rw [h0] at hjx; simp at hjx
        · exact ⟨b, off, h1, h2 j hjx⟩
      have hcb := H8.out.at j
      have HS := hide (leV_one xs j hjx)
      have HLt : Hid (Crc.leV (xs.take j) < 256 ^ j) := by
        have := Crc.leV_lt (xs.take j) (H8.out.take j)
        rwa [List.length_take, Nat.min_eq_left (by omega)] at this
      have hN : Crc.leV (xs.take j) < 18446744073709551616 := by
        have h1 : (256 : Nat) ^ j ≤ 256 ^ 7 := Nat.pow_le_pow_right (by omega) (by omega)
        have h2 : (256 : Nat) ^ 7 = 72057594037927936 := by decide
        have := HLt.out
        omega
      generalize Crc.leV (xs.take j) = N at *
      generalize xs.getD j 0 = cc at *
      obtain ⟨C, rfl⟩ := Int.eq_ofNat_of_zero_le hcb.1
      go_wp2
      go_roundw
      case rel => exact ⟨j + 1, by omega, by go_num, by rw [HS.out, or_byte N C j HLt.out (by omega) (by omega)], trivial⟩
      case measure => simp [intOf]; omega
    · obtain rfl : j = k := by omega
      have HF : Hid (xs.take j = xs) := hide (List.take_of_length_le (by have := HK.out; omega))
      go_wp2
      go_ret
      exact ⟨by rw [HF.out]; rfl, HRd.out, HG.out⟩
end Go.Proofs.YtlmofgfkclfgeaaGreat
