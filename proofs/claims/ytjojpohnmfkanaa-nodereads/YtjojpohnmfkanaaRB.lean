/- The reader of nodes: what it takes, and where it gives up. -/
import Derived.Test.YtjojpohnmfkanaaHE
namespace Go.Proofs.Ytjojpohnmfkanaa
open Go.RowKit
set_option linter.unusedVariables false

/-- what the reader gives up with. -/
abbrev flt : List PanicEntry := [{ v := .iface 115 (.agg #[]), recovered := false }]
/-- bytes that lie in a block below p. -/
def RowN (w : World) (p : Nat) (a : Option Addr) (zs : List Int) : Prop :=
  zs = [] ∨ ∃ b off, a = some ⟨b, off, none⟩ ∧ b < w.heap.size ∧ b < p ∧ ∀ i, i < zs.length → w.cell? ⟨b, off + i, none⟩ = some (.int .u8 (zs.getD i 0))
theorem RowN.row {w : World} {p : Nat} {a : Option Addr} {zs : List Int} (h : RowN w p a zs) : Row w a zs := by
  rcases h with h | ⟨b, off, h1, h2, _, h3⟩
  · exact .inl h
  · exact .inr ⟨b, off, h1, h2, h3⟩
theorem RowN.grown {w w' : World} {p : Nat} {a : Option Addr} {zs : List Int} (h : RowN w p a zs) (hg : w.grownBy w' (some p)) : RowN w' p a zs := by
  rcases h with h | ⟨b, off, rfl, hlt, hne, hc⟩
  · exact .inl h
  · exact .inr ⟨b, off, rfl, Nat.lt_of_lt_of_le hlt hg.size, hne, fun j hj => hg.cell (hc j hj) (fun e => Nat.ne_of_lt hne (by simpa using e))⟩
theorem RowN.cut {w : World} {p : Nat} {a : Option Addr} {xs ys : List Int} (h : RowN w p a (xs ++ ys)) (i c : Nat) (hi : xs.length = i) (hc : (xs ++ ys).length ≤ c) : RowN w p (if c = i then a else Option.map (fun x => x.add i) a) ys := by
  by_cases hm : ys = []
  · exact .inl hm
  · rcases h with h | ⟨b, off, rfl, hlt, hne, hcell⟩
    · exact .inl (List.append_eq_nil_iff.1 h).2
    · have : ys.length ≠ 0 := fun e => hm (List.eq_nil_of_length_eq_zero e)
      rw [List.length_append] at hc
      rw [if_neg (by omega)]
      refine .inr ⟨b, off + i, by simp [Addr.add_lit], hlt, hne, fun j hj => ?_⟩
      have := hcell (i + j) (by rw [List.length_append]; omega)
      rw [Nat.add_assoc, this]
      simp only [List.getD_eq_getElem?_getD]
      rw [List.getElem?_append_right (by omega), hi, Nat.add_sub_cancel_left]
theorem RowN.left {w : World} {p : Nat} {a : Option Addr} {xs ys : List Int} (h : RowN w p a (xs ++ ys)) : RowN w p a xs := by
  rcases h with h | ⟨b, off, rfl, hlt, hne, hc⟩
  · exact .inl (List.append_eq_nil_iff.1 h).1
  · refine .inr ⟨b, off, rfl, hlt, hne, fun i hi => ?_⟩
    have := hc i (by simp; omega)
    rw [this]; simp [List.getElem?_append_left hi]
/-- the reader at p has the bytes zs ahead of it. -/
structure Rd (w : World) (p : Nat) (a : Option Addr) (n c : Nat) (zs : List Int) : Prop where
  blk : w.heap[p]? = some (.cells #[.slice a n c] 118 (0, 0))
  len : zs.length = n
  cap : n ≤ c
  max : c ≤ 9223372036854775807
  bare : a = none → n = 0 ∧ c = 0
  row : RowN w p a zs
  byts : Byts zs
theorem grown_setCell (w : World) (p j : Nat) (v : Value) : w.grownBy (w.setCell ⟨p, j, none⟩ v) (some p) :=
  ⟨rfl, rfl, rfl, by simp [World.setCell], fun k _ hne => Below.heap_setCell _ _ _ _ (fun e => hne (by rw [e]))⟩
theorem grown_refl (w : World) (r : Option Nat) : w.grownBy w r := ⟨rfl, rfl, rfl, Nat.le_refl _, fun _ _ _ => rfl⟩
theorem grown_trans {a b c : World} {r : Option Nat} (h : a.grownBy b r) (k : b.grownBy c r) : a.grownBy c r :=
  ⟨k.os.trans h.os, k.tape.trans h.tape, k.output.trans h.output, Nat.le_trans h.size k.size, fun i hi hn => (k.block i (Nat.lt_of_lt_of_le hi h.size) hn).trans (h.block i hi hn)⟩
theorem grown_below {a b : World} {r : Option Nat} (h : Below a.heap.size a b) : a.grownBy b r := ⟨h.os, h.tape, h.output, h.size, fun i hi _ => h.block i hi⟩
section
variable {w w' : World} {p n c : Nat} {a : Option Addr} {zs : List Int}
theorem Rd.lt (h : Rd w p a n c zs) : p < w.heap.size := lt_of_block h.blk
theorem Rd.c0 (h : Rd w p a n c zs) : w.cell? ⟨p, 0, none⟩ = some (.slice a n c) := by simp [World.cell?, h.blk]
theorem Rd.f0 (h : Rd w p a n c zs) : w.frozen? ⟨p, 0, none⟩ = false := by simp [World.frozen?, h.blk]
theorem Rd.below (h : Rd w p a n c zs) (hb : Below w.heap.size w w') : Rd w' p a n c zs :=
  ⟨(hb.block p h.lt).trans h.blk, h.len, h.cap, h.max, h.bare, h.row.grown (grown_below hb), h.byts⟩
theorem Rd.set (h : Rd w p a n c zs) {a' : Option Addr} {n' c' : Nat} {ys : List Int} (hl : ys.length = n') (hc : n' ≤ c') (hm : c' ≤ 9223372036854775807) (hb : a' = none → n' = 0 ∧ c' = 0) (hr : RowN w p a' ys) (h8 : Byts ys) :
    Rd (w.setCell ⟨p, 0, none⟩ (.slice a' n' c')) p a' n' c' ys :=
  ⟨by rw [heap_setCell_same w p 0 _ 118 _ h.blk]; rfl, hl, hc, hm, hb, hr.grown (grown_setCell _ _ _ _), h8⟩
end
/-- the reader at p has the bytes zs ahead of it, wherever they lie. -/
def Rdr (w : World) (p : Nat) (zs : List Int) : Prop := ∃ a n c, Rd w p a n c zs
theorem Rdr.below {w w' : World} {p : Nat} {zs : List Int} (h : Rdr w p zs) (hb : Below w.heap.size w w') : Rdr w' p zs := by
  obtain ⟨a, n, c, h⟩ := h; exact ⟨a, n, c, h.below hb⟩
theorem Rdr.lt {w : World} {p : Nat} {zs : List Int} (h : Rdr w p zs) : p < w.heap.size := by obtain ⟨a, n, c, h⟩ := h; exact h.lt

set_option maxHeartbeats 800000 in
theorem must_yes (p : Addr) (b : Bool) (hb : b = true) (w : World) : Calls Try.prog 56 #[.pointer (some p), .bool b] w fun e w' => e = .returned (.tuple #[]) ∧ w' = w := by
  subst hb
  go_enter Try.func56, Try.ntmps56
  go_wp2
  go_end0
  exact ⟨rfl, rfl⟩
set_option maxHeartbeats 800000 in
theorem must_no (p : Addr) (b : Bool) (hb : b = false) (w : World) : Calls Try.prog 56 #[.pointer (some p), .bool b] w fun e w' => e = .panicked flt ∧ w' = w := by
  subst hb
  go_enter Try.func56, Try.ntmps56
  go_wp2
  exact ⟨rfl, rfl, rfl⟩

theorem leV_app (a b : List Int) : Crc.leV (a ++ b) = Crc.leV a + 256 ^ a.length * Crc.leV b := by
  induction a with
  | nil => simp [Crc.leV]
  | cons c t ih =>
    rw [List.cons_append, Crc.leV, Crc.leV, ih, List.length_cons, Nat.pow_succ, Nat.mul_add, ← Nat.mul_assoc, Nat.mul_comm (256 ^ t.length) 256, Nat.add_assoc]
theorem leV_one (xs : List Int) (j : Nat) (h : j < xs.length) : Crc.leV (xs.take (j + 1)) = Crc.leV (xs.take j) + 256 ^ j * (xs.getD j 0).toNat := by
  rw [take_snoc xs j h, leV_app, List.length_take, Nat.min_eq_left (by omega)]
  simp [Crc.leV]

set_option maxHeartbeats 800000 in
theorem take_ok (p : Nat) (k : Nat) (xs ys : List Int) (w : World) (hk : xs.length = k) (hk32 : k < 4294967296) (h : Rdr w p (xs ++ ys)) :
    Calls Try.prog 72 #[.pointer (some ⟨p, 0, none⟩), .int .u32 (k : Int)] w fun e w' => ∃ a c, e = .returned (.slice a k c) ∧ k ≤ c ∧ c ≤ 9223372036854775807 ∧ (a = none → k = 0 ∧ c = 0) ∧ RowN w' p a xs ∧ Rdr w' p ys ∧ w.grownBy w' (some p) := by
  obtain ⟨a, n, c, hr⟩ := h
  have c0 := hr.c0
  have f0 := hr.f0
  have hcap := hr.cap
  have hmax := hr.max
  have hlen : xs.length + ys.length = n := by have := hr.len; rwa [List.length_append] at this
  have hkn : k ≤ n := by omega
  have d1 : decide ((k : Int) ≤ (n : Int)) = true := by simp; omega
  have HR := hide hr
  have HLn := hide hlen
  have HK := hide hk
  clear hr hlen hk
  by_cases hck : c = k
  · subst hck
    have hy : ys = [] := List.eq_nil_of_length_eq_zero (by have := HLn.out; have := HK.out; omega)
    have hnk : n = c := by omega
    subst hnk
    have HD : Hid (Rdr (w.setCell ⟨p, 0, none⟩ (.slice a 0 0)) p ys) := hide ⟨a, 0, 0, HR.out.set (by rw [hy]; rfl) (Nat.le_refl _) (by omega) (fun _ => ⟨rfl, rfl⟩) (.inl hy) (by rw [hy]; intro c hc; simp at hc)⟩
    go_enter Try.func72, Try.ntmps72
    go_wp2_with fail
    refine (must_yes _ _ rfl _).mono ?_
    rintro e w' ⟨rfl, rfl⟩
    go_wp2
    go_ret
    exact ⟨_, _, rfl, Nat.le_refl _, hmax, HR.out.bare, HR.out.row.left.grown (grown_setCell _ _ _ _), HD.out, grown_setCell _ _ _ _⟩
  · have hcut := HR.out.row.cut k c HK.out (by rw [HR.out.len]; omega)
    rw [if_neg hck] at hcut
    have HD : Hid (Rdr (w.setCell ⟨p, 0, none⟩ (.slice (Option.map (fun x => x.add k) a) (n - k) (c - k))) p ys) := hide ⟨_, _, _, HR.out.set (by have := HLn.out; have := HK.out; omega) (by omega) (by omega) (by intro h; have := HR.out.bare (by simpa using h); omega) hcut (fun x hx => HR.out.byts x (by simp [hx]))⟩
    clear hcut
    go_enter Try.func72, Try.ntmps72
    go_wp2_with fail
    refine (must_yes _ _ rfl _).mono ?_
    rintro e w' ⟨rfl, rfl⟩
    go_wp2
    go_ret
    exact ⟨_, _, rfl, by omega, hmax, by intro h; have := HR.out.bare h; omega, HR.out.row.left.grown (grown_setCell _ _ _ _), HD.out, grown_setCell _ _ _ _⟩

set_option maxHeartbeats 800000 in
theorem take_no (p : Nat) (k : Nat) (zs : List Int) (w : World) (hk : zs.length < k) (hk2 : k < 4294967296) (h : Rdr w p zs) :
    Calls Try.prog 72 #[.pointer (some ⟨p, 0, none⟩), .int .u32 (k : Int)] w fun e w' => e = .panicked flt ∧ w.grownBy w' (some p) := by
  obtain ⟨a, n, c, hr⟩ := h
  have c0 := hr.c0
  have hkn : n < k := by have := hr.len; omega
  have d1 : decide (k ≤ n) = false := by simp; omega
  clear hr
  go_enter Try.func72, Try.ntmps72
  go_wp2_with fail
  refine (must_no _ _ rfl _).mono ?_
  rintro e w' ⟨rfl, rfl⟩
  exact ⟨rfl, rfl, grown_refl _ _⟩

end Go.Proofs.Ytjojpohnmfkanaa
/- The reader: numbers. -/
namespace Go.Proofs.Ytjojpohnmfkanaa
open Go.RowKit
set_option linter.unusedVariables false

theorem or_byte (N C j : Nat) (hN : N < 256 ^ j) (hC : C < 256) (hj : j ≤ 3) : bits BinOp.or IntKind.u32 (N : Int) ((C : Int) * 2 ^ (8 * j) % 4294967296) = ((N + 256 ^ j * ((C : Int)).toNat : Nat) : Int) := by
  have e2 : (2 : Nat) ^ (8 * j) = 256 ^ j := by rw [Nat.pow_mul]
  have hp : (256 : Nat) ^ j ≤ 256 ^ 3 := Nat.pow_le_pow_right (by omega) hj
  have h7 : (256 : Nat) ^ 3 = 16777216 := by decide
  have e3 : ((C : Int) * 2 ^ (8 * j)) = ((C * 256 ^ j : Nat) : Int) := by rw [← e2]; simp
  have hb : C * 256 ^ j < 4294967296 := by
    have : C * 256 ^ j ≤ 255 * 256 ^ j := Nat.mul_le_mul_right _ (by omega)
    omega
  have hw : ((C * 256 ^ j : Nat) : Int) % 4294967296 = ((C * 256 ^ j : Nat) : Int) := by
    generalize C * 256 ^ j = X at *
    omega
  have h := Nat.two_pow_add_eq_or_of_lt (i := 8 * j) (b := N) (by rw [e2]; exact hN) C
  rw [e2] at h
  rw [e3, hw, Int.toNat_natCast, u32_or_nat N (C * 256 ^ j) (by omega) hb, Nat.mul_comm C, Nat.or_comm, ← h, Nat.add_comm]
set_option maxHeartbeats 800000 in
theorem num_ok (p : Nat) (k : Nat) (xs ys : List Int) (w : World) (hk : xs.length = k) (hk8 : k ≤ 4) (h : Rdr w p (xs ++ ys)) (h8 : Byts xs) :
    Calls Try.prog 57 #[.pointer (some ⟨p, 0, none⟩), .int .u32 (k : Int)] w fun e w' => e = .returned (.int .u32 ((Crc.leV xs : Nat) : Int)) ∧ Rdr w' p ys ∧ w.grownBy w' (some p) := by
  have HT := hide (take_ok p k xs ys w hk (by omega) h)
  have HK := hide hk
  have H8 := hide h8
  clear hk h h8
  go_enter Try.func57, Try.ntmps57
  go_wp2_with fail
  refine HT.out.mono ?_
  rintro e w1 ⟨a, c, rfl, hkc, hc, hn, hrow, hrd, hg⟩
  have HRow := hide hrow
  have HRd := hide hrd
  have HG := hide hg
  clear hn hrow hrd hg
  go_wp2
  go_loopw [5, 12] (fun x i wr => ∃ j : Nat, j ≤ k ∧ i = .int .i64 (j : Int) ∧ x = .int .u32 ((Crc.leV (xs.take j) : Nat) : Int) ∧ wr = w1) (fun _ i _ => k - (intOf i).toNat)
  case atStart => exact ⟨0, Nat.zero_le _, rfl, rfl, rfl⟩
  case round =>
    obtain ⟨j, hj, rfl, rfl, rfl⟩ := hrel
    by_cases hlt : j < k
    · have hjx : j < xs.length := by have := HK.out; omega
      obtain ⟨b, off, rfl, hcell⟩ : ∃ b off, a = some ⟨b, off, none⟩ ∧ wr.cell? ⟨b, off + j, none⟩ = some (.int .u8 (xs.getD j 0)) := by
        rcases HRow.out with h0 | ⟨b, off, h1, _, _, h2⟩
        · rw [h0] at hjx; simp at hjx
        · exact ⟨b, off, h1, h2 j hjx⟩
      have hcb := H8.out.at j
      have HS := hide (leV_one xs j hjx)
      have HLt : Hid (Crc.leV (xs.take j) < 256 ^ j) := by
        have := Crc.leV_lt (xs.take j) (H8.out.take j)
        rwa [List.length_take, Nat.min_eq_left (by omega)] at this
      have hN : Crc.leV (xs.take j) < 4294967296 := by
        have h1 : (256 : Nat) ^ j ≤ 256 ^ 3 := Nat.pow_le_pow_right (by omega) (by omega)
        have h2 : (256 : Nat) ^ 3 = 16777216 := by decide
        have := HLt.out
        omega
      generalize Crc.leV (xs.take j) = N at *
      generalize xs.getD j 0 = cc at *
      obtain ⟨C, rfl⟩ := Int.eq_ofNat_of_zero_le hcb.1
      go_wp2
      go_roundw
      case rel => exact ⟨j + 1, by omega, by go_num, by rw [HS.out, or_byte N C j HLt.out (by omega) (by omega)], trivial⟩
      case measure => simp [intOf]; omega
    · obtain rfl : j = k := by omega
      have HF : Hid (xs.take j = xs) := hide (List.take_of_length_le (by have := HK.out; omega))
      go_wp2
      go_ret
      exact ⟨by rw [HF.out]; rfl, HRd.out, HG.out⟩
set_option maxHeartbeats 800000 in
theorem num_no (p : Nat) (k : Nat) (zs : List Int) (w : World) (hk : zs.length < k) (hk8 : k ≤ 4) (h : Rdr w p zs) :
    Calls Try.prog 57 #[.pointer (some ⟨p, 0, none⟩), .int .u32 (k : Int)] w fun e w' => e = .panicked flt ∧ w.grownBy w' (some p) := by
  have HT := hide (take_no p k zs w hk (by omega) h)
  clear hk h
  go_enter Try.func57, Try.ntmps57
  go_wp2_with fail
  refine HT.out.mono ?_
  rintro e w1 ⟨rfl, hg⟩
  exact ⟨rfl, rfl, hg⟩
end Go.Proofs.Ytjojpohnmfkanaa
