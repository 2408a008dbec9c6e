/- The reader of pages: what it takes, and where it gives up. -/
import Derived.Test.YtobokocpapfjbaaGreatWC
import Derived.WalkLawsBesides
import Derived.Laws.IdiomStrings
import Derived.Laws.Strings
import Derived.Laws.Cover3
namespace Go.Proofs.YtobokocpapfjbaaGreat
open Go.RowKit
set_option linter.unusedVariables false

/-- what the reader gives up with. -/
abbrev flt : List PanicEntry := [{ v := .iface 232 (.agg #[]), recovered := false }]
/-- bytes that lie elsewhere than in block p. -/
def RowN (w : World) (p : Nat) (a : Option Addr) (zs : List Int) : Prop :=
  zs = [] ∨ ∃ b off, a = some ⟨b, off, none⟩ ∧ b < w.heap.size ∧ b ≠ p ∧ ∀ i, i < zs.length → w.cell? ⟨b, off + i, none⟩ = some (.int .u8 (zs.getD i 0))
theorem RowN.row {w : World} {p : Nat} {a : Option Addr} {zs : List Int} (h : RowN w p a zs) : Row w a zs := by
  rcases h with h | ⟨b, off, h1, h2, _, h3⟩
  · exact .inl h
  · exact .inr ⟨b, off, h1, h2, h3⟩
theorem RowN.grown {w w' : World} {p : Nat} {a : Option Addr} {zs : List Int} (h : RowN w p a zs) (hg : w.grownBy w' (some p)) : RowN w' p a zs := by
  rcases h with h | ⟨b, off, rfl, hlt, hne, hc⟩
  · exact .inl h
  · exact .inr ⟨b, off, rfl, Nat.lt_of_lt_of_le hlt hg.size, hne, fun j hj => hg.cell (hc j hj) (fun e => hne (by simpa using e))⟩
theorem RowN.cut {w : World} {p : Nat} {a : Option Addr} {xs ys : List Int} (h : RowN w p a (xs ++ ys)) (i c : Nat) (hi : xs.length = i) (hc : (xs ++ ys).length ≤ c) : RowN w p (if c = i then a else Option.map (fun x => x.add i) a) ys := by
  by_cases hm : ys = []
  · exact .inl hm
  · rcases h with h | ⟨b, off, rfl, hlt, hne, hcell⟩
    · exact .inl (List.append_eq_nil_iff.1 h).2
    · have : ys.length ≠ 0 := fun e => hm (List.eq_nil_of_length_eq_zero e)
      rw [List.length_append] at hc
      rw [if_neg (by omega)]
      refine .inr ⟨b, off + i, by simp [Addr.add_lit], hlt, hne, fun j hj => ?_⟩
      have := hcell (i + j) (by rw [List.length_append]; omega)
      rw [Nat.add_assoc, this]
      simp only [List.getD_eq_getElem?_getD]
      rw [List.getElem?_append_right (by omega), hi, Nat.add_sub_cancel_left]
theorem RowN.left {w : World} {p : Nat} {a : Option Addr} {xs ys : List Int} (h : RowN w p a (xs ++ ys)) : RowN w p a xs := by
  rcases h with h | ⟨b, off, rfl, hlt, hne, hc⟩
  · exact .inl (List.append_eq_nil_iff.1 h).1
  · refine .inr ⟨b, off, rfl, hlt, hne, fun i hi => ?_⟩
    have := hc i (by simp; omega)
    rw [this]; simp [List.getElem?_append_left hi]
/-- the reader at p has the bytes zs ahead of it. -/
structure Rd (w : World) (p : Nat) (a : Option Addr) (n c : Nat) (zs : List Int) : Prop where
  blk : w.heap[p]? = some (.cells #[.slice a n c] 235 (0, 0))
  len : zs.length = n
  cap : n ≤ c
  max : c ≤ 9223372036854775807
  bare : a = none → n = 0 ∧ c = 0
  row : RowN w p a zs
  byts : Byts zs
theorem grown_setCellP (w : World) (p j : Nat) (v : Value) : w.grownBy (w.setCell ⟨p, j, none⟩ v) (some p) :=
  ⟨rfl, rfl, rfl, by simp [World.setCell], fun k _ hne => Below.heap_setCell _ _ _ _ (fun e => hne (by rw [e]))⟩
theorem grown_refl (w : World) (r : Option Nat) : w.grownBy w r := ⟨rfl, rfl, rfl, Nat.le_refl _, fun _ _ _ => rfl⟩
theorem grown_trans {a b c : World} {r : Option Nat} (h : a.grownBy b r) (k : b.grownBy c r) : a.grownBy c r :=
  ⟨k.os.trans h.os, k.tape.trans h.tape, k.output.trans h.output, Nat.le_trans h.size k.size, fun i hi hn => (k.block i (Nat.lt_of_lt_of_le hi h.size) hn).trans (h.block i hi hn)⟩
theorem grown_below {a b : World} {r : Option Nat} (h : Below a.heap.size a b) : a.grownBy b r := ⟨h.os, h.tape, h.output, h.size, fun i hi _ => h.block i hi⟩
section
variable {w w' : World} {p n c : Nat} {a : Option Addr} {zs : List Int}
theorem Rd.lt (h : Rd w p a n c zs) : p < w.heap.size := lt_of_block h.blk
theorem Rd.c0 (h : Rd w p a n c zs) : w.cell? ⟨p, 0, none⟩ = some (.slice a n c) := by simp [World.cell?, h.blk]
theorem Rd.f0 (h : Rd w p a n c zs) : w.frozen? ⟨p, 0, none⟩ = false := by simp [World.frozen?, h.blk]
theorem Rd.below (h : Rd w p a n c zs) (hb : Below w.heap.size w w') : Rd w' p a n c zs :=
  ⟨(hb.block p h.lt).trans h.blk, h.len, h.cap, h.max, h.bare, h.row.grown (grown_below hb), h.byts⟩
theorem Rd.set (h : Rd w p a n c zs) {a' : Option Addr} {n' c' : Nat} {ys : List Int} (hl : ys.length = n') (hc : n' ≤ c') (hm : c' ≤ 9223372036854775807) (hb : a' = none → n' = 0 ∧ c' = 0) (hr : RowN w p a' ys) (h8 : Byts ys) :
    Rd (w.setCell ⟨p, 0, none⟩ (.slice a' n' c')) p a' n' c' ys :=
  ⟨by rw [heap_setCell_same w p 0 _ 235 _ h.blk]; rfl, hl, hc, hm, hb, hr.grown (grown_setCellP _ _ _ _), h8⟩
end
/-- the reader at p has the bytes zs ahead of it, wherever they lie. -/
def Rdr (w : World) (p : Nat) (zs : List Int) : Prop := ∃ a n c, Rd w p a n c zs
theorem Rdr.below {w w' : World} {p : Nat} {zs : List Int} (h : Rdr w p zs) (hb : Below w.heap.size w w') : Rdr w' p zs := by
  obtain ⟨a, n, c, h⟩ := h; exact ⟨a, n, c, h.below hb⟩
theorem Rdr.lt {w : World} {p : Nat} {zs : List Int} (h : Rdr w p zs) : p < w.heap.size := by obtain ⟨a, n, c, h⟩ := h; exact h.lt

set_option maxHeartbeats 800000 in
theorem must_yes (p : Addr) (b : Bool) (hb : b = true) (w : World) : Calls Tryz.prog 110 #[.pointer (some p), .bool b] w fun e w' => e = .returned (.tuple #[]) ∧ w' = w := by
  subst hb
  go_enter Tryz.func110, Tryz.ntmps110
  go_wp2
  go_end0
  exact ⟨rfl, rfl⟩
set_option maxHeartbeats 800000 in
theorem must_no (p : Addr) (b : Bool) (hb : b = false) (w : World) : Calls Tryz.prog 110 #[.pointer (some p), .bool b] w fun e w' => e = .panicked flt ∧ w' = w := by
  subst hb
  go_enter Tryz.func110, Tryz.ntmps110
  go_wp2
  exact ⟨rfl, rfl, rfl⟩

set_option maxHeartbeats 800000 in
theorem take_ok (p : Nat) (k : Nat) (xs ys : List Int) (w : World) (hk : xs.length = k) (h : Rdr w p (xs ++ ys)) :
    Calls Tryz.prog 112 #[.pointer (some ⟨p, 0, none⟩), .int .i64 (k : Int)] w fun e w' => ∃ a c, e = .returned (.slice a k c) ∧ k ≤ c ∧ c ≤ 9223372036854775807 ∧ (a = none → k = 0 ∧ c = 0) ∧ RowN w' p a xs ∧ Rdr w' p ys ∧ w.grownBy w' (some p) := by
  obtain ⟨a, n, c, hr⟩ := h
  have c0 := hr.c0
  have f0 := hr.f0
  have hcap := hr.cap
  have hmax := hr.max
  have hlen : xs.length + ys.length = n := by have := hr.len; rwa [List.length_append] at this
  have hkn : k ≤ n := by omega
  have d1 : decide ((k : Int) ≤ (n : Int)) = true := by simp; omega
  have HR := hide hr
  have HLn := hide hlen
  have HK := hide hk
  clear hr hlen hk
  by_cases hck : c = k
  · subst hck
    have hy : ys = [] := List.eq_nil_of_length_eq_zero (by have := HLn.out; have := HK.out; omega)
    have hnk : n = c := by omega
    subst hnk
    have HD : Hid (Rdr (w.setCell ⟨p, 0, none⟩ (.slice a 0 0)) p ys) := hide ⟨a, 0, 0, HR.out.set (by rw [hy]; rfl) (Nat.le_refl _) (by omega) (fun _ => ⟨rfl, rfl⟩) (.inl hy) (by rw [hy]; intro c hc; simp at hc)⟩
    go_enter Tryz.func112, Tryz.ntmps112
    go_wp2_with fail
    refine (must_yes _ _ rfl _).mono ?_
    rintro e w' ⟨rfl, rfl⟩
    go_wp2
    go_ret
    exact ⟨_, _, rfl, Nat.le_refl _, hmax, HR.out.bare, HR.out.row.left.grown (grown_setCellP _ _ _ _), HD.out, grown_setCellP _ _ _ _⟩
  · have hcut := HR.out.row.cut k c HK.out (by rw [HR.out.len]; omega)
    rw [if_neg hck] at hcut
    have HD : Hid (Rdr (w.setCell ⟨p, 0, none⟩ (.slice (Option.map (fun x => x.add k) a) (n - k) (c - k))) p ys) := hide ⟨_, _, _, HR.out.set (by have := HLn.out; have := HK.out; omega) (by omega) (by omega) (by intro h; have := HR.out.bare (by simpa using h); omega) hcut (fun x hx => HR.out.byts x (by simp [hx]))⟩
    clear hcut
    go_enter Tryz.func112, Tryz.ntmps112
    go_wp2_with fail
    refine (must_yes _ _ rfl _).mono ?_
    rintro e w' ⟨rfl, rfl⟩
    go_wp2
    go_ret
    exact ⟨_, _, rfl, by omega, hmax, by intro h; have := HR.out.bare h; omega, HR.out.row.left.grown (grown_setCellP _ _ _ _), HD.out, grown_setCellP _ _ _ _⟩

set_option maxHeartbeats 800000 in
theorem take_no (p : Nat) (k : Nat) (zs : List Int) (w : World) (hk : zs.length < k) (hk2 : k ≤ 9223372036854775807) (h : Rdr w p zs) :
    Calls Tryz.prog 112 #[.pointer (some ⟨p, 0, none⟩), .int .i64 (k : Int)] w fun e w' => e = .panicked flt ∧ w.grownBy w' (some p) := by
  obtain ⟨a, n, c, hr⟩ := h
  have c0 := hr.c0
  have hkn : n < k := by have := hr.len; omega
  have d1 : decide (k ≤ n) = false := by simp; omega
  clear hr
  go_enter Tryz.func112, Tryz.ntmps112
  go_wp2_with fail
  refine (must_no _ _ rfl _).mono ?_
  rintro e w' ⟨rfl, rfl⟩
  exact ⟨rfl, rfl, grown_refl _ _⟩

theorem or_byte (N C j : Nat) (hN : N < 256 ^ j) (hC : C < 256) (hj : j ≤ 7) : bits BinOp.or IntKind.u64 (N : Int) (IntKind.u64.wrap ((C : Int) * 2 ^ (8 * j))) = ((N + 256 ^ j * ((C : Int)).toNat : Nat) : Int) := by
  have e2 : (2 : Nat) ^ (8 * j) = 256 ^ j := by rw [Nat.pow_mul]
  have hp : (256 : Nat) ^ j ≤ 256 ^ 7 := Nat.pow_le_pow_right (by omega) hj
  have h7 : (256 : Nat) ^ 7 = 72057594037927936 := by decide
  have e3 : ((C : Int) * 2 ^ (8 * j)) = ((C * 256 ^ j : Nat) : Int) := by rw [← e2]; simp
  have hb : C * 256 ^ j < 18446744073709551616 := by
    have : C * 256 ^ j ≤ 255 * 256 ^ j := Nat.mul_le_mul_right _ (by omega)
    omega
  have hw : IntKind.u64.wrap ((C * 256 ^ j : Nat) : Int) = ((C * 256 ^ j : Nat) : Int) := by
    generalize C * 256 ^ j = X at *
    simp only [IntKind.wrap, IntKind.bits, IntKind.signed]; simp; omega
  have h := Nat.two_pow_add_eq_or_of_lt (i := 8 * j) (b := N) (by rw [e2]; exact hN) C
  rw [e2] at h
  rw [e3, hw, Int.toNat_natCast, u64_or_nat N (C * 256 ^ j) (by omega) hb, Nat.mul_comm C, Nat.or_comm, ← h, Nat.add_comm]
theorem leV_app (a b : List Int) : Crc.leV (a ++ b) = Crc.leV a + 256 ^ a.length * Crc.leV b := by
  induction a with
  | nil => simp [Crc.leV]
  | cons c t ih =>
    rw [List.cons_append, Crc.leV, Crc.leV, ih, List.length_cons, Nat.pow_succ, Nat.mul_add, ← Nat.mul_assoc, Nat.mul_comm (256 ^ t.length) 256, Nat.add_assoc]
theorem leV_one (xs : List Int) (j : Nat) (h : j < xs.length) : Crc.leV (xs.take (j + 1)) = Crc.leV (xs.take j) + 256 ^ j * (xs.getD j 0).toNat := by
  rw [take_snoc xs j h, leV_app, List.length_take, Nat.min_eq_left (by omega)]
  simp [Crc.leV]

set_option maxHeartbeats 800000 in
theorem num_ok (p : Nat) (k : Nat) (xs ys : List Int) (w : World) (hk : xs.length = k) (hk8 : k ≤ 8) (h : Rdr w p (xs ++ ys)) (h8 : Byts xs) :
    Calls Tryz.prog 109 #[.pointer (some ⟨p, 0, none⟩), .int .i64 (k : Int)] w fun e w' => e = .returned (.int .u64 ((Crc.leV xs : Nat) : Int)) ∧ Rdr w' p ys ∧ w.grownBy w' (some p) := by
  have HT := hide (take_ok p k xs ys w hk h)
  have HK := hide hk
  have H8 := hide h8
  clear hk h h8
  go_enter Tryz.func109, Tryz.ntmps109
  go_wp2_with fail
  refine HT.out.mono ?_
  rintro e w1 ⟨a, c, rfl, hkc, hc, hn, hrow, hrd, hg⟩
  have HRow := hide hrow
  have HRd := hide hrd
  have HG := hide hg
  clear hn hrow hrd hg
  go_wp2
  go_loopw [5, 12] (fun x i wr => ∃ j : Nat, j ≤ k ∧ i = .int .i64 (j : Int) ∧ x = .int .u64 ((Crc.leV (xs.take j) : Nat) : Int) ∧ wr = w1) (fun _ i _ => k - (intOf i).toNat)
  case atStart => exact ⟨0, Nat.zero_le _, rfl, rfl, rfl⟩
  case round =>
    obtain ⟨j, hj, rfl, rfl, rfl⟩ := hrel
    by_cases hlt : j < k
    · have hjx : j < xs.length := by have := HK.out; omega
      obtain ⟨b, off, rfl, hcell⟩ : ∃ b off, a = some ⟨b, off, none⟩ ∧ wr.cell? ⟨b, off + j, none⟩ = some (.int .u8 (xs.getD j 0)) := by
        rcases HRow.out with h0 | ⟨b, off, h1, _, _, h2⟩
        · rw [h0] at hjx; simp at hjx
        · exact ⟨b, off, h1, h2 j hjx⟩
      have hcb := H8.out.at j
      have HS := hide (leV_one xs j hjx)
      have HLt : Hid (Crc.leV (xs.take j) < 256 ^ j) := by
        have := Crc.leV_lt (xs.take j) (H8.out.take j)
        rwa [List.length_take, Nat.min_eq_left (by omega)] at this
      have hN : Crc.leV (xs.take j) < 18446744073709551616 := by
        have h1 : (256 : Nat) ^ j ≤ 256 ^ 7 := Nat.pow_le_pow_right (by omega) (by omega)
        have h2 : (256 : Nat) ^ 7 = 72057594037927936 := by decide
        have := HLt.out
        omega
      generalize Crc.leV (xs.take j) = N at *
      generalize xs.getD j 0 = cc at *
      obtain ⟨C, rfl⟩ := Int.eq_ofNat_of_zero_le hcb.1
      go_wp2
      go_roundw
      case rel => exact ⟨j + 1, by omega, by go_num, by rw [HS.out, or_byte N C j HLt.out (by omega) (by omega)], trivial⟩
      case measure => simp [intOf]; omega
    · obtain rfl : j = k := by omega
      have HF : Hid (xs.take j = xs) := hide (List.take_of_length_le (by have := HK.out; omega))
      go_wp2
      go_ret
      exact ⟨by rw [HF.out]; rfl, HRd.out, HG.out⟩
end Go.Proofs.YtobokocpapfjbaaGreat
/- The reader: marks, noughts, the sum. -/
namespace Go.Proofs.YtobokocpapfjbaaGreat
open Go.RowKit
set_option linter.unusedVariables false

theorem ba_leq (s : ByteArray) : (s.toList == s.toList) = true := beq_self_eq_true _
theorem ba_lne (s t : ByteArray) (h : ¬ s = t) : (s.toList == t.toList) = false := by
  rw [beq_eq_false_iff_ne]
  intro h'
  rw [ByteArray.toList_eq, ByteArray.toList_eq] at h'
  apply h
  cases s with | mk d => cases t with | mk e => exact congrArg ByteArray.mk (Array.ext' h')
/-- bytes as a text. -/
def bk (ys : List Int) : ByteArray := ⟨(ys.map fun z => UInt8.ofNat z.toNat).toArray⟩
theorem bk_size (ys : List Int) : (bk ys).size = ys.length := by
  unfold bk ByteArray.size
  simp
theorem bk_inj (xs ys : List Int) (hx : Byts xs) (hy : Byts ys) (h : bk xs = bk ys) : xs = ys := by
  have h1 : (xs.map fun z => UInt8.ofNat z.toNat) = ys.map fun z => UInt8.ofNat z.toNat := by
    have := congrArg (fun b : ByteArray => b.data.toList) h
    simpa [bk] using this
  have hback : ∀ l : List Int, Byts l → (l.map fun z => UInt8.ofNat z.toNat).map (fun b => (b.toNat : Int)) = l := by
    intro l hl
    rw [List.map_map]
    conv => rhs; rw [← List.map_id l]
    apply List.map_congr_left
    intro z hz
    have := hl z hz
    simp; omega
  rw [← hback xs hx, ← hback ys hy, h1]
theorem bk_ne (xs ys : List Int) (hx : Byts xs) (hy : Byts ys) (h : xs ≠ ys) : ((bk xs).toList == (bk ys).toList) = false := ba_lne _ _ fun e => h (bk_inj xs ys hx hy e)
theorem run_text (w : World) (a : Option Addr) (n c : Nat) (ys : List Int) (hl : ys.length = n) (hn : a = none → n = 0 ∧ c = 0) (hr : Row w a ys) (hb : Byts ys) : (convert 22 9 (.slice a n c)).run Tryz.prog w = .ok (.string (bk ys)) w := by
  cases a with
  | none =>
    obtain ⟨rfl, rfl⟩ := hn rfl
    have e : ys = [] := List.eq_nil_of_length_eq_zero hl
    subst e
    rw [run_convert_bytes_string w 22 9 5 none 0 0 Tryz.underlying22 Tryz.underlying5 Tryz.underlying9]
    rfl
  | some ad =>
    have h := run_convert_bytes_back (P := Tryz.prog) w 22 9 5 ad c (ys.map fun z => UInt8.ofNat z.toNat) Tryz.underlying22 Tryz.underlying5 Tryz.underlying9 (by
      intro j hj
      rw [List.length_map] at hj
      refine hr.news ad rfl j _ ?_
      have := hb (ys[j]) (List.getElem_mem hj)
      simp [hj]
      omega)
    rw [List.length_map, hl] at h
    exact h

set_option maxHeartbeats 800000 in
theorem mark_gen (p : Nat) (m xs ys : List Int) (w : World) (h : Rdr w p (xs ++ ys)) (hl : xs.length = m.length) (hm : m.length ≤ 100) (h8 : Byts m) (hx8 : Byts xs) :
    Calls Tryz.prog 108 #[.pointer (some ⟨p, 0, none⟩), .string (bk m)] w fun e w' => ((xs = m → e = .returned (.tuple #[])) ∧ (xs ≠ m → e = .panicked flt)) ∧ Rdr w' p ys ∧ w.grownBy w' (some p) := by
  obtain ⟨k, hk⟩ : ∃ k, m.length = k := ⟨_, rfl⟩
  rw [hk] at hm hl
  have hsz : (bk m).size = k := (bk_size m).trans hk
  have HT := hide (take_ok p k xs ys w hl h)
  have HL := hide hl
  have H8 := hide h8
  have HX8 := hide hx8
  have hse : ((bk m).toList == (bk m).toList) = true := ba_leq _
  clear h hl h8 hx8 hk
  by_cases hxm : xs = m
  · subst hxm
    generalize hbk : bk xs = S at *
    have HBK := hide hbk
    clear hbk
    go_enter Tryz.func108, Tryz.ntmps108
    go_wp2_with fail
    refine HT.out.mono ?_
    rintro e w1 ⟨a, c, rfl, hkc, hc, hn, hrow, hrd, hg⟩
    have hr := run_text w1 a k c xs HL.out hn hrow.row HX8.out
    rw [HBK.out] at hr
    have HRd := hide hrd
    have HG := hide hg
    clear hn hrow hrd hg
    go_wp2_with fail
    refine (must_yes _ _ rfl _).mono ?_
    rintro e w' ⟨rfl, rfl⟩
    go_wp2
    go_end0
    exact ⟨⟨fun _ => rfl, fun h => absurd rfl h⟩, HRd.out, HG.out⟩
  · have hne := bk_ne xs m HX8.out H8.out hxm
    have hxm := hide hxm
    generalize bk m = S at *
    go_enter Tryz.func108, Tryz.ntmps108
    go_wp2_with fail
    refine HT.out.mono ?_
    rintro e w1 ⟨a, c, rfl, hkc, hc, hn, hrow, hrd, hg⟩
    have hr := run_text w1 a k c xs HL.out hn hrow.row HX8.out
    have HRd := hide hrd
    have HG := hide hg
    clear hn hrow hrd hg
    go_wp2_with fail
    refine (must_no _ _ rfl _).mono ?_
    rintro e w' ⟨rfl, rfl⟩
    exact ⟨rfl, ⟨fun h => absurd h hxm.out, fun _ => rfl⟩, HRd.out, HG.out⟩

set_option maxHeartbeats 800000 in
theorem nil_gen (p : Nat) (k : Nat) (xs ys : List Int) (w : World) (h : Rdr w p (xs ++ ys)) (hl : xs.length = k) (hk : k ≤ 5000) (h8 : Byts xs) :
    Calls Tryz.prog 111 #[.pointer (some ⟨p, 0, none⟩), .int .i64 (k : Int)] w fun e w' => ((xs = List.replicate k 0 → e = .returned (.tuple #[])) ∧ (xs ≠ List.replicate k 0 → e = .panicked flt)) ∧ (xs = List.replicate k 0 → Rdr w' p ys) ∧ w.grownBy w' (some p) := by
  have HT := hide (take_ok p k xs ys w hl h)
  have HL := hide hl
  have H8 := hide h8
  clear h hl h8
  go_enter Tryz.func111, Tryz.ntmps111
  go_wp2_with fail
  refine HT.out.mono ?_
  rintro e w1 ⟨a, c, rfl, hkc, hc, hn, hrow, hrd, hg⟩
  have HRow := hide hrow
  have HRd := hide hrd
  have HG := hide hg
  clear hn hrow hrd hg
  go_wp2
  go_loopw [10] (fun i wr => ∃ j : Nat, j ≤ k ∧ i = .int .i64 (j : Int) ∧ xs.take j = List.replicate j 0 ∧ wr = w1) (fun i _ => k - (intOf i).toNat)
  case atStart => exact ⟨0, Nat.zero_le _, rfl, rfl, rfl⟩
  case round =>
    obtain ⟨j, hj, rfl, hz, rfl⟩ := hrel
    have HZ := hide hz
    clear hz
    by_cases hlt : j < k
    · have hjx : j < xs.length := by have := HL.out; omega
      obtain ⟨b, off, rfl, hcell⟩ : ∃ b off, a = some ⟨b, off, none⟩ ∧ wr.cell? ⟨b, off + j, none⟩ = some (.int .u8 (xs.getD j 0)) := by
        rcases HRow.out with h0 | ⟨b, off, h1, _, _, h2⟩
        · rw [h0] at hjx; simp at hjx
        · exact ⟨b, off, h1, h2 j hjx⟩
      have HS := hide (take_snoc xs j hjx)
      have HN : Hid (xs.getD j 0 ≠ 0 → xs ≠ List.replicate k 0) := fun h e => h (by rw [e]; simp [hlt])
      generalize xs.getD j 0 = cc at *
      by_cases hcc : cc = 0
      · subst hcc
        go_wp2_with fail
        refine (must_yes _ _ rfl _).mono ?_
        rintro e w' ⟨rfl, rfl⟩
        go_wp2
        go_roundw
        case rel => exact ⟨j + 1, by omega, by go_num, by rw [HS.out, HZ.out, List.replicate_succ'], trivial⟩
        case measure => simp [intOf]; omega
      · have hne : (cc == 0) = false := by simp [hcc]
        have HC := hide hcc
        clear hcc
        go_wp2_with fail
        refine (must_no _ _ rfl _).mono ?_
        rintro e w' ⟨rfl, rfl⟩
        exact ⟨rfl, ⟨fun h => absurd h (HN.out HC.out), fun _ => rfl⟩, fun h => absurd h (HN.out HC.out), HG.out⟩
    · obtain rfl : j = k := by omega
      have HF : Hid (xs = List.replicate j 0) := by have := HZ.out; rwa [List.take_of_length_le (by have := HL.out; omega)] at this
      go_wp2
      go_end0
      exact ⟨⟨fun _ => rfl, fun h => absurd HF.out h⟩, fun _ => HRd.out, HG.out⟩
end Go.Proofs.YtobokocpapfjbaaGreat
/- The reader: the sum at the end. -/
namespace Go.Proofs.YtobokocpapfjbaaGreat
open Go.RowKit
set_option linter.unusedVariables false

theorem Rdr.set {w : World} {p : Nat} {zs : List Int} (h : Rdr w p zs) {a' : Option Addr} {n' c' : Nat} {ys : List Int} (hl : ys.length = n') (hc : n' ≤ c') (hm : c' ≤ 9223372036854775807) (hb : a' = none → n' = 0 ∧ c' = 0) (hr : RowN w p a' ys) (h8 : Byts ys) :
    Rdr (w.setCell ⟨p, 0, none⟩ (.slice a' n' c')) p ys := by
  obtain ⟨a, n, c, h⟩ := h
  exact ⟨_, _, _, h.set hl hc hm hb hr h8⟩
theorem Rdr.cells {w : World} {p : Nat} {zs : List Int} (h : Rdr w p zs) : ∃ a c, w.cell? ⟨p, 0, none⟩ = some (.slice a zs.length c) ∧ w.frozen? ⟨p, 0, none⟩ = false := by
  obtain ⟨a, n, c, h⟩ := h
  exact ⟨a, c, by rw [h.c0, h.len], h.f0⟩
theorem Rdr.byts {w : World} {p : Nat} {zs : List Int} (h : Rdr w p zs) : Byts zs := by obtain ⟨a, n, c, h⟩ := h; exact h.byts
theorem Rdr.small {w : World} {p : Nat} {zs : List Int} (h : Rdr w p zs) : zs.length ≤ 9223372036854775807 := by
  obtain ⟨a, n, c, h⟩ := h
  have := h.len; have := h.cap; have := h.max; omega

set_option maxHeartbeats 800000 in
theorem unseal_gen (p size : Nat) (zs : List Int) (w : World) (h : Rdr w p zs) (hs : 4 ≤ size) (hs2 : size ≤ 5000) :
    Calls Tryz.prog 107 #[.pointer (some ⟨p, 0, none⟩), .int .i64 (size : Int)] w fun e w' => ((Pg.Rt size zs → e = .returned (.tuple #[]) ∧ Rdr w' p (zs.take (size - 4))) ∧ (¬ Pg.Rt size zs → e = .panicked flt)) ∧ w.grownBy w' (some p) := by
  by_cases hl : zs.length = size
  · obtain ⟨a0, c0, k0, f0⟩ := h.cells
    rw [hl] at k0
    have h8 := h.byts
    have HP : Hid (Pg.Rt size zs ↔ Crc.leV (zs.drop (size - 4)) = Crc.more 0 (zs.take (size - 4))) := hide ⟨fun h => h.2, fun h => ⟨hl, h⟩⟩
    have e1 : zs.take (size - 4) ++ zs.drop (size - 4) = zs := List.take_append_drop _ _
    have l1 : (zs.take (size - 4)).length = size - 4 := by rw [List.length_take]; omega
    have l2 : (zs.drop (size - 4)).length = 4 := by rw [List.length_drop]; omega
    have b1 := h8.take (size - 4)
    have b2 := h8.drop (size - 4)
    rw [← e1] at h
    generalize Pg.Rt size zs = PP at *
    generalize zs.take (size - 4) = xs at *
    generalize zs.drop (size - 4) = ys at *
    have HT : Hid (Calls Tryz.prog 112 #[.pointer (some ⟨p, 0, none⟩), .int .i64 ((size : Int) - 4)] w fun e w' => ∃ a c, e = .returned (.slice a (size - 4) c) ∧ (size - 4) ≤ c ∧ c ≤ 9223372036854775807 ∧ (a = none → (size - 4) = 0 ∧ c = 0) ∧ RowN w' p a xs ∧ Rdr w' p ys ∧ w.grownBy w' (some p)) := by
      have e : ((size : Int) - 4) = ((size - 4 : Nat) : Int) := by omega
      rw [e]
      exact take_ok p (size - 4) xs ys w l1 h
    have HB1 := hide b1
    have HB2 := hide b2
    have HL1 := hide l1
    have HL2 := hide l2
    clear h8 hl e1 h b1 b2 l1 l2
    go_enter Tryz.func107, Tryz.ntmps107
    go_wp2_with fail
    refine (must_yes _ _ (by simp) _).mono ?_
    rintro e w' ⟨rfl, rfl⟩
    go_wp2_with fail
    refine HT.out.mono ?_
    rintro e w1 ⟨a, c, rfl, hkc, hc, hn, hrow, hrd, hg⟩
    have HRow := hide hrow
    have HN := hide hn
    have HG1 := hide hg
    have HNum := hide (num_ok p 4 ys [] w1 HL2.out (by omega) (by rw [List.append_nil]; exact hrd) HB2.out)
    clear hn hrow hrd hg
    go_wp2_with fail
    refine HNum.out.mono ?_
    rintro e w2 ⟨rfl, hrd2, hg2⟩
    have HRow2 := hide (HRow.out.grown hg2)
    have HRd2 := hide hrd2
    have HG2 := hide (grown_trans HG1.out hg2)
    clear hrd2 hg2
    have HV : Hid (Crc.leV ys < 4294967296) := by
      have := Crc.leV_lt ys HB2.out
      rw [HL2.out] at this
      have e4 : (256 : Nat) ^ 4 = 4294967296 := by decide
      rw [e4] at this
      exact this
    have hM := Crc.more_lt 0 xs (by omega) HB1.out
    have HSum := hide (sum_any a (size - 4) c xs w2 HL1.out (by omega) HRow2.out.row HB1.out)
    have hV := HV.out
    generalize Crc.leV ys = V at *
    generalize Crc.more 0 xs = M at *
    go_wp2_with fail
    refine HSum.out.mono ?_
    rintro e w3 ⟨rfl, hb3⟩
    have HRow3 := hide (HRow2.out.grown (grown_below hb3))
    have HRd3 := hide (HRd2.out.below hb3)
    have HG3 := hide (grown_trans HG2.out (grown_below hb3))
    clear hb3
    by_cases hvm : V = M
    · subst hvm
      have HPP : Hid PP := hide (HP.out.2 rfl)
      obtain ⟨a3, c3, k3, f3⟩ := HRd3.out.cells
      go_wp2_with fail
      refine (must_yes _ _ (by simp) _).mono ?_
      rintro e w' ⟨rfl, rfl⟩
      go_wp2
      go_end0
      exact ⟨⟨fun _ => ⟨rfl, HRd3.out.set HL1.out hkc hc HN.out HRow3.out HB1.out⟩, fun h => absurd HPP.out h⟩, grown_trans HG3.out (grown_setCellP _ _ _ _)⟩
    · have HPP : Hid (¬ PP) := hide fun h => hvm (HP.out.1 h)
      have hne : ((V : Int) == (M : Int)) = false := by simp; omega
      clear hvm
      go_wp2_with fail
      refine (must_no _ _ rfl _).mono ?_
      rintro e w' ⟨rfl, rfl⟩
      exact ⟨rfl, ⟨fun h => absurd h HPP.out, fun _ => rfl⟩, HG3.out⟩
  · obtain ⟨a0, c0, k0, f0⟩ := h.cells
    have hne : ((zs.length : Int) == (size : Int)) = false := by simp; omega
    have hsm := h.small
    have HP : Hid (¬ Pg.Rt size zs) := hide fun h => hl h.1
    clear h hl
    generalize zs.length = n at *
    generalize Pg.Rt size zs = PP at *
    go_enter Tryz.func107, Tryz.ntmps107
    go_wp2_with fail
    refine (must_no _ _ rfl _).mono ?_
    rintro e w' ⟨rfl, rfl⟩
    exact ⟨rfl, ⟨fun h => absurd h HP.out, fun _ => rfl⟩, grown_refl _ _⟩
end Go.Proofs.YtobokocpapfjbaaGreat
/- Clone; the content of a page. -/
namespace Go.Proofs.YtobokocpapfjbaaGreat
open Go.RowKit
set_option linter.unusedVariables false

theorem sl_nil (a : Option Addr) (n c : Nat) (W : World) : (binOp .eql 22 (.slice a n c) (.slice none 0 0)).run Tryz.prog W = .ok (.bool a.isNone) W := by
  simp only [binOp]
  simp [run_equal_slice_nil W 22 5 a n c Tryz.underlying22]

set_option maxHeartbeats 800000 in
set_option maxRecDepth 1000000 in
theorem clone_any (a : Option Addr) (n c : Nat) (ys : List Int) (w : World) (hl : ys.length = n) (hn : a = none → n = 0 ∧ c = 0) (hr : Row w a ys) (hb : n ≤ 100000) :
    Calls Tryz.prog 47 #[.slice a n c] w fun e w' => ∃ v, e = .returned v ∧ Made w v ys w' := by
  obtain ⟨i0, hi, hz0, hz1, hz2⟩ := info_parts Tryz.info5
  have hq := sl_nil a n c
  cases a with
  | none =>
    obtain ⟨rfl, rfl⟩ := hn rfl
    have e : ys = [] := List.eq_nil_of_length_eq_zero hl
    subst e
    simp only [Option.isNone_none] at hq
    clear hn hr hl
    go_enter Tryz.func47, Tryz.ntmps47
    go_wp2
    refine bodyPost_ret (results_tmp rfl _ _ _) rfl ?_
    exact ⟨_, rfl, Own.nil _, (by intro k hk; simp [Value.ownBlock] at hk), Below.refl _ _⟩
  | some ad =>
    simp only [Option.isNone_some] at hq
    have HL := hide hl
    have HR := hide hr
    clear hl hr hn
    go_enter Tryz.func47, Tryz.ntmps47
    have HO : Hid (Own (w.alloc (.cells #[] 5)) (.slice (some ⟨w.heap.size, 0, none⟩) 0 0) []) := ⟨rfl, .inr ⟨w.heap.size, 0, _, rfl, Nat.zero_le _, heap_alloc_new w _, Nat.le_refl _, Nat.zero_le _, rfl, rfl⟩⟩
    have HS : Hid (Src Tryz.prog 1 22 (.slice (some ad) n c) n (ys.map (Value.int .u8)) (w.alloc (.cells #[] 5))) := hide (src_row _ _ n c ys HL.out (by intro h; cases h) (HR.out.below (below_alloc _ _)))
    have HB : Hid (([] : List Int).length + n ≤ 140737488355328) := by rw [Hid]; simp; omega
    go_wp2_with (at_builtin; refine wpList_append_src (by rfl) (.tmp 5) (.tmp 6) 22 22 (by rfl) i0 Tryz.underlying22 hi hz0 hz1 hz2 (.slice (some ⟨w.heap.size, 0, none⟩) 0 0) [] (by rfl) HO.out (.slice (some ad) n c) n ys (by rfl) HS.out HB.out ?_; intro v' w1 hown1 hg1 hf1; obtain ⟨a2, n2, c2, rfl, HN2⟩ := hown1.shape2; have HO1 := hide hown1; have HG1 := hide hg1; have HF1 := hide hf1; clear hown1 hg1 hf1)
    go_ret
    refine ⟨_, rfl, HO1.out, fun k hk => ?_, (below_alloc w _).grown HG1.out (by simp) (fun k hk => by simp [Value.ownBlock] at hk; omega)⟩
    rcases HF1.out k hk with h | h
    · simp [Value.ownBlock] at h; omega
    · simp at h; omega
end Go.Proofs.YtobokocpapfjbaaGreat
