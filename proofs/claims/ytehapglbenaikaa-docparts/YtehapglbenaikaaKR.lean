/- Contracts of the reader: what is left, errors, taking bytes, varints. -/
import Derived.Test.YtehapglbenaikaaKD
namespace Go.Proofs.Ytehapglbenaikaa
open Go.RowKit
set_option linter.unusedVariables false

theorem ret_int {k : IntKind} {a b : Int} (h : a = b) : Ending.returned (.int k a) = .returned (.int k b) := by rw [h]
theorem ret_three {k1 k2 k3 : IntKind} {a b c a' b' c' : Int} (h1 : a = a') (h2 : b = b') (h3 : c = c') : Ending.returned (.tuple #[.int k1 a, .int k2 b, .int k3 c]) = .returned (.tuple #[.int k1 a', .int k2 b', .int k3 c']) := by rw [h1, h2, h3]
/-- the first error counts. -/
def ferr (e E : Nat) : Nat := if e = 0 then E else e
theorem ferr_pos (e E : Nat) (h : 0 < E) : ferr e E ≠ 0 := by unfold ferr; split <;> omega
/-- taking n bytes: where the reader stands then, its error, the bytes. -/
def tk (bs : List Int) (i e : Nat) (n : Int) : Nat × Nat × List Int :=
  if e ≠ 0 then (i, e, []) else if n < 0 then (i, 1, []) else if (bs.length : Int) - i < n then (i, 20, []) else (i + n.toNat, 0, (bs.drop i).take n.toNat)
theorem tk_err (bs : List Int) (i e : Nat) (n : Int) (h : e ≠ 0) : tk bs i e n = (i, e, []) := by rw [tk, if_pos h]
theorem tk_neg (bs : List Int) (i e : Nat) (n : Int) (h : n < 0) : tk bs i e n = (i, ferr e 1, []) := by
  by_cases he : e = 0
  · subst he; rw [tk, if_neg (by omega), if_pos h]; rfl
  · rw [tk_err _ _ _ _ he, ferr, if_neg he]
theorem tk_short (bs : List Int) (i e : Nat) (n : Int) (h0 : ¬ n < 0) (h : (bs.length : Int) - i < n) : tk bs i e n = (i, ferr e 20, []) := by
  by_cases he : e = 0
  · subst he; rw [tk, if_neg (by omega), if_neg h0, if_pos h]; rfl
  · rw [tk_err _ _ _ _ he, ferr, if_neg he]
theorem tk_ok (bs : List Int) (i m : Nat) (h : i + m ≤ bs.length) : tk bs i 0 m = (i + m, 0, (bs.drop i).take m) := by
  rw [tk, if_neg (by omega), if_neg (by omega), if_neg (by omega), Int.toNat_natCast]
/-- the reader at p stands at byte i of bs, with the error e; its bytes lie behind a. -/
structure Rd (w : World) (p : Nat) (a : Option Addr) (bs : List Int) (i e : Nat) : Prop where
  blk : w.heap[p]? = some (.cells #[.slice a bs.length bs.length, .int .i64 (i : Int), .int .u16 (e : Int)] 98 (0, 0))
  row : Row w a bs
  apart : ∀ ad, a = some ad → ad.block ≠ p
  bare : a = none → bs = []
  byts : Byts bs
  le : i ≤ bs.length
  small : bs.length ≤ 100000000000000
  err : e < 65536
  inn : ∀ ad, a = some ad → ad.block < w.heap.size

section
variable {w w' : World} {p : Nat} {a : Option Addr} {bs : List Int} {i e : Nat}
theorem Rd.lt (h : Rd w p a bs i e) : p < w.heap.size := lt_of_block h.blk
theorem Rd.c0 (h : Rd w p a bs i e) : w.cell? ⟨p, 0, none⟩ = some (.slice a bs.length bs.length) := by simp [World.cell?, h.blk]
theorem Rd.c1 (h : Rd w p a bs i e) : w.cell? ⟨p, 1, none⟩ = some (.int .i64 (i : Int)) := by simp [World.cell?, h.blk]
theorem Rd.c2 (h : Rd w p a bs i e) : w.cell? ⟨p, 2, none⟩ = some (.int .u16 (e : Int)) := by simp [World.cell?, h.blk]
theorem Rd.f (h : Rd w p a bs i e) (j : Nat) : w.frozen? ⟨p, j, none⟩ = false := by simp [World.frozen?, h.blk]
theorem Rd.below (h : Rd w p a bs i e) (hb : Below w.heap.size w w') : Rd w' p a bs i e :=
  ⟨(hb.block p h.lt).trans h.blk, h.row.below hb, h.apart, h.bare, h.byts, h.le, h.small, h.err, fun ad had => Nat.lt_of_lt_of_le (h.inn ad had) hb.size⟩
theorem Row.other {zs : List Int} {k : Nat} (h : Row w a zs) (hg : w.grownBy w' (some k)) (hap : ∀ ad, a = some ad → ad.block ≠ k) : Row w' a zs := by
  rcases h with h | ⟨b, off, rfl, hlt, hc⟩
  · exact .inl h
  · exact .inr ⟨b, off, rfl, Nat.lt_of_lt_of_le hlt hg.size, fun j hj => hg.cell (hc j hj) (fun e => hap _ rfl (by simpa using e))⟩
theorem grown_setCell (w : World) (p j : Nat) (v : Value) : w.grownBy (w.setCell ⟨p, j, none⟩ v) (some p) :=
  ⟨rfl, rfl, rfl, by simp [World.setCell], fun k _ hne => Below.heap_setCell _ _ _ _ (fun e => hne (by rw [e]))⟩
theorem Rd.setErr (h : Rd w p a bs i e) (e' : Nat) (he : e' < 65536) : Rd (w.setCell ⟨p, 2, none⟩ (.int .u16 (e' : Int))) p a bs i e' := by
  refine ⟨?_, h.row.other (grown_setCell _ _ _ _) h.apart, h.apart, h.bare, h.byts, h.le, h.small, he, fun ad had => by rw [World.size_setCell]; exact h.inn ad had⟩
  rw [heap_setCell_same w p 2 _ 98 _ h.blk]; rfl
theorem Rd.setAt (h : Rd w p a bs i e) (i' : Nat) (hi : i' ≤ bs.length) : Rd (w.setCell ⟨p, 1, none⟩ (.int .i64 (i' : Int))) p a bs i' e := by
  refine ⟨?_, h.row.other (grown_setCell _ _ _ _) h.apart, h.apart, h.bare, h.byts, hi, h.small, h.err, fun ad had => by rw [World.size_setCell]; exact h.inn ad had⟩
  rw [heap_setCell_same w p 1 _ 98 _ h.blk]; rfl
end
theorem grown_refl (w : World) (r : Option Nat) : w.grownBy w r := ⟨rfl, rfl, rfl, Nat.le_refl _, fun _ _ _ => rfl⟩
theorem grown_trans {a b c : World} {r : Option Nat} (h : a.grownBy b r) (k : b.grownBy c r) : a.grownBy c r :=
  ⟨k.os.trans h.os, k.tape.trans h.tape, k.output.trans h.output, Nat.le_trans h.size k.size, fun i hi hn => (k.block i (Nat.lt_of_lt_of_le hi h.size) hn).trans (h.block i hi hn)⟩
theorem grown_below {a b : World} {r : Option Nat} (h : Below a.heap.size a b) : a.grownBy b r := ⟨h.os, h.tape, h.output, h.size, fun i hi _ => h.block i hi⟩

set_option maxHeartbeats 800000 in
set_option maxRecDepth 1000000 in
theorem left_any (p : Nat) (a : Option Addr) (bs : List Int) (i e : Nat) (w : World) (hr : Rd w p a bs i e) :
    Calls Try.prog 53 #[.pointer (some ⟨p, 0, none⟩)] w fun r w' => r = .returned (.int .i64 ((bs.length - i : Nat) : Int)) ∧ Below w.heap.size w w' := by
  have k0 := hr.c0
  have k1 := hr.c1
  have h1 := hr.le
  have h2 := hr.small
  have HF : Hid ((bs.length : Int) - (i : Int) = ((bs.length - i : Nat) : Int)) := by rw [Hid]; omega
  clear hr
  generalize bs.length = n at *
  go_enter Try.func53, Try.ntmps53
  go_wp2
  go_quiet (fail)
  go_wp2
  go_ret
  exact ⟨ret_int HF.out, below_drewN (Below.refl _ _) _⟩

set_option maxHeartbeats 800000 in
set_option maxRecDepth 1000000 in
theorem fail_any (p : Nat) (a : Option Addr) (bs : List Int) (i e E : Nat) (w : World) (hr : Rd w p a bs i e) (hE : E < 65536) :
    Calls Try.prog 54 #[.pointer (some ⟨p, 0, none⟩), .int .u16 (E : Int)] w fun r w' => r = .returned (.tuple #[]) ∧ Rd w' p a bs i (ferr e E) ∧ w.grownBy w' (some p) := by
  have k2 := hr.c2
  have f2 := hr.f 2
  have HR := hide hr
  clear hr
  go_enter Try.func54, Try.ntmps54
  by_cases he : e = 0
  · subst he
    go_wp2
    go_returns
    exact ⟨rfl, by rw [ferr, if_pos rfl]; exact HR.out.setErr E hE, grown_setCell _ _ _ _⟩
  · have hne : ((e : Int) == 0) = false := by simp; omega
    go_wp2
    go_returns
    exact ⟨rfl, by rw [ferr, if_neg he]; exact HR.out, grown_refl _ _⟩

theorem Row.cut {w : World} {a : Option Addr} {bs : List Int} (h : Row w a bs) (i m : Nat) (N : Nat) (hN : bs.length = N) (him : i + m ≤ N) : Row w (if N = i then a else Option.map (fun x => x.add i) a) ((bs.drop i).take m) := by
  by_cases hm : m = 0
  · subst hm; exact .inl (by simp)
  rcases h with rfl | ⟨b, off, rfl, hlt, hc⟩
  · simp at hN; omega
  · rw [if_neg (by omega)]
    refine .inr ⟨b, off + i, by simp [Addr.add_lit], hlt, fun j hj => ?_⟩
    rw [List.length_take, List.length_drop] at hj
    have := hc (i + j) (by omega)
    rw [Nat.add_assoc, this]
    simp [List.getD_eq_getElem?_getD, List.getElem?_drop, show j < m by omega]
theorem Row.drewN {w : World} {a : Option Addr} {zs : List Int} (h : Row w a zs) (n : Nat) : Row (w.drewN n) a zs := h.below (below_drewN (Below.refl _ _) _)
theorem Rd.drewN {w : World} {p : Nat} {a : Option Addr} {bs : List Int} {i e : Nat} (h : Rd w p a bs i e) (n : Nat) : Rd (w.drewN n) p a bs i e := h.below (below_drewN (Below.refl _ _) _)
theorem grown_drewN {w w' : World} {r : Option Nat} (h : w.grownBy w' r) (n : Nat) : w.grownBy (w'.drewN n) r := grown_trans h (grown_below (below_drewN (Below.refl _ _) _))
/-- what taking gives. -/
def Took (w : World) (p : Nat) (a : Option Addr) (bs : List Int) (i e : Nat) (n : Int) (r : Ending) (w' : World) : Prop :=
  ∃ (a' : Option Addr) (m c' : Nat), r = .returned (.slice a' m c') ∧ (tk bs i e n).2.2.length = m ∧ m ≤ c' ∧ c' ≤ maxLen ∧ (a' = none → m = 0 ∧ c' = 0) ∧ Row w' a' (tk bs i e n).2.2 ∧ Rd w' p a bs (tk bs i e n).1 (tk bs i e n).2.1 ∧ w.grownBy w' (some p)

set_option maxHeartbeats 1600000 in
set_option maxRecDepth 1000000 in
theorem take_any (p : Nat) (a : Option Addr) (bs : List Int) (i e : Nat) (n : Int) (w : World) (hr : Rd w p a bs i e) (h1 : -9223372036854775808 ≤ n) (h2 : n ≤ 9223372036854775807) :
    Calls Try.prog 50 #[.pointer (some ⟨p, 0, none⟩), .int .i64 n] w fun r w' => Took w p a bs i e n r w' := by
  have HR := hide hr
  have hle := hr.le
  have hsm := hr.small
  clear hr
  by_cases hn : n < 0
  · go_enter Try.func50, Try.ntmps50
    go_wp2_with fail
    refine (fail_any p a bs i e 1 _ HR.out (by omega)).mono ?_
    rintro r w1 ⟨rfl, hr1, hg1⟩
    have HR1 := hide hr1
    have HG1 := hide hg1
    have k2 := hr1.c2
    have hne : (((ferr e 1 : Nat) : Int) != 0) = true := by have := ferr_pos e 1 (by omega); simp; omega
    have HT := hide (tk_neg bs i e n hn)
    clear hr1 hg1
    generalize ferr e 1 = e1 at *
    go_wp2
    go_ret
    exact ⟨none, 0, 0, rfl, by rw [HT.out]; rfl, by omega, by omega, fun _ => ⟨rfl, rfl⟩, .inl (by rw [HT.out]), by rw [HT.out]; exact HR1.out, HG1.out⟩
  · go_enter Try.func50, Try.ntmps50
    go_wp2_with fail
    refine (left_any p a bs i e _ HR.out).mono ?_
    rintro r w1 ⟨rfl, hb1⟩
    have HR1 := hide (HR.out.below hb1)
    have HG1 := hide (grown_below (r := some p) hb1)
    clear hb1
    by_cases hlt : ((bs.length - i : Nat) : Int) < n
    · go_wp2_with fail
      refine (fail_any p a bs i e 20 _ HR1.out (by omega)).mono ?_
      rintro r w2 ⟨rfl, hr2, hg2⟩
      have HR2 := hide hr2
      have HG2 := hide (grown_trans HG1.out hg2)
      have k2 := hr2.c2
      have hne : (((ferr e 20 : Nat) : Int) != 0) = true := by have := ferr_pos e 20 (by omega); simp; omega
      have HT := hide (tk_short bs i e n (by omega) (by omega))
      clear hr2 hg2
      generalize ferr e 20 = e1 at *
      go_wp2
      go_ret
      exact ⟨none, 0, 0, rfl, by rw [HT.out]; rfl, by omega, by omega, fun _ => ⟨rfl, rfl⟩, .inl (by rw [HT.out]), by rw [HT.out]; exact HR2.out, HG2.out⟩
    · have k2 := HR1.out.c2
      by_cases he : e = 0
      · subst he
        obtain ⟨m, rfl⟩ : ∃ m : Nat, n = (m : Int) := ⟨n.toNat, by omega⟩
        have HT := hide (tk_ok bs i m (by omega))
        have k0 := HR1.out.c0
        have k1 := HR1.out.c1
        have f1 := HR1.out.f 1
        have HS := hide (HR1.out.setAt (i + m) (by omega))
        have HL : Hid (((bs.drop i).take m).length = m) := by rw [Hid, List.length_take, List.length_drop]; omega
        generalize hN : bs.length = N at *
        have HN := hide hN
        clear hN
        go_wp2
        have hsum : (i : Int) + (m : Int) = ((i + m : Nat) : Int) := by omega
        rw [hsum]
        have HG2 := hide (grown_trans HG1.out (grown_setCell w1 p 1 (.int .i64 ((i + m : Nat) : Int))))
        clear HG1 HR1 k0 k1 k2 f1
        generalize w1.setCell ⟨p, 1, none⟩ (.int .i64 ((i + m : Nat) : Int)) = W at *
        have k0 := HS.out.c0
        rw [HN.out] at k0
        have k1 := HS.out.c1
        have hsub : ((i + m : Nat) : Int) - (m : Int) = (i : Int) := by omega
        generalize hs : i + m = s at *
        have HSm := hide hs
        have hsl : s ≤ N := by omega
        have his : i ≤ s := by omega
        clear hs hsum
        have HRow := hide (HS.out.row.cut i m N HN.out (by have := HSm.out; omega))
        have HBare : Hid ((if N = i then a else Option.map (fun x => x.add i) a) = none → s - i = 0 ∧ N - i = 0) := by
          intro h
          have ha : a = none := by
            split at h
            · exact h
            · simpa using h
          have := HS.out.bare ha
          have hN := HN.out
          rw [this] at hN
          simp at hN
          omega
        go_quiet (fail)
        generalize (if N = i then a else Option.map (fun x => x.add i) a) = A at *
        go_wp2
        go_ret
        refine ⟨A, s - i, N - i, rfl, ?_, by omega, by unfold maxLen; omega, HBare.out, ?_, ?_, grown_drewN HG2.out _⟩
        · rw [HT.out, HL.out]; have := HSm.out; omega
        · rw [HT.out]; exact HRow.out.drewN _
        · rw [HT.out]; exact HS.out.drewN _
      · have hne : ((e : Int) != 0) = true := by simp; omega
        have HT := hide (tk_err bs i e n he)
        go_wp2
        go_ret
        exact ⟨none, 0, 0, rfl, by rw [HT.out]; rfl, by omega, by omega, fun _ => ⟨rfl, rfl⟩, .inl (by rw [HT.out]), by rw [HT.out]; exact HR1.out, HG1.out⟩

theorem vgo_cons (k v : Nat) (c : Int) (t : List Int) : vgo k v (c :: t) = if (k = 9 ∧ c ≠ 1) ∨ (0 < k ∧ c = 0) then (0, 0, 21) else if c < 128 then (v + c.toNat * 128 ^ k, k + 1, 0) else vgo (k + 1) (v + (c.toNat - 128) * 128 ^ k) t := rfl
theorem drop_cons (bs : List Int) (k : Nat) (h : k < bs.length) : bs.drop k = bs.getD k 0 :: bs.drop (k + 1) := by
  rw [List.drop_eq_getElem_cons h, List.getD_eq_getElem?_getD, List.getElem?_eq_getElem h]; rfl

set_option maxHeartbeats 1600000 in
set_option maxRecDepth 1000000 in
theorem varint_any (a : Option Addr) (n c : Nat) (bs : List Int) (w : World) (hr : Row w a bs) (hb : Byts bs) (hl : bs.length = n) (hn : n ≤ 140737488355328) :
    Calls Try.prog 59 #[.slice a n c] w fun r w' => r = .returned (.tuple #[.int .u64 ((vint bs).1 : Int), .int .i64 ((vint bs).2.1 : Int), .int .u16 ((vint bs).2.2 : Int)]) ∧ w' = w := by
  have HR := hide hr
  have HB := hide hb
  have HL := hide hl
  clear hr hb hl
  go_enter Try.func59, Try.ntmps59
  go_wp2
  go_step3
  go_wp2
  go_step3
  go_wp2
  go_loop [5, 6, 11] (fun x y z => ∃ k v : Nat, x = .int .u64 (v : Int) ∧ y = .int .u16 20 ∧ z = .int .i64 (k : Int) ∧ k ≤ n ∧ k ≤ 9 ∧ v < 128 ^ k ∧ vgo k v (bs.drop k) = vint bs) (fun _ _ z => n - (intOf z).toNat)
  case atStart => exact ⟨0, 0, rfl, rfl, rfl, by omega, by omega, by simp, rfl⟩
  case round =>
    obtain ⟨k, v, rfl, rfl, rfl, hkn, hk9, hv, hgo⟩ := hrel
    have HG := hide hgo
    clear hgo
    by_cases hlt : k < n
    · have hlk : k < bs.length := by have := HL.out; omega
      rcases HR.out with h0 | ⟨b, off, rfl, hlt2, hc⟩
      · subst h0; simp at hlk
      have hcb := HB.out.at k
      have hck := hc k hlk
      have HD := hide (drop_cons bs k hlk)
      generalize bs.getD k 0 = x at *
      obtain ⟨C, rfl⟩ := Int.eq_ofNat_of_zero_le hcb.1
      obtain ⟨X, hX, e3, e4⟩ := vround v k C hk9 hv (by omega)
      have HE3 := hide e3
      have e5 := and128 C (by omega)
      have e7 := and127b C (by omega)
      have HE4 := hide e4
      have HV := hide hv
      have hC : C < 256 := by omega
      clear e3 e4 hv hc hcb hlt2
      by_cases hA : k = 9 ∧ C ≠ 1
      · obtain ⟨rfl, hC1⟩ := hA
        have hd : ((C : Int) != 1) = true := by simp; omega
        have HF : Hid (vint bs = (0, 0, 21)) := by
          rw [Hid, ← HG.out, HD.out, vgo_cons, if_pos (.inl ⟨rfl, by omega⟩)]
        go_wp2
        go_ret3
        exact ⟨by rw [HF.out]; rfl, rfl⟩
      · by_cases hB : 0 < k ∧ C = 0
        · obtain ⟨hk0, rfl⟩ := hB
          have hd : ((k : Int) == 9) = false := by simp; omega
          have HF : Hid (vint bs = (0, 0, 21)) := by
            rw [Hid, ← HG.out, HD.out, vgo_cons, if_pos (.inr ⟨hk0, by omega⟩)]
          go_wp2
          go_ret3
          exact ⟨by rw [HF.out]; rfl, rfl⟩
        · by_cases hC2 : C < 128
          · have e6 : bits .and .u8 (C : Int) 128 = 0 := by rw [e5, if_pos hC2]; rfl
            have HF : Hid (vint bs = (X, k + 1, 0)) := by
              rw [Hid, ← HG.out, HD.out, vgo_cons, if_neg (by omega), if_pos (by omega), HE4.out (by omega), Nat.mod_eq_of_lt hC2, Int.toNat_natCast]
            clear e5
            go_wp2
            all_goals (go_ret3; exact ⟨by rw [HF.out]; exact ret_three HE3.out (by show _ = ((k + 1 : Nat) : Int); omega) rfl, rfl⟩)
          · have e6 : bits .and .u8 (C : Int) 128 = 128 := by rw [e5, if_neg hC2]; rfl
            have hk8 : k < 9 := by omega
            have hd : ((k : Int) == 9) = false := by simp; omega
            have HX : Hid (X = v + (C - 128) * 128 ^ k) := by
              have e : C % 128 = C - 128 := by omega
              rw [Hid, HE4.out (.inl hk8), e]
            have HF : Hid (vgo (k + 1) X (bs.drop (k + 1)) = vint bs) := by
              rw [Hid, ← HG.out, HD.out, vgo_cons, if_neg (by omega), if_neg (by omega), HX.out, Int.toNat_natCast]
            have HN : Hid (X < 128 ^ (k + 1)) := by
              have h1 := HX.out
              have h2 := HV.out
              have h3 : (C - 128) * 128 ^ k ≤ 127 * 128 ^ k := Nat.mul_le_mul_right _ (by omega)
              rw [Hid, Nat.pow_succ]
              omega
            clear e5
            go_wp2
            all_goals
              go_round
              case rel => exact ⟨k + 1, X, by rw [HE3.out], rfl, by go_num, by omega, by omega, HN.out, HF.out⟩
              case measure => simp [intOf]; omega
    · have hke : k = n := by omega
      subst hke
      have HF : Hid (vint bs = (0, 0, 20)) := by
        rw [Hid, ← HG.out, List.drop_of_length_le (by have := HL.out; omega)]; rfl
      go_wp2
      go_ret3
      exact ⟨by rw [HF.out]; rfl, rfl⟩
end Go.Proofs.Ytehapglbenaikaa
