/- The reader: marks, noughts, the sum. -/
import Derived.Test.YtlmofgfkclfgeaaGreatRA
import Derived.Laws.IdiomStrings
import Derived.Laws.Strings
import Derived.Laws.Cover3
import Derived.Test.YtlmofgfkclfgeaaGreatBM
namespace Go.Proofs.YtlmofgfkclfgeaaGreat
open Go.RowKit
set_option linter.unusedVariables false

theorem ba_leq (s : ByteArray) : (s.toList == s.toList) = true := beq_self_eq_true _
theorem ba_lne (s t : ByteArray) (h : ¬ s = t) : (s.toList == t.toList) = false := by
  rw [beq_eq_false_iff_ne]
  intro h'
  rw [ByteArray.toList_eq, ByteArray.toList_eq] at h'
  apply h
  cases s with | mk d => cases t with | mk e => exact congrArg ByteArray.mk (Array.ext' h')
/-- bytes as a text. -/
def bk (ys : List Int) : ByteArray := ⟨(ys.map fun z => UInt8.ofNat z.toNat).toArray⟩
theorem bk_size (ys : List Int) : (bk ys).size = ys.length := by
  unfold bk ByteArray.size
  simp
theorem bk_inj (xs ys : List Int) (hx : Byts xs) (hy : Byts ys) (h : bk xs = bk ys) : xs = ys := by
  have h1 : (xs.map fun z => UInt8.ofNat z.toNat) = ys.map fun z => UInt8.ofNat z.toNat := by
    have := congrArg (fun b : ByteArray => b.data.toList) h
    simpa [bk] using this
  have hback : ∀ l : List Int, Byts l → (l.map fun z => UInt8.ofNat z.toNat).map (fun b => (b.toNat : Int)) = l := by
    intro l hl
    rw [List.map_map]
    conv => rhs; rw [← List.map_id l]
    apply List.map_congr_left
    intro z hz
    have := hl z hz
    simp; omega
  rw [← hback xs hx, ← hback ys hy, h1]
theorem bk_ne (xs ys : List Int) (hx : Byts xs) (hy : Byts ys) (h : xs ≠ ys) : ((bk xs).toList == (bk ys).toList) = false := ba_lne _ _ fun e => h (bk_inj xs ys hx hy e)
theorem run_text (w : World) (a : Option Addr) (n c : Nat) (ys : List Int) (hl : ys.length = n) (hn : a = none → n = 0 ∧ c = 0) (hr : Row w a ys) (hb : Byts ys) : (convert 22 9 (.slice a n c)).run Tryz.prog w = .ok (.string (bk ys)) w := by
  cases a with
  | none =>
    obtain ⟨rfl, rfl⟩ := hn rfl
    have e : ys = [] := List.eq_nil_of_length_eq_zero hl
    subst e
    rw [run_convert_bytes_string w 22 9 5 none 0 0 Tryz.underlying22 Tryz.underlying5 Tryz.underlying9]
    rfl
  | some ad =>
    have h := run_convert_bytes_back (P := Tryz.prog) w 22 9 5 ad c (ys.map fun z => UInt8.ofNat z.toNat) Tryz.underlying22 Tryz.underlying5 Tryz.underlying9 (by
      intro j hj
      rw [List.length_map] at hj
      refine hr.news ad rfl j _ ?_
      have := hb (ys[j]) (List.getElem_mem hj)
      simp [hj]
      omega)
    rw [List.length_map, hl] at h
    exact h

set_option maxHeartbeats 800000 in
theorem mark_gen (p : Nat) (m xs ys : List Int) (w : World) (h : Rdr w p (xs ++ ys)) (hl : xs.length = m.length) (hm : m.length ≤ 100) (h8 : Byts m) (hx8 : Byts xs) :
    Calls Tryz.prog 97 #[.pointer (some ⟨p, 0, none⟩), .string (bk m)] w fun e w' => ((xs = m → e = .returned (.tuple #[])) ∧ (xs ≠ m → e = .panicked flt)) ∧ Rdr w' p ys ∧ w.grownBy w' (some p) := by
  obtain ⟨k, hk⟩ : ∃ k, m.length = k := ⟨_, rfl⟩
  rw [hk] at hm hl
  have hsz : (bk m).size = k := (bk_size m).trans hk
  have HT := hide (take_ok p k xs ys w hl h)
  have HL := hide hl
  have H8 := hide h8
  have HX8 := hide hx8
  have hse : ((bk m).toList == (bk m).toList) = true := ba_leq _
  clear h hl h8 hx8 hk
  by_cases hxm : xs = m
  · subst hxm
    generalize hbk : bk xs = S at *
    have HBK := hide hbk
    clear hbk
    go_enter Tryz.func97, Tryz.ntmps97
    go_wp2_with fail
    refine HT.out.mono ?_
    rintro e w1 ⟨a, c, rfl, hkc, hc, hn, hrow, hrd, hg⟩
    have hr := run_text w1 a k c xs HL.out hn hrow.row HX8.out
    rw [HBK.out] at hr
    have HRd := hide hrd
    have HG := hide hg
    clear hn hrow hrd hg
    go_wp2_with fail
    refine (must_yes _ _ rfl _).mono ?_
    rintro e w' ⟨rfl, rfl⟩
    go_wp2
    go_end0
    exact ⟨⟨fun _ => rfl, fun h => absurd rfl h⟩, HRd.out, HG.out⟩
  · have hne := bk_ne xs m HX8.out H8.out hxm
    have hxm := hide hxm
    generalize bk m = S at *
    go_enter Tryz.func97, Tryz.ntmps97
    go_wp2_with fail
    refine HT.out.mono ?_
    rintro e w1 ⟨a, c, rfl, hkc, hc, hn, hrow, hrd, hg⟩
    have hr := run_text w1 a k c xs HL.out hn hrow.row HX8.out
    have HRd := hide hrd
    have HG := hide hg
    clear hn hrow hrd hg
    go_wp2_with fail
    refine (must_no _ _ rfl _).mono ?_
    rintro e w' ⟨rfl, rfl⟩
    exact ⟨rfl, ⟨fun h => absurd h hxm.out, fun _ => rfl⟩, HRd.out, HG.out⟩

set_option maxHeartbeats 800000 in
theorem nil_gen (p : Nat) (k : Nat) (xs ys : List Int) (w : World) (h : Rdr w p (xs ++ ys)) (hl : xs.length = k) (hk : k ≤ 5000) (h8 : Byts xs) :
    Calls Tryz.prog 101 #[.pointer (some ⟨p, 0, none⟩), .int .i64 (k : Int)] w fun e w' => ((xs = List.replicate k 0 → e = .returned (.tuple #[])) ∧ (xs ≠ List.replicate k 0 → e = .panicked flt)) ∧ (xs = List.replicate k 0 → Rdr w' p ys) ∧ w.grownBy w' (some p) := by
  have HT := hide (take_ok p k xs ys w hl h)
  have HL := hide hl
  have H8 := hide h8
  clear h hl h8
  go_enter Tryz.func101, Tryz.ntmps101
  go_wp2_with fail
  refine HT.out.mono ?_
  rintro e w1 ⟨a, c, rfl, hkc, hc, hn, hrow, hrd, hg⟩
  have HRow := hide hrow
  have HRd := hide hrd
  have HG := hide hg
  clear hn hrow hrd hg
  go_wp2
  go_loopw [10] (fun i wr => ∃ j : Nat, j ≤ k ∧ i = .int .i64 (j : Int) ∧ xs.take j = List.replicate j 0 ∧ wr = w1) (fun i _ => k - (intOf i).toNat)
  case atStart => exact ⟨0, Nat.zero_le _, rfl, rfl, rfl⟩
  case round =>
    obtain ⟨j, hj, rfl, hz, rfl⟩ := hrel
    have HZ := hide hz
    clear hz
    by_cases hlt : j < k
    · have hjx : j < xs.length := by have := HL.out; omega
      obtain ⟨b, off, rfl, hcell⟩ : ∃ b off, a = some ⟨b, off, none⟩ ∧ wr.cell? ⟨b, off + j, none⟩ = some (.int .u8 (xs.getD j 0)) := by
        rcases HRow.out with h0 | ⟨b, off, h1, _, _, h2⟩
        · rw [h0] at hjx; simp at hjx
        · exact ⟨b, off, h1, h2 j hjx⟩
      have HS := hide (take_snoc xs j hjx)
      have HN : Hid (xs.getD j 0 ≠ 0 → xs ≠ List.replicate k 0) := fun h e => h (by rw [e]; simp [hlt])
      generalize xs.getD j 0 = cc at *
      by_cases hcc : cc = 0
      · subst hcc
        go_wp2_with fail
        refine (must_yes _ _ rfl _).mono ?_
        rintro e w' ⟨rfl, rfl⟩
        go_wp2
        go_roundw
        case rel => exact ⟨j + 1, by omega, by go_num, by rw [HS.out, HZ.out, List.replicate_succ'], trivial⟩
        case measure => simp [intOf]; omega
      · have hne : (cc == 0) = false := by simp [hcc]
        have HC := hide hcc
        clear hcc
        go_wp2_with fail
        refine (must_no _ _ rfl _).mono ?_
        rintro e w' ⟨rfl, rfl⟩
        exact ⟨rfl, ⟨fun h => absurd h (HN.out HC.out), fun _ => rfl⟩, fun h => absurd h (HN.out HC.out), HG.out⟩
    · obtain rfl : j = k := by omega
      have HF : Hid (xs = List.replicate j 0) := by have := HZ.out; rwa [List.take_of_length_le (by have := HL.out; omega)] at this
      go_wp2
      go_end0
      exact ⟨⟨fun _ => rfl, fun h => absurd HF.out h⟩, fun _ => HRd.out, HG.out⟩
end Go.Proofs.YtlmofgfkclfgeaaGreat
/- The reader: the sum at the end. -/
namespace Go.Proofs.YtlmofgfkclfgeaaGreat
open Go.RowKit
set_option linter.unusedVariables false

theorem Rdr.set {w : World} {p : Nat} {zs : List Int} (h : Rdr w p zs) {a' : Option Addr} {n' c' : Nat} {ys : List Int} (hl : ys.length = n') (hc : n' ≤ c') (hm : c' ≤ 9223372036854775807) (hb : a' = none → n' = 0 ∧ c' = 0) (hr : RowN w p a' ys) (h8 : Byts ys) :
    Rdr (w.setCell ⟨p, 0, none⟩ (.slice a' n' c')) p ys := by
  obtain ⟨a, n, c, h⟩ := h
  exact ⟨_, _, _, h.set hl hc hm hb hr h8⟩
theorem Rdr.cells {w : World} {p : Nat} {zs : List Int} (h : Rdr w p zs) : ∃ a c, w.cell? ⟨p, 0, none⟩ = some (.slice a zs.length c) ∧ w.frozen? ⟨p, 0, none⟩ = false := by
  obtain ⟨a, n, c, h⟩ := h
  exact ⟨a, c, by rw [h.c0, h.len], h.f0⟩
theorem Rdr.byts {w : World} {p : Nat} {zs : List Int} (h : Rdr w p zs) : Byts zs := by obtain ⟨a, n, c, h⟩ := h; exact h.byts
theorem Rdr.small {w : World} {p : Nat} {zs : List Int} (h : Rdr w p zs) : zs.length ≤ 9223372036854775807 := by
  obtain ⟨a, n, c, h⟩ := h
  have := h.len; have := h.cap; have := h.max; omega

set_option maxHeartbeats 800000 in
theorem unseal_gen (p size : Nat) (zs : List Int) (w : World) (h : Rdr w p zs) (hs : 4 ≤ size) (hs2 : size ≤ 5000) :
    Calls Tryz.prog 96 #[.pointer (some ⟨p, 0, none⟩), .int .i64 (size : Int)] w fun e w' => ((Pg.Rt size zs → e = .returned (.tuple #[]) ∧ Rdr w' p (zs.take (size - 4))) ∧ (¬ Pg.Rt size zs → e = .panicked flt)) ∧ w.grownBy w' (some p) := by
  by_cases hl : zs.length = size
  · obtain ⟨a0, c0, k0, f0⟩ := h.cells
    rw [hl] at k0
    have h8 := h.byts
    have HP : Hid (Pg.Rt size zs ↔ Crc.leV (zs.drop (size - 4)) = Crc.more 0 (zs.take (size - 4))) := hide ⟨fun h => h.2, fun h => ⟨hl, h⟩⟩
    have e1 : zs.take (size - 4) ++ zs.drop (size - 4) = zs := List.take_append_drop _ _
    have l1 : (zs.take (size - 4)).length = size - 4 := by rw [List.length_take]; omega
    have l2 : (zs.drop (size - 4)).length = 4 := by rw [List.length_drop]; omega
    have b1 := h8.take (size - 4)
    have b2 := h8.drop (size - 4)
    rw [← e1] at h
    generalize Pg.Rt size zs = PP at *
    generalize zs.take (size - 4) = xs at *
    generalize zs.drop (size - 4) = ys at *
    have HT : Hid (Calls Tryz.prog 102 #[.pointer (some ⟨p, 0, none⟩), .int .i64 ((size : Int) - 4)] w fun e w' => ∃ a c, e = .returned (.slice a (size - 4) c) ∧ (size - 4) ≤ c ∧ c ≤ 9223372036854775807 ∧ (a = none → (size - 4) = 0 ∧ c = 0) ∧ RowN w' p a xs ∧ Rdr w' p ys ∧ w.grownBy w' (some p)) := by
      have e : ((size : Int) - 4) = ((size - 4 : Nat) : Int) := by omega
      rw [e]
      exact take_ok p (size - 4) xs ys w l1 h
    have HB1 := hide b1
    have HB2 := hide b2
    have HL1 := hide l1
    have HL2 := hide l2
    clear h8 hl e1 h b1 b2 l1 l2
    go_enter Tryz.func96, Tryz.ntmps96
    go_wp2_with fail
    refine (must_yes _ _ (by simp) _).mono ?_
    rintro e w' ⟨rfl, rfl⟩
    go_wp2_with fail
    refine HT.out.mono ?_
    rintro e w1 ⟨a, c, rfl, hkc, hc, hn, hrow, hrd, hg⟩
    have HRow := hide hrow
    have HN := hide hn
    have HG1 := hide hg
    have HNum := hide (num_ok p 4 ys [] w1 HL2.out (by omega) (by rw [List.append_nil]; exact hrd) HB2.out)
    clear hn hrow hrd hg
    go_wp2_with fail
    refine HNum.out.mono ?_
    rintro e w2 ⟨rfl, hrd2, hg2⟩
    have HRow2 := hide (HRow.out.grown hg2)
    have HRd2 := hide hrd2
    have HG2 := hide (grown_trans HG1.out hg2)
    clear hrd2 hg2
    have HV : Hid (Crc.leV ys < 4294967296) := by
      have := Crc.leV_lt ys HB2.out
      rw [HL2.out] at this
      have e4 : (256 : Nat) ^ 4 = 4294967296 := by decide
      rw [e4] at this
      exact this
    have hM := Crc.more_lt 0 xs (by omega) HB1.out
    have HSum := hide (sum_any a (size - 4) c xs w2 HL1.out (by omega) HRow2.out.row HB1.out)
    have hV := HV.out
    generalize Crc.leV ys = V at *
    generalize Crc.more 0 xs = M at *
    go_wp2_with fail
    refine HSum.out.mono ?_
    rintro e w3 ⟨rfl, hb3⟩
    have HRow3 := hide (HRow2.out.grown (grown_below hb3))
    have HRd3 := hide (HRd2.out.below hb3)
    have HG3 := hide (grown_trans HG2.out (grown_below hb3))
    clear hb3
    by_cases hvm : V = M
    · subst hvm
      have HPP : Hid PP := hide (HP.out.2 rfl)
      obtain ⟨a3, c3, k3, f3⟩ := HRd3.out.cells
      go_wp2_with fail
      refine (must_yes _ _ (by simp) _).mono ?_
      rintro e w' ⟨rfl, rfl⟩
      go_wp2
      go_end0
      exact ⟨⟨fun _ => ⟨rfl, HRd3.out.set HL1.out hkc hc HN.out HRow3.out HB1.out⟩, fun h => absurd HPP.out h⟩, grown_trans HG3.out (grown_setCellP _ _ _ _)⟩
    · have HPP : Hid (¬ PP) := hide fun h => hvm (HP.out.1 h)
      have hne : ((V : Int) == (M : Int)) = false := by simp; omega
      clear hvm
      go_wp2_with fail
      refine (must_no _ _ rfl _).mono ?_
      rintro e w' ⟨rfl, rfl⟩
      exact ⟨rfl, ⟨fun h => absurd h HPP.out, fun _ => rfl⟩, HG3.out⟩
  · obtain ⟨a0, c0, k0, f0⟩ := h.cells
    have hne : ((zs.length : Int) == (size : Int)) = false := by simp; omega
    have hsm := h.small
    have HP : Hid (¬ Pg.Rt size zs) := hide fun h => hl h.1
    clear h hl
    generalize zs.length = n at *
    generalize Pg.Rt size zs = PP at *
    go_enter Tryz.func96, Tryz.ntmps96
    go_wp2_with fail
    refine (must_no _ _ rfl _).mono ?_
    rintro e w' ⟨rfl, rfl⟩
    exact ⟨rfl, ⟨fun h => absurd h HP.out, fun _ => rfl⟩, grown_refl _ _⟩
end Go.Proofs.YtlmofgfkclfgeaaGreat
/- Clone; the content of a page. -/
namespace Go.Proofs.YtlmofgfkclfgeaaGreat
open Go.RowKit
set_option linter.unusedVariables false

theorem sl_nil (a : Option Addr) (n c : Nat) (W : World) : (binOp .eql 22 (.slice a n c) (.slice none 0 0)).run Tryz.prog W = .ok (.bool a.isNone) W := by
  simp only [binOp]
  simp [run_equal_slice_nil W 22 5 a n c Tryz.underlying22]

set_option maxHeartbeats 800000 in
set_option maxRecDepth 1000000 in
theorem clone_any (a : Option Addr) (n c : Nat) (ys : List Int) (w : World) (hl : ys.length = n) (hn : a = none → n = 0 ∧ c = 0) (hr : Row w a ys) (hb : n ≤ 100000) :
    Calls Tryz.prog 76 #[.slice a n c] w fun e w' => ∃ v, e = .returned v ∧ Made w v ys w' := by
  obtain ⟨i0, hi, hz0, hz1, hz2⟩ := info_parts Tryz.info5
  have hq := sl_nil a n c
  cases a with
  | none =>
    obtain ⟨rfl, rfl⟩ := hn rfl
    have e : ys = [] := List.eq_nil_of_length_eq_zero hl
    subst e
    simp only [Option.isNone_none] at hq
    clear hn hr hl
    go_enter Tryz.func76, Tryz.ntmps76
    go_wp2
    refine bodyPost_ret (results_tmp rfl _ _ _) rfl ?_
    exact ⟨_, rfl, Own.nil _, (by intro k hk; simp [Value.ownBlock] at hk), Below.refl _ _⟩
  | some ad =>
    simp only [Option.isNone_some] at hq
    have HL := hide hl
    have HR := hide hr
    clear hl hr hn
    go_enter Tryz.func76, Tryz.ntmps76
    have HO : Hid (Own (w.alloc (.cells #[] 5)) (.slice (some ⟨w.heap.size, 0, none⟩) 0 0) []) := ⟨rfl, .inr ⟨w.heap.size, 0, _, rfl, Nat.zero_le _, heap_alloc_new w _, Nat.le_refl _, Nat.zero_le _, rfl, rfl⟩⟩
    have HS : Hid (Src Tryz.prog 1 22 (.slice (some ad) n c) n (ys.map (Value.int .u8)) (w.alloc (.cells #[] 5))) := hide (src_row _ _ n c ys HL.out (by intro h; cases h) (HR.out.below (below_alloc _ _)))
    have HB : Hid (([] : List Int).length + n ≤ 140737488355328) := by rw [Hid]; simp; omega
    go_wp2_with (at_builtin; refine wpList_append_src (by rfl) (.tmp 5) (.tmp 6) 22 22 (by rfl) i0 Tryz.underlying22 hi hz0 hz1 hz2 (.slice (some ⟨w.heap.size, 0, none⟩) 0 0) [] (by rfl) HO.out (.slice (some ad) n c) n ys (by rfl) HS.out HB.out ?_; intro v' w1 hown1 hg1 hf1; obtain ⟨a2, n2, c2, rfl, HN2⟩ := hown1.shape2; have HO1 := hide hown1; have HG1 := hide hg1; have HF1 := hide hf1; clear hown1 hg1 hf1)
    go_ret
    refine ⟨_, rfl, HO1.out, fun k hk => ?_, (below_alloc w _).grown HG1.out (by simp) (fun k hk => by simp [Value.ownBlock] at hk; omega)⟩
    rcases HF1.out k hk with h | h
    · simp [Value.ownBlock] at h; omega
    · simp at h; omega
end Go.Proofs.YtlmofgfkclfgeaaGreat
/- The pages at hand: drop, use, take. -/
namespace Go.Proofs.YtlmofgfkclfgeaaGreat
open Go.RowKit Go.Maps
set_option linter.unusedVariables false

/-- a pool's own memory: its struct at p, its disk's struct at d, the ring's end at e, the map at m; the sheets L, from the one that was used longest ago on. -/
structure Hd (w : World) (p d e m most : Nat) (L : List Sh) (el yo : Nat → Nat) : Prop where
  blk : w.heap[p]? = some (.cells #[.pointer (some ⟨d, 0, none⟩), .int .i64 (most : Int), .map (some m), .pointer (some ⟨e, 0, none⟩)] 106 (0, 0))
  fam : Fam w (eS e :: L) el yo
  ring : Ring el yo e (L.map Sh.b)
  pay : ∀ s ∈ L, Own w s.v s.pl ∧ s.pl.length ≤ 1008 ∧ Byts s.pl
  rg : ∀ s ∈ L, s.n < 4294967296 ∧ s.k < 256
  nums : (L.map Sh.n).Nodup
  map : MapTo w m L
  few : L.length ≤ most
  most : 1 ≤ most ∧ most ≤ 9223372036854775807
/-- the blocks of a pool. -/
def OwP (p e m : Nat) (L : List Sh) (k : Nat) : Prop := k = p ∨ k = e ∨ k = m ∨ ∃ s ∈ L, k = s.b ∨ s.v.ownBlock = some k
theorem own_five {w : World} {v : Value} {zs : List Int} (h : Own w v zs) {g : Nat} (hg : v.ownBlock = some g) : ∃ cur f, w.heap[g]? = some (.cells cur 5 f) := by
  rcases h.2 with ⟨rfl, h0⟩ | ⟨g', cap, cur, rfl, _, hh, _⟩
  · simp [Value.ownBlock] at hg
  · simp [Value.ownBlock] at hg
    subst hg
    exact ⟨_, _, hh⟩
variable {w w' : World} {p d e m most : Nat} {L : List Sh} {el yo : Nat → Nat}
theorem Hd.c0 (h : Hd w p d e m most L el yo) : w.cell? ⟨p, 0, none⟩ = some (.pointer (some ⟨d, 0, none⟩)) := by simp [World.cell?, h.blk]
theorem Hd.c1 (h : Hd w p d e m most L el yo) : w.cell? ⟨p, 1, none⟩ = some (.int .i64 (most : Int)) := by simp [World.cell?, h.blk]
theorem Hd.c2 (h : Hd w p d e m most L el yo) : w.cell? ⟨p, 2, none⟩ = some (.map (some m)) := by simp [World.cell?, h.blk]
theorem Hd.c3 (h : Hd w p d e m most L el yo) : w.cell? ⟨p, 3, none⟩ = some (.pointer (some ⟨e, 0, none⟩)) := by simp [World.cell?, h.blk]
theorem Hd.mem (h : Hd w p d e m most L el yo) {x : Nat} (hx : x ∈ e :: L.map Sh.b) : ∃ s ∈ eS e :: L, s.b = x := by
  rcases List.mem_cons.1 hx with rfl | hx
  · exact ⟨eS x, by simp, rfl⟩
  · obtain ⟨s, hs, e⟩ := List.mem_map.1 hx
    exact ⟨s, by simp [hs], e⟩
/-- a block that holds no sheet is none of the ring's. -/
theorem Hd.off (h : Hd w p d e m most L el yo) {x : Nat} (hx : ∀ C, w.heap[x]? ≠ some (.cells C 152 (0, 0))) : x ∉ e :: L.map Sh.b := fun hm => by
  obtain ⟨s, hs, rfl⟩ := h.mem hm
  exact hx _ (h.fam s hs)
theorem Hd.offp (h : Hd w p d e m most L el yo) : p ∉ e :: L.map Sh.b := h.off fun C => by rw [h.blk]; simp
theorem Hd.offm (h : Hd w p d e m most L el yo) : m ∉ e :: L.map Sh.b := h.off fun C => by
  obtain ⟨es, clock, hb⟩ := h.map.ismap
  rw [hb]; simp
theorem Hd.offv (h : Hd w p d e m most L el yo) {s : Sh} (hs : s ∈ L) {g : Nat} (hg : s.v.ownBlock = some g) : g ∉ e :: L.map Sh.b := h.off fun C => by
  obtain ⟨cur, f, hb⟩ := own_five (h.pay s hs).1 hg
  rw [hb]; simp
theorem Hd.pm (h : Hd w p d e m most L el yo) : p ≠ m := fun x => by
  obtain ⟨es, clock, hb⟩ := h.map.ismap
  rw [← x, h.blk] at hb; cases hb
theorem Hd.vm (h : Hd w p d e m most L el yo) {s : Sh} (hs : s ∈ L) {g : Nat} (hg : s.v.ownBlock = some g) : g ≠ m := fun x => by
  obtain ⟨es, clock, hb⟩ := h.map.ismap
  obtain ⟨cur, f, hb'⟩ := own_five (h.pay s hs).1 hg
  rw [x, hb] at hb'; cases hb'
theorem Hd.lt (h : Hd w p d e m most L el yo) (k : Nat) (hk : OwP p e m L k) : k < w.heap.size := by
  rcases hk with rfl | rfl | rfl | ⟨s, hs, rfl | hk⟩
  · exact lt_of_block h.blk
  · exact lt_of_block (h.fam (eS k) (by simp))
  · obtain ⟨es, clock, hb⟩ := h.map.ismap
    exact lt_of_block hb
  · exact lt_of_block (h.fam s (by simp [hs]))
  · exact (h.pay s hs).1.lt hk
/-- a pool whose own blocks are as they were is as it was. -/
theorem Hd.stays (h : Hd w p d e m most L el yo) (hb : ∀ k, OwP p e m L k → w'.heap[k]? = w.heap[k]?) : Hd w' p d e m most L el yo := by
  refine ⟨(hb p (.inl rfl)).trans h.blk, fun s hs => ?_, h.ring, fun s hs => ⟨(h.pay s hs).1.of_block fun k hk => hb k (.inr (.inr (.inr ⟨s, hs, .inr hk⟩))), (h.pay s hs).2⟩, h.rg, h.nums, h.map.kept (hb m (.inr (.inr (.inl rfl)))), h.few, h.most⟩
  rcases List.mem_cons.1 hs with rfl | hs'
  · exact (hb e (.inr (.inl rfl))).trans (h.fam _ hs)
  · exact (hb s.b (.inr (.inr (.inr ⟨s, hs', .inl rfl⟩)))).trans (h.fam _ hs)
theorem Hd.below (h : Hd w p d e m most L el yo) (hb : Below w.heap.size w w') : Hd w' p d e m most L el yo := h.stays fun k hk => hb.block k (h.lt k hk)
theorem Mv.mono {O O' : Nat → Prop} (h : Mv O w w') (ho : ∀ k, O k → O' k) : Mv O' w w' := ⟨h.os, h.tape, h.output, h.size, fun k hk hn => h.block k hk fun x => hn (ho k x)⟩
theorem Mv.of_below {O : Nat → Prop} (h : Below w.heap.size w w') : Mv O w w' := ⟨h.os, h.tape, h.output, h.size, fun k hk _ => h.block k hk⟩
theorem ringO {k : Nat} (hk : k ∈ e :: L.map Sh.b) : OwP p e m L k := by
  rcases List.mem_cons.1 hk with rfl | hk
  · exact .inr (.inl rfl)
  · obtain ⟨s, hs, rfl⟩ := List.mem_map.1 hk
    exact .inr (.inr (.inr ⟨s, hs, .inl rfl⟩))
theorem wo_mid {u v : List Sh} {s : Sh} (h : ((u ++ s :: v).map Sh.n).Nodup) : (u ++ v).map Sh.pg = wo ((u ++ s :: v).map Sh.pg) s.n := by
  have h1 : ∀ t ∈ u ++ v, t.n ≠ s.n := by
    rw [List.map_append, List.map_cons] at h
    have h2 := (List.nodup_cons.1 ((List.perm_middle.nodup_iff).1 h)).1
    intro t ht e
    rw [← List.map_append] at h2
    exact h2 (e ▸ List.mem_map.2 ⟨t, ht, rfl⟩)
  have hu : wo (u.map Sh.pg) s.n = u.map Sh.pg := List.filter_eq_self.2 fun x hx => by
    obtain ⟨t, ht, rfl⟩ := List.mem_map.1 hx
    simpa [Sh.pg] using h1 t (by simp [ht])
  have hv : wo (v.map Sh.pg) s.n = v.map Sh.pg := List.filter_eq_self.2 fun x hx => by
    obtain ⟨t, ht, rfl⟩ := List.mem_map.1 hx
    simpa [Sh.pg] using h1 t (by simp [ht])
  unfold wo at hu hv ⊢
  rw [List.map_append, List.map_append, List.map_cons, List.filter_append, List.filter_cons, hu, hv]
  simp [Sh.pg]
theorem wo_none {L : List Sh} {n : Nat} (h : n ∉ L.map Sh.n) : wo (L.map Sh.pg) n = L.map Sh.pg := List.filter_eq_self.2 fun x hx => by
  obtain ⟨t, ht, rfl⟩ := List.mem_map.1 hx
  have : t.n ≠ n := fun e => h (e ▸ List.mem_map.2 ⟨t, ht, rfl⟩)
  simpa [Sh.pg] using this
theorem mid_of {n : Nat} (h : n ∈ L.map Sh.n) : ∃ u s v, L = u ++ s :: v ∧ s.n = n := by
  obtain ⟨s, hs, e⟩ := List.mem_map.1 h
  obtain ⟨u, v, h2⟩ := List.append_of_mem hs
  exact ⟨u, s, v, h2, e⟩

set_option maxHeartbeats 1600000 in
set_option maxRecDepth 1000000 in
theorem drop_any (n : Nat) (h : Hd w p d e m most L el yo) (hn : n < 4294967296) :
    Calls Tryz.prog 92 #[.pointer (some ⟨p, 1, none⟩), .int .u32 (n : Int)] w fun ed w' => ed = .returned (.tuple #[]) ∧ ∃ L' el' yo', Hd w' p d e m most L' el' yo' ∧ L'.map Sh.pg = wo (L.map Sh.pg) n ∧ (∀ s ∈ L', s ∈ L) ∧ Mv (OwP p e m L) w w' := by
  have HH := hide h
  have c2 := h.c2
  by_cases hin : n ∈ L.map Sh.n
  · obtain ⟨u, s, v, rfl, rfl⟩ := mid_of hin
    have hs : s ∈ u ++ s :: v := by simp
    have hlk := h.map.there hs hn
    have HL := hide (leave_fam h.fam h.ring)
    clear h hin
    go_enter Tryz.func92, Tryz.ntmps92
    go_wp2_with fail
    refine HL.out.mono ?_
    rintro ed w1 ⟨rfl, hf1, hr1, hm1⟩
    have h := HH.out
    have hp1 := (hm1.block p (lt_of_block h.blk) h.offp).trans h.blk
    have hmp : MapTo w1 m (u ++ s :: v) := h.map.kept (hm1.block m (h.lt m (.inr (.inr (.inl rfl)))) h.offm)
    obtain ⟨w2, hdel, hm2, hmv2⟩ := hmp.del h.nums hn (fun t ht => (h.rg t ht).1) 0
    have hf2 : Fam w2 (eS e :: (u ++ v)) (upd el (yo s.b) (el s.b)) (upd yo (el s.b) (yo s.b)) := by
      refine Fam.sub (M := eS e :: (u ++ s :: v)) (fun t ht => ?_) ?_
      · have hne : t.b ≠ m := fun x => h.offm (x ▸ by
          rcases List.mem_cons.1 ht with rfl | ht
          · exact List.mem_cons_self ..
          · exact List.mem_cons_of_mem _ (List.mem_map.2 ⟨t, ht, rfl⟩))
        rw [hmv2.block t.b (lt_of_block (hf1 t ht)) hne]
        exact hf1 t ht
      · intro t ht
        rcases List.mem_cons.1 ht with rfl | ht
        · simp
        · rcases List.mem_append.1 ht with h | h <;> simp [h]
    have hsub : ∀ t ∈ u ++ v, t ∈ u ++ s :: v := fun t ht => by rcases List.mem_append.1 ht with h | h <;> simp [h]
    have hsl : ((u ++ v).map Sh.n).Sublist ((u ++ s :: v).map Sh.n) := (List.Sublist.append (List.Sublist.refl u) (List.sublist_cons_self s v)).map _
    have HE : Hid (Hd w2 p d e m most (u ++ v) (upd el (yo s.b) (el s.b)) (upd yo (el s.b) (yo s.b))) := hide {
      blk := (hmv2.block p (lt_of_block hp1) h.pm).trans hp1
      fam := hf2
      ring := hr1
      pay := fun t ht => ⟨(h.pay t (hsub t ht)).1.of_block fun k hk => by
        have hk1 := (h.pay t (hsub t ht)).1.lt hk
        rw [hmv2.block k (Nat.lt_of_lt_of_le hk1 hm1.size) (h.vm (hsub t ht) hk), hm1.block k hk1 (h.offv (hsub t ht) hk)], (h.pay t (hsub t ht)).2⟩
      rg := fun t ht => h.rg t (hsub t ht)
      nums := h.nums.sublist hsl
      map := hm2
      few := by have := h.few; simp at this ⊢; omega
      most := h.most }
    have HM : Hid (Mv (OwP p e m (u ++ s :: v)) w w2) := hide ((hm1.mono fun k hk => ringO hk).trans' (hmv2.mono fun k hk => .inr (.inr (.inl hk))))
    have HW := hide (wo_mid h.nums)
    have c2 : w1.cell? ⟨p, 2, none⟩ = some (.map (some m)) := by simp [World.cell?, hp1]
    clear h hp1 hmp hf2 hsub hsl hm2 hmv2 hf1 hr1 hm1 hlk
    go_wp2
    go_end0
    exact ⟨rfl, _, _, _, HE.out, HW.out, fun t ht => by rcases List.mem_append.1 ht with h | h <;> simp [h], HM.out⟩
  · have hlk := h.map.not hin hn
    have HW := hide (wo_none hin)
    clear h hin
    go_enter Tryz.func92, Tryz.ntmps92
    go_wp2
    go_end0
    exact ⟨rfl, L, el, yo, HH.out, HW.out.symm, fun s hs => hs, Mv.refl _ _⟩
end Go.Proofs.YtlmofgfkclfgeaaGreat
