/- SameBytes; what the chapter's examples fix. -/
import Derived.Test.YtlmofgfkclfgeaaGreatOE
import Derived.Test.YtlmofgfkclfgeaaGreatOF
import Derived.BigQuiet
namespace Go.Proofs.YtlmofgfkclfgeaaGreat
open Go.RowKit Go.Maps
set_option linter.unusedVariables false
variable {w w' : World}
theorem below_drewN {w w' : World} (h : Below w.heap.size w w') (k : Nat) : Below w.heap.size w (w'.drewN k) := ⟨h.os, h.tape, h.output, h.size, h.block⟩
/-- so many noughts. -/
def zer (n : Nat) : Array Value := madeCells #[Value.int .u8 0] n
theorem makeZer (n : Nat) (hn : n ≤ 1000000) (W : World) : (Instr.makeSlice 22 (.int .i64 (n : Int)) (.int .i64 (n : Int))).run Tryz.prog W = .ok (.slice (some ⟨W.heap.size, 0, none⟩) n n) (W.alloc (.cells (zer n) 5)) := by
  obtain ⟨i0, hi, hz0, hz1, hz2⟩ := info_parts infoU8
  have := run_make (P := Tryz.prog) W 22 5 i0 _ Tryz.underlying22 hi hz0 .i64 .i64 (n : Int) (n : Int) (by omega) (by omega) (by rw [hz2]; omega) (by omega)
  rw [hz1] at this
  simp only [Int.toNat_natCast, Value.cells, Nat.mul_one] at this
  exact this
theorem zer_cells (n i : Nat) (hi : i < n) : (zer n)[i]? = some (.int .u8 0) := by
  unfold zer madeCells
  simp [hi, Nat.mod_one]
theorem row_zer (n : Nat) (W : World) : Row (W.alloc (.cells (zer n) 5)) (some ⟨W.heap.size, 0, none⟩) (List.replicate n 0) := by
  refine .inr ⟨_, 0, rfl, lt_of_block (heap_alloc_new W _), fun i hi => ?_⟩
  rw [List.length_replicate] at hi
  rw [cell_of_row _ _ _ _ _ _ (heap_alloc_new W _), Nat.zero_add, zer_cells n i hi]
  simp [List.getD_eq_getElem?_getD, hi]
theorem rw_one (w : World) (x : Nat) : Rw (w.alloc (.cells #[.int .u32 (x : Int)] 23)) (some ⟨w.heap.size, 0, none⟩) [x] := by
  refine .inr ⟨_, 0, rfl, lt_of_block (heap_alloc_new w _), fun i hi => ?_⟩
  obtain rfl : i = 0 := by simp at hi; omega
  rw [cell_of_row _ _ _ _ _ _ (heap_alloc_new w _)]; rfl
theorem Ro.first {v : Value} {B : Nat} {vs : List Value} {L : Nat → List Int} (h : Ro w v B vs L) {j : Nat} (hj : j < vs.length) : ∃ g cap a c, v = .slice (some ⟨g, 0, none⟩) vs.length cap ∧ g < w.heap.size ∧ w.cell? ⟨g, j, none⟩ = some (.slice a (L j).length c) ∧ (L j).length ≤ c ∧ c ≤ maxLen ∧ Row w a (L j) ∧ (a = none → (L j).length = 0 ∧ c = 0) := by
  rcases h.row.2 with ⟨_, h0⟩ | ⟨g, cap, cur, rfl, _, hg, _⟩
  · omega
  · obtain ⟨a, c, e, hc, hcm, hn, hrow, _⟩ := (h.own j hj).shape
    refine ⟨g, cap, a, c, rfl, lt_of_block hg, ?_, hc, hcm, hrow, hn⟩
    have := World.ownsRow.cells h.row (g := g) rfl j (.slice a (L j).length c) (by
      rw [← e, List.getD_eq_getElem?_getD, List.getElem?_eq_getElem hj]; rfl)
    rwa [Addr.add_lit, Nat.zero_add] at this
set_option maxHeartbeats 3200000 in
set_option maxRecDepth 1000000 in
theorem known_any (w : World) : Calls Tryz.prog 4 #[] w fun e w' => e = .returned (.bool true) ∧ Below w.heap.size w w' := by
  have hmk : (Instr.makeSlice 22 (.int .i64 70) (.int .i64 70)).run Tryz.prog w = .ok (.slice (some ⟨w.heap.size, 0, none⟩) 70 70) (w.alloc (.cells (zer 70) 5)) := makeZer 70 (by omega) w
  have HEn : Hid (Calls Tryz.prog 17 #[.slice (some ⟨w.heap.size, 0, none⟩) 70 70, .slice (some ⟨w.heap.size + 1, 0, none⟩) 1 1] ((w.alloc (.cells (zer 70) 5)).alloc (.cells #[.int .u32 4] 23)) fun e w' => ∃ g cap a c, e = .returned (.tuple #[.slice (some ⟨g, 0, none⟩) 1 cap, .int .u16 0]) ∧ w'.cell? ⟨g, 0, none⟩ = some (.slice a 74 c) ∧ Below w.heap.size w w') := by
    have h0 : Row ((w.alloc (.cells (zer 70) 5)).alloc (.cells #[.int .u32 4] 23)) (some ⟨w.heap.size, 0, none⟩) (List.replicate 70 0) := (row_zer 70 w).below (below_alloc _ _)
    have h1 := rw_one (w.alloc (.cells (zer 70) 5)) 4
    rw [World.size_alloc] at h1
    refine (encode_ok _ (some ⟨w.heap.size + 1, 0, none⟩) w.heap.size 0 70 70 1 1 (List.replicate 70 0) [4] (by simp) (by omega) (by omega) h0 rfl (by decide) (by omega) (by omega) h1 (fun z hz => by simp at hz; omega) (by decide)).mono ?_
    rintro e w' ⟨v, vs, rfl, hl, hro, hb⟩
    obtain ⟨g, cap, a, c, rfl, _, hc, _⟩ := hro.first (j := 0) (by omega)
    rw [hl]
    refine ⟨g, cap, a, c, rfl, ?_, ?_⟩
    · rw [hc]
      simp [pay, le4]
    · exact (((Below.refl _ w).alloc (Nat.le_refl _) _).alloc (by simp) _).trans (hb.mono (by simp; omega))
  have HN1 : Hid (∀ W, Calls Tryz.prog 18 #[.int .i64 64] W fun e w' => e = .returned (.int .i64 0) ∧ w' = W) := fun W => need_any W 64 (by omega)
  go_enter Tryz.func4, Tryz.ntmps4
  go_wp2_with (go_at_call 17; refine HEn.out.mono ?_; rintro e w1 ⟨g, cap, a, c, rfl, h1, h2⟩; have H2 := hide h2; clear h2 hmk)
  refine (HN1.out _).mono ?_
  rintro e w2 ⟨rfl, hw2⟩
  rw [hw2]
  clear hw2 w2
  go_wp2
  go_ret
  exact ⟨rfl, H2.out⟩
end Go.Proofs.YtlmofgfkclfgeaaGreat
/- OverReads: the walk. -/
namespace Go.Proofs.YtlmofgfkclfgeaaGreat
open Go.RowKit Go.Maps
set_option linter.unusedVariables false
set_option maxHeartbeats 12800000 in
set_option maxRecDepth 1000000 in
theorem reads_walk (w : World) (ia : Option Addr) (il ic : Nat) (iz : List Int) (hi : Inn w ia il ic iz) (M : Int) (hM : -9223372036854775808 ≤ M ∧ M ≤ 9223372036854775807) (first size : Nat) (hf : first < 4294967296) (hs : size < 4294967296) :
    Calls Tryz.prog 3 #[.slice ia il ic, .int .i64 M, .int .u32 (first : Int), .int .u32 (size : Int)] w fun e w' => e = .returned (.bool true) ∧ Below w.heap.size w w' := by
  by_cases hbig : 400000 < il
  · have d0 : (400000 : Int) < (il : Int) := by omega
    clear hi
    go_enter Tryz.func3, Tryz.ntmps3
    go_wp2_with (go_at_call 4; refine (known_any _).mono ?_; rintro e w1 ⟨rfl, hb1⟩; have HB1 := hide hb1; clear hb1)
    go_ret
    exact ⟨rfl, HB1.out⟩
  have d0 : ¬ (400000 : Int) < (il : Int) := by omega
  by_cases hpg : il = 0 ∨ il % 1024 ≠ 0
  · have HL := hide (fun W => load_no ia il ic W (by omega) (by omega))
    have HRL := hide (fun W => rload_no ia il ic W (by omega) (by omega))
    clear hi hpg
    go_enter Tryz.func3, Tryz.ntmps3
    go_wp2_with (first
      | (go_at_call 4; refine (known_any _).mono ?_; rintro e w1 ⟨rfl, hb1⟩; have HB1 := hide hb1; clear hb1)
      | (go_at_call 5; refine (HL.out _).mono ?_; rintro e w2 ⟨rfl, hb2⟩; have HB2 := hide hb2; clear hb2)
      | (go_at_call 6; refine (HRL.out _).mono ?_; rintro e w3 ⟨rfl, rfl⟩))
    go_ret
    exact ⟨rfl, HB1.out.trans (HB2.out.mono HB1.out.size)⟩
  obtain ⟨pg, HPg, hp1, hp2⟩ : ∃ pg, Hid (il = 1024 * pg) ∧ 1 ≤ pg ∧ pg ≤ 16384 := ⟨il / 1024, by rw [Hid]; omega, by omega, by omega⟩
  obtain ⟨b, off, rfl⟩ : ∃ b off, ia = some ⟨b, off, none⟩ := by
    rcases hi.row with h0 | ⟨b', off', e, _⟩
    · have := hi.len
      rw [h0] at this
      have := HPg.out
      simp at *
      omega
    · exact ⟨_, _, e⟩
  have HI := hide hi
  have HL : Hid (∀ W, Below w.heap.size w W → Calls Tryz.prog 5 #[.slice (some ⟨b, off, none⟩) il ic] W fun e w' => ∃ O p q, e = .returned (.tuple #[.pointer (some ⟨p, 0, none⟩), .int .u16 0]) ∧ DkAt w' p q ((DS.new (8 * pg)).las (lsk (8 * pg) iz (8 * pg))) O ∧ Fd W.heap.size W w' O) := fun W hb => by
    have := load_any pg b off ic iz W hp1 hp2 (by rw [HI.out.len, HPg.out]) (HI.out.row.below hb) HI.out.byts (by have := HI.out.cap; have := HPg.out; omega) HI.out.max
    rw [HPg.out]; exact this
  have HRL : Hid (∀ W, Below w.heap.size w W → Calls Tryz.prog 6 #[.slice (some ⟨b, off, none⟩) il ic] W fun e w' => ∃ p f vl Ls, e = .returned (.tuple #[.pointer (some ⟨p, 0, none⟩), .int .u16 0]) ∧ RD w' p vl Ls (.slice none 0 0) [] f (DS.of ((List.range (8 * pg)).map (sec iz))) ∧ (∀ k, OwR p vl Ls (.slice none 0 0) [] f k → W.heap.size ≤ k) ∧ Below W.heap.size W w') := fun W hb => by
    have := rload_any pg b off ic iz W hp1 hp2 (HI.out.row.below hb) (by rw [HI.out.len, HPg.out]) HI.out.byts (by have := HI.out.cap; have := HPg.out; omega) HI.out.max
    rw [HPg.out]; exact this
  obtain ⟨S, HS⟩ : ∃ S, Hid (S = (DS.new (8 * pg)).las (lsk (8 * pg) iz (8 * pg))) := ⟨_, rfl⟩
  have HN1 : Hid (S.n1 + 20 ≤ 1000000) := by rw [Hid, HS.out]; show (0 : Int) + 20 ≤ 1000000; decide
  clear hi hpg hbig
  by_cases hm : M < 1
  · have HP := hide (fun dv W => pnew_no (w := W) M dv hm)
    have HQ := hide (fun dv W => qnew_no (w := W) M dv hm)
    clear hm
    go_enter Tryz.func3, Tryz.ntmps3
    go_wp2_with (first
      | (go_at_call 4; refine (known_any _).mono ?_; rintro e w1 ⟨rfl, hb1⟩; have HB1 := hide hb1; clear hb1)
      | (go_at_call 5; refine (HL.out _ HB1.out).mono ?_; rintro e w2 ⟨Od, d, q, rfl, hd, hfd⟩; have HD2 := hide hd; have HF2 := hide hfd; have HB2 := hide (HB1.out.trans (hfd.below.mono HB1.out.size)); clear hd hfd)
      | (go_at_call 6; refine (HRL.out _ HB2.out).mono ?_; rintro e w3 ⟨r, f, vl, Ls, rfl, hr, hlo, hb3⟩; have HL2 := hide (l2_mk HB1.out HD2.out HF2.out hr hlo hb3); clear hr hlo hb3)
      | (go_at_call 7; refine (HP.out _ _).mono ?_; rintro e w4 ⟨rfl, rfl⟩)
      | (go_at_call 8; refine (HQ.out _ _).mono ?_; rintro e w5 ⟨rfl, rfl⟩))
    go_ret
    obtain ⟨_, _, h2⟩ := HL2.out
    exact ⟨rfl, h2.bel⟩
  obtain ⟨mo, rfl⟩ : ∃ mo : Nat, M = (mo : Int) := ⟨M.toNat, by omega⟩
  have hmo1 : 1 ≤ mo := by omega
  have hmo2 : mo ≤ 9223372036854775807 := by omega
  obtain ⟨T, hT⟩ : ∃ T, (if needN size = 0 then (⟨[], [], 120, S, []⟩ : ChT) else chn mo size (needN size) (needN size) S [] first [] []) = T := ⟨_, rfl⟩
  have HT := hide hT
  have HTl := hide (cht_len first size T hT)
  clear hm hT
  go_enter Tryz.func3, Tryz.ntmps3
  go_wp2_with (first
    | (go_at_call 4; refine (known_any _).mono ?_; rintro e w1 ⟨rfl, hb1⟩; have HB1 := hide hb1; clear hb1)
    | (go_at_call 5; refine (HL.out _ HB1.out).mono ?_; rintro e w2 ⟨Od, d, q, rfl, hd, hfd⟩; have HD2 := hide hd; have HF2 := hide hfd; have HB2 := hide (HB1.out.trans (hfd.below.mono HB1.out.size)); clear hd hfd)
    | (go_at_call 6; refine (HRL.out _ HB2.out).mono ?_; rintro e w3 ⟨r, f, vl, Ls, rfl, hr, hlo, hb3⟩; obtain ⟨O21, O22, hl2⟩ := l2_mk HB1.out HD2.out HF2.out hr hlo hb3; rw [← HS.out] at hl2; have HL2 := hide hl2; clear hr hlo hb3 hl2)
    | (go_at_call 7; refine (pnew_any mo _ rfl _ HL2.out.d hmo1 hmo2).mono ?_; rintro e w4 ⟨p, O31, rfl, hp, hg⟩; have HL3 := hide (HL2.out.pool hp hg); clear hp hg)
    | (go_at_call 8; refine (qnew_any mo _ rfl HL3.out.r hmo1 hmo2).mono ?_; rintro e w5 ⟨p2, O42, rfl, hq, hg⟩; have HL4 := hide (HL3.out.pool hq hg); clear hq hg)
    | (go_at_call 9; refine (pread_any HL4.out.p HN1.out first size hf hs T HT.out).mono ?_; rintro e w6 ⟨av, vn, vc, al, ln, lc, O51, rfl, hv, hl, hp, hg, hn⟩; have HL5 := hide (And.intro hv (And.intro hl (And.intro hp (And.intro hg hn)))); have HQ6 := hide ((HL4.out.one hp hg).r); clear hv hl hp hg hn)
    | (go_at_call 10; refine (oread_any HQ6.out (by simp) HN1.out first size hf hs T HT.out).mono ?_; rintro e w7 ⟨au, un, uc, am, mn, mc, O62, rfl, hc⟩; have HL7 := hide (l5_mk HL4.out HL5.out.1 HL5.out.2.1 HL5.out.2.2.1 HL5.out.2.2.2.1 HL5.out.2.2.2.2 hc); clear hc)
    | (go_at_call 11; refine (bk_bytes HL7.out (below_alloc _ _) (Bo.book_new w7)).mono ?_; rintro e w9 ⟨rfl, v0, A0, C0, Z0, k1, k2, k3⟩; have HK9 := hide k1; have HF9 := hide k2; have HB9 := hide k3; clear k1 k2 k3)
    | (go_at_call 12; refine (bk_words HL7.out HB9.out HK9.out HF9.out).mono ?_; rintro e wa ⟨rfl, v5, A5, C5, Z5, k1, k2, k3, k4⟩; have HKa := hide k1; have HFa := hide k2; have HGa := hide k3; have HBa := hide k4; clear k1 k2 k3 k4))
  have L := HL7.out.below HBa.out
  have HKeep : Hid (∀ W, Below wa.heap.size wa W → W.cell? ⟨r, 5, none⟩ = some (.int .i64 T.S.n1) ∧ W.cell? ⟨r, 6, none⟩ = some (.int .i64 T.S.n2) ∧ W.cell? ⟨r, 7, none⟩ = some (.int .i64 T.S.n3)) := fun W hW => (L.below hW).cn
  have HSb : Hid (∀ W, Below wa.heap.size wa W → Calls Tryz.prog 13 #[.slice av vn vc, .slice au un uc] W fun e w' => e = .returned (.bool true) ∧ Below wa.heap.size wa w') := fun W hW => by
    refine ((L.below hW).sb).mono ?_
    rintro e w' ⟨rfl, hb⟩
    exact ⟨rfl, hW.trans (hb.mono hW.size)⟩
  have HSw : Hid (∀ W, Below wa.heap.size wa W → Calls Tryz.prog 14 #[.slice al ln lc, .slice am mn mc] W fun e w' => e = .returned (.bool true) ∧ Below wa.heap.size wa w') := fun W hW => by
    refine ((L.below hW).sw HTl.out.2).mono ?_
    rintro e w' ⟨rfl, hb⟩
    exact ⟨rfl, hW.trans (hb.mono hW.size)⟩
  have HCt : Hid (∀ W, Below wa.heap.size wa W → Calls Tryz.prog 15 #[.pointer (some ⟨d, 0, none⟩)] W fun e w' => e = .returned (.agg #[.int .i64 T.S.n1, .int .i64 T.S.n2, .int .i64 T.S.n3]) ∧ Below wa.heap.size wa w') := fun W hW => by
    refine (pcounts (L.below hW).l4.p).mono ?_
    rintro e w' ⟨rfl, hb⟩
    exact ⟨rfl, hW.trans (hb.mono hW.size)⟩
  have HOw : Hid (∀ W, Below wa.heap.size wa W → Calls Tryz.prog 16 #[.pointer (some ⟨w7.heap.size, 0, none⟩)] W fun e w' => e = .returned (.bool true) ∧ Below w.heap.size w w' ∧ W.heap[r]? = w'.heap[r]?) := fun W hW => by
    refine (bk_own HL7.out (HBa.out.trans (hW.mono HBa.out.size)) HTl.out (HKa.out.below hW) (HFa.out.below hW) (HGa.out.below hW)).mono ?_
    rintro e w' ⟨rfl, hb, hr⟩
    exact ⟨rfl, hb, hr.symm⟩
  obtain ⟨q5, q6, q7⟩ := HKeep.out wa (Below.refl _ _)
  clear L HL HRL HD2 HF2 HL2 HL3 HL4 HL5 HL7 HK9 HF9 HB9 HKa HFa HGa HBa HQ6
  generalize T.S.n1 = N1 at *
  generalize T.S.n2 = N2 at *
  generalize T.S.n3 = N3 at *
  generalize T.e = Te at *
  have hx2 : ((Te : Int) == (Te : Int)) = true := by simp
  have hx3 : (N1 == N1) = true := by simp
  have hx4 : (N2 == N2) = true := by simp
  have hx5 : (N3 == N3) = true := by simp
  go_region_held3 (fun W => W.cell? ⟨r, 5, none⟩ = some (.int .i64 N1) ∧ W.cell? ⟨r, 6, none⟩ = some (.int .i64 N2) ∧ W.cell? ⟨r, 7, none⟩ = some (.int .i64 N3)) ((refine ⟨?_, ?_, ?_⟩ <;> assumption)) ((first
    | (go_at_call 13; refine (HSb.out _ (Below.refl _ _).drew).mono ?_; rintro e w21 ⟨rfl, b21⟩; have B21 := hide b21; clear q5 q6 q7; obtain ⟨q5, q6, q7⟩ := HKeep.out _ b21; clear b21)
    | (go_at_call 14; refine (HSw.out _ B21.out).mono ?_; rintro e w22 ⟨rfl, b22⟩; have B22 := hide b22; clear q5 q6 q7; obtain ⟨q5, q6, q7⟩ := HKeep.out _ b22; clear b22)
    | (go_at_call 15; refine (HCt.out _ B22.out).mono ?_; rintro e w23 ⟨rfl, b23⟩; have B23 := hide b23; clear q5 q6 q7; obtain ⟨q5, q6, q7⟩ := HKeep.out _ b23; clear b23)
    | (go_at_call 16; refine (HOw.out _ B23.out).mono ?_; rintro e w24 ⟨rfl, b24, r24⟩; have B24 := hide b24; have p5 : w24.cell? ⟨r, 5, none⟩ = some (.int .i64 N1) := by { rw [← q5]; simp only [World.cell?, r24] }; have p6 : w24.cell? ⟨r, 6, none⟩ = some (.int .i64 N2) := by { rw [← q6]; simp only [World.cell?, r24] }; have p7 : w24.cell? ⟨r, 7, none⟩ = some (.int .i64 N3) := by { rw [← q7]; simp only [World.cell?, r24] }; clear q5 q6 q7 b24 r24)))
  go_wp2
  go_ret
  exact ⟨rfl, B24.out⟩
end Go.Proofs.YtlmofgfkclfgeaaGreat
/- The Go function OverReads answers true for every image, every size of the pools, every first page and every size, and leaves them as they were. No condition. -/
namespace Go.Proofs.YtlmofgfkclfgeaaGreat.Reads
open Go.ChangeShapes Go.WideShapes Go.ChangeAt Go.RowKit
set_option linter.unusedVariables false

theorem walk' {w : World} (ia : Option Addr) (il ic : Nat) (zs : List Int) (hz : IsRow .u8 w ia il ic zs) (M : Int) (hm : (Lit.int .i64 M).wf = true) (x : Int) (hx : (Lit.int .u32 x).wf = true) (y : Int) (hy : (Lit.int .u32 y).wf = true) :
    Calls Tryz.prog 3 #[.slice ia il ic, .int .i64 M, .int .u32 x, .int .u32 y] w fun e w' => e = .returned (.bool true) ∧ Below w.heap.size w w' := by
  have h1 := bounds_u32 hx
  have h2 := bounds_u32 hy
  obtain ⟨a, rfl⟩ := Int.eq_ofNat_of_zero_le h1.1
  obtain ⟨b, rfl⟩ := Int.eq_ofNat_of_zero_le h2.1
  exact reads_walk w ia il ic _ (isrow_inn hz) M (bounds_i64 hm) a b (by omega) (by omega)
set_option maxHeartbeats 1600000 in
set_option maxRecDepth 100000 in
theorem lifted (os : Os) (started : os.Started) (H : Type) (enc : TypeId × Value → H) :
    ReturnsInHanded {} Tryz.checked os 3 .any (Rows.overReadsSpec.pre6 enc Tryz.prog Tryz.f3 Rows.overReadsRow.domain false) (Rows.overReadsSpec.post enc Tryz.prog Tryz.f3 false true false false) := by
  refine returnsInHanded_of_change (C := Tryz.checked) own started (by kernel_rfl) Tryz.func3
    (ChangeSpec.witness6 (enc := enc) (C := Tryz.checked) false ⟨#[], #[.slice none 0 0, .int .i64 0, .int .u32 0, .int .u32 0], []⟩ 8 (by kernel_rfl) (by kernel_rfl) (by kernel_rfl) (by kernel_rfl)) ?_
  intro W base args ds gs before hval0 hW hcnd _
  have hval : ∀ (j : Nat) t v, Tryz.f3.params[j]? = some t → args[j]? = some v → Value.okWide Tryz.prog W .any base t v := hval0
  have hW' := hW
  obtain ⟨p, q, hA0, hV, rfl, hfz, hnd⟩ := hW
  have hA : DataW.TrodAll enc Tryz.prog W 0 (fun _ => true) true Tryz.f3.params.toList args.toList ds p := hA0
  rw [Tryz.params3] at hA hval
  obtain ⟨v0, vs0, d0, ds0, p0, q0, hargs, rfl, rfl, h0, r0⟩ := trodAll_cons hA
  obtain ⟨v1, vs1, d1, ds1, p1, q1, rfl, rfl, rfl, h1, r1⟩ := trodAll_cons r0
  obtain ⟨v2, vs2, d2, ds2, p2, q2, rfl, rfl, rfl, h2, r2⟩ := trodAll_cons r1
  obtain ⟨v3, vs3, d3, ds3, p3, q3, rfl, rfl, rfl, h3, r3⟩ := trodAll_cons r2
  obtain ⟨rfl, rfl, rfl⟩ := trodAll_nil r3
  obtain rfl : args = #[v0, v1, v2, v3] := by cases args; simp_all
  obtain ⟨rfl, rfl⟩ := trodVars_none hV
  obtain ⟨a0, len0, cap0, rfl⟩ := okWide_slice Tryz.underlying22 (hval 0 22 v0 rfl rfl)
  have k0 := h0
  have lt0 : ∀ x ∈ p0, x.block < W.heap.size := by obtain ⟨m, hm⟩ := k0; exact DataW.trod_lt m _ _ _ hm
  obtain ⟨z0, w0⟩ : ∃ zs, IsRow .u8 W a0 len0 cap0 zs := by
    obtain ⟨fuel, hf⟩ := h0
    rcases open_ints Tryz.underlying22 Tryz.underlying5 (by kernel_rfl) hf with ⟨hcs, _⟩ | ⟨x, l, c, zs, hcs, _, hl, hm, hz, _, hcell, hwz⟩
    · simp [Value.cells] at hcs
      obtain ⟨rfl, rfl, rfl⟩ := hcs
      exact ⟨[], .inl ⟨rfl, rfl, rfl, rfl⟩⟩
    · simp [Value.cells] at hcs
      obtain ⟨rfl, rfl, rfl⟩ := hcs
      exact ⟨zs, .inr ⟨_, rfl, hl, hm, by simpa using hz, hcell, hwz⟩⟩
  obtain ⟨a1, rfl, rfl, rfl, w1⟩ := open_int Tryz.underlying3 (hval 1 3 v1 rfl rfl) h1
  obtain ⟨a2, rfl, rfl, rfl, w2⟩ := open_int Tryz.underlying23 (hval 2 23 v2 rfl rfl) h2
  obtain ⟨a3, rfl, rfl, rfl, w3⟩ := open_int Tryz.underlying23 (hval 3 23 v3 rfl rfl) h3
  clear hA0 hval0
  have hwk := walk' a0 len0 cap0 z0 w0 a1 w1 a2 w2 a3 w3
  refine hwk.mono fun e W' ⟨he, bel⟩ => ?_
  subst he
  exact ⟨_, rfl, _, _, _, [], _, [], hW', trodAll_mk1 (shut_bool Tryz.underlying4 _), (trodAll_cons_mk (Below.trod laidOut (by kernel_rfl) (of_decide_eq_true (by kernel_rfl)) k0 bel lt0) (trodAll_cons_mk (shut_int Tryz.underlying3 w1) (trodAll_cons_mk (shut_int Tryz.underlying23 w2) (trodAll_cons_mk (shut_int Tryz.underlying23 w3) trodAll_mk0)))), rfl, bel.frame _, fun h => by cases h⟩

theorem over : Rows.overReadsRow.holds Tryz.pinned (OpenSpec.ofChange Rows.overReadsSpec) :=
  OpenClaim.holds_of_wide 3 Tryz.f3 rfl rfl rfl rfl rfl rfl rfl ⟨rfl, rfl, rfl, rfl, rfl⟩ rfl rfl rfl rfl rfl (by kernel_rfl) Tryz.func3 (by kernel_rfl)
    (of_decide_eq_true (by kernel_rfl)) (by unfold Func.isWrapper; first | (rw [if_pos (by decide +kernel)]; kernel_rfl) | (rw [if_neg (by decide +kernel)]; exact ⟨rfl, rfl⟩))
    (fun os started H enc _ => lifted os started H enc)

end Go.Proofs.YtlmofgfkclfgeaaGreat.Reads
namespace Go.Proofs.YtlmofgfkclfgeaaGreat
theorem overReads_holds : Rows.OverReadsSaid := Reads.over
#print axioms overReads_holds
end Go.Proofs.YtlmofgfkclfgeaaGreat
