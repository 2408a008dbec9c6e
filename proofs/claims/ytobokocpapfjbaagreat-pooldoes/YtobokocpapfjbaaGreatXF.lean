/- Read, of the document's own disk. -/
import Derived.Test.YtobokocpapfjbaaGreatXD
import Derived.Test.YtobokocpapfjbaaGreatWC
import Derived.Test.YtobokocpapfjbaaGreatDT
namespace Go.Proofs.YtobokocpapfjbaaGreat
open Go.RowKit Go.Maps
set_option linter.unusedVariables false
variable {w w' : World} {p f : Nat} {vl vc : Value} {Ls Cs : List Value} {S S' : DS}

theorem Mv.on {O : Nat → Prop} {w w1 w2 : World} (h : Mv O w w1) (hb : Below w1.heap.size w1 w2) : Mv O w w2 := ⟨hb.os.trans h.os, hb.tape.trans h.tape, hb.output.trans h.output, Nat.le_trans h.size hb.size, fun k hk hn => (hb.block k (Nat.lt_of_lt_of_le hk h.size)).trans (h.block k hk hn)⟩
theorem Sl.src {v : Value} {zs : List Int} (h : Sl w v zs) : Src Tryz.prog 1 22 v zs.length (zs.map (Value.int .u8)) w := by
  obtain ⟨a, c, rfl, h1, h2, h3, h4⟩ := h.shape
  exact src_row w a _ c zs rfl h3 h4
set_option maxHeartbeats 800000 in
set_option maxRecDepth 1000000 in
theorem rpages_any (h : RD w p vl Ls vc Cs f S) : Calls Tryz.prog 43 #[.pointer (some ⟨p, 0, none⟩)] w fun e w' => e = .returned (.int .i64 ((S.ls.length / 8 : Nat) : Int)) ∧ w' = w := by
  obtain ⟨N, HN, hNm⟩ : ∃ N, Hid (N = S.ls.length) ∧ N ≤ 131072 := ⟨_, rfl, h.good.most⟩
  obtain ⟨ca, cc, hvl⟩ := row_len h.las
  rw [← HN.out] at hvl ⊢
  have c0 := h.c 0 vl rfl
  rw [hvl] at c0
  clear h hvl
  go_enter Tryz.func43, Tryz.ntmps43
  go_wp2
  go_ret
  exact ⟨rfl, rfl⟩
set_option maxHeartbeats 1600000 in
set_option maxRecDepth 1000000 in
theorem rread_er (h : RD w p vl Ls vc Cs f S) (pg : Int) (hn : S.n1 + 1 ≤ 1000000) (he : S.er S.s1 S.l1 ≠ 0) :
    Calls Tryz.prog 53 #[.pointer (some ⟨p, 0, none⟩), .int .i64 pg] w fun e w' => e = .returned (.tuple #[.slice none 0 0, .int .u16 (S.er S.s1 S.l1 : Int)]) ∧ RD w' p vl Ls vc Cs f (S.be S.op1) ∧ Mv (fun k => k = p ∨ k = f) w w' := by
  have HB := hide (begins1 h hn)
  obtain ⟨r, HR⟩ : ∃ r, Hid (r = S.er S.s1 S.l1) := ⟨_, rfl⟩
  rw [← HR.out] at HB he ⊢
  have he' : ((r : Int) == 0) = false := by simp; omega
  have hz := zero63
  clear h hn he
  go_enter Tryz.func53, Tryz.ntmps53
  go_wp2_with fail
  refine HB.out.mono ?_
  rintro e w' ⟨rfl, hh⟩
  have HH := hide hh
  clear hh
  go_wp2
  go_ret2
  exact ⟨rfl, HH.out⟩
set_option maxHeartbeats 1600000 in
set_option maxRecDepth 1000000 in
theorem rread_no (h : RD w p vl Ls vc Cs f S) (pg : Int) (hn : S.n1 + 1 ≤ 1000000) (he : S.er S.s1 S.l1 = 0) (hbad : ¬ (0 ≤ pg ∧ pg < ((S.ls.length / 8 : Nat) : Int))) :
    Calls Tryz.prog 53 #[.pointer (some ⟨p, 0, none⟩), .int .i64 pg] w fun e w' => e = .returned (.tuple #[.slice none 0 0, .int .u16 2]) ∧ RD w' p vl Ls vc Cs f (S.be S.op1) ∧ Mv (fun k => k = p ∨ k = f) w w' := by
  have HB := hide (begins1 h hn)
  rw [he] at HB
  have HL : Hid ((S.be S.op1).ls = S.ls) := by rw [be_zero he]; rfl
  have hz := zero63
  clear h hn he
  by_cases h0 : pg < 0
  · have hd0 : decide (pg < 0) = true := by simp [h0]
    clear hbad h0
    go_enter Tryz.func53, Tryz.ntmps53
    go_wp2_with fail
    refine HB.out.mono ?_
    rintro e w' ⟨rfl, hh⟩
    have HH := hide hh
    clear hh
    go_wp2
    go_ret2
    exact ⟨rfl, HH.out⟩
  · have hd0 : decide (pg < 0) = false := by simp [h0]
    obtain ⟨N, HN⟩ : ∃ N, Hid (N = S.ls.length / 8) := ⟨_, rfl⟩
    have hd1 : decide ((N : Int) ≤ pg) = true := by rw [HN.out]; simp; omega
    clear hbad h0
    go_enter Tryz.func53, Tryz.ntmps53
    go_wp2_with fail
    refine HB.out.mono ?_
    rintro e w' ⟨rfl, hh⟩
    have HH := hide hh
    have HP := hide (rpages_any hh.1)
    rw [HL.out, ← HN.out] at HP
    clear hh
    go_wp2_with fail
    refine HP.out.mono ?_
    rintro e w'' ⟨rfl, rfl⟩
    go_wp2
    go_ret2
    exact ⟨rfl, HH.out⟩
set_option maxHeartbeats 1600000 in
set_option maxRecDepth 1000000 in
theorem rread_any (h : RD w p vl Ls vc Cs f S) (pg : Nat) (hn : S.n1 + 1 ≤ 1000000) (he : S.er S.s1 S.l1 = 0) (hpg : pg < S.ls.length / 8) :
    Calls Tryz.prog 53 #[.pointer (some ⟨p, 0, none⟩), .int .i64 (pg : Int)] w fun e w' => ∃ v, e = .returned (.tuple #[v, .int .u16 0]) ∧ Own w' v (rd S (8 * pg) 8) ∧ (∀ g, v.ownBlock = some g → w.heap.size ≤ g) ∧ RD w' p vl Ls vc Cs f (S.be S.op1) ∧ Mv (fun k => k = p ∨ k = f) w w' := by
  have HB := hide (begins1 h hn)
  rw [he] at HB
  have HL : Hid ((S.be S.op1).ls = S.ls) := by rw [be_zero he]; rfl
  have hz := zero63
  have hN := h.good.most
  have HG := hide h.good
  have HO1 : Hid (S.be S.op1 = S.op1) := be_zero he
  have HNe : Hid (∀ n, newest S.op1 n = newest S n) := fun n => rfl
  clear h hn he
  have hd0 : decide ((pg : Int) < 0) = false := by simp
  obtain ⟨N, HN⟩ : ∃ N, Hid (N = S.ls.length / 8) := ⟨_, rfl⟩
  have hpN : pg < N := by rw [HN.out]; exact hpg
  have hN8 : N ≤ 16384 := by rw [HN.out]; omega
  have hd1 : decide (N ≤ pg) = false := by simp; omega
  clear hN hpg
  go_enter Tryz.func53, Tryz.ntmps53
  go_wp2_with fail
  refine HB.out.mono ?_
  rintro e w1 ⟨rfl, hh⟩
  have HH := hide hh
  have HP := hide (rpages_any hh.1)
  rw [HL.out, ← HN.out] at HP
  clear hh
  go_wp2_with fail
  refine HP.out.mono ?_
  rintro e w'' ⟨rfl, rfl⟩
  rw [HO1.out] at HH
  obtain ⟨i0, hi, hz0, hz1, hz2⟩ := info_parts Tryz.info5
  go_wp2
  go_loopw [8, 7] (fun i v wr' => ∃ k : Nat, k ≤ 8 ∧ i = .int .i64 (k : Int) ∧ Own wr' v (rd S (8 * pg) k) ∧ (∀ g, v.ownBlock = some g → w''.heap.size ≤ g) ∧ Below w''.heap.size w'' wr') (fun i _ _ => 8 - (intOf i).toNat)
  case atStart => exact ⟨0, Nat.zero_le _, rfl, World.ownsRow_nil _ _ _ _, fun g hg => by simp [Value.ownBlock] at hg, Below.refl _ _⟩
  case round =>
    obtain ⟨k, hk, rfl, hown, hnew, hb⟩ := hrel
    have HO := hide hown
    have HNw := hide hnew
    have HB := hide hb
    clear hown hnew hb
    by_cases hlt : k < 8
    · have hkl : 8 * pg + k < S.ls.length := by have := HN.out; omega
      have hd2 : decide ((k : Int) < 8) = true := by simp; omega
      have hw1 : IntKind.i64.wrap (8 * (pg : Int)) = 8 * (pg : Int) := by rw [IntKind.wrap_i64]; omega
      have hw2 : IntKind.i64.wrap (8 * (pg : Int) + (k : Int)) = ((8 * pg + k : Nat) : Int) := by rw [IntKind.wrap_i64]; omega
      have HS := hide (rsector_any (HH.out.1.below HB.out) (8 * pg + k) hkl)
      have HGn : Hid ((newest S (8 * pg + k)).length = 128) := (newest_good HG.out _ hkl).1
      have HRl : Hid ((rd S (8 * pg) k).length = k * 128) := rd_len HG.out _ k (by omega)
      rw [show ((8 * pg + k : Nat) : Int) = 8 * (pg : Int) + (k : Int) by omega] at HS
      have HEnd : Hid (∀ v' w4, Own w4 v' (rd S (8 * pg) k ++ newest S (8 * pg + k)) → wr.grownBy w4 u7.ownBlock → (∀ g, v'.ownBlock = some g → u7.ownBlock = some g ∨ wr.heap.size ≤ g) → ∃ k' : Nat, k' ≤ 8 ∧ Value.int .i64 ((k : Int) + 1) = .int .i64 (k' : Int) ∧ Own w4 v' (rd S (8 * pg) k') ∧ (∀ g, v'.ownBlock = some g → w''.heap.size ≤ g) ∧ Below w''.heap.size w'' w4) := fun v' w4 ho hg hl => by
        refine ⟨k + 1, by omega, by simp, by rw [rd_succ]; exact ho, fun g hv => (hl g hv).elim (HNw.out g) (fun h => Nat.le_trans HB.out.size h), ?_⟩
        refine ⟨hg.os.trans HB.out.os, hg.tape.trans HB.out.tape, hg.output.trans HB.out.output, Nat.le_trans HB.out.size hg.size, fun j hj => ?_⟩
        rw [hg.block j (Nat.lt_of_lt_of_le hj HB.out.size) (fun e => by have := HNw.out j e.symm; omega)]
        exact HB.out.block j hj
      have HBd : Hid ((rd S (8 * pg) k).length + 128 ≤ 140737488355328) := by rw [Hid, HRl.out]; omega
      clear hkl
      go_wp2_with fail
      refine HS.out.mono ?_
      rintro e w3 ⟨v, rfl, hsl, rfl⟩
      have hsr := hsl.src
      rw [HNe.out, HGn.out] at hsr
      have HSr := hide hsr
      clear hsl hsr
      go_wp2_with (at_builtin; refine wpList_append_src (by rfl) (.tmp 26) (.tmp 32) 22 22 (by rfl) i0 Tryz.underlying22 hi hz0 hz1 hz2 u7 _ (by rfl) HO.out _ 128 (newest S (8 * pg + k)) (by rfl) HSr.out HBd.out ?_; intro v' w4 ho4 hg4 hl4; have HO4 := hide ho4; have HG4 := hide hg4; have HL4 := hide hl4; clear ho4 hg4 hl4)
      go_roundw
      case rel => exact HEnd.out v' w4 HO4.out HG4.out HL4.out
      case measure => simp [intOf]; omega
    · have e : k = 8 := by omega
      subst e
      go_wp2
      go_ret2
      exact ⟨_, rfl, HO.out, fun g hg => Nat.le_trans HH.out.2.size (HNw.out g hg), by rw [HO1.out]; exact HH.out.1.below HB.out, HH.out.2.on HB.out⟩
end Go.Proofs.YtobokocpapfjbaaGreat
/- Image. -/
namespace Go.Proofs.YtobokocpapfjbaaGreat
open Go.RowKit Go.Maps
set_option linter.unusedVariables false

theorem make63n (n : Nat) (hn : n ≤ 20000000) (W : World) : (Instr.makeSlice 22 (.int .i64 0) (.int .i64 (n : Int))).run Tryz.prog W = .ok (.slice (some ⟨W.heap.size, 0, none⟩) 0 n) (W.alloc (.cells (madeCells #[.int .u8 0] n) 5)) := by
  obtain ⟨i0, hi, hz0, hz1, hz2⟩ := info_parts Tryz.info5
  have := run_make (P := Tryz.prog) W 22 5 i0 _ Tryz.underlying22 hi hz0 .i64 .i64 0 (n : Int) (by omega) (by omega) (by rw [hz2]; omega) (by omega)
  rw [hz1] at this
  simpa [Value.cells] using this
theorem flat_take (L : List (List Int)) (k : Nat) (hk : k < L.length) : (L.take (k + 1)).flatten = (L.take k).flatten ++ L.getD k [] := by
  rw [List.take_succ_eq_append_getElem hk, List.flatten_append, List.getD_eq_getElem?_getD, List.getElem?_eq_getElem hk]
  simp
theorem flat_tlen (L : List (List Int)) (h : ∀ s ∈ L, s.length = 128) : ∀ k, k ≤ L.length → (L.take k).flatten.length = k * 128
  | 0, _ => by simp
  | k + 1, hk => by rw [flat_take L k (by omega), List.length_append, flat_tlen L h k (by omega), h _ (getD_mem _ _ _ (by omega)), Nat.add_mul]
set_option maxHeartbeats 3200000 in
set_option maxRecDepth 1000000 in
theorem image_any (p q : Nat) (O : Nat → Prop) (S : DS) (w : World) (h : DkAt w p q S O) : Calls Tryz.prog 33 #[.pointer (some ⟨p, 0, none⟩)] w fun e w' => ∃ v, e = .returned v ∧ Own w' v S.ls.flatten ∧ (∀ g, v.ownBlock = some g → w.heap.size ≤ g) ∧ Below w.heap.size w w' := by
  obtain ⟨vw, m, hd, ho⟩ := h
  have HD : Hid (∀ W, Below w.heap.size w W → Dk W p q vw m S) := fun W hb => hd.below hb
  have HG := hide hd.good
  obtain ⟨N, HN, hNm⟩ : ∃ N, Hid (N = S.ls.length) ∧ N ≤ 131072 := ⟨_, rfl, hd.good.most⟩
  have HC : Hid (∀ W, Below w.heap.size w W → W.cell? ⟨p, 0, none⟩ = some (.slice (some ⟨q, 0, none⟩) N N)) := fun W hb => by rw [HN.out]; exact (HD.out W hb).c 0 _ rfl
  have c0 := HC.out w (Below.refl _ _)
  have hx1 : IntKind.i64.wrap ((N : Int) * 128) = (N : Int) * 128 := by rw [IntKind.wrap_i64]; omega
  have hmk : ∀ W, (Instr.makeSlice 22 (.int .i64 0) (.int .i64 ((N : Int) * 128))).run Tryz.prog W = .ok (.slice (some ⟨W.heap.size, 0, none⟩) 0 (N * 128)) (W.alloc (.cells (madeCells #[.int .u8 0] (N * 128)) 5)) := fun W => by
    have := make63n (N * 128) (by omega) W
    rwa [show ((N * 128 : Nat) : Int) = (N : Int) * 128 by omega] at this
  have c0' := HC.out _ (below_alloc w (.cells (madeCells #[.int .u8 0] (N * 128)) 5))
  obtain ⟨i0, hi, hz0, hz1, hz2⟩ := info_parts Tryz.info5
  clear hd ho
  go_enter Tryz.func33, Tryz.ntmps33
  go_wp2
  clear c0 c0'
  go_loopw [17, 3] (fun i v wr' => ∃ k : Nat, k ≤ N ∧ i = .int .i64 (k : Int) ∧ Own wr' v (S.ls.take k).flatten ∧ (∀ g, v.ownBlock = some g → w.heap.size ≤ g) ∧ Below w.heap.size w wr') (fun i _ _ => N - (intOf i).toNat)
  case atStart =>
    refine ⟨0, Nat.zero_le _, rfl, ?_, ?_, below_alloc _ _⟩
    · exact World.ownsRow_made w _ (N * 128) (Nat.zero_le _) (by unfold maxLen; omega) (by rw [size_madeCells, Nat.mul_one])
    · intro g hg; simp only [Value.ownBlock] at hg; cases hg; exact Nat.le_refl _
  case round =>
    obtain ⟨k, hk, rfl, hown, hnew, hb⟩ := hrel
    have HO := hide hown
    have HNw := hide hnew
    have HB := hide hb
    clear hown hnew hb
    by_cases hlt : k < N
    · have hkl : k < S.ls.length := by rw [← HN.out]; exact hlt
      have c0 := HC.out wr HB.out
      have hnb : decide (k < N) = true := by simp [hlt]
      have HSr : Hid (Src Tryz.prog 1 22 (.slice (some ⟨q, k * 128, none⟩) 128 128) 128 ((S.ls.getD k []).map (Value.int .u8)) wr) := by
        have hl := (HG.out.ls _ (getD_mem S.ls k [] hkl)).1
        refine Src.ofSlice wr Tryz.underlying22 ⟨q, k * 128, none⟩ 128 128 _ (by rw [List.length_map]; omega) (fun j u hu => ?_) (ints_oneCell _ _)
        rw [Addr.add_lit]
        exact (HD.out wr HB.out).las_at k hkl j u hu
      have HBd : Hid ((S.ls.take k).flatten.length + 128 ≤ 140737488355328) := by
        rw [Hid, flat_tlen S.ls (fun s hs => (HG.out.ls s hs).1) k (by omega)]; omega
      have HEnd : Hid (∀ v' w4, Own w4 v' ((S.ls.take k).flatten ++ S.ls.getD k []) → wr.grownBy w4 u3.ownBlock → (∀ g, v'.ownBlock = some g → u3.ownBlock = some g ∨ wr.heap.size ≤ g) → ∃ k' : Nat, k' ≤ N ∧ Value.int .i64 ((k : Int) + 1) = .int .i64 (k' : Int) ∧ Own w4 v' (S.ls.take k').flatten ∧ (∀ g, v'.ownBlock = some g → w.heap.size ≤ g) ∧ Below w.heap.size w w4) := fun v' w4 ho hg hl => by
        refine ⟨k + 1, by omega, by simp, by rw [flat_take S.ls k hkl]; exact ho, fun g hv => (hl g hv).elim (HNw.out g) (fun h => Nat.le_trans HB.out.size h), ?_⟩
        refine ⟨hg.os.trans HB.out.os, hg.tape.trans HB.out.tape, hg.output.trans HB.out.output, Nat.le_trans HB.out.size hg.size, fun j hj => ?_⟩
        rw [hg.block j (Nat.lt_of_lt_of_le hj HB.out.size) (fun e => by have := HNw.out j e.symm; omega)]
        exact HB.out.block j hj
      clear hkl
      go_wp2_with (at_builtin; refine wpList_append_src (by rfl) (.tmp 20) (.tmp 27) 22 22 (by rfl) i0 Tryz.underlying22 hi hz0 hz1 hz2 u3 _ (by rfl) HO.out _ 128 (S.ls.getD k []) (by rfl) HSr.out HBd.out ?_; intro v' w4 ho4 hg4 hl4; have HO4 := hide ho4; have HG4 := hide hg4; have HL4 := hide hl4; clear ho4 hg4 hl4)
      go_roundw
      case rel => exact HEnd.out v' w4 HO4.out HG4.out HL4.out
      case measure => simp [intOf]; omega
    · have e : k = N := by omega
      subst e
      have HE : Hid (S.ls.take k = S.ls) := by rw [Hid, HN.out]; exact List.take_length
      rw [HE.out] at HO
      go_wp2
      go_ret
      exact ⟨_, rfl, HO.out, HNw.out, HB.out⟩
/-- a slice's first cells hold these ints. -/
def IRow (w : World) (a : Option Addr) (zs : List Nat) : Prop :=
  zs = [] ∨ ∃ b off, a = some ⟨b, off, none⟩ ∧ b < w.heap.size ∧ ∀ i, i < zs.length → w.cell? ⟨b, off + i, none⟩ = some (.int .i64 ((zs.getD i 0 : Nat) : Int))
theorem IRow.below {w w' : World} {a : Option Addr} {zs : List Nat} (h : IRow w a zs) (hb : Below w.heap.size w w') : IRow w' a zs := by
  rcases h with h | ⟨b, off, rfl, hlt, hc⟩
  · exact .inl h
  · exact .inr ⟨b, off, rfl, Nat.lt_of_lt_of_le hlt hb.size, fun i hi => (hb.cell (p := ⟨b, off + i, none⟩) hlt).trans (hc i hi)⟩
theorem OwnI.row {w : World} {v : Value} {zs : List Nat} (h : OwnI w v zs) : ∃ a c, v = .slice a zs.length c ∧ IRow w a zs := by
  rcases h.2 with ⟨rfl, h0⟩ | ⟨g, cap, cur, rfl, _, hg, _⟩
  · exact ⟨none, 0, by rw [h0], .inl (List.eq_nil_of_length_eq_zero h0)⟩
  · refine ⟨_, cap, rfl, .inr ⟨g, 0, rfl, lt_of_block hg, fun i hi => ?_⟩⟩
    have := World.ownsRow.cells h (g := g) rfl i (.int .i64 ((zs.getD i 0 : Nat) : Int)) (by simp [hi])
    rwa [Addr.add_lit] at this
end Go.Proofs.YtobokocpapfjbaaGreat
/- Image and Pending, of the document's own disk. -/
namespace Go.Proofs.YtobokocpapfjbaaGreat
open Go.RowKit Go.Maps
set_option linter.unusedVariables false
variable {w w' : World} {p f : Nat} {vl vc : Value} {Ls Cs : List Value} {S S' : DS}

set_option maxHeartbeats 1600000 in
set_option maxRecDepth 1000000 in
theorem rimage_any (h : RD w p vl Ls vc Cs f S) : Calls Tryz.prog 34 #[.pointer (some ⟨p, 0, none⟩)] w fun e w' => ∃ v, e = .returned v ∧ Own w' v S.ls.flatten ∧ (∀ g, v.ownBlock = some g → w.heap.size ≤ g) ∧ Below w.heap.size w w' := by
  obtain ⟨N, HN, hNm⟩ : ∃ N, Hid (N = S.ls.length) ∧ N ≤ 131072 := ⟨_, rfl, h.good.most⟩
  have HG := hide h.good
  obtain ⟨ca, cc, hvl⟩ := row_len h.las
  rw [← HN.out] at hvl
  have HC0 : Hid (∀ W, Below w.heap.size w W → W.cell? ⟨p, 0, none⟩ = some (.slice ca N cc)) := fun W hb => by rw [← hvl]; exact (h.below hb).c 0 vl rfl
  have c0 := HC0.out w (Below.refl _ _)
  have HC : Hid (∀ W k, Below w.heap.size w W → k < N → ∃ b v, ca = some ⟨b, 0, none⟩ ∧ W.cell? ⟨b, k, none⟩ = some v ∧ Sl W v (S.ls.getD k [])) := by
    intro W k hb hk
    have hk' : k < S.ls.length := by rw [← HN.out]; exact hk
    have hW := h.below hb
    obtain ⟨b, cap', e1, -, -, -, HR, -⟩ := row_at hW.las (by omega)
    have hC : k < Ls.length := by rw [h.lle]; exact hk'
    have hx := List.getElem?_eq_getElem hk'
    have hv := List.getElem?_eq_getElem hC
    rw [hvl] at e1
    injection e1 with e1
    refine ⟨b, _, e1, HR.out _ _ hv, ?_⟩
    rw [List.getD_eq_getElem?_getD, hx]
    exact hW.lsl k _ _ hx hv
  have hz := zero63
  obtain ⟨i0, hi, hz0, hz1, hz2⟩ := info_parts Tryz.info5
  clear h hvl
  go_enter Tryz.func34, Tryz.ntmps34
  go_wp2
  clear c0
  go_loopw [4, 3] (fun i v wr' => ∃ k : Nat, k ≤ N ∧ i = .int .i64 (k : Int) ∧ Own wr' v (S.ls.take k).flatten ∧ (∀ g, v.ownBlock = some g → w.heap.size ≤ g) ∧ Below w.heap.size w wr') (fun i _ _ => N - (intOf i).toNat)
  case atStart => exact ⟨0, Nat.zero_le _, rfl, World.ownsRow_nil _ _ _ _, fun g hg => by simp [Value.ownBlock] at hg, Below.refl _ _⟩
  case round =>
    obtain ⟨k, hk, rfl, hown, hnew, hb⟩ := hrel
    have HO := hide hown
    have HNw := hide hnew
    have HB := hide hb
    clear hown hnew hb
    have c0 := HC0.out wr HB.out
    by_cases hlt : k < N
    · have hkl : k < S.ls.length := by rw [← HN.out]; exact hlt
      have hnb : decide (k < N) = true := by simp [hlt]
      obtain ⟨b, v, rfl, d0, hsl⟩ := HC.out wr k HB.out hlt
      have hsr := hsl.src
      rw [(HG.out.ls _ (getD_mem S.ls k [] hkl)).1] at hsr
      have HSr := hide hsr
      clear hsr hsl
      have HBd : Hid ((S.ls.take k).flatten.length + 128 ≤ 140737488355328) := by
        rw [Hid, flat_tlen S.ls (fun s hs => (HG.out.ls s hs).1) k (by omega)]; omega
      have HEnd : Hid (∀ v' w4, Own w4 v' ((S.ls.take k).flatten ++ S.ls.getD k []) → wr.grownBy w4 u3.ownBlock → (∀ g, v'.ownBlock = some g → u3.ownBlock = some g ∨ wr.heap.size ≤ g) → ∃ k' : Nat, k' ≤ N ∧ Value.int .i64 ((k : Int) + 1) = .int .i64 (k' : Int) ∧ Own w4 v' (S.ls.take k').flatten ∧ (∀ g, v'.ownBlock = some g → w.heap.size ≤ g) ∧ Below w.heap.size w w4) := fun v' w4 ho hg hl => by
        refine ⟨k + 1, by omega, by simp, by rw [flat_take S.ls k hkl]; exact ho, fun g hv => (hl g hv).elim (HNw.out g) (fun h => Nat.le_trans HB.out.size h), ?_⟩
        refine ⟨hg.os.trans HB.out.os, hg.tape.trans HB.out.tape, hg.output.trans HB.out.output, Nat.le_trans HB.out.size hg.size, fun j hj => ?_⟩
        rw [hg.block j (Nat.lt_of_lt_of_le hj HB.out.size) (fun e => by have := HNw.out j e.symm; omega)]
        exact HB.out.block j hj
      clear hkl
      go_wp2_with (at_builtin; refine wpList_append_src (by rfl) (.tmp 14) (.tmp 21) 22 22 (by rfl) i0 Tryz.underlying22 hi hz0 hz1 hz2 u3 _ (by rfl) HO.out _ 128 (S.ls.getD k []) (by rfl) HSr.out HBd.out ?_; intro v' w4 ho4 hg4 hl4; have HO4 := hide ho4; have HG4 := hide hg4; have HL4 := hide hl4; clear ho4 hg4 hl4)
      go_roundw
      case rel => exact HEnd.out v' w4 HO4.out HG4.out HL4.out
      case measure => simp [intOf]; omega
    · have e : k = N := by omega
      subst e
      have HE : Hid (S.ls.take k = S.ls) := by rw [Hid, HN.out]; exact List.take_length
      rw [HE.out] at HO
      go_wp2
      go_ret
      exact ⟨_, rfl, HO.out, HNw.out, HB.out⟩
end Go.Proofs.YtobokocpapfjbaaGreat
