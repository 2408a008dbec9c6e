/- Read, of the document's own disk. -/
import Derived.Test.YtkammfkknfflgaaQD
namespace Go.Proofs.Ytkammfkknfflgaa
open Go.RowKit Go.Maps
set_option linter.unusedVariables false
variable {w w' : World} {p f : Nat} {vl vc : Value} {Ls Cs : List Value} {S S' : DS}

theorem Mv.on {O : Nat → Prop} {w w1 w2 : World} (h : Mv O w w1) (hb : Below w1.heap.size w1 w2) : Mv O w w2 := ⟨hb.os.trans h.os, hb.tape.trans h.tape, hb.output.trans h.output, Nat.le_trans h.size hb.size, fun k hk hn => (hb.block k (Nat.lt_of_lt_of_le hk h.size)).trans (h.block k hk hn)⟩
theorem Row.news {w : World} {a : Option Addr} {zs : List Int} (h : Row w a zs) : ∀ ad, a = some ad → ∀ j u, (zs.map (Value.int .u8))[j]? = some u → w.cell? (ad.add j) = some u := by
  intro ad had j u hu
  have hj : j < zs.length := by have := (List.getElem?_eq_some_iff.1 hu).1; simpa using this
  rcases h with rfl | ⟨b, off, rfl, _, hc⟩
  · simp at hj
  · obtain rfl := Option.some.inj had
    rw [Addr.add_lit, hc j hj]
    rw [← hu]; simp [hj]
theorem src_row (w : World) (a : Option Addr) (n c : Nat) (ys : List Int) (hl : ys.length = n) (hn : a = none → n = 0 ∧ c = 0) (hr : Row w a ys) : Src Try.prog 1 63 (.slice a n c) n (ys.map (Value.int .u8)) w := by
  cases a with
  | none =>
    obtain ⟨rfl, rfl⟩ := hn rfl
    have e : ys = [] := List.eq_nil_of_length_eq_zero hl
    subst e
    exact Src.ofNil w Try.underlying63 0
  | some ad => exact Src.ofSlice w Try.underlying63 ad n c _ (by simp [hl]) (hr.news ad rfl) (ints_oneCell _ _)
theorem Sl.src {v : Value} {zs : List Int} (h : Sl w v zs) : Src Try.prog 1 63 v zs.length (zs.map (Value.int .u8)) w := by
  obtain ⟨a, c, rfl, h1, h2, h3, h4⟩ := h.shape
  exact src_row w a _ c zs rfl h3 h4
set_option maxHeartbeats 800000 in
set_option maxRecDepth 1000000 in
theorem rpages_any (h : RD w p vl Ls vc Cs f S) : Calls Try.prog 29 #[.pointer (some ⟨p, 0, none⟩)] w fun e w' => e = .returned (.int .i64 ((S.ls.length / 8 : Nat) : Int)) ∧ w' = w := by
  obtain ⟨N, HN, hNm⟩ : ∃ N, Hid (N = S.ls.length) ∧ N ≤ 131072 := ⟨_, rfl, h.good.most⟩
  obtain ⟨ca, cc, hvl⟩ := row_len h.las
  rw [← HN.out] at hvl ⊢
  have c0 := h.c 0 vl rfl
  rw [hvl] at c0
  clear h hvl
  go_enter Try.func29, Try.ntmps29
  go_wp2
  go_ret
  exact ⟨rfl, rfl⟩
set_option maxHeartbeats 1600000 in
set_option maxRecDepth 1000000 in
theorem rread_er (h : RD w p vl Ls vc Cs f S) (pg : Int) (hn : S.n1 + 1 ≤ 40000000) (he : S.er S.s1 S.l1 ≠ 0) :
    Calls Try.prog 40 #[.pointer (some ⟨p, 0, none⟩), .int .i64 pg] w fun e w' => e = .returned (.tuple #[.slice none 0 0, .int .u16 (S.er S.s1 S.l1 : Int)]) ∧ RD w' p vl Ls vc Cs f (S.be S.op1) ∧ Mv (fun k => k = p ∨ k = f) w w' := by
  have HB := hide (begins1 h hn)
  obtain ⟨r, HR⟩ : ∃ r, Hid (r = S.er S.s1 S.l1) := ⟨_, rfl⟩
  rw [← HR.out] at HB he ⊢
  have he' : ((r : Int) == 0) = false := by simp; omega
  have hz := zero63
  clear h hn he
  go_enter Try.func40, Try.ntmps40
  go_wp2_with fail
  refine HB.out.mono ?_
  rintro e w' ⟨rfl, hh⟩
  have HH := hide hh
  clear hh
  go_wp2
  go_ret2
  exact ⟨rfl, HH.out⟩
set_option maxHeartbeats 1600000 in
set_option maxRecDepth 1000000 in
theorem rread_no (h : RD w p vl Ls vc Cs f S) (pg : Int) (hn : S.n1 + 1 ≤ 40000000) (he : S.er S.s1 S.l1 = 0) (hbad : ¬ (0 ≤ pg ∧ pg < ((S.ls.length / 8 : Nat) : Int))) :
    Calls Try.prog 40 #[.pointer (some ⟨p, 0, none⟩), .int .i64 pg] w fun e w' => e = .returned (.tuple #[.slice none 0 0, .int .u16 2]) ∧ RD w' p vl Ls vc Cs f (S.be S.op1) ∧ Mv (fun k => k = p ∨ k = f) w w' := by
  have HB := hide (begins1 h hn)
  rw [he] at HB
  have HL : Hid ((S.be S.op1).ls = S.ls) := by rw [be_zero he]; rfl
  have hz := zero63
  clear h hn he
  by_cases h0 : pg < 0
  · have hd0 : decide (pg < 0) = true := by simp [h0]
    clear hbad h0
    go_enter Try.func40, Try.ntmps40
    go_wp2_with fail
    refine HB.out.mono ?_
    rintro e w' ⟨rfl, hh⟩
    have HH := hide hh
    clear hh
    go_wp2
    go_ret2
    exact ⟨rfl, HH.out⟩
  · have hd0 : decide (pg < 0) = false := by simp [h0]
    obtain ⟨N, HN⟩ : ∃ N, Hid (N = S.ls.length / 8) := ⟨_, rfl⟩
    have hd1 : decide ((N : Int) ≤ pg) = true := by rw [HN.out]; simp; omega
    clear hbad h0
    go_enter Try.func40, Try.ntmps40
    go_wp2_with fail
    refine HB.out.mono ?_
    rintro e w' ⟨rfl, hh⟩
    have HH := hide hh
    have HP := hide (rpages_any hh.1)
    rw [HL.out, ← HN.out] at HP
    clear hh
    go_wp2_with fail
    refine HP.out.mono ?_
    rintro e w'' ⟨rfl, rfl⟩
    go_wp2
    go_ret2
    exact ⟨rfl, HH.out⟩
set_option maxHeartbeats 1600000 in
set_option maxRecDepth 1000000 in
theorem rread_any (h : RD w p vl Ls vc Cs f S) (pg : Nat) (hn : S.n1 + 1 ≤ 40000000) (he : S.er S.s1 S.l1 = 0) (hpg : pg < S.ls.length / 8) :
    Calls Try.prog 40 #[.pointer (some ⟨p, 0, none⟩), .int .i64 (pg : Int)] w fun e w' => ∃ v, e = .returned (.tuple #[v, .int .u16 0]) ∧ Own w' v (rd S (8 * pg) 8) ∧ (∀ g, v.ownBlock = some g → w.heap.size ≤ g) ∧ RD w' p vl Ls vc Cs f (S.be S.op1) ∧ Mv (fun k => k = p ∨ k = f) w w' := by
  have HB := hide (begins1 h hn)
  rw [he] at HB
  have HL : Hid ((S.be S.op1).ls = S.ls) := by rw [be_zero he]; rfl
  have hz := zero63
  have hN := h.good.most
  have HG := hide h.good
  have HO1 : Hid (S.be S.op1 = S.op1) := be_zero he
  have HNe : Hid (∀ n, newest S.op1 n = newest S n) := fun n => rfl
  clear h hn he
  have hd0 : decide ((pg : Int) < 0) = false := by simp
  obtain ⟨N, HN⟩ : ∃ N, Hid (N = S.ls.length / 8) := ⟨_, rfl⟩
  have hpN : pg < N := by rw [HN.out]; exact hpg
  have hN8 : N ≤ 16384 := by rw [HN.out]; omega
  have hd1 : decide (N ≤ pg) = false := by simp; omega
  clear hN hpg
  go_enter Try.func40, Try.ntmps40
  go_wp2_with fail
  refine HB.out.mono ?_
  rintro e w1 ⟨rfl, hh⟩
  have HH := hide hh
  have HP := hide (rpages_any hh.1)
  rw [HL.out, ← HN.out] at HP
  clear hh
  go_wp2_with fail
  refine HP.out.mono ?_
  rintro e w'' ⟨rfl, rfl⟩
  rw [HO1.out] at HH
  obtain ⟨i0, hi, hz0, hz1, hz2⟩ := info_parts Try.info5
  go_wp2
  go_loopw [8, 7] (fun i v wr' => ∃ k : Nat, k ≤ 8 ∧ i = .int .i64 (k : Int) ∧ Own wr' v (rd S (8 * pg) k) ∧ (∀ g, v.ownBlock = some g → w''.heap.size ≤ g) ∧ Below w''.heap.size w'' wr') (fun i _ _ => 8 - (intOf i).toNat)
  case atStart => exact ⟨0, Nat.zero_le _, rfl, World.ownsRow_nil _ _ _ _, fun g hg => by simp [Value.ownBlock] at hg, Below.refl _ _⟩
  case round =>
    obtain ⟨k, hk, rfl, hown, hnew, hb⟩ := hrel
    have HO := hide hown
    have HNw := hide hnew
    have HB := hide hb
    clear hown hnew hb
    by_cases hlt : k < 8
    · have hkl : 8 * pg + k < S.ls.length := by have := HN.out; omega
      have hd2 : decide ((k : Int) < 8) = true := by simp; omega
      have hw1 : IntKind.i64.wrap (8 * (pg : Int)) = 8 * (pg : Int) := by rw [IntKind.wrap_i64]; omega
      have hw2 : IntKind.i64.wrap (8 * (pg : Int) + (k : Int)) = ((8 * pg + k : Nat) : Int) := by rw [IntKind.wrap_i64]; omega
      have HS := hide (rsector_any (HH.out.1.below HB.out) (8 * pg + k) hkl)
      have HGn : Hid ((newest S (8 * pg + k)).length = 128) := (newest_good HG.out _ hkl).1
      have HRl : Hid ((rd S (8 * pg) k).length = k * 128) := rd_len HG.out _ k (by omega)
      rw [show ((8 * pg + k : Nat) : Int) = 8 * (pg : Int) + (k : Int) by omega] at HS
      have HEnd : Hid (∀ v' w4, Own w4 v' (rd S (8 * pg) k ++ newest S (8 * pg + k)) → wr.grownBy w4 u7.ownBlock → (∀ g, v'.ownBlock = some g → u7.ownBlock = some g ∨ wr.heap.size ≤ g) → ∃ k' : Nat, k' ≤ 8 ∧ Value.int .i64 ((k : Int) + 1) = .int .i64 (k' : Int) ∧ Own w4 v' (rd S (8 * pg) k') ∧ (∀ g, v'.ownBlock = some g → w''.heap.size ≤ g) ∧ Below w''.heap.size w'' w4) := fun v' w4 ho hg hl => by
        refine ⟨k + 1, by omega, by simp, by rw [rd_succ]; exact ho, fun g hv => (hl g hv).elim (HNw.out g) (fun h => Nat.le_trans HB.out.size h), ?_⟩
        refine ⟨hg.os.trans HB.out.os, hg.tape.trans HB.out.tape, hg.output.trans HB.out.output, Nat.le_trans HB.out.size hg.size, fun j hj => ?_⟩
        rw [hg.block j (Nat.lt_of_lt_of_le hj HB.out.size) (fun e => by have := HNw.out j e.symm; omega)]
        exact HB.out.block j hj
      have HBd : Hid ((rd S (8 * pg) k).length + 128 ≤ 140737488355328) := by rw [Hid, HRl.out]; omega
      clear hkl
      go_wp2_with fail
      refine HS.out.mono ?_
      rintro e w3 ⟨v, rfl, hsl, rfl⟩
      have hsr := hsl.src
      rw [HNe.out, HGn.out] at hsr
      have HSr := hide hsr
      clear hsl hsr
      go_wp2_with (at_builtin; refine wpList_append_src (by rfl) (.tmp 26) (.tmp 32) 63 63 (by rfl) i0 Try.underlying63 hi hz0 hz1 hz2 u7 _ (by rfl) HO.out _ 128 (newest S (8 * pg + k)) (by rfl) HSr.out HBd.out ?_; intro v' w4 ho4 hg4 hl4; have HO4 := hide ho4; have HG4 := hide hg4; have HL4 := hide hl4; clear ho4 hg4 hl4)
      go_roundw
      case rel => exact HEnd.out v' w4 HO4.out HG4.out HL4.out
      case measure => simp [intOf]; omega
    · have e : k = 8 := by omega
      subst e
      go_wp2
      go_ret2
      exact ⟨_, rfl, HO.out, fun g hg => Nat.le_trans HH.out.2.size (HNw.out g hg), by rw [HO1.out]; exact HH.out.1.below HB.out, HH.out.2.on HB.out⟩
end Go.Proofs.Ytkammfkknfflgaa
