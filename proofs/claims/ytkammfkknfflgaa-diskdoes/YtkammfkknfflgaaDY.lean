/- Image. -/
import Derived.Test.YtkammfkknfflgaaDT
namespace Go.Proofs.Ytkammfkknfflgaa
open Go.RowKit Go.Maps
set_option linter.unusedVariables false

theorem make63n (n : Nat) (hn : n ≤ 20000000) (W : World) : (Instr.makeSlice 63 (.int .i64 0) (.int .i64 (n : Int))).run Try.prog W = .ok (.slice (some ⟨W.heap.size, 0, none⟩) 0 n) (W.alloc (.cells (madeCells #[.int .u8 0] n) 5)) := by
  obtain ⟨i0, hi, hz0, hz1, hz2⟩ := info_parts Try.info5
  have := run_make (P := Try.prog) W 63 5 i0 _ Try.underlying63 hi hz0 .i64 .i64 0 (n : Int) (by omega) (by omega) (by rw [hz2]; omega) (by omega)
  rw [hz1] at this
  simpa [Value.cells] using this
theorem flat_take (L : List (List Int)) (k : Nat) (hk : k < L.length) : (L.take (k + 1)).flatten = (L.take k).flatten ++ L.getD k [] := by
  rw [List.take_succ_eq_append_getElem hk, List.flatten_append, List.getD_eq_getElem?_getD, List.getElem?_eq_getElem hk]
  simp
theorem flat_tlen (L : List (List Int)) (h : ∀ s ∈ L, s.length = 128) : ∀ k, k ≤ L.length → (L.take k).flatten.length = k * 128
  | 0, _ => by simp
  | k + 1, hk => by rw [flat_take L k (by omega), List.length_append, flat_tlen L h k (by omega), h _ (getD_mem _ _ _ (by omega)), Nat.add_mul]
set_option maxHeartbeats 3200000 in
set_option maxRecDepth 1000000 in
theorem image_any (p q : Nat) (O : Nat → Prop) (S : DS) (w : World) (h : DkAt w p q S O) : Calls Try.prog 15 #[.pointer (some ⟨p, 0, none⟩)] w fun e w' => ∃ v, e = .returned v ∧ Own w' v S.ls.flatten ∧ (∀ g, v.ownBlock = some g → w.heap.size ≤ g) ∧ Below w.heap.size w w' := by
  obtain ⟨vw, m, hd, ho⟩ := h
  have HD : Hid (∀ W, Below w.heap.size w W → Dk W p q vw m S) := fun W hb => hd.below hb
  have HG := hide hd.good
  obtain ⟨N, HN, hNm⟩ : ∃ N, Hid (N = S.ls.length) ∧ N ≤ 131072 := ⟨_, rfl, hd.good.most⟩
  have HC : Hid (∀ W, Below w.heap.size w W → W.cell? ⟨p, 0, none⟩ = some (.slice (some ⟨q, 0, none⟩) N N)) := fun W hb => by rw [HN.out]; exact (HD.out W hb).c 0 _ rfl
  have c0 := HC.out w (Below.refl _ _)
  have hx1 : IntKind.i64.wrap ((N : Int) * 128) = (N : Int) * 128 := by rw [IntKind.wrap_i64]; omega
  have hmk : ∀ W, (Instr.makeSlice 63 (.int .i64 0) (.int .i64 ((N : Int) * 128))).run Try.prog W = .ok (.slice (some ⟨W.heap.size, 0, none⟩) 0 (N * 128)) (W.alloc (.cells (madeCells #[.int .u8 0] (N * 128)) 5)) := fun W => by
    have := make63n (N * 128) (by omega) W
    rwa [show ((N * 128 : Nat) : Int) = (N : Int) * 128 by omega] at this
  have c0' := HC.out _ (below_alloc w (.cells (madeCells #[.int .u8 0] (N * 128)) 5))
  obtain ⟨i0, hi, hz0, hz1, hz2⟩ := info_parts Try.info5
  clear hd ho
  go_enter Try.func15, Try.ntmps15
  go_wp2
  clear c0 c0'
  go_loopw [17, 3] (fun i v wr' => ∃ k : Nat, k ≤ N ∧ i = .int .i64 (k : Int) ∧ Own wr' v (S.ls.take k).flatten ∧ (∀ g, v.ownBlock = some g → w.heap.size ≤ g) ∧ Below w.heap.size w wr') (fun i _ _ => N - (intOf i).toNat)
  case atStart =>
    refine ⟨0, Nat.zero_le _, rfl, ?_, ?_, below_alloc _ _⟩
    · exact World.ownsRow_made w _ (N * 128) (Nat.zero_le _) (by unfold maxLen; omega) (by rw [size_madeCells, Nat.mul_one])
    · intro g hg; simp only [Value.ownBlock] at hg; cases hg; exact Nat.le_refl _
  case round =>
    obtain ⟨k, hk, rfl, hown, hnew, hb⟩ := hrel
    have HO := hide hown
    have HNw := hide hnew
    have HB := hide hb
    clear hown hnew hb
    by_cases hlt : k < N
    · have hkl : k < S.ls.length := by rw [← HN.out]; exact hlt
      have c0 := HC.out wr HB.out
      have hnb : decide (k < N) = true := by simp [hlt]
      have HSr : Hid (Src Try.prog 1 63 (.slice (some ⟨q, k * 128, none⟩) 128 128) 128 ((S.ls.getD k []).map (Value.int .u8)) wr) := by
        have hl := (HG.out.ls _ (getD_mem S.ls k [] hkl)).1
        refine Src.ofSlice wr Try.underlying63 ⟨q, k * 128, none⟩ 128 128 _ (by rw [List.length_map]; omega) (fun j u hu => ?_) (ints_oneCell _ _)
        rw [Addr.add_lit]
        exact (HD.out wr HB.out).las_at k hkl j u hu
      have HBd : Hid ((S.ls.take k).flatten.length + 128 ≤ 140737488355328) := by
        rw [Hid, flat_tlen S.ls (fun s hs => (HG.out.ls s hs).1) k (by omega)]; omega
      have HEnd : Hid (∀ v' w4, Own w4 v' ((S.ls.take k).flatten ++ S.ls.getD k []) → wr.grownBy w4 u3.ownBlock → (∀ g, v'.ownBlock = some g → u3.ownBlock = some g ∨ wr.heap.size ≤ g) → ∃ k' : Nat, k' ≤ N ∧ Value.int .i64 ((k : Int) + 1) = .int .i64 (k' : Int) ∧ Own w4 v' (S.ls.take k').flatten ∧ (∀ g, v'.ownBlock = some g → w.heap.size ≤ g) ∧ Below w.heap.size w w4) := fun v' w4 ho hg hl => by
        refine ⟨k + 1, by omega, by simp, by rw [flat_take S.ls k hkl]; exact ho, fun g hv => (hl g hv).elim (HNw.out g) (fun h => Nat.le_trans HB.out.size h), ?_⟩
        refine ⟨hg.os.trans HB.out.os, hg.tape.trans HB.out.tape, hg.output.trans HB.out.output, Nat.le_trans HB.out.size hg.size, fun j hj => ?_⟩
        rw [hg.block j (Nat.lt_of_lt_of_le hj HB.out.size) (fun e => by have := HNw.out j e.symm; omega)]
        exact HB.out.block j hj
      clear hkl
      go_wp2_with (at_builtin; refine wpList_append_src (by rfl) (.tmp 20) (.tmp 27) 63 63 (by rfl) i0 Try.underlying63 hi hz0 hz1 hz2 u3 _ (by rfl) HO.out _ 128 (S.ls.getD k []) (by rfl) HSr.out HBd.out ?_; intro v' w4 ho4 hg4 hl4; have HO4 := hide ho4; have HG4 := hide hg4; have HL4 := hide hl4; clear ho4 hg4 hl4)
      go_roundw
      case rel => exact HEnd.out v' w4 HO4.out HG4.out HL4.out
      case measure => simp [intOf]; omega
    · have e : k = N := by omega
      subst e
      have HE : Hid (S.ls.take k = S.ls) := by rw [Hid, HN.out]; exact List.take_length
      rw [HE.out] at HO
      go_wp2
      go_ret
      exact ⟨_, rfl, HO.out, HNw.out, HB.out⟩
/-- a slice's first cells hold these ints. -/
def IRow (w : World) (a : Option Addr) (zs : List Nat) : Prop :=
  zs = [] ∨ ∃ b off, a = some ⟨b, off, none⟩ ∧ b < w.heap.size ∧ ∀ i, i < zs.length → w.cell? ⟨b, off + i, none⟩ = some (.int .i64 ((zs.getD i 0 : Nat) : Int))
theorem IRow.below {w w' : World} {a : Option Addr} {zs : List Nat} (h : IRow w a zs) (hb : Below w.heap.size w w') : IRow w' a zs := by
  rcases h with h | ⟨b, off, rfl, hlt, hc⟩
  · exact .inl h
  · exact .inr ⟨b, off, rfl, Nat.lt_of_lt_of_le hlt hb.size, fun i hi => (hb.cell (p := ⟨b, off + i, none⟩) hlt).trans (hc i hi)⟩
theorem OwnI.row {w : World} {v : Value} {zs : List Nat} (h : OwnI w v zs) : ∃ a c, v = .slice a zs.length c ∧ IRow w a zs := by
  rcases h.2 with ⟨rfl, h0⟩ | ⟨g, cap, cur, rfl, _, hg, _⟩
  · exact ⟨none, 0, by rw [h0], .inl (List.eq_nil_of_length_eq_zero h0)⟩
  · refine ⟨_, cap, rfl, .inr ⟨g, 0, rfl, lt_of_block hg, fun i hi => ?_⟩⟩
    have := World.ownsRow.cells h (g := g) rfl i (.int .i64 ((zs.getD i 0 : Nat) : Int)) (by simp [hi])
    rwa [Addr.add_lit] at this
end Go.Proofs.Ytkammfkknfflgaa
