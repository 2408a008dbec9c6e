/- A trip; what a write answers when the power goes; rows of 16-bit numbers that came in. -/
import Derived.Test.YtfifpgkmgbenlaaDV
import Derived.Test.YtfifpgkmgbenlaaDT
namespace Go.Proofs.Ytfifpgkmgbenlaa
open Go.ChangeShapes Go.WideShapes Go.ChangeAt Go.RowKit
set_option linter.unusedVariables false

/-- what a walk is told of a slice of integers that came in. -/
def IsRow (k : IntKind) (w : World) (a : Option Addr) (len cap : Nat) (zs : List Int) : Prop :=
  (a = none ∧ len = 0 ∧ cap = 0 ∧ zs = []) ∨
  ∃ x, a = some x ∧ len ≤ cap ∧ cap ≤ maxLen ∧ zs.length = cap ∧ (∀ i, i < zs.length → w.cell? (x.add i) = some (.int k (zs.getD i 0))) ∧ ∀ n ∈ zs, (Lit.int k n).wf = true
/-- the first cells of a slice hold these 16-bit numbers. -/
def WRow (w : World) (a : Option Addr) (xs : List Nat) : Prop :=
  xs = [] ∨ ∃ b off, a = some ⟨b, off, none⟩ ∧ b < w.heap.size ∧ ∀ i, i < xs.length → w.cell? ⟨b, off + i, none⟩ = some (.int .u16 ((xs.getD i 0 : Nat) : Int))
theorem WRow.below {w w' : World} {a : Option Addr} {xs : List Nat} (h : WRow w a xs) (hb : Below w.heap.size w w') : WRow w' a xs := by
  rcases h with h | ⟨b, off, rfl, hlt, hc⟩
  · exact .inl h
  · exact .inr ⟨b, off, rfl, Nat.lt_of_lt_of_le hlt hb.size, fun i hi => (hb.cell (p := ⟨b, off + i, none⟩) hlt).trans (hc i hi)⟩
theorem isrow16 {w : World} {a : Option Addr} {len cap : Nat} {zs : List Int} (h : IsRow .u16 w a len cap zs) :
    WRow w a ((zs.take len).map Int.toNat) ∧ (∀ x ∈ (zs.take len).map Int.toNat, x ≤ 65535) ∧ ((zs.take len).map Int.toNat).length = len ∧ len ≤ 9223372036854775807 := by
  rcases h with ⟨rfl, rfl, rfl, rfl⟩ | ⟨x, rfl, hl, hm, hz, hcell, hwz⟩
  · exact ⟨.inl rfl, (by intro c hc; simp at hc), rfl, by omega⟩
  · have hlen : ((zs.take len).map Int.toNat).length = len := by simp; omega
    have hb : ∀ n ∈ zs, 0 ≤ n ∧ n ≤ 65535 := fun n hn => bounds_u16 (hwz n hn)
    refine ⟨?_, ?_, hlen, by unfold maxLen at hm; omega⟩
    · by_cases h0 : len = 0
      · subst h0; exact .inl rfl
      · obtain ⟨b, off, spot⟩ := x
        have hc := hcell 0 (by omega)
        have hspot : spot = none := by simpa [Addr.add] using World.cell?_spot hc
        subst hspot
        refine .inr ⟨b, off, rfl, ?_, fun i hi => ?_⟩
        · have := World.block_lt_of_cell? w _ hc
          rw [Addr.add_lit] at this
          exact this
        · rw [hlen] at hi
          have h1 := hcell i (by omega)
          rw [Addr.add_lit] at h1
          rw [h1]
          have h2 := (hb (zs.getD i 0) (getD_mem _ _ _ (by omega))).1
          have e : ((zs.take len).map Int.toNat).getD i 0 = (zs.getD i 0).toNat := by
            rw [List.getD_eq_getElem?_getD, List.getElem?_map, List.getElem?_take, if_pos hi, List.getD_eq_getElem?_getD, List.getElem?_eq_getElem (by omega)]
            rfl
          rw [e, Int.toNat_of_nonneg h2]
    · intro y hy
      obtain ⟨n, hn, rfl⟩ := List.mem_map.1 hy
      have := hb n (List.mem_of_mem_take hn)
      omega

/-- a disk with a trip. -/
def DS.trip (S : DS) (n : Int) : DS := { S with ts := true, tl := n }
set_option maxHeartbeats 800000 in
set_option maxRecDepth 1000000 in
theorem trip_any (p q : Nat) (O : Nat → Prop) (S : DS) (n : Int) (w : World) (h : DkAt w p q S O) (h0 : 0 ≤ n) (h1 : n ≤ 9223372036854775807) (hdk : S.dk = false) :
    Calls Try.prog 11 #[.pointer (some ⟨p, 0, none⟩), .int .i64 n] w fun e w' => e = .returned (.int .u16 0) ∧ DkAt w' p q (S.trip n) O ∧ Go1 O w O w' := by
  obtain ⟨vw, m, hd, ho⟩ := h
  have c3 := hd.c 3 (.bool S.dk) rfl
  rw [hdk] at c3
  have c4 := hd.c 4 _ rfl
  have c5 := hd.c 5 _ rfl
  have f4 := hd.f 4
  have f5 := hd.f 5
  have hbd := build96 n
  have hn : decide (n < 0) = false := by simp; omega
  have HF : Hid (DkAt (sets w p [(4, .bool true), (5, .int .i64 n)]) p q (S.trip n) O ∧ Go1 O w O (sets w p [(4, .bool true), (5, .int .i64 n)])) := by
    refine ⟨⟨vw, m, hd.fields (S' := S.trip n) rfl rfl ⟨hd.good.ls, hd.good.ws, hd.good.most, hd.good.few, ⟨h0, h1⟩, hd.good.f1, hd.good.f2, hd.good.f3, hd.good.n1, hd.good.n2, hd.good.n3⟩ ?_ (fun k hk => sets_other p k hk _ w), ho⟩, Go1.of_mv (sets_mv p _ w) ((ho p).2 (.inl rfl))⟩
    rw [sets_blk p 61 _ w _ hd.blk]
    simp only [List.foldl_cons, List.foldl_nil, cells, List.setIfInBounds_toArray, List.set_cons_succ, List.set_cons_zero, DS.trip]
  clear hd ho h0 h1
  go_enter Try.func11, Try.ntmps11
  go_wp2
  go_ret
  exact ⟨rfl, HF.out⟩
theorem write_dark (p q : Nat) (O : Nat → Prop) (S : DS) (pg : Nat) (P : Int) (b len : Nat) (c : Int) (N : Nat) (w : World) (h : DkAt w p q S O) (hP : P = (pg : Int)) (hc : 0 ≤ c ∧ c ≤ 255)
    (ob : ¬ O b) (hr : Row w (some ⟨b, 0, none⟩) (List.replicate len c)) (hbl : b < w.heap.size) (hpg : pg < S.ls.length / 8) (hl8 : S.ls.length % 8 = 0) (hN : len = 1024 ∧ N = 8 ∨ len = 128 ∧ N = 1) (hf : S.ws.length + 8 ≤ 1000000) (hn : S.n2 + 1 ≤ 1000000) (he : S.er S.s2 S.l2 = 4) :
    Calls Try.prog 8 #[.pointer (some ⟨p, 0, none⟩), .int .i64 P, .slice (some ⟨b, 0, none⟩) len len] w fun e w' => e = .returned (.int .u16 4) ∧ ∃ O', DkAt w' p q (S.be S.op2) O' ∧ Go1 O w O' w' := by
  subst hP
  refine (write_any p q O S pg b 0 len len (List.replicate len c) N w h ob hr hbl (by simp) (rep_byts len c hc) (Nat.le_refl _) (by omega) hpg hl8 hN hf hn).mono ?_
  rintro e w' ⟨rfl, O', hd, hg⟩
  refine ⟨by rw [he]; rfl, O', ?_, hg⟩
  rwa [DS.wr, if_neg (by omega)] at hd

/-- a disk behind a trip of T and i writes. -/
structure Trp (M T i : Nat) (S : DS) : Prop where
  ls : S.ls.length = 8 * M
  ws : S.ws.length = min i T
  n2 : S.n2 = ((min i T : Nat) : Int)
  n1 : S.n1 = 0
  s2 : S.s2 = false
  on : i ≤ T → S.dk = false ∧ S.ts = true ∧ S.tl = ((T - i : Nat) : Int)
  off : T < i → S.dk = true
theorem Trp.er0 {M T i : Nat} {S : DS} (h : Trp M T i S) (hi : i < T) : S.er S.s2 S.l2 = 0 := by
  obtain ⟨h1, h2, h3⟩ := h.on (by omega)
  simp [DS.er, h1, tick, h2, h3, h.s2, show ¬ (T - i = 0) by omega]
theorem Trp.er4 {M T i : Nat} {S : DS} (h : Trp M T i S) (hi : T ≤ i) : S.er S.s2 S.l2 = 4 := by
  by_cases e : i = T
  · obtain ⟨h1, h2, h3⟩ := h.on (by omega)
    simp [DS.er, h1, tick, h2, h3, e]
  · simp [DS.er, h.off (by omega)]
theorem Trp.go {M T i : Nat} {S : DS} (h : Trp M T i S) (hi : i < T) (b : Nat) (zs : List Int) : Trp M T (i + 1) (S.op2.adds b zs 1) := by
  obtain ⟨h1, h2, h3⟩ := h.on (by omega)
  refine ⟨h.ls, ?_, ?_, h.n1, ?_, fun _ => ⟨h1, ?_, ?_⟩, fun h' => by omega⟩
  · rw [DS.adds_len]; show S.ws.length + 1 = _; rw [h.ws]; omega
  · show S.n2 + 1 = _; rw [h.n2]; omega
  · show (tick S.s2 S.l2).2.1 = false; simp [tick, h.s2]
  · show (tick S.ts S.tl).2.1 = true; simp [tick, h2, h3, show ¬ (T - i = 0) by omega]
  · show (tick S.ts S.tl).2.2 = _; simp [tick, h2, h3, show ¬ (T - i = 0) by omega]; omega
theorem Trp.stop {M T i : Nat} {S : DS} (h : Trp M T i S) (hi : T ≤ i) : Trp M T (i + 1) (S.be S.op2) ∧ (S.be S.op2).dk = true := by
  by_cases e : i = T
  · obtain ⟨h1, h2, h3⟩ := h.on (by omega)
    have hb : S.be S.op2 = S.out := by simp [DS.be, h1, tick, h2, h3, e]
    rw [hb]
    refine ⟨⟨h.ls, ?_, ?_, h.n1, h.s2, fun h' => by omega, fun _ => rfl⟩, rfl⟩
    · show S.ws.length = _; rw [h.ws]; omega
    · show S.n2 = _; rw [h.n2]; congr 1; omega
  · have hb : S.be S.op2 = S := by simp [DS.be, h.off (by omega)]
    rw [hb]
    refine ⟨⟨h.ls, ?_, ?_, h.n1, h.s2, fun h' => by omega, fun _ => h.off (by omega)⟩, h.off (by omega)⟩
    · rw [h.ws]; omega
    · rw [h.n2]; congr 1; omega
theorem Trp.start (M T : Nat) : Trp M T 0 ((DS.new (8 * M)).trip (T : Int)) :=
  ⟨by simp [DS.trip, DS.new], by simp [DS.trip, DS.new], by simp [DS.trip, DS.new], rfl, rfl, fun _ => ⟨rfl, rfl, rfl⟩, fun h => by omega⟩
theorem wrow_at {w : World} {a : Option Addr} {xs : List Nat} (h : ∀ W, Below w.heap.size w W → WRow W a xs) {k : Nat} (hk : k < xs.length) : ∃ b off, a = some ⟨b, off, none⟩ ∧ Hid (∀ W, Below w.heap.size w W → W.cell? ⟨b, off + k, none⟩ = some (.int .u16 ((xs.getD k 0 : Nat) : Int))) := by
  rcases h w (Below.refl _ _) with e | ⟨b, off, rfl, _, _⟩
  · subst e; simp at hk
  · refine ⟨b, off, rfl, fun W hb => ?_⟩
    rcases h W hb with e | ⟨b', off', e, _, hc⟩
    · subst e; simp at hk
    · cases e; exact hc k hk
theorem ownI_shape {w : World} {v : Value} {zs : List Nat} (h : OwnI w v zs) : ∃ a n c, v = .slice a n c ∧ zs.length = n := by
  rcases h.2 with ⟨e, e2⟩ | ⟨g, cap, cur, e, _⟩
  · exact ⟨none, 0, 0, e, e2⟩
  · exact ⟨_, _, cap, e, rfl⟩
theorem cut_len (S : DS) (bs : List Bool) : (S.cut bs).ls.length = S.ls.length := settled_len _ _ _ _
end Go.Proofs.Ytfifpgkmgbenlaa
/- Image. -/
namespace Go.Proofs.Ytfifpgkmgbenlaa
open Go.RowKit Go.Maps
set_option linter.unusedVariables false

theorem make63n (n : Nat) (hn : n ≤ 20000000) (W : World) : (Instr.makeSlice 22 (.int .i64 0) (.int .i64 (n : Int))).run Try.prog W = .ok (.slice (some ⟨W.heap.size, 0, none⟩) 0 n) (W.alloc (.cells (madeCells #[.int .u8 0] n) 5)) := by
  obtain ⟨i0, hi, hz0, hz1, hz2⟩ := info_parts Try.info5
  have := run_make (P := Try.prog) W 22 5 i0 _ Try.underlying22 hi hz0 .i64 .i64 0 (n : Int) (by omega) (by omega) (by rw [hz2]; omega) (by omega)
  rw [hz1] at this
  simpa [Value.cells] using this
theorem flat_take (L : List (List Int)) (k : Nat) (hk : k < L.length) : (L.take (k + 1)).flatten = (L.take k).flatten ++ L.getD k [] := by
  rw [List.take_succ_eq_append_getElem hk, List.flatten_append, List.getD_eq_getElem?_getD, List.getElem?_eq_getElem hk]
  simp
theorem flat_tlen (L : List (List Int)) (h : ∀ s ∈ L, s.length = 128) : ∀ k, k ≤ L.length → (L.take k).flatten.length = k * 128
  | 0, _ => by simp
  | k + 1, hk => by rw [flat_take L k (by omega), List.length_append, flat_tlen L h k (by omega), h _ (getD_mem _ _ _ (by omega)), Nat.add_mul]
set_option maxHeartbeats 3200000 in
set_option maxRecDepth 1000000 in
theorem image_any (p q : Nat) (O : Nat → Prop) (S : DS) (w : World) (h : DkAt w p q S O) : Calls Try.prog 17 #[.pointer (some ⟨p, 0, none⟩)] w fun e w' => ∃ v, e = .returned v ∧ Own w' v S.ls.flatten ∧ (∀ g, v.ownBlock = some g → w.heap.size ≤ g) ∧ Below w.heap.size w w' := by
  obtain ⟨vw, m, hd, ho⟩ := h
  have HD : Hid (∀ W, Below w.heap.size w W → Dk W p q vw m S) := fun W hb => hd.below hb
  have HG := hide hd.good
  obtain ⟨N, HN, hNm⟩ : ∃ N, Hid (N = S.ls.length) ∧ N ≤ 131072 := ⟨_, rfl, hd.good.most⟩
  have HC : Hid (∀ W, Below w.heap.size w W → W.cell? ⟨p, 0, none⟩ = some (.slice (some ⟨q, 0, none⟩) N N)) := fun W hb => by rw [HN.out]; exact (HD.out W hb).c 0 _ rfl
  have c0 := HC.out w (Below.refl _ _)
  have hx1 : IntKind.i64.wrap ((N : Int) * 128) = (N : Int) * 128 := by rw [IntKind.wrap_i64]; omega
  have hmk : ∀ W, (Instr.makeSlice 22 (.int .i64 0) (.int .i64 ((N : Int) * 128))).run Try.prog W = .ok (.slice (some ⟨W.heap.size, 0, none⟩) 0 (N * 128)) (W.alloc (.cells (madeCells #[.int .u8 0] (N * 128)) 5)) := fun W => by
    have := make63n (N * 128) (by omega) W
    rwa [show ((N * 128 : Nat) : Int) = (N : Int) * 128 by omega] at this
  have c0' := HC.out _ (below_alloc w (.cells (madeCells #[.int .u8 0] (N * 128)) 5))
  obtain ⟨i0, hi, hz0, hz1, hz2⟩ := info_parts Try.info5
  clear hd ho
  go_enter Try.func17, Try.ntmps17
  go_wp2
  clear c0 c0'
  go_loopw [17, 3] (fun i v wr' => ∃ k : Nat, k ≤ N ∧ i = .int .i64 (k : Int) ∧ Own wr' v (S.ls.take k).flatten ∧ (∀ g, v.ownBlock = some g → w.heap.size ≤ g) ∧ Below w.heap.size w wr') (fun i _ _ => N - (intOf i).toNat)
  case atStart =>
    refine ⟨0, Nat.zero_le _, rfl, ?_, ?_, below_alloc _ _⟩
    · exact World.ownsRow_made w _ (N * 128) (Nat.zero_le _) (by unfold maxLen; omega) (by rw [size_madeCells, Nat.mul_one])
    · intro g hg; simp only [Value.ownBlock] at hg; cases hg; exact Nat.le_refl _
  case round =>
    obtain ⟨k, hk, rfl, hown, hnew, hb⟩ := hrel
    have HO := hide hown
    have HNw := hide hnew
    have HB := hide hb
    clear hown hnew hb
    by_cases hlt : k < N
    · have hkl : k < S.ls.length := by rw [← HN.out]; exact hlt
      have c0 := HC.out wr HB.out
      have hnb : decide (k < N) = true := by simp [hlt]
      have HSr : Hid (Src Try.prog 1 22 (.slice (some ⟨q, k * 128, none⟩) 128 128) 128 ((S.ls.getD k []).map (Value.int .u8)) wr) := by
        have hl := (HG.out.ls _ (getD_mem S.ls k [] hkl)).1
        refine Src.ofSlice wr Try.underlying22 ⟨q, k * 128, none⟩ 128 128 _ (by rw [List.length_map]; omega) (fun j u hu => ?_) (ints_oneCell _ _)
        rw [Addr.add_lit]
        exact (HD.out wr HB.out).las_at k hkl j u hu
      have HBd : Hid ((S.ls.take k).flatten.length + 128 ≤ 140737488355328) := by
        rw [Hid, flat_tlen S.ls (fun s hs => (HG.out.ls s hs).1) k (by omega)]; omega
      have HEnd : Hid (∀ v' w4, Own w4 v' ((S.ls.take k).flatten ++ S.ls.getD k []) → wr.grownBy w4 u3.ownBlock → (∀ g, v'.ownBlock = some g → u3.ownBlock = some g ∨ wr.heap.size ≤ g) → ∃ k' : Nat, k' ≤ N ∧ Value.int .i64 ((k : Int) + 1) = .int .i64 (k' : Int) ∧ Own w4 v' (S.ls.take k').flatten ∧ (∀ g, v'.ownBlock = some g → w.heap.size ≤ g) ∧ Below w.heap.size w w4) := fun v' w4 ho hg hl => by
        refine ⟨k + 1, by omega, by simp, by rw [flat_take S.ls k hkl]; exact ho, fun g hv => (hl g hv).elim (HNw.out g) (fun h => Nat.le_trans HB.out.size h), ?_⟩
        refine ⟨hg.os.trans HB.out.os, hg.tape.trans HB.out.tape, hg.output.trans HB.out.output, Nat.le_trans HB.out.size hg.size, fun j hj => ?_⟩
        rw [hg.block j (Nat.lt_of_lt_of_le hj HB.out.size) (fun e => by have := HNw.out j e.symm; omega)]
        exact HB.out.block j hj
      clear hkl
      go_wp2_with (at_builtin; refine wpList_append_src (by rfl) (.tmp 20) (.tmp 27) 22 22 (by rfl) i0 Try.underlying22 hi hz0 hz1 hz2 u3 _ (by rfl) HO.out _ 128 (S.ls.getD k []) (by rfl) HSr.out HBd.out ?_; intro v' w4 ho4 hg4 hl4; have HO4 := hide ho4; have HG4 := hide hg4; have HL4 := hide hl4; clear ho4 hg4 hl4)
      go_roundw
      case rel => exact HEnd.out v' w4 HO4.out HG4.out HL4.out
      case measure => simp [intOf]; omega
    · have e : k = N := by omega
      subst e
      have HE : Hid (S.ls.take k = S.ls) := by rw [Hid, HN.out]; exact List.take_length
      rw [HE.out] at HO
      go_wp2
      go_ret
      exact ⟨_, rfl, HO.out, HNw.out, HB.out⟩
/-- a slice's first cells hold these ints. -/
def IRow (w : World) (a : Option Addr) (zs : List Nat) : Prop :=
  zs = [] ∨ ∃ b off, a = some ⟨b, off, none⟩ ∧ b < w.heap.size ∧ ∀ i, i < zs.length → w.cell? ⟨b, off + i, none⟩ = some (.int .i64 ((zs.getD i 0 : Nat) : Int))
theorem IRow.below {w w' : World} {a : Option Addr} {zs : List Nat} (h : IRow w a zs) (hb : Below w.heap.size w w') : IRow w' a zs := by
  rcases h with h | ⟨b, off, rfl, hlt, hc⟩
  · exact .inl h
  · exact .inr ⟨b, off, rfl, Nat.lt_of_lt_of_le hlt hb.size, fun i hi => (hb.cell (p := ⟨b, off + i, none⟩) hlt).trans (hc i hi)⟩
theorem OwnI.row {w : World} {v : Value} {zs : List Nat} (h : OwnI w v zs) : ∃ a c, v = .slice a zs.length c ∧ IRow w a zs := by
  rcases h.2 with ⟨rfl, h0⟩ | ⟨g, cap, cur, rfl, _, hg, _⟩
  · exact ⟨none, 0, by rw [h0], .inl (List.eq_nil_of_length_eq_zero h0)⟩
  · refine ⟨_, cap, rfl, .inr ⟨g, 0, rfl, lt_of_block hg, fun i hi => ?_⟩⟩
    have := World.ownsRow.cells h (g := g) rfl i (.int .i64 ((zs.getD i 0 : Nat) : Int)) (by simp [hi])
    rwa [Addr.add_lit] at this
end Go.Proofs.Ytfifpgkmgbenlaa
