/- Contracts of asking whether two are the same: bytes, values without lists, the known tuple. -/
import Derived.Test.YtegoeaofjnpehabP
import Derived.Test.YtegoeaofjnpehabVA
import Derived.WalkLawsBesides
namespace Go.Proofs.Ytegoeaofjnpehab
open Go.RowKit
set_option linter.unusedVariables false

/-- are two rows the same? -/
def sameB (xs ys : List Int) : Bool := decide (xs = ys)
theorem sameB_len (xs ys : List Int) (h : xs.length ≠ ys.length) : sameB xs ys = false := by
  unfold sameB; rw [decide_eq_false]; intro e; exact h (by rw [e])
theorem sameB_all (xs ys : List Int) (h : xs.length = ys.length) (h2 : ∀ i, i < xs.length → xs.getD i 0 = ys.getD i 0) : sameB xs ys = true := by
  unfold sameB; rw [decide_eq_true]
  apply List.ext_getElem h
  intro i h3 h4
  have := h2 i h3
  simpa [List.getD_eq_getElem?_getD, h3, h4] using this
theorem sameB_at (xs ys : List Int) (i : Nat) (h : xs.getD i 0 ≠ ys.getD i 0) : sameB xs ys = false := by
  unfold sameB; rw [decide_eq_false]; intro e; exact h (by rw [e])

set_option maxHeartbeats 800000 in
theorem same_gen (a b : Option Addr) (len len2 cap cap2 : Nat) (xs ys : List Int) (w : World) (hl : xs.length = len) (hl2 : ys.length = len2) (hbig : len ≤ 1000000) (hbig2 : len2 ≤ 1000000) (hr : Row w a xs) (hr2 : Row w b ys) :
    Calls Try.prog 10 #[.slice a len cap, .slice b len2 cap2] w fun e w' => e = .returned (.bool (sameB xs ys)) ∧ Below w.heap.size w w' := by
  have HL := hide hl
  have HL2 := hide hl2
  have HR := hide hr
  have HR2 := hide hr2
  clear hl hl2 hr hr2
  by_cases hne : len = len2
  · subst hne
    have hnb : ((len : Int) != (len : Int)) = false := by simp
    go_enter Try.func10, Try.ntmps10
    go_wp2
    go_loopw [5] (fun i wr => ∃ k : Nat, k ≤ len ∧ i = .int .i64 k ∧ (∀ j, j < k → xs.getD j 0 = ys.getD j 0) ∧ Below w.heap.size w wr) (fun i _ => len - (intOf i).toNat)
    case atStart => exact ⟨0, Nat.zero_le _, rfl, fun j hj => by omega, Below.refl _ _⟩
    case round =>
      obtain ⟨k, hk, rfl, hsame, hbel⟩ := hrel
      have HSm := hide hsame
      have HBel := hide hbel
      clear hsame hbel
      by_cases hlt : k < len
      · have hlk : k < xs.length := by have := HL.out; omega
        have hlk2 : k < ys.length := by have := HL2.out; omega
        rcases HR.out.below HBel.out with h0 | ⟨b1, o1, rfl, _, hc1⟩
        · subst h0; simp at hlk
        rcases HR2.out.below HBel.out with h0 | ⟨b2, o2, rfl, _, hc2⟩
        · subst h0; simp at hlk2
        have g1 := hc1 k hlk
        have g2 := hc2 k hlk2
        clear hc1 hc2 hlk hlk2
        by_cases hcc : xs.getD k 0 = ys.getD k 0
        · have HCc := hide hcc
          rw [hcc] at g1
          clear hcc
          generalize ys.getD k 0 = c at g1 g2
          have hbn : (c != c) = false := by simp
          go_wp2
          go_quiet (fail)
          go_wp2
          go_roundw
          case rel => exact ⟨k + 1, by omega, by go_num, fun j hj => by
            by_cases e : j = k
            · subst e; exact HCc.out
            · exact HSm.out j (by omega), below_drewN HBel.out _⟩
          case measure => simp [intOf]; omega
        · have HCc := hide (sameB_at xs ys k hcc)
          have hbn : (xs.getD k 0 != ys.getD k 0) = true := by rw [bne_iff_ne]; exact hcc
          clear hcc
          generalize xs.getD k 0 = c at *
          generalize ys.getD k 0 = d at *
          go_wp2
          go_quiet (fail)
          go_wp2
          go_ret
          exact ⟨by rw [HCc.out]; rfl, below_drewN HBel.out _⟩
      · have HAll := hide (sameB_all xs ys (by rw [HL.out, HL2.out]) (fun i hi => HSm.out i (by have := HL.out; omega)))
        go_wp2
        go_ret
        exact ⟨by rw [HAll.out]; rfl, HBel.out⟩
  · have HS := hide (sameB_len xs ys (by rw [HL.out, HL2.out]; exact hne))
    have hnb : ((len : Int) != (len2 : Int)) = true := by rw [bne_iff_ne]; omega
    go_enter Try.func10, Try.ntmps10
    go_wp2
    go_ret
    exact ⟨by rw [HS.out]; rfl, Below.refl _ _⟩
theorem same_nil (w : World) : Calls Try.prog 10 #[.slice none 0 0, .slice none 0 0] w fun e w' => e = .returned (.bool true) ∧ Below w.heap.size w w' :=
  same_gen none none 0 0 0 0 [] [] w rfl rfl (by omega) (by omega) (.inl rfl) (.inl rfl)
set_option maxHeartbeats 800000 in
theorem sames_nil (w : World) : Calls Try.prog 17 #[.slice none 0 0, .slice none 0 0] w fun e w' => e = .returned (.bool true) ∧ w' = w := by
  go_enter Try.func17, Try.ntmps17
  go_wp2
  go_loop [5] (fun i => i = .int .i64 0) (fun _ => 0)
  case atStart => rfl
  case round =>
    subst hrel
    go_wp2
    go_ret
    exact ⟨rfl, rfl⟩
set_option maxHeartbeats 800000 in
theorem samef_nil (w : World) : Calls Try.prog 20 #[.slice none 0 0, .slice none 0 0] w fun e w' => e = .returned (.bool true) ∧ w' = w := by
  go_enter Try.func20, Try.ntmps20
  go_wp2
  go_loop [5] (fun i => i = .int .i64 0) (fun _ => 0)
  case atStart => rfl
  case round =>
    subst hrel
    go_wp2
    go_ret
    exact ⟨rfl, rfl⟩
set_option maxHeartbeats 1600000 in
set_option maxRecDepth 1000000 in
theorem samev_leaf (k n : Int) (t : ByteArray) (w : World) : Calls Try.prog 11 #[.agg #[.int .u8 k, .bool false, .int .i64 n, .string t, .slice none 0 0, .slice none 0 0, .slice none 0 0], .agg #[.int .u8 k, .bool false, .int .i64 n, .string t, .slice none 0 0, .slice none 0 0, .slice none 0 0]] w fun e w' => e = .returned (.bool true) ∧ Below w.heap.size w w' := by
  have hb := ba_beq t
  have hk : (k == k) = true := by simp
  have hn : (n == n) = true := by simp
  have HX := hide (((Fr.refl w).alloc (.cells #[.int .u8 k, .bool false, .int .i64 n, .string t, .slice none 0 0, .slice none 0 0, .slice none 0 0] 32)).alloc (.cells #[.int .u8 k, .bool false, .int .i64 n, .string t, .slice none 0 0, .slice none 0 0, .slice none 0 0] 32))
  have HB1 := hide ((Box7.new w (.int .u8 k) (.bool false) (.int .i64 n) (.string t) (.slice none 0 0) (.slice none 0 0) (.slice none 0 0)).below (below_alloc _ (.cells #[.int .u8 k, .bool false, .int .i64 n, .string t, .slice none 0 0, .slice none 0 0, .slice none 0 0] 32)))
  have HB2 := hide (Box7.new (w.alloc (.cells #[.int .u8 k, .bool false, .int .i64 n, .string t, .slice none 0 0, .slice none 0 0, .slice none 0 0] 32)) (.int .u8 k) (.bool false) (.int .i64 n) (.string t) (.slice none 0 0) (.slice none 0 0) (.slice none 0 0))
  rw [World.size_alloc] at HB2
  go_enter Try.func11, Try.ntmps11
  go_wp2_with fail
  refine (same_nil _).mono ?_
  rintro e W1 ⟨rfl, hb1⟩
  have HX1 := hide (HX.out.on hb1)
  obtain ⟨p0, p1, p2, p3, p4, p5, p6⟩ := (HB1.out.below hb1).cells
  obtain ⟨q0, q1, q2, q3, q4, q5, q6⟩ := (HB2.out.below hb1).cells
  clear hb1 HX HB1 HB2
  go_wp2_with fail
  refine (sames_nil _).mono ?_
  rintro e W2 ⟨rfl, rfl⟩
  go_wp2_with fail
  refine (samef_nil _).mono ?_
  rintro e W2 ⟨rfl, rfl⟩
  go_wp2
  go_ret
  exact ⟨rfl, HX1.out.below⟩
/-- the known tuple's cells lie at g. -/
structure Kg (w : World) (g : Nat) : Prop where
  lt : g < w.heap.size
  c : w.cell? ⟨g, 0, none⟩ = some (.int .u8 4) ∧ w.cell? ⟨g, 1, none⟩ = some (.bool false) ∧ w.cell? ⟨g, 2, none⟩ = some (.int .i64 0) ∧ w.cell? ⟨g, 3, none⟩ = some (.string ⟨#[97]⟩) ∧ w.cell? ⟨g, 4, none⟩ = some (.slice none 0 0) ∧ w.cell? ⟨g, 5, none⟩ = some (.slice none 0 0) ∧ w.cell? ⟨g, 6, none⟩ = some (.slice none 0 0)
  c' : w.cell? ⟨g, 7, none⟩ = some (.int .u8 3) ∧ w.cell? ⟨g, 8, none⟩ = some (.bool false) ∧ w.cell? ⟨g, 9, none⟩ = some (.int .i64 1) ∧ w.cell? ⟨g, 10, none⟩ = some (.string ⟨#[]⟩) ∧ w.cell? ⟨g, 11, none⟩ = some (.slice none 0 0) ∧ w.cell? ⟨g, 12, none⟩ = some (.slice none 0 0) ∧ w.cell? ⟨g, 13, none⟩ = some (.slice none 0 0)
theorem Kg.on {w w' : World} {g : Nat} (h : Kg w g) (hb : Below w.heap.size w w') : Kg w' g := by
  have e : ∀ j, w'.cell? ⟨g, j, none⟩ = w.cell? ⟨g, j, none⟩ := fun j => hb.cell (p := ⟨g, j, none⟩) h.lt
  refine ⟨Nat.lt_of_lt_of_le h.lt hb.size, ?_, ?_⟩
  · simp only [e]; exact h.c
  · simp only [e]; exact h.c'
theorem kg_of {w : World} {B : Nat} {v : Value} (h : w.ownsRow B 32 7 v 2 (kc1 ++ kc2)) : ∃ g c, v = .slice (some ⟨g, 0, none⟩) 2 c ∧ Kg w g ∧ 2 ≤ c := by
  rcases h.2 with ⟨_, h0⟩ | ⟨g, cap, cur, rfl, _, hg, hn, _⟩
  · omega
  · have e : ∀ j u, (kc1 ++ kc2)[j]? = some u → w.cell? ⟨g, j, none⟩ = some u := fun j u hu => by
      have := h.cells (g := g) rfl j u hu
      rwa [Addr.add_lit, Nat.zero_add] at this
    exact ⟨g, cap, rfl, ⟨lt_of_block hg, ⟨e 0 _ rfl, e 1 _ rfl, e 2 _ rfl, e 3 _ rfl, e 4 _ rfl, e 5 _ rfl, e 6 _ rfl⟩, ⟨e 7 _ rfl, e 8 _ rfl, e 9 _ rfl, e 10 _ rfl, e 11 _ rfl, e 12 _ rfl, e 13 _ rfl⟩⟩, hn⟩
set_option maxHeartbeats 3200000 in
set_option maxRecDepth 1000000 in
theorem sames_known (g c bl bd : Nat) (w : World) (hk : Kn w bl bd) (hg : Kg w g) :
    Calls Try.prog 17 #[.slice (some ⟨g, 0, none⟩) 2 c, .slice (some ⟨bl, 0, none⟩) 2 2] w fun e w' => e = .returned (.bool true) ∧ Below w.heap.size w w' := by
  have HK := hide hk
  have HG := hide hg
  clear hk hg
  go_enter Try.func17, Try.ntmps17
  go_wp2
  go_loopw [5] (fun i wr => ∃ j : Nat, i = .int .i64 (j : Int) ∧ j ≤ 2 ∧ Fr w.heap.size w wr) (fun i _ => 2 - (intOf i).toNat)
  case atStart => exact ⟨0, rfl, by omega, Fr.refl w⟩
  case round =>
    obtain ⟨j, rfl, hj, hfr⟩ := hrel
    have HKr := hide (HK.out.on hfr.below (lt_of_block HK.out.l) (lt_of_block HK.out.d))
    have HGr := hide (HG.out.on hfr.below)
    match j, hj with
    | 0, _ =>
      obtain ⟨q0, q1, q2, q3, q4, q5, q6⟩ := HKr.out.c
      obtain ⟨p0, p1, p2, p3, p4, p5, p6⟩ := HGr.out.c
      have HKd := hide (HKr.out.on (Below.refl wr.heap.size wr).drew (lt_of_block HKr.out.l) (lt_of_block HKr.out.d))
      have HGd := hide (HGr.out.on (Below.refl wr.heap.size wr).drew)
      have HSv := hide (samev_leaf 4 0 ⟨#[97]⟩)
      have HF := hide hfr.drew
      clear hfr
      go_wp2
      go_region_held3 (fun W => W.cell? ⟨g, 0, none⟩ = some (.int .u8 4) ∧ W.cell? ⟨g, 1, none⟩ = some (.bool false) ∧ W.cell? ⟨g, 2, none⟩ = some (.int .i64 0) ∧ W.cell? ⟨g, 3, none⟩ = some (.string ⟨#[97]⟩) ∧ W.cell? ⟨g, 4, none⟩ = some (.slice none 0 0) ∧ W.cell? ⟨g, 5, none⟩ = some (.slice none 0 0) ∧ W.cell? ⟨g, 6, none⟩ = some (.slice none 0 0) ∧ W.cell? ⟨bl, 0, none⟩ = some (.int .u8 4) ∧ W.cell? ⟨bl, 1, none⟩ = some (.bool false) ∧ W.cell? ⟨bl, 2, none⟩ = some (.int .i64 0) ∧ W.cell? ⟨bl, 3, none⟩ = some (.string ⟨#[97]⟩) ∧ W.cell? ⟨bl, 4, none⟩ = some (.slice none 0 0) ∧ W.cell? ⟨bl, 5, none⟩ = some (.slice none 0 0) ∧ W.cell? ⟨bl, 6, none⟩ = some (.slice none 0 0)) ((refine ⟨?_, ?_, ?_, ?_, ?_, ?_, ?_, ?_, ?_, ?_, ?_, ?_, ?_, ?_⟩ <;> assumption)) ((first | (go_at_call 11; refine (HSv.out _).mono ?_; intro r' V1 hh; obtain ⟨rfl, hb1⟩ := hh; have HF1 := hide (HF.out.on hb1); have HK1 := hide (HKd.out.on hb1 (lt_of_block HKd.out.l) (lt_of_block HKd.out.d)); have HG1 := hide (HGd.out.on hb1); obtain ⟨s0, s1, s2, s3, s4, s5, s6⟩ := HK1.out.c; obtain ⟨t0, t1, t2, t3, t4, t5, t6⟩ := HG1.out.c; clear hb1)))
      go_wp2
      go_roundw
      case rel => exact ⟨1, rfl, by omega, HF1.out⟩
      case measure => simp [intOf]

    | 1, _ =>
      obtain ⟨q0, q1, q2, q3, q4, q5, q6⟩ := HKr.out.c'
      obtain ⟨p0, p1, p2, p3, p4, p5, p6⟩ := HGr.out.c'
      have HKd := hide (HKr.out.on (Below.refl wr.heap.size wr).drew (lt_of_block HKr.out.l) (lt_of_block HKr.out.d))
      have HGd := hide (HGr.out.on (Below.refl wr.heap.size wr).drew)
      have HSv := hide (samev_leaf 3 1 ⟨#[]⟩)
      have HF := hide hfr.drew
      clear hfr
      go_wp2
      go_region_held3 (fun W => W.cell? ⟨g, 7, none⟩ = some (.int .u8 3) ∧ W.cell? ⟨g, 8, none⟩ = some (.bool false) ∧ W.cell? ⟨g, 9, none⟩ = some (.int .i64 1) ∧ W.cell? ⟨g, 10, none⟩ = some (.string ⟨#[]⟩) ∧ W.cell? ⟨g, 11, none⟩ = some (.slice none 0 0) ∧ W.cell? ⟨g, 12, none⟩ = some (.slice none 0 0) ∧ W.cell? ⟨g, 13, none⟩ = some (.slice none 0 0) ∧ W.cell? ⟨bl, 7, none⟩ = some (.int .u8 3) ∧ W.cell? ⟨bl, 8, none⟩ = some (.bool false) ∧ W.cell? ⟨bl, 9, none⟩ = some (.int .i64 1) ∧ W.cell? ⟨bl, 10, none⟩ = some (.string ⟨#[]⟩) ∧ W.cell? ⟨bl, 11, none⟩ = some (.slice none 0 0) ∧ W.cell? ⟨bl, 12, none⟩ = some (.slice none 0 0) ∧ W.cell? ⟨bl, 13, none⟩ = some (.slice none 0 0)) ((refine ⟨?_, ?_, ?_, ?_, ?_, ?_, ?_, ?_, ?_, ?_, ?_, ?_, ?_, ?_⟩ <;> assumption)) ((first | (go_at_call 11; refine (HSv.out _).mono ?_; intro r' V1 hh; obtain ⟨rfl, hb1⟩ := hh; have HF1 := hide (HF.out.on hb1); have HK1 := hide (HKd.out.on hb1 (lt_of_block HKd.out.l) (lt_of_block HKd.out.d)); have HG1 := hide (HGd.out.on hb1); obtain ⟨s0, s1, s2, s3, s4, s5, s6⟩ := HK1.out.c'; obtain ⟨t0, t1, t2, t3, t4, t5, t6⟩ := HG1.out.c'; clear hb1)))
      go_wp2
      go_roundw
      case rel => exact ⟨2, rfl, by omega, HF1.out⟩
      case measure => simp [intOf]

    | 2, _ =>
      go_wp2
      go_ret
      exact ⟨rfl, hfr.below⟩
end Go.Proofs.Ytegoeaofjnpehab
/- Contract of After. -/
namespace Go.Proofs.Ytegoeaofjnpehab
open Go.RowKit
set_option linter.unusedVariables false

/-- what an append to nothing keeps: all that was there. -/
theorem kept_cell {w1 : World} {a : Addr} {u : Value} {W : World} (hg : W.grownBy w1 (Value.slice none 0 0).ownBlock) (h : W.cell? a = some u) : w1.cell? a = some u :=
  (World.cell?_of_block (hg.block a.block (World.block_lt_of_cell? _ _ h) (by simp [Value.ownBlock]))).trans h
theorem kept_cell2 {X w2 : World} {v : Value} {a : Addr} {u : Value} {N : Nat} (hg : X.grownBy w2 v.ownBlock) (h : X.cell? a = some u) (hf : ∀ k, v.ownBlock = some k → N ≤ k) (hb : a.block < N) : w2.cell? a = some u :=
  (World.cell?_of_block (hg.block a.block (World.block_lt_of_cell? _ _ h) (fun e => by have := hf _ e.symm; omega))).trans h
theorem kept_alloc {X : World} {a : Addr} {u : Value} {o : Obj} (h : X.cell? a = some u) : (X.alloc o).cell? a = some u := (World.cell?_alloc_some X a o (by rw [h]; rfl)).trans h
theorem src_cell (w : World) (b : Nat) (x : Int) (h : w.cell? ⟨b, 0, none⟩ = some (.int .u8 x)) : Src Try.prog 1 22 (.slice (some ⟨b, 0, none⟩) 1 1) 1 ([x].map (Value.int .u8)) w :=
  Src.ofSlice _ Try.underlying22 ⟨b, 0, none⟩ 1 1 [.int .u8 x] rfl (by intro j u hj; match j, hj with | 0, hj => simp at hj; subst hj; simpa [Addr.add] using h) (by intro u hu; simp at hu; subst hu; rfl)
set_option maxHeartbeats 3200000 in
set_option maxRecDepth 1000000 in
theorem after_at (a : Option Addr) (len cap : Nat) (bs : List Int) (p : Nat) (w : World) (hl : bs.length = len) (hbig : len ≤ 1000000) (hcap : len ≤ cap) (hr : Row w a bs) (hy : Byts bs) (hp : p < len) (h1 : bs.getD p 0 < 255) (h2 : ∀ i, p < i → i < len → bs.getD i 0 = 255) :
    Calls Try.prog 16 #[.slice a len cap] w fun e w' => ∃ v, e = .returned (.tuple #[v, .bool true]) ∧ OwnB w.heap.size w' v (bs.take p ++ [bs.getD p 0 + 1]) ∧ Below w.heap.size w w' := by
  obtain ⟨i0, hi, hz0, hz1, hz2⟩ := info_parts Try.info5
  have hpl : p < bs.length := by omega
  have hb0 := hy.at p
  obtain ⟨b, o, rfl, hlt, hc⟩ : ∃ b o, a = some ⟨b, o, none⟩ ∧ b < w.heap.size ∧ ∀ i, i < bs.length → w.cell? ⟨b, o + i, none⟩ = some (.int .u8 (bs.getD i 0)) := by
    rcases hr with h0 | ⟨b, o, rfl, hlt, hc⟩
    · subst h0; simp at hpl
    · exact ⟨b, o, rfl, hlt, hc⟩
  have HR := hide hr
  have HL := hide hl
  have HC := hide hc
  have H2 := hide h2
  clear hr hl hc h2 hy
  go_enter Try.func16, Try.ntmps16
  go_wp2
  go_loop [4] (fun i => ∃ k : Nat, p ≤ k ∧ k < len ∧ i = .int .i64 (k : Int)) (fun i => (intOf i).toNat)
  case atStart => exact ⟨len - 1, by omega, by omega, by congr 1; omega⟩
  case round =>
    obtain ⟨k, hpk, hkl, rfl⟩ := hrel
    have g := HC.out k (by have := HL.out; omega)
    by_cases hk : k = p
    · subst hk
      have hcell := hide g
      have HSr : Hid (∀ X, Below w.heap.size w X → Src Try.prog 1 22 (.slice (some ⟨b, o, none⟩) k cap) k ((bs.take k).map (Value.int .u8)) X) := fun X hX => src_row X _ k cap _ (by simp; omega) (fun e => by cases e) (by
        rcases HR.out.below hX with h0 | ⟨b', o', e, hlt', hc'⟩
        · subst h0; simp at hpl
        · cases e
          exact .inr ⟨b, o, rfl, hlt', fun i hi' => by
            rw [List.length_take] at hi'
            rw [hc' i (by omega)]
            simp [List.getD_eq_getElem?_getD, show i < k by omega]⟩)
      have hd : decide (bs.getD k 0 < 255) = true := by simpa using h1
      have hkc : (k : Int) ≤ (cap : Int) := by omega
      have hkn : k ≤ cap := by omega
      generalize hgc : bs.getD k 0 = c at *
      have gd : w.drew.cell? ⟨b, o + k, none⟩ = some (.int .u8 c) := g
      have HGc := hide hgc
      have hwr : IntKind.u8.wrap (c + 1) = c + 1 := by simp [IntKind.wrap, IntKind.bits, IntKind.signed]; omega
      have gda : (w.alloc (.cells #[.int .u8 (c + 1)] 5)).drew.cell? ⟨b, o + k, none⟩ = some (.int .u8 c) := kept_alloc (X := w) g
      have gnew : (w.alloc (.cells #[.int .u8 (c + 1)] 5)).drew.cell? ⟨w.heap.size, 0, none⟩ = some (.int .u8 (c + 1)) := by simp
      clear hgc
      go_wp2
      go_region_held3 (fun W => W.cell? ⟨b, o + k, none⟩ = some (.int .u8 c)) ((first | assumption | go_keep)) ((first | (refine step_append_src (by rfl) (.const (.slice none 0 0)) (.tmp 19) 22 22 (by rfl) i0 Try.underlying22 hi hz0 hz1 hz2 (.slice none 0 0) [] (by rfl) (Own.nil _) (.slice (some ⟨b, o, none⟩) k cap) k (bs.take k) (by rfl) (HSr.out _ (Below.refl _ _).drew) (by simp; omega) ?_; intro v1 w1 hown1 hg1 hf1; obtain ⟨a1, n1, c1, rfl, HN1⟩ := hown1.shape2; have HO1 := hide hown1; have HG1 := hide hg1; have HF1 : Hid (∀ k, (Value.slice a1 n1 c1).ownBlock = some k → w.heap.size ≤ k) := fun k hk => (hf1 k hk).elim (fun e => by simp [Value.ownBlock] at e) (fun hs => by simp at hs; omega); have HFr1 := hide ((Fr.refl w).drew.grown hg1 (fun k e => by simp [Value.ownBlock] at e)); have gw := kept_cell hg1 gd;  clear hown1 hg1 hf1) | (refine step_append_src (by rfl) (.const (.slice none 0 0)) (.tmp 19) 22 22 (by rfl) i0 Try.underlying22 hi hz0 hz1 hz2 (.slice none 0 0) [] (by rfl) (Own.nil _) (.slice (some ⟨b, o, none⟩) k cap) k (bs.take k) (by rfl) (HSr.out _ (below_alloc _ _).drew) (by simp; omega) ?_; intro v1 w1 hown1 hg1 hf1; obtain ⟨a1, n1, c1, rfl, HN1⟩ := hown1.shape2; have HO1 := hide hown1; have HG1 := hide hg1; have HF1 : Hid (∀ k, (Value.slice a1 n1 c1).ownBlock = some k → w.heap.size ≤ k) := fun k hk => (hf1 k hk).elim (fun e => by simp [Value.ownBlock] at e) (fun hs => by simp at hs; omega); have HFr1 := hide (((Fr.refl w).alloc _).drew.grown hg1 (fun k e => by simp [Value.ownBlock] at e)); have gw := kept_cell hg1 gda; have gn := kept_cell hg1 gnew; clear hown1 hg1 hf1) | (refine step_append_src (by rfl) (.tmp 20) (.tmp 26) 22 22 (by rfl) i0 Try.underlying22 hi hz0 hz1 hz2 (.slice a1 n1 c1) ([] ++ bs.take k) (by rfl) (HO1.out.alloc _) _ 1 [c + 1] (by rfl) (src_one _ _) (by simp; omega) ?_; intro v2 w2 hown2 hg2 hf2; obtain ⟨a2, n2, c2, rfl, HN2⟩ := hown2.shape2; have HO2 := hide hown2; have HF2 := hide hf2; have HFr2 := hide ((HFr1.out.alloc _).grown hg2 HF1.out); have gx := kept_cell2 hg2 (kept_alloc gw) HF1.out hlt; clear hown2 hg2 hf2) | (refine step_append_src (by rfl) (.tmp 20) (.tmp 26) 22 22 (by rfl) i0 Try.underlying22 hi hz0 hz1 hz2 (.slice a1 n1 c1) ([] ++ bs.take k) (by rfl) HO1.out _ 1 [c + 1] (by rfl) (src_cell _ _ _ gn) (by simp; omega) ?_; intro v2 w2 hown2 hg2 hf2; obtain ⟨a2, n2, c2, rfl, HN2⟩ := hown2.shape2; have HO2 := hide hown2; have HF2 := hide hf2; have HFr2 := hide (HFr1.out.grown hg2 HF1.out); have gx := kept_cell2 hg2 gw HF1.out hlt; clear hown2 hg2 hf2)))
      all_goals
        clear gd gda gnew g gw gx
        go_wp2
        go_ret2
        refine ⟨.slice a2 n2 c2, rfl, ⟨?_, fun x hx => (HF2.out x hx).elim (HF1.out x) (fun hs => Nat.le_trans (by first | exact (HFr1.out.alloc _).size | exact HFr1.out.size) hs)⟩, HFr2.out.below⟩
        rw [HGc.out]
        exact HO2.out
    · have h255 := H2.out k (by omega) hkl
      rw [h255] at g
      go_wp2
      go_round
      case rel => exact ⟨k - 1, by omega, by omega, by congr 1; omega⟩
      case measure => simp [intOf]; omega
set_option maxHeartbeats 1600000 in
set_option maxRecDepth 1000000 in
theorem after_all (a : Option Addr) (len cap : Nat) (bs : List Int) (w : World) (hl : bs.length = len) (hbig : len ≤ 1000000) (hr : Row w a bs) (h2 : ∀ i, i < len → bs.getD i 0 = 255) :
    Calls Try.prog 16 #[.slice a len cap] w fun e w' => e = .returned (.tuple #[.slice none 0 0, .bool false]) ∧ w' = w := by
  have HR := hide hr
  have HL := hide hl
  have H2 := hide h2
  clear hr hl h2
  go_enter Try.func16, Try.ntmps16
  go_wp2
  go_loop [4] (fun i => ∃ k : Nat, k ≤ len ∧ i = .int .i64 ((k : Int) - 1)) (fun i => (intOf i + 1).toNat)
  case atStart => exact ⟨len, by omega, rfl⟩
  case round =>
    obtain ⟨k, hkl, rfl⟩ := hrel
    by_cases hk : k = 0
    · subst hk
      go_wp2
      go_ret2
      exact ⟨rfl, rfl⟩
    · obtain ⟨j, rfl⟩ : ∃ j, k = j + 1 := ⟨k - 1, by omega⟩
      have hjl : j < bs.length := by have := HL.out; omega
      rw [show ((j + 1 : Nat) : Int) - 1 = (j : Int) by omega]
      rcases HR.out with h0 | ⟨b, o, rfl, hlt, hc⟩
      · subst h0; simp at hjl
      have g := hc j hjl
      rw [H2.out j (by omega)] at g
      clear hc
      go_wp2
      go_round
      case rel => exact ⟨j, by omega, rfl⟩
      case measure => simp [intOf]
end Go.Proofs.Ytegoeaofjnpehab
/- Mathematics: the order of bytes; what begins with some bytes lies between these and the next. -/
namespace Go.Proofs.Ytegoeaofjnpehab
set_option linter.unusedVariables false

/-- bytes compared. -/
def ordI : List Int → List Int → Int
  | [], [] => 0
  | [], _ :: _ => -1
  | _ :: _, [] => 1
  | x :: xs, y :: ys => if x < y then -1 else if y < x then 1 else ordI xs ys
theorem ordI_self (xs : List Int) : ordI xs xs = 0 := by
  induction xs with
  | nil => rfl
  | cons x xs ih => simp [ordI, ih]
theorem ordI_zero (xs ys : List Int) (h : ordI xs ys = 0) : xs = ys := by
  induction xs generalizing ys with
  | nil => cases ys with
    | nil => rfl
    | cons y ys => simp [ordI] at h
  | cons x xs ih => cases ys with
    | nil => simp [ordI] at h
    | cons y ys =>
      unfold ordI at h
      split at h
      · simp at h
      · split at h
        · simp at h
        · rw [ih ys h, show x = y by omega]
theorem ordI_nil (xs : List Int) : 0 ≤ ordI xs [] := by cases xs <;> simp [ordI]
theorem ordI_pre (pre xs ys : List Int) : ordI (pre ++ xs) (pre ++ ys) = ordI xs ys := by
  induction pre with
  | nil => rfl
  | cons p pre ih => simp [ordI, ih]
theorem ordI_begins (b z : List Int) : 0 ≤ ordI (b ++ z) b := by
  have := ordI_pre b z []
  rw [List.append_nil] at this
  rw [this]
  exact ordI_nil z
/-- b's bytes up to p, that one more. -/
def aft (b : List Int) (p : Nat) : List Int := b.take p ++ [b.getD p 0 + 1]
theorem split_at (b : List Int) (p : Nat) (hp : p < b.length) : b = b.take p ++ b.getD p 0 :: b.drop (p + 1) := by
  conv => lhs; rw [← List.take_append_drop p b, List.drop_eq_getElem_cons hp]
  rw [List.getD_eq_getElem?_getD, List.getElem?_eq_getElem hp]
  rfl
theorem before_aft (b z : List Int) (p : Nat) (hp : p < b.length) : ordI (b ++ z) (aft b p) < 0 := by
  have h := split_at b p hp
  have e : b ++ z = b.take p ++ (b.getD p 0 :: (b.drop (p + 1) ++ z)) := by
    conv => lhs; rw [h]
    simp
  rw [e]
  unfold aft
  rw [ordI_pre]
  simp [ordI]
  omega
theorem full_begins (s r : List Int) (hs : ∀ c ∈ s, c = 255) (hr : Byts r) (h : 0 ≤ ordI r s) : ∃ z, r = s ++ z := by
  induction s generalizing r with
  | nil => exact ⟨r, rfl⟩
  | cons c s ih =>
    have hc : c = 255 := hs c (by simp)
    subst hc
    cases r with
    | nil => simp [ordI] at h
    | cons x r =>
      have hx := hr x (by simp)
      unfold ordI at h
      split at h
      · simp at h
      · split at h
        · omega
        · obtain ⟨z, rfl⟩ := ih r (fun c hc => hs c (by simp [hc])) (fun c hc => hr c (by simp [hc])) h
          exact ⟨z, by rw [show x = 255 by omega]; rfl⟩
theorem between_begins (pre s r : List Int) (c : Int) (hs : ∀ c ∈ s, c = 255) (hr : Byts r) (h1 : 0 ≤ ordI r (pre ++ c :: s)) (h2 : ordI r (pre ++ [c + 1]) < 0) : ∃ z, r = pre ++ c :: s ++ z := by
  induction pre generalizing r with
  | nil =>
    cases r with
    | nil => simp [ordI] at h1
    | cons x r =>
      simp only [List.nil_append] at h1 h2
      unfold ordI at h1 h2
      split at h1
      · simp at h1
      · split at h2
        · split at h1
          · omega
          · obtain ⟨z, rfl⟩ := full_begins s r hs (fun c hc => hr c (by simp [hc])) h1
            exact ⟨z, by rw [show x = c by omega]; rfl⟩
        · split at h2
          · simp at h2
          · have := ordI_nil r; omega
  | cons p pre ih =>
    cases r with
    | nil => simp [ordI] at h1
    | cons x r =>
      simp only [List.cons_append] at h1 h2
      unfold ordI at h1 h2
      split at h1
      · simp at h1
      · split at h1
        · split at h2 <;> omega
        · split at h2
          · omega
          · obtain ⟨z, rfl⟩ := ih r (fun c hc => hr c (by simp [hc])) h1 h2
            exact ⟨z, by rw [show x = p by omega]; simp⟩
/-- does r begin with b? -/
def beg (r b : List Int) : Bool := decide (b.length ≤ r.length) && decide (r.take b.length = b)
theorem beg_of (r b z : List Int) (h : r = b ++ z) : beg r b = true := by subst h; simp [beg]
theorem beg_is (r b : List Int) (h : beg r b = true) : ∃ z, r = b ++ z := by
  simp [beg] at h
  exact ⟨r.drop b.length, by conv => lhs; rw [← List.take_append_drop b.length r, h.2]⟩
theorem beg_mid (r b : List Int) (p : Nat) (hp : p < b.length) (hr : Byts r) (h2 : ∀ i, p < i → i < b.length → b.getD i 0 = 255) : beg r b = (decide (0 ≤ ordI r b) && decide (ordI r (aft b p) < 0)) := by
  by_cases hb : beg r b = true
  · obtain ⟨z, rfl⟩ := beg_is r b hb
    rw [hb]
    have h3 := ordI_begins b z
    have h4 := before_aft b z p hp
    simp [h3, h4]
  · have hbf : beg r b = false := by simpa using hb
    rw [hbf]
    symm
    rw [Bool.and_eq_false_iff]
    by_cases h3 : 0 ≤ ordI r b
    · right
      rw [decide_eq_false_iff_not]
      intro h4
      apply hb
      have hs := split_at b p hp
      have hd : ∀ c ∈ b.drop (p + 1), c = 255 := by
        intro c hc
        obtain ⟨i, hi, rfl⟩ := List.mem_iff_getElem.1 hc
        rw [List.length_drop] at hi
        have := h2 (p + 1 + i) (by omega) (by omega)
        rw [List.getD_eq_getElem?_getD, List.getElem?_eq_getElem (by omega)] at this
        simpa using this
      rw [hs] at h3
      unfold aft at h4
      obtain ⟨z, hz⟩ := between_begins (b.take p) (b.drop (p + 1)) r (b.getD p 0) hd hr h3 h4
      exact beg_of r b z (by rw [hz, ← hs])
    · left
      simpa using h3
/-- where bytes have one below 255, the last such place. -/
theorem last_at (b : List Int) (hb : Byts b) : (∀ i, i < b.length → b.getD i 0 = 255) ∨ ∃ p, p < b.length ∧ b.getD p 0 < 255 ∧ ∀ i, p < i → i < b.length → b.getD i 0 = 255 := by
  suffices ∀ n, n ≤ b.length → (∀ i, b.length - n ≤ i → i < b.length → b.getD i 0 = 255) ∨ ∃ p, p < b.length ∧ b.getD p 0 < 255 ∧ ∀ i, p < i → i < b.length → b.getD i 0 = 255 by
    rcases this b.length (Nat.le_refl _) with h | h
    · exact .inl fun i hi => h i (by omega) hi
    · exact .inr h
  intro n
  induction n with
  | zero => intro _; exact .inl fun i h1 h2 => by omega
  | succ n ih =>
    intro hn
    rcases ih (by omega) with h | h
    · by_cases hc : b.getD (b.length - (n + 1)) 0 < 255
      · exact .inr ⟨b.length - (n + 1), by omega, hc, fun i h1 h2 => h i (by omega) h2⟩
      · refine .inl fun i h1 h2 => ?_
        by_cases e : i = b.length - (n + 1)
        · subst e
          have := hb.at (b.length - (n + 1))
          omega
        · exact h i (by omega) h2
    · exact .inr h
end Go.Proofs.Ytegoeaofjnpehab
/- Contract of the order of bytes. -/
namespace Go.Proofs.Ytegoeaofjnpehab
open Go.RowKit
set_option linter.unusedVariables false
theorem bk_list (xs : List Int) : (bk xs).toList = xs.map fun z => UInt8.ofNat z.toNat := by
  rw [ByteArray.toList_eq]
  simp [bk]
theorem u8_lt (x y : Int) (hx : 0 ≤ x ∧ x ≤ 255) (hy : 0 ≤ y ∧ y ≤ 255) : (UInt8.ofNat x.toNat < UInt8.ofNat y.toNat) ↔ x < y := by
  rw [UInt8.lt_iff_toNat_lt]
  simp
  omega
theorem u8_eq (x y : Int) (hx : 0 ≤ x ∧ x ≤ 255) (hy : 0 ≤ y ∧ y ≤ 255) : (UInt8.ofNat x.toNat = UInt8.ofNat y.toNat) ↔ x = y := by
  constructor
  · intro h
    have := congrArg UInt8.toNat h
    simp at this
    omega
  · rintro rfl; rfl
theorem less_is (xs ys : List Int) (hx : Byts xs) (hy : Byts ys) : Op.bytesLess (xs.map fun z => UInt8.ofNat z.toNat) (ys.map fun z => UInt8.ofNat z.toNat) = decide (ordI xs ys < 0) := by
  induction xs generalizing ys with
  | nil => cases ys <;> simp [Op.bytesLess, ordI]
  | cons x xs ih => cases ys with
    | nil => simp [Op.bytesLess, ordI]
    | cons y ys =>
      have h1 := hx x (by simp)
      have h2 := hy y (by simp)
      have ih' := ih ys (fun c hc => hx c (by simp [hc])) (fun c hc => hy c (by simp [hc]))
      simp only [List.map_cons, Op.bytesLess, ih']
      rw [show ordI (x :: xs) (y :: ys) = if x < y then -1 else if y < x then 1 else ordI xs ys from rfl]
      have l1 := u8_lt x y h1 h2
      have l2 := u8_eq x y h1 h2
      by_cases hlt : x < y
      · simp [l1.2 hlt, hlt]
      · have hn : ¬ (UInt8.ofNat x.toNat < UInt8.ofNat y.toNat) := fun h => hlt (l1.1 h)
        by_cases he : x = y
        · subst he
          have hni : ¬ (UInt8.ofNat x.toNat < UInt8.ofNat x.toNat) := hn
          simp [hni]
        · have hne : ¬ (UInt8.ofNat x.toNat = UInt8.ofNat y.toNat) := fun h => he (l2.1 h)
          have hgt : y < x := by omega
          simp [hn, hne, hlt, hgt]
theorem eq_is (xs ys : List Int) (hx : Byts xs) (hy : Byts ys) : ((xs.map fun z => UInt8.ofNat z.toNat) == (ys.map fun z => UInt8.ofNat z.toNat)) = decide (xs = ys) := by
  rw [Bool.eq_iff_iff]
  simp only [beq_iff_eq, decide_eq_true_eq]
  constructor
  · intro h
    have h1 := sb_bk xs hx
    have h2 := sb_bk ys hy
    have : bk xs = bk ys := by unfold bk; rw [h]
    rw [← h1, ← h2, this]
  · rintro rfl; rfl
theorem ordI_cases (xs ys : List Int) : ordI xs ys = -1 ∨ ordI xs ys = 0 ∨ ordI xs ys = 1 := by
  induction xs generalizing ys with
  | nil => cases ys <;> simp [ordI]
  | cons x xs ih => cases ys with
    | nil => simp [ordI]
    | cons y ys =>
      unfold ordI
      split
      · simp
      · split
        · simp
        · exact ih ys
set_option maxHeartbeats 1600000 in
set_option maxRecDepth 1000000 in
theorem order_any (a b : Option Addr) (l1 c1 l2 c2 : Nat) (xs ys : List Int) (w : World) (h1 : xs.length = l1) (h2 : ys.length = l2) (n1 : a = none → l1 = 0 ∧ c1 = 0) (n2 : b = none → l2 = 0 ∧ c2 = 0) (r1 : Row w a xs) (r2 : Row w b ys) (b1 : Byts xs) (b2 : Byts ys) :
    Calls Try.prog 15 #[.slice a l1 c1, .slice b l2 c2] w fun e w' => e = .returned (.int .i64 (ordI xs ys)) ∧ w' = w := by
  have k1 := run_text w a l1 c1 xs h1 n1 r1 b1
  have k2 := run_text w b l2 c2 ys h2 n2 r2 b2
  have HL := hide (less_is xs ys b1 b2)
  have HE := hide (eq_is xs ys b1 b2)
  rw [← bk_list, ← bk_list] at HL HE
  have hl := HL.out
  have he := HE.out
  have HC := hide (ordI_cases xs ys)
  have HZ := hide (ordI_zero xs ys)
  clear h1 h2 n1 n2 r1 r2 b1 b2
  by_cases hlt : ordI xs ys < 0
  · have HV : Hid (ordI xs ys = -1) := by rcases HC.out with h | h | h <;> rw [Hid] <;> omega
    rw [decide_eq_true hlt] at hl
    clear he hlt
    go_enter Try.func15, Try.ntmps15
    go_wp2
    go_ret
    exact ⟨by rw [HV.out]; rfl, rfl⟩
  · rw [decide_eq_false hlt] at hl
    by_cases heq : xs = ys
    · have HV : Hid (ordI xs ys = 0) := by rw [heq]; exact ordI_self ys
      rw [decide_eq_true heq] at he
      clear heq hlt
      go_enter Try.func15, Try.ntmps15
      go_wp2
      go_ret
      exact ⟨by rw [HV.out]; rfl, rfl⟩
    · have HV : Hid (ordI xs ys = 1) := by rcases HC.out with h | h | h <;> rw [Hid] <;> first | omega | exact absurd (HZ.out h) heq
      rw [decide_eq_false heq] at he
      clear heq hlt
      go_enter Try.func15, Try.ntmps15
      go_wp2
      go_ret
      exact ⟨by rw [HV.out]; rfl, rfl⟩
end Go.Proofs.Ytegoeaofjnpehab
