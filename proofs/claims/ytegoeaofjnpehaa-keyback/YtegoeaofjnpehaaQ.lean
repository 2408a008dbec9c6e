/- Contracts of asking whether two are the same: bytes, values without lists, the known tuple. -/
import Derived.Test.YtegoeaofjnpehaaP
namespace Go.Proofs.Ytegoeaofjnpehaa
open Go.RowKit
set_option linter.unusedVariables false

/-- are two rows the same? -/
def sameB (xs ys : List Int) : Bool := decide (xs = ys)
theorem sameB_len (xs ys : List Int) (h : xs.length ≠ ys.length) : sameB xs ys = false := by
  unfold sameB; rw [decide_eq_false]; intro e; exact h (by rw [e])
theorem sameB_all (xs ys : List Int) (h : xs.length = ys.length) (h2 : ∀ i, i < xs.length → xs.getD i 0 = ys.getD i 0) : sameB xs ys = true := by
  unfold sameB; rw [decide_eq_true]
  apply List.ext_getElem h
  intro i h3 h4
  have := h2 i h3
  simpa [List.getD_eq_getElem?_getD, h3, h4] using this
theorem sameB_at (xs ys : List Int) (i : Nat) (h : xs.getD i 0 ≠ ys.getD i 0) : sameB xs ys = false := by
  unfold sameB; rw [decide_eq_false]; intro e; exact h (by rw [e])

set_option maxHeartbeats 800000 in
theorem same_gen (a b : Option Addr) (len len2 cap cap2 : Nat) (xs ys : List Int) (w : World) (hl : xs.length = len) (hl2 : ys.length = len2) (hbig : len ≤ 1000000) (hbig2 : len2 ≤ 1000000) (hr : Row w a xs) (hr2 : Row w b ys) :
    Calls Try.prog 16 #[.slice a len cap, .slice b len2 cap2] w fun e w' => e = .returned (.bool (sameB xs ys)) ∧ Below w.heap.size w w' := by
  have HL := hide hl
  have HL2 := hide hl2
  have HR := hide hr
  have HR2 := hide hr2
  clear hl hl2 hr hr2
  by_cases hne : len = len2
  · subst hne
    have hnb : ((len : Int) != (len : Int)) = false := by simp
    go_enter Try.func16, Try.ntmps16
    go_wp2
    go_loopw [5] (fun i wr => ∃ k : Nat, k ≤ len ∧ i = .int .i64 k ∧ (∀ j, j < k → xs.getD j 0 = ys.getD j 0) ∧ Below w.heap.size w wr) (fun i _ => len - (intOf i).toNat)
    case atStart => exact ⟨0, Nat.zero_le _, rfl, fun j hj => by omega, Below.refl _ _⟩
    case round =>
      obtain ⟨k, hk, rfl, hsame, hbel⟩ := hrel
      have HSm := hide hsame
      have HBel := hide hbel
      clear hsame hbel
      by_cases hlt : k < len
      · have hlk : k < xs.length := by have := HL.out; omega
        have hlk2 : k < ys.length := by have := HL2.out; omega
        rcases HR.out.below HBel.out with h0 | ⟨b1, o1, rfl, _, hc1⟩
        · subst h0; simp at hlk
        rcases HR2.out.below HBel.out with h0 | ⟨b2, o2, rfl, _, hc2⟩
        · subst h0; simp at hlk2
        have g1 := hc1 k hlk
        have g2 := hc2 k hlk2
        clear hc1 hc2 hlk hlk2
        by_cases hcc : xs.getD k 0 = ys.getD k 0
        · have HCc := hide hcc
          rw [hcc] at g1
          clear hcc
          generalize ys.getD k 0 = c at g1 g2
          have hbn : (c != c) = false := by simp
          go_wp2
          go_quiet (fail)
          go_wp2
          go_roundw
          case rel => exact ⟨k + 1, by omega, by go_num, fun j hj => by
            by_cases e : j = k
            · subst e; exact HCc.out
            · exact HSm.out j (by omega), below_drewN HBel.out _⟩
          case measure => simp [intOf]; omega
        · have HCc := hide (sameB_at xs ys k hcc)
          have hbn : (xs.getD k 0 != ys.getD k 0) = true := by rw [bne_iff_ne]; exact hcc
          clear hcc
          generalize xs.getD k 0 = c at *
          generalize ys.getD k 0 = d at *
          go_wp2
          go_quiet (fail)
          go_wp2
          go_ret
          exact ⟨by rw [HCc.out]; rfl, below_drewN HBel.out _⟩
      · have HAll := hide (sameB_all xs ys (by rw [HL.out, HL2.out]) (fun i hi => HSm.out i (by have := HL.out; omega)))
        go_wp2
        go_ret
        exact ⟨by rw [HAll.out]; rfl, HBel.out⟩
  · have HS := hide (sameB_len xs ys (by rw [HL.out, HL2.out]; exact hne))
    have hnb : ((len : Int) != (len2 : Int)) = true := by rw [bne_iff_ne]; omega
    go_enter Try.func16, Try.ntmps16
    go_wp2
    go_ret
    exact ⟨by rw [HS.out]; rfl, Below.refl _ _⟩
theorem same_nil (w : World) : Calls Try.prog 16 #[.slice none 0 0, .slice none 0 0] w fun e w' => e = .returned (.bool true) ∧ Below w.heap.size w w' :=
  same_gen none none 0 0 0 0 [] [] w rfl rfl (by omega) (by omega) (.inl rfl) (.inl rfl)
set_option maxHeartbeats 800000 in
theorem sames_nil (w : World) : Calls Try.prog 12 #[.slice none 0 0, .slice none 0 0] w fun e w' => e = .returned (.bool true) ∧ w' = w := by
  go_enter Try.func12, Try.ntmps12
  go_wp2
  go_loop [5] (fun i => i = .int .i64 0) (fun _ => 0)
  case atStart => rfl
  case round =>
    subst hrel
    go_wp2
    go_ret
    exact ⟨rfl, rfl⟩
set_option maxHeartbeats 800000 in
theorem samef_nil (w : World) : Calls Try.prog 28 #[.slice none 0 0, .slice none 0 0] w fun e w' => e = .returned (.bool true) ∧ w' = w := by
  go_enter Try.func28, Try.ntmps28
  go_wp2
  go_loop [5] (fun i => i = .int .i64 0) (fun _ => 0)
  case atStart => rfl
  case round =>
    subst hrel
    go_wp2
    go_ret
    exact ⟨rfl, rfl⟩
set_option maxHeartbeats 1600000 in
set_option maxRecDepth 1000000 in
theorem samev_leaf (k n : Int) (t : ByteArray) (w : World) : Calls Try.prog 15 #[.agg #[.int .u8 k, .bool false, .int .i64 n, .string t, .slice none 0 0, .slice none 0 0, .slice none 0 0], .agg #[.int .u8 k, .bool false, .int .i64 n, .string t, .slice none 0 0, .slice none 0 0, .slice none 0 0]] w fun e w' => e = .returned (.bool true) ∧ Below w.heap.size w w' := by
  have hb := ba_beq t
  have hk : (k == k) = true := by simp
  have hn : (n == n) = true := by simp
  have HX := hide (((Fr.refl w).alloc (.cells #[.int .u8 k, .bool false, .int .i64 n, .string t, .slice none 0 0, .slice none 0 0, .slice none 0 0] 41)).alloc (.cells #[.int .u8 k, .bool false, .int .i64 n, .string t, .slice none 0 0, .slice none 0 0, .slice none 0 0] 41))
  have HB1 := hide ((Box7.new w (.int .u8 k) (.bool false) (.int .i64 n) (.string t) (.slice none 0 0) (.slice none 0 0) (.slice none 0 0)).below (below_alloc _ (.cells #[.int .u8 k, .bool false, .int .i64 n, .string t, .slice none 0 0, .slice none 0 0, .slice none 0 0] 41)))
  have HB2 := hide (Box7.new (w.alloc (.cells #[.int .u8 k, .bool false, .int .i64 n, .string t, .slice none 0 0, .slice none 0 0, .slice none 0 0] 41)) (.int .u8 k) (.bool false) (.int .i64 n) (.string t) (.slice none 0 0) (.slice none 0 0) (.slice none 0 0))
  rw [World.size_alloc] at HB2
  go_enter Try.func15, Try.ntmps15
  go_wp2_with fail
  refine (same_nil _).mono ?_
  rintro e W1 ⟨rfl, hb1⟩
  have HX1 := hide (HX.out.on hb1)
  obtain ⟨p0, p1, p2, p3, p4, p5, p6⟩ := (HB1.out.below hb1).cells
  obtain ⟨q0, q1, q2, q3, q4, q5, q6⟩ := (HB2.out.below hb1).cells
  clear hb1 HX HB1 HB2
  go_wp2_with fail
  refine (sames_nil _).mono ?_
  rintro e W2 ⟨rfl, rfl⟩
  go_wp2_with fail
  refine (samef_nil _).mono ?_
  rintro e W2 ⟨rfl, rfl⟩
  go_wp2
  go_ret
  exact ⟨rfl, HX1.out.below⟩
/-- the known tuple's cells lie at g. -/
structure Kg (w : World) (g : Nat) : Prop where
  lt : g < w.heap.size
  c : w.cell? ⟨g, 0, none⟩ = some (.int .u8 4) ∧ w.cell? ⟨g, 1, none⟩ = some (.bool false) ∧ w.cell? ⟨g, 2, none⟩ = some (.int .i64 0) ∧ w.cell? ⟨g, 3, none⟩ = some (.string ⟨#[97]⟩) ∧ w.cell? ⟨g, 4, none⟩ = some (.slice none 0 0) ∧ w.cell? ⟨g, 5, none⟩ = some (.slice none 0 0) ∧ w.cell? ⟨g, 6, none⟩ = some (.slice none 0 0)
  c' : w.cell? ⟨g, 7, none⟩ = some (.int .u8 3) ∧ w.cell? ⟨g, 8, none⟩ = some (.bool false) ∧ w.cell? ⟨g, 9, none⟩ = some (.int .i64 1) ∧ w.cell? ⟨g, 10, none⟩ = some (.string ⟨#[]⟩) ∧ w.cell? ⟨g, 11, none⟩ = some (.slice none 0 0) ∧ w.cell? ⟨g, 12, none⟩ = some (.slice none 0 0) ∧ w.cell? ⟨g, 13, none⟩ = some (.slice none 0 0)
theorem Kg.on {w w' : World} {g : Nat} (h : Kg w g) (hb : Below w.heap.size w w') : Kg w' g := by
  have e : ∀ j, w'.cell? ⟨g, j, none⟩ = w.cell? ⟨g, j, none⟩ := fun j => hb.cell (p := ⟨g, j, none⟩) h.lt
  refine ⟨Nat.lt_of_lt_of_le h.lt hb.size, ?_, ?_⟩
  · simp only [e]; exact h.c
  · simp only [e]; exact h.c'
theorem kg_of {w : World} {B : Nat} {v : Value} (h : w.ownsRow B 41 7 v 2 (kc1 ++ kc2)) : ∃ g c, v = .slice (some ⟨g, 0, none⟩) 2 c ∧ Kg w g ∧ 2 ≤ c := by
  rcases h.2 with ⟨_, h0⟩ | ⟨g, cap, cur, rfl, _, hg, hn, _⟩
  · omega
  · have e : ∀ j u, (kc1 ++ kc2)[j]? = some u → w.cell? ⟨g, j, none⟩ = some u := fun j u hu => by
      have := h.cells (g := g) rfl j u hu
      rwa [Addr.add_lit, Nat.zero_add] at this
    exact ⟨g, cap, rfl, ⟨lt_of_block hg, ⟨e 0 _ rfl, e 1 _ rfl, e 2 _ rfl, e 3 _ rfl, e 4 _ rfl, e 5 _ rfl, e 6 _ rfl⟩, ⟨e 7 _ rfl, e 8 _ rfl, e 9 _ rfl, e 10 _ rfl, e 11 _ rfl, e 12 _ rfl, e 13 _ rfl⟩⟩, hn⟩
set_option maxHeartbeats 3200000 in
set_option maxRecDepth 1000000 in
theorem sames_known (g c bl bd : Nat) (w : World) (hk : Kn w bl bd) (hg : Kg w g) :
    Calls Try.prog 12 #[.slice (some ⟨g, 0, none⟩) 2 c, .slice (some ⟨bl, 0, none⟩) 2 2] w fun e w' => e = .returned (.bool true) ∧ Below w.heap.size w w' := by
  have HK := hide hk
  have HG := hide hg
  clear hk hg
  go_enter Try.func12, Try.ntmps12
  go_wp2
  go_loopw [5] (fun i wr => ∃ j : Nat, i = .int .i64 (j : Int) ∧ j ≤ 2 ∧ Fr w.heap.size w wr) (fun i _ => 2 - (intOf i).toNat)
  case atStart => exact ⟨0, rfl, by omega, Fr.refl w⟩
  case round =>
    obtain ⟨j, rfl, hj, hfr⟩ := hrel
    have HKr := hide (HK.out.on hfr.below (lt_of_block HK.out.l) (lt_of_block HK.out.d))
    have HGr := hide (HG.out.on hfr.below)
    match j, hj with
    | 0, _ =>
      obtain ⟨q0, q1, q2, q3, q4, q5, q6⟩ := HKr.out.c
      obtain ⟨p0, p1, p2, p3, p4, p5, p6⟩ := HGr.out.c
      have HKd := hide (HKr.out.on (Below.refl wr.heap.size wr).drew (lt_of_block HKr.out.l) (lt_of_block HKr.out.d))
      have HGd := hide (HGr.out.on (Below.refl wr.heap.size wr).drew)
      have HSv := hide (samev_leaf 4 0 ⟨#[97]⟩)
      have HF := hide hfr.drew
      clear hfr
      go_wp2
      go_region_held3 (fun W => W.cell? ⟨g, 0, none⟩ = some (.int .u8 4) ∧ W.cell? ⟨g, 1, none⟩ = some (.bool false) ∧ W.cell? ⟨g, 2, none⟩ = some (.int .i64 0) ∧ W.cell? ⟨g, 3, none⟩ = some (.string ⟨#[97]⟩) ∧ W.cell? ⟨g, 4, none⟩ = some (.slice none 0 0) ∧ W.cell? ⟨g, 5, none⟩ = some (.slice none 0 0) ∧ W.cell? ⟨g, 6, none⟩ = some (.slice none 0 0) ∧ W.cell? ⟨bl, 0, none⟩ = some (.int .u8 4) ∧ W.cell? ⟨bl, 1, none⟩ = some (.bool false) ∧ W.cell? ⟨bl, 2, none⟩ = some (.int .i64 0) ∧ W.cell? ⟨bl, 3, none⟩ = some (.string ⟨#[97]⟩) ∧ W.cell? ⟨bl, 4, none⟩ = some (.slice none 0 0) ∧ W.cell? ⟨bl, 5, none⟩ = some (.slice none 0 0) ∧ W.cell? ⟨bl, 6, none⟩ = some (.slice none 0 0)) ((refine ⟨?_, ?_, ?_, ?_, ?_, ?_, ?_, ?_, ?_, ?_, ?_, ?_, ?_, ?_⟩ <;> assumption)) ((first | (go_at_call 15; refine (HSv.out _).mono ?_; intro r' V1 hh; obtain ⟨rfl, hb1⟩ := hh; have HF1 := hide (HF.out.on hb1); have HK1 := hide (HKd.out.on hb1 (lt_of_block HKd.out.l) (lt_of_block HKd.out.d)); have HG1 := hide (HGd.out.on hb1); obtain ⟨s0, s1, s2, s3, s4, s5, s6⟩ := HK1.out.c; obtain ⟨t0, t1, t2, t3, t4, t5, t6⟩ := HG1.out.c; clear hb1)))
      go_wp2
      go_roundw
      case rel => exact ⟨1, rfl, by omega, HF1.out⟩
      case measure => simp [intOf]

    | 1, _ =>
      obtain ⟨q0, q1, q2, q3, q4, q5, q6⟩ := HKr.out.c'
      obtain ⟨p0, p1, p2, p3, p4, p5, p6⟩ := HGr.out.c'
      have HKd := hide (HKr.out.on (Below.refl wr.heap.size wr).drew (lt_of_block HKr.out.l) (lt_of_block HKr.out.d))
      have HGd := hide (HGr.out.on (Below.refl wr.heap.size wr).drew)
      have HSv := hide (samev_leaf 3 1 ⟨#[]⟩)
      have HF := hide hfr.drew
      clear hfr
      go_wp2
      go_region_held3 (fun W => W.cell? ⟨g, 7, none⟩ = some (.int .u8 3) ∧ W.cell? ⟨g, 8, none⟩ = some (.bool false) ∧ W.cell? ⟨g, 9, none⟩ = some (.int .i64 1) ∧ W.cell? ⟨g, 10, none⟩ = some (.string ⟨#[]⟩) ∧ W.cell? ⟨g, 11, none⟩ = some (.slice none 0 0) ∧ W.cell? ⟨g, 12, none⟩ = some (.slice none 0 0) ∧ W.cell? ⟨g, 13, none⟩ = some (.slice none 0 0) ∧ W.cell? ⟨bl, 7, none⟩ = some (.int .u8 3) ∧ W.cell? ⟨bl, 8, none⟩ = some (.bool false) ∧ W.cell? ⟨bl, 9, none⟩ = some (.int .i64 1) ∧ W.cell? ⟨bl, 10, none⟩ = some (.string ⟨#[]⟩) ∧ W.cell? ⟨bl, 11, none⟩ = some (.slice none 0 0) ∧ W.cell? ⟨bl, 12, none⟩ = some (.slice none 0 0) ∧ W.cell? ⟨bl, 13, none⟩ = some (.slice none 0 0)) ((refine ⟨?_, ?_, ?_, ?_, ?_, ?_, ?_, ?_, ?_, ?_, ?_, ?_, ?_, ?_⟩ <;> assumption)) ((first | (go_at_call 15; refine (HSv.out _).mono ?_; intro r' V1 hh; obtain ⟨rfl, hb1⟩ := hh; have HF1 := hide (HF.out.on hb1); have HK1 := hide (HKd.out.on hb1 (lt_of_block HKd.out.l) (lt_of_block HKd.out.d)); have HG1 := hide (HGd.out.on hb1); obtain ⟨s0, s1, s2, s3, s4, s5, s6⟩ := HK1.out.c'; obtain ⟨t0, t1, t2, t3, t4, t5, t6⟩ := HG1.out.c'; clear hb1)))
      go_wp2
      go_roundw
      case rel => exact ⟨2, rfl, by omega, HF1.out⟩
      case measure => simp [intOf]

    | 2, _ =>
      go_wp2
      go_ret
      exact ⟨rfl, hfr.below⟩
end Go.Proofs.Ytegoeaofjnpehaa
