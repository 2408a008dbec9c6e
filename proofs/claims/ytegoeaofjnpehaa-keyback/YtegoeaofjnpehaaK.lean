/- Contract of Encode, of the known tuple. -/
import Derived.Test.YtegoeaofjnpehaaJ
namespace Go.Proofs.Ytegoeaofjnpehaa
open Go.RowKit
set_option linter.unusedVariables false

set_option maxHeartbeats 800000 in
theorem falls_at (b o len cap i : Nat) (x : Bool) (w : World) (hi : i < len) (hlen : len ≤ 1000000) (hc : w.cell? ⟨b, o + i, none⟩ = some (.bool x)) :
    Calls Try.prog 19 #[.slice (some ⟨b, o, none⟩) len cap, .int .i64 (i : Int)] w fun e w' => e = .returned (.bool x) ∧ w' = w := by
  have hd : decide ((i : Int) < (len : Int)) = true := by simp; omega
  go_enter Try.func19, Try.ntmps19
  go_wp2
  go_ret
  exact ⟨rfl, rfl⟩
/-- the known tuple lies at bl, what falls of it at bd. -/
structure Kn (w : World) (bl bd : Nat) : Prop where
  l : w.heap[bl]? = some (.cells #[.int .u8 4, .bool false, .int .i64 0, .string ⟨#[97]⟩, .slice none 0 0, .slice none 0 0, .slice none 0 0, .int .u8 3, .bool false, .int .i64 1, .string ⟨#[]⟩, .slice none 0 0, .slice none 0 0, .slice none 0 0] 41 (0, 0))
  d : w.heap[bd]? = some (.cells #[.bool false, .bool true] 4 (0, 0))
theorem Kn.on {B bl bd : Nat} {w w' : World} (h : Kn w bl bd) (hb : Below B w w') (h1 : bl < B) (h2 : bd < B) : Kn w' bl bd := ⟨(hb.block _ h1).trans h.l, (hb.block _ h2).trans h.d⟩
theorem Kn.d0 {w : World} {bl bd : Nat} (h : Kn w bl bd) : w.cell? ⟨bd, 0 + 0, none⟩ = some (.bool false) := by simp [World.cell?, h.d]
theorem Kn.d1 {w : World} {bl bd : Nat} (h : Kn w bl bd) : w.cell? ⟨bd, 0 + 1, none⟩ = some (.bool true) := by simp [World.cell?, h.d]
theorem Kn.c {w : World} {bl bd : Nat} (h : Kn w bl bd) : w.cell? ⟨bl, 0, none⟩ = some (.int .u8 4) ∧ w.cell? ⟨bl, 1, none⟩ = some (.bool false) ∧ w.cell? ⟨bl, 2, none⟩ = some (.int .i64 0) ∧ w.cell? ⟨bl, 3, none⟩ = some (.string ⟨#[97]⟩) ∧ w.cell? ⟨bl, 4, none⟩ = some (.slice none 0 0) ∧ w.cell? ⟨bl, 5, none⟩ = some (.slice none 0 0) ∧ w.cell? ⟨bl, 6, none⟩ = some (.slice none 0 0) := by simp [World.cell?, h.l]
theorem Kn.c' {w : World} {bl bd : Nat} (h : Kn w bl bd) : w.cell? ⟨bl, 7, none⟩ = some (.int .u8 3) ∧ w.cell? ⟨bl, 8, none⟩ = some (.bool false) ∧ w.cell? ⟨bl, 9, none⟩ = some (.int .i64 1) ∧ w.cell? ⟨bl, 10, none⟩ = some (.string ⟨#[]⟩) ∧ w.cell? ⟨bl, 11, none⟩ = some (.slice none 0 0) ∧ w.cell? ⟨bl, 12, none⟩ = some (.slice none 0 0) ∧ w.cell? ⟨bl, 13, none⟩ = some (.slice none 0 0) := by simp [World.cell?, h.l]
/-- a row of one's own from B on. -/
structure OwnB (B : Nat) (w : World) (v : Value) (zs : List Int) : Prop where
  own : Own w v zs
  new : ∀ k, v.ownBlock = some k → B ≤ k
theorem OwnB.on {B : Nat} {w w' : World} {v : Value} {zs : List Int} (h : OwnB B w v zs) (hb : Below w.heap.size w w') : OwnB B w' v zs := ⟨h.own.of_block fun k hk => hb.block k (h.own.lt hk), h.new⟩
def k1 : List Int := (bT ⟨#[97]⟩).map (tn 0)
def k2 : List Int := (bI 1).map (tn 255)

set_option maxHeartbeats 3200000 in
set_option maxRecDepth 1000000 in
theorem encode_known (bl bd : Nat) (w : World) (hk : Kn w bl bd) :
    Calls Try.prog 7 #[.slice (some ⟨bl, 0, none⟩) 2 2, .slice (some ⟨bd, 0, none⟩) 2 2] w fun e w' => ∃ a c, e = .returned (.tuple #[.slice a (k1 ++ k2).length c, .int .u16 0]) ∧ Own w' (.slice a (k1 ++ k2).length c) (k1 ++ k2) ∧ Below w.heap.size w w' := by
  obtain ⟨i0, hi, hz0, hz1, hz2⟩ := info_parts Try.info5
  have hlt1 : bl < w.heap.size := lt_of_block hk.l
  have hlt2 : bd < w.heap.size := lt_of_block hk.d
  have HK := hide hk
  clear hk
  generalize hB : w.heap.size = B at *
  have HBB := hide hB
  have HF0 : Hid (Fr B w w) := by rw [← hB]; exact Fr.refl w
  clear hB
  go_enter Try.func7, Try.ntmps7
  go_wp2
  go_loopw [6, 16] (fun o i wr => ∃ (j : Nat) (ys : List Int), i = .int .i64 (j : Int) ∧ ((j = 0 ∧ ys = []) ∨ (j = 1 ∧ ys = k1) ∨ (j = 2 ∧ ys = k1 ++ k2)) ∧ OwnB B wr o ys ∧ Fr B w wr) (fun _ i _ => 2 - (intOf i).toNat)
  case atStart => exact ⟨0, [], rfl, .inl ⟨rfl, rfl⟩, ⟨Own.nil _, fun k h => by simp [Value.ownBlock] at h⟩, HF0.out⟩
  case round =>
    obtain ⟨j, ys, rfl, hj, hown, hfr⟩ := hrel
    have HF := hide hfr
    have HO := hide hown
    have HKr := hide (HK.out.on hfr.below hlt1 hlt2)
    obtain ⟨a1, n1, c1, rfl, HN1⟩ := hown.own.shape2
    clear hfr hown HF0
    rcases hj with ⟨rfl, rfl⟩ | ⟨rfl, rfl⟩ | ⟨rfl, rfl⟩
    · obtain ⟨q0, q1, q2, q3, q4, q5, q6⟩ := HKr.out.c
      have HB0 := hide (Box7.new wr (.int .u8 4) (.bool false) (.int .i64 0) (.string ⟨#[97]⟩) (.slice none 0 0) (.slice none 0 0) (.slice none 0 0))
      have HX0 := hide (below_alloc wr (.cells #[.int .u8 4, .bool false, .int .i64 0, .string ⟨#[97]⟩, .slice none 0 0, .slice none 0 0, .slice none 0 0] 41))
      go_wp2
      have HFX := hide (HF.out.on HX0.out)
      have HOX := hide (HO.out.on HX0.out)
      have HKX := hide (HK.out.on HFX.out.below hlt1 hlt2)
      generalize wr.alloc (.cells #[.int .u8 4, .bool false, .int .i64 0, .string ⟨#[97]⟩, .slice none 0 0, .slice none 0 0, .slice none 0 0] 41) = X at *
      generalize wr.heap.size = b at *
      have HBd := hide (HB0.out.below (Below.refl _ _).drew)
      obtain ⟨p0, p1, p2, p3, p4, p5, p6⟩ := HB0.out.cells
      have HC19 := hide (falls_at bd 0 2 2 0 false X.drew (by omega) (by omega) HKX.out.d0)
      clear q0 q1 q2 q3 q4 q5 q6 HX0 HF HO
      go_region_held3 (fun W => W.cell? ⟨b, 0, none⟩ = some (.int .u8 4) ∧ W.cell? ⟨b, 1, none⟩ = some (.bool false) ∧ W.cell? ⟨b, 2, none⟩ = some (.int .i64 0) ∧ W.cell? ⟨b, 3, none⟩ = some (.string ⟨#[97]⟩) ∧ W.cell? ⟨b, 4, none⟩ = some (.slice none 0 0) ∧ W.cell? ⟨b, 5, none⟩ = some (.slice none 0 0) ∧ W.cell? ⟨b, 6, none⟩ = some (.slice none 0 0)) ((refine ⟨?_, ?_, ?_, ?_, ?_, ?_, ?_⟩ <;> assumption)) ((first | (go_at_call 19; refine HC19.out.mono ?_; intro r' V1 hh; obtain ⟨rfl, rfl⟩ := hh) | (go_at_call 13; refine (oneT_up _).mono ?_; intro r' V2 hh; obtain ⟨a2, c2, rfl, hrow2, hnn2, hb2⟩ := hh; have HB2 := hide (HBd.out.below hb2); obtain ⟨s0, s1, s2, s3, s4, s5, s6⟩ := HB2.out.cells; have HF2 := hide (HFX.out.drew.on hb2); have HO2 := hide ((HOX.out.on (Below.refl _ _).drew).on hb2); have HR2 := hide hrow2; have HN2 := hide hnn2; clear hrow2 hnn2 hb2)))
      have HSr := hide (src_row V2 a2 (bT ⟨#[97]⟩).length c2 _ (by rw [List.length_map]) HN2.out HR2.out)
      generalize hL : (bT ⟨#[97]⟩).length = L2 at *
      go_wp2_with (at_builtin; refine wpList_append_src (by rfl) (.tmp 32) (.tmp 33) 25 25 (by rfl) i0 Try.underlying25 hi hz0 hz1 hz2 (.slice a1 n1 c1) [] (by rfl) HO2.out.own (.slice a2 L2 c2) L2 k1 (by rfl) HSr.out (by rw [← hL]; decide) ?_; intro v' w1 hown1 hg1 hf1; obtain ⟨a3, n3, c3, rfl, HN3⟩ := hown1.shape2; have HF3 := hide (HF2.out.grown hg1 HO2.out.new); have HO3 : Hid (OwnB B w1 (.slice a3 n3 c3) k1) := ⟨by simpa using hown1, fun k hk => (hf1 k hk).elim (HO2.out.new k) (fun hs => Nat.le_trans HF2.out.size hs)⟩; clear hown1 hg1 hf1)
      go_roundw
      case rel => exact ⟨1, k1, rfl, .inr (.inl ⟨rfl, rfl⟩), HO3.out, HF3.out⟩
      case measure => simp [intOf]
    · obtain ⟨q0, q1, q2, q3, q4, q5, q6⟩ := HKr.out.c'
      have HB0 := hide (Box7.new wr (.int .u8 3) (.bool false) (.int .i64 1) (.string ⟨#[]⟩) (.slice none 0 0) (.slice none 0 0) (.slice none 0 0))
      have HX0 := hide (below_alloc wr (.cells #[.int .u8 3, .bool false, .int .i64 1, .string ⟨#[]⟩, .slice none 0 0, .slice none 0 0, .slice none 0 0] 41))
      go_wp2
      have HFX := hide (HF.out.on HX0.out)
      have HOX := hide (HO.out.on HX0.out)
      have HKX := hide (HK.out.on HFX.out.below hlt1 hlt2)
      generalize wr.alloc (.cells #[.int .u8 3, .bool false, .int .i64 1, .string ⟨#[]⟩, .slice none 0 0, .slice none 0 0, .slice none 0 0] 41) = X at *
      generalize wr.heap.size = b at *
      have HBd := hide (HB0.out.below (Below.refl _ _).drew)
      obtain ⟨p0, p1, p2, p3, p4, p5, p6⟩ := HB0.out.cells
      have HC19 := hide (falls_at bd 0 2 2 1 true X.drew (by omega) (by omega) HKX.out.d1)
      clear q0 q1 q2 q3 q4 q5 q6 HX0 HF HO
      go_region_held3 (fun W => W.cell? ⟨b, 0, none⟩ = some (.int .u8 3) ∧ W.cell? ⟨b, 1, none⟩ = some (.bool false) ∧ W.cell? ⟨b, 2, none⟩ = some (.int .i64 1) ∧ W.cell? ⟨b, 3, none⟩ = some (.string ⟨#[]⟩) ∧ W.cell? ⟨b, 4, none⟩ = some (.slice none 0 0) ∧ W.cell? ⟨b, 5, none⟩ = some (.slice none 0 0) ∧ W.cell? ⟨b, 6, none⟩ = some (.slice none 0 0)) ((refine ⟨?_, ?_, ?_, ?_, ?_, ?_, ?_⟩ <;> assumption)) ((first | (go_at_call 19; refine HC19.out.mono ?_; intro r' V1 hh; obtain ⟨rfl, rfl⟩ := hh) | (go_at_call 13; refine (oneI_down 1 _).mono ?_; intro r' V2 hh; obtain ⟨a2, c2, rfl, hrow2, hnn2, hb2⟩ := hh; have HB2 := hide (HBd.out.below hb2); obtain ⟨s0, s1, s2, s3, s4, s5, s6⟩ := HB2.out.cells; have HF2 := hide (HFX.out.drew.on hb2); have HO2 := hide ((HOX.out.on (Below.refl _ _).drew).on hb2); have HR2 := hide hrow2; have HN2 := hide hnn2; clear hrow2 hnn2 hb2)))
      have HSr := hide (src_row V2 a2 (bI 1).length c2 _ (by rw [List.length_map]) HN2.out HR2.out)
      generalize hL : (bI 1).length = L2 at *
      go_wp2_with (at_builtin; refine wpList_append_src (by rfl) (.tmp 32) (.tmp 33) 25 25 (by rfl) i0 Try.underlying25 hi hz0 hz1 hz2 (.slice a1 n1 c1) k1 (by rfl) HO2.out.own (.slice a2 L2 c2) L2 k2 (by rfl) HSr.out (by rw [← hL]; decide) ?_; intro v' w1 hown1 hg1 hf1; obtain ⟨a3, n3, c3, rfl, HN3⟩ := hown1.shape2; have HF3 := hide (HF2.out.grown hg1 HO2.out.new); have HO3 : Hid (OwnB B w1 (.slice a3 n3 c3) (k1 ++ k2)) := ⟨hown1, fun k hk => (hf1 k hk).elim (HO2.out.new k) (fun hs => Nat.le_trans HF2.out.size hs)⟩; clear hown1 hg1 hf1)
      go_roundw
      case rel => exact ⟨2, k1 ++ k2, rfl, .inr (.inr ⟨rfl, rfl⟩), HO3.out, HF3.out⟩
      case measure => simp [intOf]
    · have HKL := hide (show (k1 ++ k2).length = 13 by decide)
      have hnl : n1 = 13 := HN1.out.trans HKL.out
      clear HN1
      go_wp2
      go_ret2
      refine ⟨a1, c1, by rw [HKL.out]; subst hnl; rfl, ?_, HF.out.below⟩
      rw [HKL.out]
      subst hnl
      exact HO.out.own
end Go.Proofs.Ytegoeaofjnpehaa
