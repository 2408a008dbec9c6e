/- The document's own Open. -/
import Derived.Test.YtlmofgfkclfgeaaGreatZD
import Derived.Test.YtlmofgfkclfgeaaGreatXK
namespace Go.Proofs.YtlmofgfkclfgeaaGreat
open Go.RowKit
set_option linter.unusedVariables false

set_option maxHeartbeats 3200000 in
set_option maxRecDepth 1000000 in
theorem ropen_ok (number : Nat) (b off c : Nat) (zs : List Int) (w : World) (hn : number < 4294967296) (h : Inn w (some ⟨b, off, none⟩) 1024 c zs) (K N : Nat) (hK : zs.getD 2 0 = (K : Int)) (hN : Crc.leV ((zs.drop 8).take 2) = N) (h1 : 1 ≤ K) (h4 : K ≤ 4) (hN8 : N ≤ 1008) (he : zs = Pg.pg K number ((zs.drop 12).take N)) :
    Calls Tryz.prog 61 #[.int .u32 (number : Int), .slice (some ⟨b, off, none⟩) 1024 c] w fun e w' => ∃ v, e = .returned (.tuple #[.int .u8 (K : Int), v, .int .u16 0]) ∧ Made w v ((zs.drop 12).take N) w' := by
  have d3 : (N : Int) ≤ 1008 := by omega
  have hcap := h.cap
  have hmax := h.max
  obtain ⟨i0, hi, hz0, hz1, hz2⟩ := info_parts Tryz.info5
  have HI := hide h
  have HG := hide (rget_any (some ⟨b, off, none⟩) 1024 c zs 8 2 8 2 rfl rfl w h (by omega) (by omega))
  rw [hN] at HG
  have HC : Hid (∀ W, Below w.heap.size w W → W.cell? ⟨b, off + 2, none⟩ = some (.int .u8 (K : Int))) := fun W hb => by
    rcases h.row.below hb with h0 | ⟨b', off', h1, _, h2⟩
    · have := h.len; rw [h0] at this; simp at this
    · cases h1
      rw [h2 2 (by rw [h.len]; omega), hK]
  have HIn : Hid (∀ W, Below w.heap.size w W → Inn W (some ⟨b, off + 12, none⟩) N (c - 12) ((zs.drop 12).take N)) := fun W hb => 
    ⟨by rw [List.length_take, List.length_drop, h.len]; omega, by omega, by omega, by (intro h; cases h), (h.row.below hb).within 12 N (by rw [h.len]; omega) (by rw [h.len]; omega), (h.byts.drop 12).take N⟩
  have HS : Hid (∀ W, Below w.heap.size w W → Calls Tryz.prog 73 #[.int .u8 (K : Int), .int .u32 (number : Int), .slice (some ⟨b, off + 12, none⟩) N (c - 12)] W fun e w' => ∃ v, e = .returned (.tuple #[v, .int .u16 0]) ∧ Made W v zs w') := fun W hb => by
    have hh := HIn.out W hb
    have := rseal_ok K number _ N (c - 12) ((zs.drop 12).take N) W h1 h4 hn hh.len hh.bare hh.row hh.byts hN8
    rwa [← he] at this
  have hne : ((bk zs).toList == (bk zs).toList) = true := ba_leq _
  have HLN := hide (HIn.out w (Below.refl _ _)).len
  clear h hK hN he
  generalize (zs.drop 12).take N = pl at *
  go_enter Tryz.func61, Tryz.ntmps61
  go_wp2_with fail
  refine HG.out.mono ?_
  rintro e w1 ⟨rfl, hb⟩
  have HB := hide hb
  have x2 := HC.out _ hb
  clear hb HG
  go_wp2_with fail
  have x2d : w1.drew.cell? ⟨b, off + 2, none⟩ = some (.int .u8 (K : Int)) := x2
  have HSd := hide (HS.out w1.drew HB.out.drew)
  have hwr : IntKind.i64.wrap (12 + (N : Int)) = 12 + (N : Int) := by rw [IntKind.wrap_i64]; omega
  have e1 : (12 : Int) ≤ 12 + (N : Int) := by omega
  have e2 : 12 + (N : Int) ≤ (c : Int) := by omega
  have e3 : ¬ (c = 12) := by omega
  have e4 : (12 + (N : Int)).toNat = 12 + N := by omega
  have e5 : 12 + N - 12 = N := by omega
  go_region_held3 (fun V : World => V.cell? ⟨b, off + 2, none⟩ = some (.int .u8 (K : Int))) (assumption) ((first | (go_at_call 73; refine HSd.out.mono ?_; rintro e w2 ⟨v2, rfl, hm2⟩; obtain ⟨a2, n2, c2, rfl, HN2⟩ := hm2.1.shape2; have hb := hm2.2.2; have HB2 := hide (HB.out.drew.trans (hb.mono HB.out.drew.size)); have HM2 := hide hm2.1; have x3 := HC.out _ HB2.out; clear hb hm2)))
  clear x2 x2d HSd
  have hi2 := own_inn HM2.out HI.out.byts
  have hi0 := HI.out.below HB2.out
  have t1 := text_inn hi2
  have t2 := text_inn hi0
  clear hi0 hi2
  generalize bk zs = S1 at *
  go_wp2_with fail
  have x4 : w2.drew.cell? ⟨b, off + 2, none⟩ = some (.int .u8 (K : Int)) := x3
  have hpl := HIn.out _ HB2.out.drew
  have HSrc := hide (src_row w2.drew (some ⟨b, off + 12, none⟩) N (c - 12) pl hpl.len hpl.bare hpl.row)
  have HLn : Hid (([] : List Int).length + N ≤ 140737488355328) := by rw [Hid]; simp; omega
  clear hpl t1 t2
  go_region_held3 (fun V : World => V.cell? ⟨b, off + 2, none⟩ = some (.int .u8 (K : Int))) (assumption) ((refine step_append_src (by rfl) (.tmp 43) (.tmp 47) 22 22 (by rfl) i0 Tryz.underlying22 hi hz0 hz1 hz2 (.slice none 0 0) [] (by rfl) (Own.nil _) (.slice (some ⟨b, off + 12, none⟩) N (c - 12)) N pl (by rfl) HSrc.out HLn.out ?_; intro v' w5 hown1 hg1 hf1; obtain ⟨a5, n5, c5, rfl, HN5⟩ := hown1.shape2; have HM5 := hide (Made.append (w0 := w2) (W := w2.drew) ⟨Own.nil _, (by intro k hk; simp [Value.ownBlock] at hk), (Below.refl _ _).drew⟩ (Below.refl _ _) hown1 hg1 hf1); have x5 := HC.out _ (HB2.out.trans (HM5.out.2.2.mono HB2.out.size)); clear hown1 hg1 hf1))
  all_goals
    go_wp2
    go_ret3
    exact ⟨_, rfl, HM5.out.1, fun k hk => Nat.le_trans HB2.out.size (HM5.out.2.1 k hk), HB2.out.trans (HM5.out.2.2.mono HB2.out.size)⟩
set_option maxHeartbeats 3200000 in
set_option maxRecDepth 1000000 in
theorem ropen_ne (number : Nat) (b off c : Nat) (zs : List Int) (w : World) (hn : number < 4294967296) (h : Inn w (some ⟨b, off, none⟩) 1024 c zs) (K N : Nat) (hK : zs.getD 2 0 = (K : Int)) (hN : Crc.leV ((zs.drop 8).take 2) = N) (h1 : 1 ≤ K) (h4 : K ≤ 4) (hN8 : N ≤ 1008) (he : zs ≠ Pg.pg K number ((zs.drop 12).take N)) :
    Calls Tryz.prog 61 #[.int .u32 (number : Int), .slice (some ⟨b, off, none⟩) 1024 c] w fun e w' => e = .returned (.tuple #[.int .u8 0, .slice none 0 0, .int .u16 80]) ∧ Below w.heap.size w w' := by
  have d3 : (N : Int) ≤ 1008 := by omega
  have hcap := h.cap
  have hmax := h.max
  obtain ⟨i0, hi, hz0, hz1, hz2⟩ := info_parts Tryz.info5
  have HI := hide h
  have HG := hide (rget_any (some ⟨b, off, none⟩) 1024 c zs 8 2 8 2 rfl rfl w h (by omega) (by omega))
  rw [hN] at HG
  have HC : Hid (∀ W, Below w.heap.size w W → W.cell? ⟨b, off + 2, none⟩ = some (.int .u8 (K : Int))) := fun W hb => by
    rcases h.row.below hb with h0 | ⟨b', off', h1, _, h2⟩
    · have := h.len; rw [h0] at this; simp at this
    · cases h1
      rw [h2 2 (by rw [h.len]; omega), hK]
  have HIn : Hid (∀ W, Below w.heap.size w W → Inn W (some ⟨b, off + 12, none⟩) N (c - 12) ((zs.drop 12).take N)) := fun W hb => 
    ⟨by rw [List.length_take, List.length_drop, h.len]; omega, by omega, by omega, by (intro h; cases h), (h.row.below hb).within 12 N (by rw [h.len]; omega) (by rw [h.len]; omega), (h.byts.drop 12).take N⟩
  have HS : Hid (∀ W, Below w.heap.size w W → Calls Tryz.prog 73 #[.int .u8 (K : Int), .int .u32 (number : Int), .slice (some ⟨b, off + 12, none⟩) N (c - 12)] W fun e w' => ∃ v, e = .returned (.tuple #[v, .int .u16 0]) ∧ Made W v (Pg.pg K number ((zs.drop 12).take N)) w') := fun W hb => by
    have hh := HIn.out W hb
    exact rseal_ok K number _ N (c - 12) ((zs.drop 12).take N) W h1 h4 hn hh.len hh.bare hh.row hh.byts hN8
  have H8 : Hid (Byts (Pg.pg K number ((zs.drop 12).take N))) := Pg.pg_b8 _ _ _ ((h.byts.drop 12).take N)
  have hne : ((bk (Pg.pg K number ((zs.drop 12).take N))).toList == (bk zs).toList) = false := bk_ne _ _ H8.out h.byts (fun e => he e.symm)
  have HLN := hide (HIn.out w (Below.refl _ _)).len
  clear h hK hN he
  generalize Pg.pg K number ((zs.drop 12).take N) = GG at *
  generalize (zs.drop 12).take N = pl at *
  go_enter Tryz.func61, Tryz.ntmps61
  go_wp2_with fail
  refine HG.out.mono ?_
  rintro e w1 ⟨rfl, hb⟩
  have HB := hide hb
  have x2 := HC.out _ hb
  clear hb HG
  go_wp2_with fail
  have x2d : w1.drew.cell? ⟨b, off + 2, none⟩ = some (.int .u8 (K : Int)) := x2
  have HSd := hide (HS.out w1.drew HB.out.drew)
  have hwr : IntKind.i64.wrap (12 + (N : Int)) = 12 + (N : Int) := by rw [IntKind.wrap_i64]; omega
  have e1 : (12 : Int) ≤ 12 + (N : Int) := by omega
  have e2 : 12 + (N : Int) ≤ (c : Int) := by omega
  have e3 : ¬ (c = 12) := by omega
  have e4 : (12 + (N : Int)).toNat = 12 + N := by omega
  have e5 : 12 + N - 12 = N := by omega
  go_region_held3 (fun V : World => V.cell? ⟨b, off + 2, none⟩ = some (.int .u8 (K : Int))) (assumption) ((first | (go_at_call 73; refine HSd.out.mono ?_; rintro e w2 ⟨v2, rfl, hm2⟩; obtain ⟨a2, n2, c2, rfl, HN2⟩ := hm2.1.shape2; have hb := hm2.2.2; have HB2 := hide (HB.out.drew.trans (hb.mono HB.out.drew.size)); have HM2 := hide hm2.1; have x3 := HC.out _ HB2.out; clear hb hm2)))
  clear x2 x2d HSd
  have hi2 := own_inn HM2.out H8.out
  have hi0 := HI.out.below HB2.out
  have t1 := text_inn hi2
  have t2 := text_inn hi0
  clear hi0 hi2
  generalize bk zs = S1 at *
  generalize bk GG = S2 at *
  go_wp2
  go_ret3
  exact ⟨rfl, HB2.out⟩
set_option maxHeartbeats 3200000 in
set_option maxRecDepth 1000000 in
theorem ropen_kind (number : Nat) (b off c : Nat) (zs : List Int) (w : World) (hn : number < 4294967296) (h : Inn w (some ⟨b, off, none⟩) 1024 c zs) (K N : Nat) (hK : zs.getD 2 0 = (K : Int)) (hN : Crc.leV ((zs.drop 8).take 2) = N) (hk : ¬ (1 ≤ K ∧ K ≤ 4)) (hN8 : N ≤ 1008) :
    Calls Tryz.prog 61 #[.int .u32 (number : Int), .slice (some ⟨b, off, none⟩) 1024 c] w fun e w' => e = .returned (.tuple #[.int .u8 0, .slice none 0 0, .int .u16 80]) ∧ Below w.heap.size w w' := by
  have d3 : (N : Int) ≤ 1008 := by omega
  have hcap := h.cap
  have hmax := h.max
  obtain ⟨i0, hi, hz0, hz1, hz2⟩ := info_parts Tryz.info5
  have HI := hide h
  have HG := hide (rget_any (some ⟨b, off, none⟩) 1024 c zs 8 2 8 2 rfl rfl w h (by omega) (by omega))
  rw [hN] at HG
  have HC : Hid (∀ W, Below w.heap.size w W → W.cell? ⟨b, off + 2, none⟩ = some (.int .u8 (K : Int))) := fun W hb => by
    rcases h.row.below hb with h0 | ⟨b', off', h1, _, h2⟩
    · have := h.len; rw [h0] at this; simp at this
    · cases h1
      rw [h2 2 (by rw [h.len]; omega), hK]
  have HS : Hid (∀ W, Calls Tryz.prog 73 #[.int .u8 (K : Int), .int .u32 (number : Int), .slice (some ⟨b, off + 12, none⟩) N (c - 12)] W fun e w' => e = .returned (.tuple #[.slice none 0 0, .int .u16 80]) ∧ w' = W) := fun W => rseal_no K number _ N (c - 12) W (by omega)
  clear h hK hN hk
  go_enter Tryz.func61, Tryz.ntmps61
  go_wp2_with fail
  refine HG.out.mono ?_
  rintro e w1 ⟨rfl, hb⟩
  have HB := hide hb
  have x2 := HC.out _ hb
  clear hb HG
  go_wp2_with fail
  have x2d : w1.drew.cell? ⟨b, off + 2, none⟩ = some (.int .u8 (K : Int)) := x2
  have HSd := hide (HS.out w1.drew)
  have hwr : IntKind.i64.wrap (12 + (N : Int)) = 12 + (N : Int) := by rw [IntKind.wrap_i64]; omega
  have e1 : (12 : Int) ≤ 12 + (N : Int) := by omega
  have e2 : 12 + (N : Int) ≤ (c : Int) := by omega
  have e3 : ¬ (c = 12) := by omega
  have e4 : (12 + (N : Int)).toNat = 12 + N := by omega
  have e5 : 12 + N - 12 = N := by omega
  go_region_held3 (fun V : World => V.cell? ⟨b, off + 2, none⟩ = some (.int .u8 (K : Int))) (assumption) ((first | (go_at_call 73; refine HSd.out.mono ?_; rintro e w2 ⟨rfl, hw2⟩; subst hw2)))
  go_wp2
  go_ret3
  exact ⟨rfl, HB.out.drew⟩
set_option maxHeartbeats 1600000 in
set_option maxRecDepth 1000000 in
theorem ropen_long (number : Nat) (b off c : Nat) (zs : List Int) (w : World) (h : Inn w (some ⟨b, off, none⟩) 1024 c zs) (N : Nat) (hN : Crc.leV ((zs.drop 8).take 2) = N) (hN8 : 1008 < N) (hN9 : N < 65536) :
    Calls Tryz.prog 61 #[.int .u32 (number : Int), .slice (some ⟨b, off, none⟩) 1024 c] w fun e w' => e = .returned (.tuple #[.int .u8 0, .slice none 0 0, .int .u16 80]) ∧ Below w.heap.size w w' := by
  have d3 : (1008 : Int) < (N : Int) := by omega
  have hcap := h.cap
  have hmax := h.max
  have HG := hide (rget_any (some ⟨b, off, none⟩) 1024 c zs 8 2 8 2 rfl rfl w h (by omega) (by omega))
  rw [hN] at HG
  clear h hN
  go_enter Tryz.func61, Tryz.ntmps61
  go_wp2_with fail
  refine HG.out.mono ?_
  rintro e w1 ⟨rfl, hb⟩
  have HB := hide hb
  clear hb HG
  go_wp2
  go_ret3
  exact ⟨rfl, HB.out⟩
set_option maxHeartbeats 1600000 in
set_option maxRecDepth 1000000 in
theorem ropen_size (number : Nat) (a : Option Addr) (n c : Nat) (w : World) (h : ¬ n = 1024) (hn : n ≤ 9223372036854775807) :
    Calls Tryz.prog 61 #[.int .u32 (number : Int), .slice a n c] w fun e w' => e = .returned (.tuple #[.int .u8 0, .slice none 0 0, .int .u16 80]) ∧ Below w.heap.size w w' := by
  have d1 : ((n : Int) == 1024) = false := by simp; omega
  go_enter Tryz.func61, Tryz.ntmps61
  go_wp2
  go_ret3
  exact ⟨rfl, Below.refl _ _⟩
theorem ropen_none {av : Array Value} {w : World} {O : Option (Nat × List Int)} (h : Calls Tryz.prog 61 av w fun e w' => e = .returned (.tuple #[.int .u8 0, .slice none 0 0, .int .u16 80]) ∧ Below w.heap.size w w') (ho : O = none) : Calls Tryz.prog 61 av w fun e w' => OpOut O w e w' := by
  refine h.mono ?_
  rintro e w' hh
  exact ⟨fun kind pl e1 => by (rw [ho] at e1; cases e1), fun _ => hh⟩
theorem leV_two2 (zs : List Int) (h : 2 < zs.length) (h8 : Byts zs) : zs.getD 2 0 = ((Crc.leV ((zs.drop 2).take 1) : Nat) : Int) := by
  have h1 := leV_drop ((zs.drop 2).take 1) 0 (by rw [List.length_take, List.length_drop]; omega)
  have h2 : ((zs.drop 2).take 1).getD 0 0 = zs.getD 2 0 := by simp
  have h3 : ((zs.drop 2).take 1).drop 1 = [] := List.drop_of_length_le (by rw [List.length_take]; omega)
  have h4 := h8.at 2
  rw [List.drop_zero, h2, Nat.zero_add, h3, show Crc.leV [] = 0 from rfl, Nat.mul_zero, Nat.add_zero] at h1
  rw [h1]
  omega
theorem ropen_any {number : Nat} {a : Option Addr} {n c : Nat} {zs : List Int} {w : World} (hn : number < 4294967296) (h : Inn w a n c zs) :
    Calls Tryz.prog 61 #[.int .u32 (number : Int), .slice a n c] w fun e w' => OpOut (Pg.opn number zs) w e w' := by
  by_cases hl : n = 1024
  · subst hl
    cases a with
    | none => have := (h.bare rfl).1; omega
    | some ad =>
      obtain ⟨b, off, rfl⟩ : ∃ b off, ad = ⟨b, off, none⟩ := by
        rcases h.row with h0 | ⟨b, off, h1, _⟩
        · have := h.len; rw [h0] at this; simp at this
        · exact ⟨b, off, by injection h1⟩
      have hK := leV_two2 zs (by rw [h.len]; omega) h.byts
      have hN9 : Crc.leV ((zs.drop 8).take 2) < 65536 := by
        have := Crc.leV_lt ((zs.drop 8).take 2) ((h.byts.drop 8).take 2)
        rw [List.length_take, List.length_drop, h.len] at this
        exact this
      by_cases hN8 : Crc.leV ((zs.drop 8).take 2) ≤ 1008
      · by_cases hk : 1 ≤ Crc.leV ((zs.drop 2).take 1) ∧ Crc.leV ((zs.drop 2).take 1) ≤ 4
        · by_cases he : zs = Pg.pg (Crc.leV ((zs.drop 2).take 1)) number ((zs.drop 12).take (Crc.leV ((zs.drop 8).take 2)))
          · refine (ropen_ok number b off c zs w hn h _ _ hK rfl hk.1 hk.2 hN8 he).mono ?_
            rintro e w' hh
            have ho : Pg.opn number zs = some (Crc.leV ((zs.drop 2).take 1), (zs.drop 12).take (Crc.leV ((zs.drop 8).take 2))) := by rw [Pg.opn, if_pos ⟨h.len, hN8, hk.1, hk.2, he⟩]
            refine ⟨fun kind pl e1 => ?_, fun e1 => ?_⟩
            · rw [ho] at e1
              cases e1
              exact hh
            · rw [ho] at e1
              cases e1
          · exact ropen_none (ropen_ne number b off c zs w hn h _ _ hK rfl hk.1 hk.2 hN8 he) (by rw [Pg.opn, if_neg (fun hh => he hh.2.2.2.2)])
        · exact ropen_none (ropen_kind number b off c zs w hn h _ _ hK rfl hk hN8) (by rw [Pg.opn, if_neg (fun hh => hk ⟨hh.2.2.1, hh.2.2.2.1⟩)])
      · exact ropen_none (ropen_long number b off c zs w h _ rfl (by omega) hN9) (by rw [Pg.opn, if_neg (fun hh => hN8 hh.2.1)])
  · exact ropen_none (ropen_size number a n c w hl (by have := h.cap; have := h.max; omega)) (by rw [Pg.opn, if_neg (fun hh => hl (h.len.symm.trans hh.1))])
end Go.Proofs.YtlmofgfkclfgeaaGreat
