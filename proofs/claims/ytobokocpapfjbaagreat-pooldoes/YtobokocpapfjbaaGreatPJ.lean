/- A pool's Read. -/
import Derived.Test.YtobokocpapfjbaaGreatPH
import Derived.Deep.RegionHeld3
namespace Go.Proofs.YtobokocpapfjbaaGreat
open Go.RowKit Go.Maps
set_option linter.unusedVariables false
variable {w w' : World} {p d q e m most : Nat} {S S' : DS} {O O' OO : Nat → Prop} {L L' : List Sh} {el yo el' yo' : Nat → Nat} {A : List Pge}

theorem ret_three {v v' : Value} {k k2 : IntKind} {a a' b b' : Int} (h0 : a = a') (h : v = v') (h2 : b = b') : Ending.returned (.tuple #[.int k a, v, .int k2 b]) = .returned (.tuple #[.int k a', v', .int k2 b']) := by rw [h0, h, h2]
/-- bytes that a call made: their owner's, in a block that is new. -/
def Fresh (w w' : World) (OO' : Nat → Prop) (v : Value) (zs : List Int) : Prop := Own w' v zs ∧ (∀ g, v.ownBlock = some g → w.heap.size ≤ g ∧ ¬ OO' g)
theorem Fresh.nil (w w' : World) (OO' : Nat → Prop) : Fresh w w' OO' (.slice none 0 0) [] := ⟨Own.nil _, fun g hg => by simp [Value.ownBlock] at hg⟩
set_option maxHeartbeats 1600000 in
set_option maxRecDepth 1000000 in
theorem read_off (n : Nat) (hn : n < 4294967296) (h : Pl w p d q S most A OO) (hr : ¬ n < S.ls.length / 8) :
    Calls Tryz.prog 12 #[.pointer (some ⟨p, 0, none⟩), .int .u32 (n : Int)] w fun ed w' => ed = .returned (.tuple #[.int .u8 0, .slice none 0 0, .int .u16 2]) ∧ Below w.heap.size w w' := by
  obtain ⟨O, e, m, L, el, yo, h1, rfl, h3⟩ := h
  have HR := hide (reaches_no n h1 hn hr)
  clear h1 h3 hr
  go_enter Tryz.func12, Tryz.ntmps12
  go_wp2_with fail
  refine HR.out.mono ?_
  rintro ed w1 ⟨rfl, hb⟩
  have HB := hide hb
  clear hb
  go_wp2
  go_ret3
  exact ⟨rfl, HB.out⟩
set_option maxHeartbeats 1600000 in
set_option maxRecDepth 1000000 in
theorem read_hand (x : Pge) (hn : x.n < 4294967296) (h : Pl w p d q S most A OO) (hr : x.n < S.ls.length / 8) (hx : x ∈ A) :
    Calls Tryz.prog 12 #[.pointer (some ⟨p, 0, none⟩), .int .u32 (x.n : Int)] w fun ed w' => ∃ v OO', ed = .returned (.tuple #[.int .u8 (x.k : Int), v, .int .u16 0]) ∧ Fresh w w' OO' v x.pl ∧ Pl w' p d q S most (wo A x.n ++ [x]) OO' ∧ Go1 OO w OO' w' := by
  obtain ⟨O, e, m, L, el, yo, h1, rfl, h3⟩ := h
  obtain ⟨s, hs, rfl⟩ := List.mem_map.1 hx
  obtain ⟨u, v, rfl⟩ := List.append_of_mem hs
  have HR := hide (reaches_yes s.n h1 hn hr)
  have HP := hide h1
  have H3 := hide h3
  clear h1 h3 hr hx hs
  show Calls Tryz.prog 12 #[.pointer (some ⟨p, 0, none⟩), .int .u32 (s.n : Int)] w fun ed w' => ∃ v_1 OO', ed = .returned (.tuple #[.int .u8 (s.k : Int), v_1, .int .u16 0]) ∧ Fresh w w' OO' v_1 s.pl ∧ Pl w' p d q S most (wo ((u ++ s :: v).map Sh.pg) s.n ++ [s.pg]) OO' ∧ Go1 OO w OO' w'
  go_enter Tryz.func12, Tryz.ntmps12
  go_wp2_with fail
  refine HR.out.mono ?_
  rintro ed w1 ⟨rfl, hb1⟩
  have h1 := HP.out.below hb1
  have c2 := h1.hd.c2
  have hlk := h1.hd.map.there (s := s) (by simp) hn
  have HU := hide (use_any h1.hd)
  have HP1 := hide h1
  have HB1 := hide hb1
  clear h1 hb1
  go_wp2_with fail
  refine HU.out.mono ?_
  rintro ed w2 ⟨rfl, ⟨el2, yo2, hh2⟩, hm2⟩
  have hg2 : Go1 (OwP p e m (u ++ s :: v)) w1 (OwP p e m (u ++ v ++ [s])) w2 := Go1.sub hm2 (owp_sub fun t ht => (mid_perm u v s).mem_iff.1 ht)
  have hp2 := HP1.out.hand hh2 hg2
  have hsm : s ∈ u ++ v ++ [s] := by simp
  obtain ⟨-, -, -, q3, q4⟩ := hh2.fam.c (s := s) (by simp)
  obtain ⟨hown, hle, h8⟩ := hh2.pay s hsm
  obtain ⟨a, cc, hv, hcc, hcm, hna, hrow, -⟩ := hown.shape
  obtain ⟨ln, HLn⟩ : ∃ ln, Hid (ln = s.pl.length) := ⟨_, rfl⟩
  rw [hv] at q4
  have HG2 : Hid (Go1 OO w (fun k => O k ∨ OwP p e m (u ++ v ++ [s]) k) w2) := hide ((Go1.of_below HB1.out).trans (Pl.gone H3.out hg2.right))
  have HP2 := hide hp2
  have HCl := hide (clone_any a s.pl.length cc s.pl w2.drew rfl hna (hrow.below (Below.refl _ _).drew) (by omega))
  rw [← HLn.out] at HCl q4
  have HSt : Hid (∀ W, Below w2.heap.size w2 W → W.cell? ⟨s.b, 3, none⟩ = some (.int .u8 (s.k : Int)) ∧ W.cell? ⟨s.b, 4, none⟩ = some (.slice a ln cc)) := hide fun W hW => ⟨(hW.cell (p := ⟨s.b, 3, none⟩) (lt_of_block (hh2.fam s (by simp)))).trans q3, (hW.cell (p := ⟨s.b, 4, none⟩) (lt_of_block (hh2.fam s (by simp)))).trans q4⟩
  have HWo := hide (wo_mid HP.out.hd.nums)
  clear hm2 hg2 hp2 hsm hown hle h8 hv hcc hcm hna hrow hlk c2 hh2
  go_wp2
  go_region_held3 (fun W => W.cell? ⟨s.b, 3, none⟩ = some (.int .u8 (s.k : Int)) ∧ W.cell? ⟨s.b, 4, none⟩ = some (.slice a ln cc)) ((first | (refine ⟨?_, ?_⟩ <;> assumption) | exact HSt.out _ (Below.refl _ _).drew)) ((first | (go_at_call 47; refine HCl.out.mono ?_; intro r' w3 hh; obtain ⟨cv, rfl, hown3, hnew3, hb3⟩ := hh; have HB3 : Hid (Below w2.heap.size w2 w3) := hide ((Below.refl _ _).drew.trans hb3); have HO3 := hide hown3; have HN3 := hide hnew3; clear q3 q4 hown3 hnew3 hb3; obtain ⟨q3, q4⟩ := HSt.out w3 HB3.out)))
  go_wp2
  go_ret3
  refine ⟨cv, _, rfl, ⟨HO3.out, fun g hg => ?_⟩, ⟨_, _, _, _, _, _, HP2.out.below HB3.out, ?_, fun k => Iff.rfl⟩, HG2.out.trans (Go1.of_below HB3.out)⟩
  · have h2 : w2.heap.size ≤ g := HN3.out g hg
    have h3 := HG2.out.mv.size
    refine ⟨by omega, fun hx => ?_⟩
    rcases hx with hx | hx
    · have := HP2.out.dk.lt g hx; omega
    · have := HP2.out.hd.lt g hx; omega
  · rw [List.map_append, HWo.out]
    rfl
end Go.Proofs.YtobokocpapfjbaaGreat
/- A pool's Read of a page that is not at hand. -/
namespace Go.Proofs.YtobokocpapfjbaaGreat
open Go.RowKit Go.Maps
set_option linter.unusedVariables false
variable {w w' : World} {p d q e m most : Nat} {S S' : DS} {O O' OO : Nat → Prop} {L L' : List Sh} {el yo el' yo' : Nat → Nat} {A : List Pge}

theorem er_le (S : DS) (s : Bool) (l : Int) : S.er s l = 0 ∨ S.er s l = 4 ∨ S.er s l = 6 := by
  unfold DS.er
  split
  · simp
  · split
    · simp
    · split <;> simp
set_option maxHeartbeats 1600000 in
set_option maxRecDepth 1000000 in
theorem read_io (n : Nat) (hn : n < 4294967296) (h : Pl w p d q S most A OO) (hr : n < S.ls.length / 8) (hx : n ∉ A.map Pge.n) (hc : S.n1 + 1 ≤ 1000000) (he : S.er S.s1 S.l1 ≠ 0) :
    Calls Tryz.prog 12 #[.pointer (some ⟨p, 0, none⟩), .int .u32 (n : Int)] w fun ed w' => ∃ OO', ed = .returned (.tuple #[.int .u8 0, .slice none 0 0, .int .u16 (S.er S.s1 S.l1 : Int)]) ∧ Pl w' p d q (S.be S.op1) most A OO' ∧ Go1 OO w OO' w' := by
  obtain ⟨O, e, m, L, el, yo, h1, rfl, h3⟩ := h
  have em : (L.map Sh.pg).map Pge.n = L.map Sh.n := by rw [List.map_map]; rfl
  rw [em] at hx
  have HR := hide (reaches_yes n h1 hn hr)
  have HP := hide h1
  have H3 := hide h3
  have HRd := hide (fun (W : World) (hW : Below w.heap.size w W) => read_any d q O S n W ((h1.below hW).dk) hr hc)
  have hr4 := er_le S S.s1 S.l1
  obtain ⟨r, HEr⟩ : ∃ r, Hid (r = S.er S.s1 S.l1) := ⟨_, rfl⟩
  rw [← HEr.out] at HRd hr4 he ⊢
  have e1 : ¬ (r : Int) = 0 := by omega
  have e2 : ((r : Int) == 0) = false := by simpa using e1
  have e3 : r ≤ 6 := by omega
  have HNo := hide hx
  clear h1 h3 hr em hx hr4
  go_enter Tryz.func12, Tryz.ntmps12
  go_wp2_with fail
  refine HR.out.mono ?_
  rintro ed w1 ⟨rfl, hb1⟩
  have h1 := HP.out.below hb1
  have c0 := h1.hd.c0
  have c2 := h1.hd.c2
  have hlk := h1.hd.map.not HNo.out hn
  have HD := hide (HRd.out w1 hb1)
  have HP1 := hide h1
  have HB1 := hide hb1
  clear h1 hb1
  go_wp2_with fail
  refine HD.out.mono ?_
  rintro ed w2 ⟨v, rfl, hrd, hd2, hg2⟩
  obtain rfl := hrd.2 he
  have HP2 := hide (HP1.out.disk hd2 hg2)
  have HG2 := hide ((Go1.of_below HB1.out).trans (Pl.gone H3.out (hg2.left (P := OwP p e m L))))
  clear hrd hd2 hg2 hlk c0 c2
  go_wp2
  go_ret3
  exact ⟨_, rfl, ⟨_, _, _, _, _, _, HP2.out, rfl, fun k => Iff.rfl⟩, HG2.out⟩
set_option maxHeartbeats 3200000 in
set_option maxRecDepth 1000000 in
theorem read_disk (n : Nat) (hn : n < 4294967296) (h : Pl w p d q S most A OO) (hr : n < S.ls.length / 8) (hx : n ∉ A.map Pge.n) (hc : S.n1 + 1 ≤ 1000000) (he : S.er S.s1 S.l1 = 0) :
    Calls Tryz.prog 12 #[.pointer (some ⟨p, 0, none⟩), .int .u32 (n : Int)] w fun ed w' =>
      (Pg.opn n (rd S (8 * n) 8) = none → ∃ OO', ed = .returned (.tuple #[.int .u8 0, .slice none 0 0, .int .u16 100]) ∧ Pl w' p d q S.op1 most A OO' ∧ Go1 OO w OO' w') ∧
      (∀ k pl, Pg.opn n (rd S (8 * n) 8) = some (k, pl) → ∃ v OO', ed = .returned (.tuple #[.int .u8 (k : Int), v, .int .u16 0]) ∧ Fresh w w' OO' v pl ∧ Pl w' p d q S.op1 most (inn most A ⟨n, k, pl⟩) OO' ∧ Go1 OO w OO' w') := by
  obtain ⟨O, e, m, L, el, yo, h1, rfl, h3⟩ := h
  have em : (L.map Sh.pg).map Pge.n = L.map Sh.n := by rw [List.map_map]; rfl
  rw [em] at hx
  have hgd := h1.good
  have hls : 8 * n + 8 ≤ S.ls.length := by omega
  have HLen : Hid ((rd S (8 * n) 8).length = 1024) := rd_len hgd (8 * n) 8 hls
  have HBy : Hid (Byts (rd S (8 * n) 8)) := rd_byts hgd (8 * n) 8 hls
  have HR := hide (reaches_yes n h1 hn hr)
  have HP := hide h1
  have H3 := hide h3
  have HRd := hide (fun (W : World) (hW : Below w.heap.size w W) => read_any d q O S n W ((h1.below hW).dk) hr hc)
  obtain ⟨r, HEr⟩ : ∃ r, Hid (r = S.er S.s1 S.l1) := ⟨_, rfl⟩
  have hbz : Hid (S.be S.op1 = S.op1) := be_zero he
  rw [← HEr.out] at HRd he
  have e1 : (r : Int) = 0 := by omega
  have HNo := hide hx
  clear h1 h3 hr em hx hgd hls
  obtain ⟨zs, HZ⟩ : ∃ zs, Hid (zs = rd S (8 * n) 8) := ⟨_, rfl⟩
  rw [← HZ.out] at HLen HBy HRd ⊢
  obtain ⟨R, HRR⟩ : ∃ R, Hid (R = Pg.opn n zs) := ⟨_, rfl⟩
  rw [← HRR.out]
  have HSome : Hid (∀ k pl, R = some (k, pl) → k < 256 ∧ pl.length ≤ 1008 ∧ Byts pl) := hide fun k pl hh => by
    rw [HRR.out] at hh
    obtain ⟨q1, q2, q3, q4⟩ := Pg.opn_some hh
    refine ⟨by omega, q3, ?_⟩
    have h2 := Pg.pg_payload k n pl
    rw [← q4] at h2
    rw [← h2]
    exact (HBy.out.drop _).take _
  cases R with
  | none =>
    go_enter Tryz.func12, Tryz.ntmps12
    go_wp2_with fail
    refine HR.out.mono ?_
    rintro ed w1 ⟨rfl, hb1⟩
    have h1 := HP.out.below hb1
    have c0 := h1.hd.c0
    have c2 := h1.hd.c2
    have hlk := h1.hd.map.not HNo.out hn
    have HD := hide (HRd.out w1 hb1)
    have HP1 := hide h1
    have HB1 := hide hb1
    clear h1 hb1
    go_wp2_with fail
    refine HD.out.mono ?_
    rintro ed w2 ⟨v, rfl, hrd, hd2, hg2⟩
    obtain ⟨hown, hnew⟩ := hrd.1 he
    obtain ⟨a, c, rfl, hcc, hcm, hna, hrow, -⟩ := hown.shape
    have HP2 := hide (HP1.out.disk hd2 hg2)
    have HG2 := hide ((Go1.of_below HB1.out).trans (Pl.gone H3.out (hg2.left (P := OwP p e m L))))
    have HO := hide (open_any n a zs.length c zs w2 hn rfl hcc hcm hna hrow HBy.out)
    rw [← HRR.out] at HO
    obtain ⟨ln, HLn⟩ : ∃ ln, Hid (ln = zs.length) := ⟨_, rfl⟩
    rw [← HLn.out] at HO ⊢
    clear hrd hd2 hg2 hlk c0 c2 hown hnew hcc hcm hna hrow
    go_wp2_with fail
    refine HO.out.mono ?_
    rintro ed w3 ⟨-, hno⟩
    obtain ⟨rfl, hb3⟩ := hno rfl
    have HB3 := hide hb3
    clear hno hb3
    go_wp2
    go_ret3
    have hx := HP2.out.below HB3.out
    rw [hbz.out] at hx
    exact ⟨fun _ => ⟨_, rfl, ⟨_, _, _, _, _, _, hx, rfl, fun k => Iff.rfl⟩, HG2.out.trans (Go1.of_below HB3.out)⟩, fun k pl hh => by cases hh⟩
  | some x =>
    obtain ⟨k, pl⟩ := x
    obtain ⟨hk, hpl, h8⟩ := HSome.out k pl rfl
    have H8 := hide h8
    clear h8
    go_enter Tryz.func12, Tryz.ntmps12
    go_wp2_with fail
    refine HR.out.mono ?_
    rintro ed w1 ⟨rfl, hb1⟩
    have h1 := HP.out.below hb1
    have c0 := h1.hd.c0
    have c2 := h1.hd.c2
    have hlk := h1.hd.map.not HNo.out hn
    have HD := hide (HRd.out w1 hb1)
    have HP1 := hide h1
    have HB1 := hide hb1
    clear h1 hb1
    go_wp2_with fail
    refine HD.out.mono ?_
    rintro ed w2 ⟨v, rfl, hrd, hd2, hg2⟩
    obtain ⟨hown, hnew⟩ := hrd.1 he
    obtain ⟨a, c, rfl, hcc, hcm, hna, hrow, -⟩ := hown.shape
    have HP2 := hide (HP1.out.disk hd2 hg2)
    have HG2 := hide ((Go1.of_below HB1.out).trans (Pl.gone H3.out (hg2.left (P := OwP p e m L))))
    have HO := hide (open_any n a zs.length c zs w2 hn rfl hcc hcm hna hrow HBy.out)
    rw [← HRR.out] at HO
    obtain ⟨ln, HLn⟩ : ∃ ln, Hid (ln = zs.length) := ⟨_, rfl⟩
    rw [← HLn.out] at HO ⊢
    clear hrd hd2 hg2 hlk c0 c2 hown hnew hcc hcm hna hrow
    go_wp2_with fail
    refine HO.out.mono ?_
    rintro ed w3 ⟨hy, -⟩
    obtain ⟨v3, rfl, hown3, hnew3, hb3⟩ := hy k pl rfl
    obtain ⟨a3, c3, rfl, hcc3, hcm3, hna3, hrow3, hbk3⟩ := hown3.shape
    have hp3 := HP2.out.below hb3
    have hap3 : ∀ ad, a3 = some ad → ¬ OwP p e m L ad.block := fun ad had hx => by
      have h2 := hnew3 ad.block ((hbk3 ad.block).1 ⟨ad, had, rfl⟩)
      have h4 := HP2.out.hd.lt _ hx
      omega
    have HT := hide (take_any n k a3 pl.length c3 pl hp3.hd hn hk HNo.out rfl hna3 hrow3 H8.out hpl (fun _ => hap3))
    have HP3 := hide hp3
    have HG3 := hide (HG2.out.trans (Go1.of_below hb3))
    have HO3 := hide hown3
    have HN3 := hide hnew3
    obtain ⟨l3, HL3⟩ : ∃ ln, Hid (ln = pl.length) := ⟨_, rfl⟩
    rw [← HL3.out] at HT HO3 HN3 ⊢
    have c1 := hp3.hd.c1
    have HS3 := hide hb3.size
    clear hp3 hap3 hb3 hown3 hnew3 hcc3 hcm3 hna3 hrow3 hbk3 hy
    go_wp2_with fail
    refine HT.out.mono ?_
    rintro ed w4 ⟨rfl, L4, el4, yo4, hh4, hL4, hg4⟩
    have hp4 := HP3.out.hand hh4 hg4
    have HG4 := hide (HG3.out.trans (hg4.right (P := O)))
    have HF : Hid (Fresh w w4 (fun k => O k ∨ OwP p e m L4 k) (.slice a3 l3 c3) pl) := hide ⟨HO3.out.of_block fun g hg => hg4.mv.block g (HO3.out.lt hg) (fun hx => by
        have h2 := HN3.out g hg
        have h4 := HP2.out.hd.lt _ hx
        omega), fun g hg => by
        have h2 := HN3.out g hg
        have h5 := HG2.out.mv.size
        have h6 := HO3.out.lt hg
        refine ⟨by omega, fun hx => ?_⟩
        rcases hx with hx | hx
        · have := HP2.out.dk.lt g hx; omega
        · rcases hg4.own g hx with hx | hx
          · have := HP2.out.hd.lt g hx; omega
          · omega⟩
    have HP4 := hide hp4
    have HL4 := hide hL4
    clear hh4 hL4 hg4 hp4 c1
    go_wp2
    go_ret3
    refine ⟨fun hh => (by cases hh), fun k' pl' hh => ?_⟩
    cases hh
    have hx := HP4.out
    rw [hbz.out] at hx
    exact ⟨_, _, rfl, HF.out, ⟨_, _, _, _, _, _, hx, HL4.out, fun k => Iff.rfl⟩, HG4.out⟩
end Go.Proofs.YtobokocpapfjbaaGreat
