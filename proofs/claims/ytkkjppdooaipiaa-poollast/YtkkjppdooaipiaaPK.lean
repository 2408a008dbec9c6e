/- A pool's Read. -/
import Derived.Test.YtkkjppdooaipiaaPH
import Derived.Deep.RegionHeld3
namespace Go.Proofs.Ytkkjppdooaipiaa
open Go.RowKit Go.Maps
set_option linter.unusedVariables false
variable {w w' : World} {p d q e m most : Nat} {S S' : DS} {O O' OO : Nat → Prop} {L L' : List Sh} {el yo el' yo' : Nat → Nat} {A : List Pge}

theorem ret_three {v v' : Value} {k k2 : IntKind} {a a' b b' : Int} (h0 : a = a') (h : v = v') (h2 : b = b') : Ending.returned (.tuple #[.int k a, v, .int k2 b]) = .returned (.tuple #[.int k a', v', .int k2 b']) := by rw [h0, h, h2]
/-- bytes that a call made: their owner's, in a block that is new. -/
def Fresh (w w' : World) (OO' : Nat → Prop) (v : Value) (zs : List Int) : Prop := Own w' v zs ∧ (∀ g, v.ownBlock = some g → w.heap.size ≤ g ∧ ¬ OO' g)
theorem Fresh.nil (w w' : World) (OO' : Nat → Prop) : Fresh w w' OO' (.slice none 0 0) [] := ⟨Own.nil _, fun g hg => by simp [Value.ownBlock] at hg⟩
set_option maxHeartbeats 1600000 in
set_option maxRecDepth 1000000 in
theorem read_off (n : Nat) (hn : n < 4294967296) (h : Pl w p d q S most A OO) (hr : ¬ n < S.ls.length / 8) :
    Calls Try.prog 10 #[.pointer (some ⟨p, 0, none⟩), .int .u32 (n : Int)] w fun ed w' => ed = .returned (.tuple #[.int .u8 0, .slice none 0 0, .int .u16 2]) ∧ Below w.heap.size w w' := by
  obtain ⟨O, e, m, L, el, yo, h1, rfl, h3⟩ := h
  have HR := hide (reaches_no n h1 hn hr)
  clear h1 h3 hr
  go_enter Try.func10, Try.ntmps10
  go_wp2_with fail
  refine HR.out.mono ?_
  rintro ed w1 ⟨rfl, hb⟩
  have HB := hide hb
  clear hb
  go_wp2
  go_ret3
  exact ⟨rfl, HB.out⟩
set_option maxHeartbeats 1600000 in
set_option maxRecDepth 1000000 in
theorem read_hand (x : Pge) (hn : x.n < 4294967296) (h : Pl w p d q S most A OO) (hr : x.n < S.ls.length / 8) (hx : x ∈ A) :
    Calls Try.prog 10 #[.pointer (some ⟨p, 0, none⟩), .int .u32 (x.n : Int)] w fun ed w' => ∃ v OO', ed = .returned (.tuple #[.int .u8 (x.k : Int), v, .int .u16 0]) ∧ Fresh w w' OO' v x.pl ∧ Pl w' p d q S most (wo A x.n ++ [x]) OO' ∧ Go1 OO w OO' w' := by
  obtain ⟨O, e, m, L, el, yo, h1, rfl, h3⟩ := h
  obtain ⟨s, hs, rfl⟩ := List.mem_map.1 hx
  obtain ⟨u, v, rfl⟩ := List.append_of_mem hs
  have HR := hide (reaches_yes s.n h1 hn hr)
  have HP := hide h1
  have H3 := hide h3
  clear h1 h3 hr hx hs
  show Calls Try.prog 10 #[.pointer (some ⟨p, 0, none⟩), .int .u32 (s.n : Int)] w fun ed w' => ∃ v_1 OO', ed = .returned (.tuple #[.int .u8 (s.k : Int), v_1, .int .u16 0]) ∧ Fresh w w' OO' v_1 s.pl ∧ Pl w' p d q S most (wo ((u ++ s :: v).map Sh.pg) s.n ++ [s.pg]) OO' ∧ Go1 OO w OO' w'
  go_enter Try.func10, Try.ntmps10
  go_wp2_with fail
  refine HR.out.mono ?_
  rintro ed w1 ⟨rfl, hb1⟩
  have h1 := HP.out.below hb1
  have c2 := h1.hd.c2
  have hlk := h1.hd.map.there (s := s) (by simp) hn
  have HU := hide (use_any h1.hd)
  have HP1 := hide h1
  have HB1 := hide hb1
  clear h1 hb1
  go_wp2_with fail
  refine HU.out.mono ?_
  rintro ed w2 ⟨rfl, ⟨el2, yo2, hh2⟩, hm2⟩
  have hg2 : Go1 (OwP p e m (u ++ s :: v)) w1 (OwP p e m (u ++ v ++ [s])) w2 := Go1.sub hm2 (owp_sub fun t ht => (mid_perm u v s).mem_iff.1 ht)
  have hp2 := HP1.out.hand hh2 hg2
  have hsm : s ∈ u ++ v ++ [s] := by simp
  obtain ⟨-, -, -, q3, q4⟩ := hh2.fam.c (s := s) (by simp)
  obtain ⟨hown, hle, h8⟩ := hh2.pay s hsm
  obtain ⟨a, cc, hv, hcc, hcm, hna, hrow, -⟩ := hown.shape
  obtain ⟨ln, HLn⟩ : ∃ ln, Hid (ln = s.pl.length) := ⟨_, rfl⟩
  rw [hv] at q4
  have HG2 : Hid (Go1 OO w (fun k => O k ∨ OwP p e m (u ++ v ++ [s]) k) w2) := hide ((Go1.of_below HB1.out).trans (Pl.gone H3.out hg2.right))
  have HP2 := hide hp2
  have HCl := hide (clone_any a s.pl.length cc s.pl w2.drew rfl hna (hrow.below (Below.refl _ _).drew) (by omega))
  rw [← HLn.out] at HCl q4
  have HSt : Hid (∀ W, Below w2.heap.size w2 W → W.cell? ⟨s.b, 3, none⟩ = some (.int .u8 (s.k : Int)) ∧ W.cell? ⟨s.b, 4, none⟩ = some (.slice a ln cc)) := hide fun W hW => ⟨(hW.cell (p := ⟨s.b, 3, none⟩) (lt_of_block (hh2.fam s (by simp)))).trans q3, (hW.cell (p := ⟨s.b, 4, none⟩) (lt_of_block (hh2.fam s (by simp)))).trans q4⟩
  have HWo := hide (wo_mid HP.out.hd.nums)
  clear hm2 hg2 hp2 hsm hown hle h8 hv hcc hcm hna hrow hlk c2 hh2
  go_wp2
  go_region_held3 (fun W => W.cell? ⟨s.b, 3, none⟩ = some (.int .u8 (s.k : Int)) ∧ W.cell? ⟨s.b, 4, none⟩ = some (.slice a ln cc)) ((first | (refine ⟨?_, ?_⟩ <;> assumption) | exact HSt.out _ (Below.refl _ _).drew)) ((first | (go_at_call 23; refine HCl.out.mono ?_; intro r' w3 hh; obtain ⟨cv, rfl, hown3, hnew3, hb3⟩ := hh; have HB3 : Hid (Below w2.heap.size w2 w3) := hide ((Below.refl _ _).drew.trans hb3); have HO3 := hide hown3; have HN3 := hide hnew3; clear q3 q4 hown3 hnew3 hb3; obtain ⟨q3, q4⟩ := HSt.out w3 HB3.out)))
  go_wp2
  go_ret3
  refine ⟨cv, _, rfl, ⟨HO3.out, fun g hg => ?_⟩, ⟨_, _, _, _, _, _, HP2.out.below HB3.out, ?_, fun k => Iff.rfl⟩, HG2.out.trans (Go1.of_below HB3.out)⟩
  · have h2 : w2.heap.size ≤ g := HN3.out g hg
    have h3 := HG2.out.mv.size
    refine ⟨by omega, fun hx => ?_⟩
    rcases hx with hx | hx
    · have := HP2.out.dk.lt g hx; omega
    · have := HP2.out.hd.lt g hx; omega
  · rw [List.map_append, HWo.out]
    rfl
end Go.Proofs.Ytkkjppdooaipiaa
/- A pool's Read of a page that is not at hand. -/
namespace Go.Proofs.Ytkkjppdooaipiaa
open Go.RowKit Go.Maps
set_option linter.unusedVariables false
variable {w w' : World} {p d q e m most : Nat} {S S' : DS} {O O' OO : Nat → Prop} {L L' : List Sh} {el yo el' yo' : Nat → Nat} {A : List Pge}

theorem er_le (S : DS) (s : Bool) (l : Int) : S.er s l = 0 ∨ S.er s l = 4 ∨ S.er s l = 6 := by
  unfold DS.er
  split
  · simp
  · split
    · simp
    · split <;> simp
set_option maxHeartbeats 1600000 in
set_option maxRecDepth 1000000 in
theorem read_io (n : Nat) (hn : n < 4294967296) (h : Pl w p d q S most A OO) (hr : n < S.ls.length / 8) (hx : n ∉ A.map Pge.n) (hc : S.n1 + 1 ≤ 1000000) (he : S.er S.s1 S.l1 ≠ 0) :
    Calls Try.prog 10 #[.pointer (some ⟨p, 0, none⟩), .int .u32 (n : Int)] w fun ed w' => ∃ OO', ed = .returned (.tuple #[.int .u8 0, .slice none 0 0, .int .u16 (S.er S.s1 S.l1 : Int)]) ∧ Pl w' p d q (S.be S.op1) most A OO' ∧ Go1 OO w OO' w' := by
  obtain ⟨O, e, m, L, el, yo, h1, rfl, h3⟩ := h
  have em : (L.map Sh.pg).map Pge.n = L.map Sh.n := by rw [List.map_map]; rfl
  rw [em] at hx
  have HR := hide (reaches_yes n h1 hn hr)
  have HP := hide h1
  have H3 := hide h3
  have HRd := hide (fun (W : World) (hW : Below w.heap.size w W) => read_any d q O S n W ((h1.below hW).dk) hr hc)
  have hr4 := er_le S S.s1 S.l1
  obtain ⟨r, HEr⟩ : ∃ r, Hid (r = S.er S.s1 S.l1) := ⟨_, rfl⟩
  rw [← HEr.out] at HRd hr4 he ⊢
  have e1 : ¬ (r : Int) = 0 := by omega
  have e2 : ((r : Int) == 0) = false := by simpa using e1
  have e3 : r ≤ 6 := by omega
  have HNo := hide hx
  clear h1 h3 hr em hx hr4
  go_enter Try.func10, Try.ntmps10
  go_wp2_with fail
  refine HR.out.mono ?_
  rintro ed w1 ⟨rfl, hb1⟩
  have h1 := HP.out.below hb1
  have c0 := h1.hd.c0
  have c2 := h1.hd.c2
  have hlk := h1.hd.map.not HNo.out hn
  have HD := hide (HRd.out w1 hb1)
  have HP1 := hide h1
  have HB1 := hide hb1
  clear h1 hb1
  go_wp2_with fail
  refine HD.out.mono ?_
  rintro ed w2 ⟨v, rfl, hrd, hd2, hg2⟩
  obtain rfl := hrd.2 he
  have HP2 := hide (HP1.out.disk hd2 hg2)
  have HG2 := hide ((Go1.of_below HB1.out).trans (Pl.gone H3.out (hg2.left (P := OwP p e m L))))
  clear hrd hd2 hg2 hlk c0 c2
  go_wp2
  go_ret3
  exact ⟨_, rfl, ⟨_, _, _, _, _, _, HP2.out, rfl, fun k => Iff.rfl⟩, HG2.out⟩
set_option maxHeartbeats 3200000 in
set_option maxRecDepth 1000000 in
theorem read_disk (n : Nat) (hn : n < 4294967296) (h : Pl w p d q S most A OO) (hr : n < S.ls.length / 8) (hx : n ∉ A.map Pge.n) (hc : S.n1 + 1 ≤ 1000000) (he : S.er S.s1 S.l1 = 0) :
    Calls Try.prog 10 #[.pointer (some ⟨p, 0, none⟩), .int .u32 (n : Int)] w fun ed w' =>
      (Pg.opn n (rd S (8 * n) 8) = none → ∃ OO', ed = .returned (.tuple #[.int .u8 0, .slice none 0 0, .int .u16 100]) ∧ Pl w' p d q S.op1 most A OO' ∧ Go1 OO w OO' w') ∧
      (∀ k pl, Pg.opn n (rd S (8 * n) 8) = some (k, pl) → ∃ v OO', ed = .returned (.tuple #[.int .u8 (k : Int), v, .int .u16 0]) ∧ Fresh w w' OO' v pl ∧ Pl w' p d q S.op1 most (inn most A ⟨n, k, pl⟩) OO' ∧ Go1 OO w OO' w') := by
  obtain ⟨O, e, m, L, el, yo, h1, rfl, h3⟩ := h
  have em : (L.map Sh.pg).map Pge.n = L.map Sh.n := by rw [List.map_map]; rfl
  rw [em] at hx
  have hgd := h1.good
  have hls : 8 * n + 8 ≤ S.ls.length := by omega
  have HLen : Hid ((rd S (8 * n) 8).length = 1024) := rd_len hgd (8 * n) 8 hls
  have HBy : Hid (Byts (rd S (8 * n) 8)) := rd_byts hgd (8 * n) 8 hls
  have HR := hide (reaches_yes n h1 hn hr)
  have HP := hide h1
  have H3 := hide h3
  have HRd := hide (fun (W : World) (hW : Below w.heap.size w W) => read_any d q O S n W ((h1.below hW).dk) hr hc)
  obtain ⟨r, HEr⟩ : ∃ r, Hid (r = S.er S.s1 S.l1) := ⟨_, rfl⟩
  have hbz : Hid (S.be S.op1 = S.op1) := be_zero he
  rw [← HEr.out] at HRd he
  have e1 : (r : Int) = 0 := by omega
  have HNo := hide hx
  clear h1 h3 hr em hx hgd hls
  obtain ⟨zs, HZ⟩ : ∃ zs, Hid (zs = rd S (8 * n) 8) := ⟨_, rfl⟩
  rw [← HZ.out] at HLen HBy HRd ⊢
  obtain ⟨R, HRR⟩ : ∃ R, Hid (R = Pg.opn n zs) := ⟨_, rfl⟩
  rw [← HRR.out]
  have HSome : Hid (∀ k pl, R = some (k, pl) → k < 256 ∧ pl.length ≤ 1008 ∧ Byts pl) := hide fun k pl hh => by
    rw [HRR.out] at hh
    obtain ⟨q1, q2, q3, q4⟩ := Pg.opn_some hh
    refine ⟨by omega, q3, ?_⟩
    have h2 := Pg.pg_payload k n pl
    rw [← q4] at h2
    rw [← h2]
    exact (HBy.out.drop _).take _
  cases R with
  | none =>
    go_enter Try.func10, Try.ntmps10
    go_wp2_with fail
    refine HR.out.mono ?_
    rintro ed w1 ⟨rfl, hb1⟩
    have h1 := HP.out.below hb1
    have c0 := h1.hd.c0
    have c2 := h1.hd.c2
    have hlk := h1.hd.map.not HNo.out hn
    have HD := hide (HRd.out w1 hb1)
    have HP1 := hide h1
    have HB1 := hide hb1
    clear h1 hb1
    go_wp2_with fail
    refine HD.out.mono ?_
    rintro ed w2 ⟨v, rfl, hrd, hd2, hg2⟩
    obtain ⟨hown, hnew⟩ := hrd.1 he
    obtain ⟨a, c, rfl, hcc, hcm, hna, hrow, -⟩ := hown.shape
    have HP2 := hide (HP1.out.disk hd2 hg2)
    have HG2 := hide ((Go1.of_below HB1.out).trans (Pl.gone H3.out (hg2.left (P := OwP p e m L))))
    have HO := hide (open_any n a zs.length c zs w2 hn rfl hcc hcm hna hrow HBy.out)
    rw [← HRR.out] at HO
    obtain ⟨ln, HLn⟩ : ∃ ln, Hid (ln = zs.length) := ⟨_, rfl⟩
    rw [← HLn.out] at HO ⊢
    clear hrd hd2 hg2 hlk c0 c2 hown hnew hcc hcm hna hrow
    go_wp2_with fail
    refine HO.out.mono ?_
    rintro ed w3 ⟨-, hno⟩
    obtain ⟨rfl, hb3⟩ := hno rfl
    have HB3 := hide hb3
    clear hno hb3
    go_wp2
    go_ret3
    have hx := HP2.out.below HB3.out
    rw [hbz.out] at hx
    exact ⟨fun _ => ⟨_, rfl, ⟨_, _, _, _, _, _, hx, rfl, fun k => Iff.rfl⟩, HG2.out.trans (Go1.of_below HB3.out)⟩, fun k pl hh => by cases hh⟩
  | some x =>
    obtain ⟨k, pl⟩ := x
    obtain ⟨hk, hpl, h8⟩ := HSome.out k pl rfl
    have H8 := hide h8
    clear h8
    go_enter Try.func10, Try.ntmps10
    go_wp2_with fail
    refine HR.out.mono ?_
    rintro ed w1 ⟨rfl, hb1⟩
    have h1 := HP.out.below hb1
    have c0 := h1.hd.c0
    have c2 := h1.hd.c2
    have hlk := h1.hd.map.not HNo.out hn
    have HD := hide (HRd.out w1 hb1)
    have HP1 := hide h1
    have HB1 := hide hb1
    clear h1 hb1
    go_wp2_with fail
    refine HD.out.mono ?_
    rintro ed w2 ⟨v, rfl, hrd, hd2, hg2⟩
    obtain ⟨hown, hnew⟩ := hrd.1 he
    obtain ⟨a, c, rfl, hcc, hcm, hna, hrow, -⟩ := hown.shape
    have HP2 := hide (HP1.out.disk hd2 hg2)
    have HG2 := hide ((Go1.of_below HB1.out).trans (Pl.gone H3.out (hg2.left (P := OwP p e m L))))
    have HO := hide (open_any n a zs.length c zs w2 hn rfl hcc hcm hna hrow HBy.out)
    rw [← HRR.out] at HO
    obtain ⟨ln, HLn⟩ : ∃ ln, Hid (ln = zs.length) := ⟨_, rfl⟩
    rw [← HLn.out] at HO ⊢
    clear hrd hd2 hg2 hlk c0 c2 hown hnew hcc hcm hna hrow
    go_wp2_with fail
    refine HO.out.mono ?_
    rintro ed w3 ⟨hy, -⟩
    obtain ⟨v3, rfl, hown3, hnew3, hb3⟩ := hy k pl rfl
    obtain ⟨a3, c3, rfl, hcc3, hcm3, hna3, hrow3, hbk3⟩ := hown3.shape
    have hp3 := HP2.out.below hb3
    have hap3 : ∀ ad, a3 = some ad → ¬ OwP p e m L ad.block := fun ad had hx => by
      have h2 := hnew3 ad.block ((hbk3 ad.block).1 ⟨ad, had, rfl⟩)
      have h4 := HP2.out.hd.lt _ hx
      omega
    have HT := hide (take_any n k a3 pl.length c3 pl hp3.hd hn hk HNo.out rfl hna3 hrow3 H8.out hpl (fun _ => hap3))
    have HP3 := hide hp3
    have HG3 := hide (HG2.out.trans (Go1.of_below hb3))
    have HO3 := hide hown3
    have HN3 := hide hnew3
    obtain ⟨l3, HL3⟩ : ∃ ln, Hid (ln = pl.length) := ⟨_, rfl⟩
    rw [← HL3.out] at HT HO3 HN3 ⊢
    have c1 := hp3.hd.c1
    have HS3 := hide hb3.size
    clear hp3 hap3 hb3 hown3 hnew3 hcc3 hcm3 hna3 hrow3 hbk3 hy
    go_wp2_with fail
    refine HT.out.mono ?_
    rintro ed w4 ⟨rfl, L4, el4, yo4, hh4, hL4, hg4⟩
    have hp4 := HP3.out.hand hh4 hg4
    have HG4 := hide (HG3.out.trans (hg4.right (P := O)))
    have HF : Hid (Fresh w w4 (fun k => O k ∨ OwP p e m L4 k) (.slice a3 l3 c3) pl) := hide ⟨HO3.out.of_block fun g hg => hg4.mv.block g (HO3.out.lt hg) (fun hx => by
        have h2 := HN3.out g hg
        have h4 := HP2.out.hd.lt _ hx
        omega), fun g hg => by
        have h2 := HN3.out g hg
        have h5 := HG2.out.mv.size
        have h6 := HO3.out.lt hg
        refine ⟨by omega, fun hx => ?_⟩
        rcases hx with hx | hx
        · have := HP2.out.dk.lt g hx; omega
        · rcases hg4.own g hx with hx | hx
          · have := HP2.out.hd.lt g hx; omega
          · omega⟩
    have HP4 := hide hp4
    have HL4 := hide hL4
    clear hh4 hL4 hg4 hp4 c1
    go_wp2
    go_ret3
    refine ⟨fun hh => (by cases hh), fun k' pl' hh => ?_⟩
    cases hh
    have hx := HP4.out
    rw [hbz.out] at hx
    exact ⟨_, _, rfl, HF.out, ⟨_, _, _, _, _, _, hx, HL4.out, fun k => Iff.rfl⟩, HG4.out⟩
end Go.Proofs.Ytkkjppdooaipiaa
/- A pool's Write. -/
namespace Go.Proofs.Ytkkjppdooaipiaa
open Go.RowKit Go.Maps
set_option linter.unusedVariables false
variable {w w' : World} {p d q e m most : Nat} {S S' : DS} {O O' OO : Nat → Prop} {L L' : List Sh} {el yo el' yo' : Nat → Nat} {A : List Pge}

set_option maxHeartbeats 1600000 in
set_option maxRecDepth 1000000 in
theorem write_bad (n k : Nat) (a : Option Addr) (len c : Nat) (w : World) (P : Value) (h : ¬ (1 ≤ k ∧ k ≤ 4 ∧ len ≤ 1008)) :
    Calls Try.prog 12 #[P, .int .u32 (n : Int), .int .u8 (k : Int), .slice a len c] w fun ed w' => ed = .returned (.int .u16 80) ∧ Below w.heap.size w w' := by
  have HS := hide (seal_no k n a len c w h)
  clear h
  go_enter Try.func12, Try.ntmps12
  go_wp2_with fail
  refine HS.out.mono ?_
  rintro ed w1 ⟨rfl, hb1⟩
  have HB1 := hide hb1
  clear hb1
  go_wp2
  go_ret
  exact ⟨rfl, HB1.out⟩
theorem made_shape {v : Value} {zs : List Int} (h : Own w v zs) (h0 : zs.length ≠ 0) : ∃ g cap, v = .slice (some ⟨g, 0, none⟩) zs.length cap ∧ zs.length ≤ cap ∧ cap ≤ 9223372036854775807 ∧ Row w (some ⟨g, 0, none⟩) zs ∧ g < w.heap.size ∧ v.ownBlock = some g := by
  obtain ⟨a, c, hv, hcc, hcm, hna, hrow, hbk⟩ := h.shape
  rcases h.2 with ⟨rfl, h1⟩ | ⟨g, cap, cur, rfl, hb, hh, hle, hm, -⟩
  · exact absurd h1 h0
  · cases hv
    exact ⟨g, c, rfl, hcc, hcm, hrow, h.lt rfl, rfl⟩
set_option maxHeartbeats 1600000 in
set_option maxRecDepth 1000000 in
theorem write_off (n k : Nat) (a : Option Addr) (len c : Nat) (pl : List Int) (hn : n < 4294967296) (h : Pl w p d q S most A OO) (h1 : 1 ≤ k) (h4 : k ≤ 4) (hlen : len ≤ 1008) (hl : pl.length = len) (hna : a = none → len = 0 ∧ c = 0) (hr : Row w a pl) (h8 : Byts pl) (ho : ¬ n < S.ls.length / 8) :
    Calls Try.prog 12 #[.pointer (some ⟨p, 0, none⟩), .int .u32 (n : Int), .int .u8 (k : Int), .slice a len c] w fun ed w' => ed = .returned (.int .u16 2) ∧ Below w.heap.size w w' := by
  obtain ⟨O, e, m, L, el, yo, hp, rfl, h3⟩ := h
  have HS := hide (seal_ok k n a len c pl w h1 h4 hn hl hna hr h8 hlen)
  have HR := hide (fun (W : World) (hW : Below w.heap.size w W) => reaches_no n (hp.below hW) hn ho)
  clear hp h3 hl hna hr h8 ho
  go_enter Try.func12, Try.ntmps12
  go_wp2_with fail
  refine HS.out.mono ?_
  rintro ed w1 ⟨v, rfl, hown, hnew, hb1⟩
  obtain ⟨va, vn, vc, rfl, -⟩ := hown.shape2
  have HB1 := hide hb1
  have HR1 := hide (HR.out w1 hb1)
  clear hown hnew hb1
  go_wp2_with fail
  refine HR1.out.mono ?_
  rintro ed w2 ⟨rfl, hb2⟩
  have HB2 := hide (HB1.out.trans (hb2.mono HB1.out.size))
  clear hb2
  go_wp2
  go_ret
  exact ⟨rfl, HB2.out⟩
set_option maxHeartbeats 3200000 in
set_option maxRecDepth 1000000 in
theorem write_disk (n k : Nat) (a : Option Addr) (len c : Nat) (pl : List Int) (hn : n < 4294967296) (h : Pl w p d q S most A OO) (h1 : 1 ≤ k) (h4 : k ≤ 4) (hlen : len ≤ 1008) (hl : pl.length = len) (hna : a = none → len = 0 ∧ c = 0) (hr : Row w a pl) (h8 : Byts pl) (hap : pl ≠ [] → ∀ ad, a = some ad → ¬ OO ad.block)
    (ho : n < S.ls.length / 8) (hl8 : S.ls.length % 8 = 0) (hf : S.ws.length + 8 ≤ 1000000) (hc : S.n2 + 1 ≤ 1000000) :
    Calls Try.prog 12 #[.pointer (some ⟨p, 0, none⟩), .int .u32 (n : Int), .int .u8 (k : Int), .slice a len c] w fun ed w' => ed = .returned (.int .u16 (S.er S.s2 S.l2 : Int)) ∧ ∃ OO', Pl w' p d q (S.wr n (Pg.pg k n pl) 8) most (if S.er S.s2 S.l2 = 0 then inn most (wo A n) ⟨n, k, pl⟩ else wo A n) OO' ∧ Go1 OO w OO' w' := by
  obtain ⟨O, e, m, L, el, yo, hp, rfl, h3⟩ := h
  have HS := hide (seal_ok k n a len c pl w h1 h4 hn hl hna hr h8 hlen)
  have HR := hide (fun (W : World) (hW : Below w.heap.size w W) => reaches_yes n (hp.below hW) hn ho)
  have HP := hide hp
  have H3 := hide h3
  have HAp := hide hap
  have HRw := hide hr
  have H8 := hide h8
  have HNa := hide hna
  have HLl := hide hl
  have HLg : Hid ((Pg.pg k n pl).length = 1024) := Pg.pg_length k n pl (by rw [hl]; exact hlen)
  have HBg : Hid (Byts (Pg.pg k n pl)) := Pg.pg_b8 k n pl h8
  obtain ⟨zs, HZ⟩ : ∃ zs, Hid (zs = Pg.pg k n pl) := ⟨_, rfl⟩
  rw [← HZ.out] at HS HLg HBg ⊢
  have HW := hide (fun (W : World) (hW : DkAt W d q S O) (g cap : Nat) (ob : ¬ O g) (hrow : Row W (some ⟨g, 0, none⟩) zs) (hbl : g < W.heap.size) (hcc : 1024 ≤ cap) (hcm : cap ≤ 9223372036854775807) => write_any d q O S n g 0 1024 cap zs 8 W hW ob hrow hbl HLg.out HBg.out hcc hcm ho hl8 (.inl ⟨rfl, rfl⟩) hf hc)
  have hr4 := er_le S S.s2 S.l2
  obtain ⟨r, HEr⟩ : ∃ r, Hid (r = S.er S.s2 S.l2) := ⟨_, rfl⟩
  rw [← HEr.out] at HW hr4 ⊢
  clear hp h3 hl hna hr h8 ho hap hl8 hf hc
  obtain ⟨SW, HSW⟩ : ∃ X, Hid (X = S.wr n zs 8) := ⟨_, rfl⟩
  rw [← HSW.out] at HW ⊢
  by_cases hr0 : r = 0
  · rw [if_pos hr0]
    subst hr0
    go_enter Try.func12, Try.ntmps12
    go_wp2_with fail
    refine HS.out.mono ?_
    rintro ed w1 ⟨v, rfl, hown, hnew, hb1⟩
    obtain ⟨g, cap, rfl, hcc, hcm, hrow, hgl, hgb⟩ := made_shape hown (by rw [HLg.out]; omega)
    have HNg : Hid (w.heap.size ≤ g) := hnew g hgb
    rw [HLg.out] at hcc
    have HRow1 := hide hrow
    have HGl := hide hgl
    have HB1 := hide hb1
    have HR1 := hide (HR.out w1 hb1)
    rw [HLg.out]
    clear hown hnew hb1 hrow hgl hgb
    go_wp2_with fail
    refine HR1.out.mono ?_
    rintro ed w2 ⟨rfl, hb2⟩
    have HP2 := hide ((HP.out.below HB1.out).below hb2)
    have HD := hide (drop_any n HP2.out.hd hn)
    have HRow2 := hide (HRow1.out.below hb2)
    have HGl2 : Hid (g < w2.heap.size) := hide (Nat.lt_of_lt_of_le HGl.out hb2.size)
    have HB2 := hide (HB1.out.trans (hb2.mono HB1.out.size))
    have HRa2 := hide (HRw.out.below HB2.out)
    clear hb2
    go_wp2_with fail
    refine HD.out.mono ?_
    rintro ed w3 ⟨rfl, L3, el3, yo3, hh3, hL3, hs3, hm3⟩
    have hg3 : Go1 (OwP p e m L) w2 (OwP p e m L3) w3 := Go1.sub hm3 (owp_sub hs3)
    have hp3 := HP2.out.hand hh3 hg3
    have hng : ¬ OwP p e m L g := fun hx => by have := HP.out.hd.lt g hx; have := HNg.out; omega
    have hno : ¬ O g := fun hx => by have := HP.out.dk.lt g hx; have := HNg.out; omega
    have HRow3 := hide (hm3.row HRow2.out hng)
    have HRa3 := hide (hm3.rowa HRa2.out fun hz ad had hx => HAp.out hz ad had ((H3.out _).2 (.inr hx)))
    have HWr := hide (HW.out w3 hp3.dk g cap hno HRow3.out (Nat.lt_of_lt_of_le HGl2.out hm3.size) hcc hcm)
    have HP3 := hide hp3
    have HG3 := hide ((Go1.of_below HB2.out).trans (Pl.gone H3.out (hg3.right (P := O))))
    have HL3 := hide hL3
    have c0 := hp3.hd.c0
    have HS3 := hide hs3
    clear hh3 hL3 hs3 hm3 hg3 hp3 hng hno
    go_wp2_with fail
    refine HWr.out.mono ?_
    rintro ed w4 ⟨rfl, O4, hd4, hg4⟩
    have hp4 := HP3.out.disk hd4 hg4
    have HG4 := hide (HG3.out.trans (hg4.left (P := OwP p e m L3)))
    have HRa4 := hide (hg4.mv.rowa HRa3.out fun hz ad had hx => HAp.out hz ad had ((H3.out _).2 (.inl hx)))
    have hnot : n ∉ L3.map Sh.n := fun hx => by
      have e1 : L3.map Sh.n = (L3.map Sh.pg).map Pge.n := by rw [List.map_map]; rfl
      rw [e1, HL3.out] at hx
      obtain ⟨y, hy, e2⟩ := List.mem_map.1 hx
      have := (List.mem_filter.1 hy).2
      simp [e2] at this
    have HT := hide (take_any n k a len c pl hp4.hd hn (by omega) hnot HLl.out HNa.out HRa4.out H8.out hlen fun hz ad had hx => HAp.out hz ad had ((H3.out _).2 (.inr (owp_sub HS3.out _ hx))))
    have HP4 := hide hp4
    clear hd4 hg4 hp4 hnot c0
    go_wp2_with fail
    refine HT.out.mono ?_
    rintro ed w5 ⟨rfl, L5, el5, yo5, hh5, hL5, hg5⟩
    have HP5 := hide (HP4.out.hand hh5 hg5)
    have HG5 := hide (HG4.out.trans (hg5.right (P := O4)))
    have HL5 := hide hL5
    clear hh5 hL5 hg5
    go_wp2
    go_ret
    exact ⟨rfl, _, ⟨_, _, _, _, _, _, HP5.out, by rw [HL5.out, HL3.out], fun k => Iff.rfl⟩, HG5.out⟩
  · rw [if_neg hr0]
    have e1 : ¬ (r : Int) = 0 := by omega
    have e2 : ((r : Int) == 0) = false := by simpa using e1
    have e3 : r ≤ 6 := by omega
    go_enter Try.func12, Try.ntmps12
    go_wp2_with fail
    refine HS.out.mono ?_
    rintro ed w1 ⟨v, rfl, hown, hnew, hb1⟩
    obtain ⟨g, cap, rfl, hcc, hcm, hrow, hgl, hgb⟩ := made_shape hown (by rw [HLg.out]; omega)
    have HNg : Hid (w.heap.size ≤ g) := hnew g hgb
    rw [HLg.out] at hcc
    have HRow1 := hide hrow
    have HGl := hide hgl
    have HB1 := hide hb1
    have HR1 := hide (HR.out w1 hb1)
    rw [HLg.out]
    clear hown hnew hb1 hrow hgl hgb
    go_wp2_with fail
    refine HR1.out.mono ?_
    rintro ed w2 ⟨rfl, hb2⟩
    have HP2 := hide ((HP.out.below HB1.out).below hb2)
    have HD := hide (drop_any n HP2.out.hd hn)
    have HRow2 := hide (HRow1.out.below hb2)
    have HGl2 : Hid (g < w2.heap.size) := hide (Nat.lt_of_lt_of_le HGl.out hb2.size)
    have HB2 := hide (HB1.out.trans (hb2.mono HB1.out.size))
    clear hb2
    go_wp2_with fail
    refine HD.out.mono ?_
    rintro ed w3 ⟨rfl, L3, el3, yo3, hh3, hL3, hs3, hm3⟩
    have hg3 : Go1 (OwP p e m L) w2 (OwP p e m L3) w3 := Go1.sub hm3 (owp_sub hs3)
    have hp3 := HP2.out.hand hh3 hg3
    have hng : ¬ OwP p e m L g := fun hx => by have := HP.out.hd.lt g hx; have := HNg.out; omega
    have hno : ¬ O g := fun hx => by have := HP.out.dk.lt g hx; have := HNg.out; omega
    have HRow3 := hide (hm3.row HRow2.out hng)
    have HWr := hide (HW.out w3 hp3.dk g cap hno HRow3.out (Nat.lt_of_lt_of_le HGl2.out hm3.size) hcc hcm)
    have HP3 := hide hp3
    have HG3 := hide ((Go1.of_below HB2.out).trans (Pl.gone H3.out (hg3.right (P := O))))
    have HL3 := hide hL3
    have c0 := hp3.hd.c0
    clear hh3 hL3 hs3 hm3 hg3 hp3 hng hno
    go_wp2_with fail
    refine HWr.out.mono ?_
    rintro ed w4 ⟨rfl, O4, hd4, hg4⟩
    have HP4 := hide (HP3.out.disk hd4 hg4)
    have HG4 := hide (HG3.out.trans (hg4.left (P := OwP p e m L3)))
    clear hd4 hg4 c0
    go_wp2
    go_ret
    exact ⟨rfl, _, ⟨_, _, _, _, _, _, HP4.out, HL3.out, fun k => Iff.rfl⟩, HG4.out⟩
end Go.Proofs.Ytkkjppdooaipiaa
