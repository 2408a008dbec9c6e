/- A pool's Read of a page that is not at hand. -/
import Derived.Test.YtlmofgfkclfgeaaGreatPI
import Derived.Test.YtlmofgfkclfgeaaGreatRows
import Derived.WalkKit
import Derived.ProofKit
import Derived.OpenShut
import Derived.ShutString
import Derived.ChangeOld
import Derived.Below
namespace Go.Proofs.YtlmofgfkclfgeaaGreat
open Go.RowKit Go.Maps
set_option linter.unusedVariables false
variable {w w' : World} {p d q e m most : Nat} {S S' : DS} {O O' OO : Nat → Prop} {L L' : List Sh} {el yo el' yo' : Nat → Nat} {A : List Pge}

theorem er_le (S : DS) (s : Bool) (l : Int) : S.er s l = 0 ∨ S.er s l = 4 ∨ S.er s l = 6 := by
  unfold DS.er
  split
  · simp
  · split
    · simp
    · split <;> simp
set_option maxHeartbeats 1600000 in
set_option maxRecDepth 1000000 in
theorem read_io (n : Nat) (hn : n < 4294967296) (h : Pl w p d q S most A OO) (hr : n < S.ls.length / 8) (hx : n ∉ A.map Pge.n) (hc : S.n1 + 1 ≤ 1000000) (he : S.er S.s1 S.l1 ≠ 0) :
    Calls Tryz.prog 66 #[.pointer (some ⟨p, 0, none⟩), .int .u32 (n : Int)] w fun ed w' => ∃ OO', ed = .returned (.tuple #[.int .u8 0, .slice none 0 0, .int .u16 (S.er S.s1 S.l1 : Int)]) ∧ Pl w' p d q (S.be S.op1) most A OO' ∧ Go1 OO w OO' w' := by
  obtain ⟨O, e, m, L, el, yo, h1, rfl, h3⟩ := h
  have em : (L.map Sh.pg).map Pge.n = L.map Sh.n := by rw [List.map_map]; rfl
  rw [em] at hx
  have HR := hide (reaches_yes n h1 hn hr)
  have HP := hide h1
  have H3 := hide h3
  have HRd := hide (fun (W : World) (hW : Below w.heap.size w W) => read_any d q O S n W ((h1.below hW).dk) hr hc)
  have hr4 := er_le S S.s1 S.l1
  obtain ⟨r, HEr⟩ : ∃ r, Hid (r = S.er S.s1 S.l1) := ⟨_, rfl⟩
  rw [← HEr.out] at HRd hr4 he ⊢
  have e1 : ¬ (r : Int) = 0 := by omega
  have e2 : ((r : Int) == 0) = false := by simpa using e1
  have e3 : r ≤ 6 := by omega
  have HNo := hide hx
  clear h1 h3 hr em hx hr4
  go_enter Tryz.func66, Tryz.ntmps66
  go_wp2_with fail
  refine HR.out.mono ?_
  rintro ed w1 ⟨rfl, hb1⟩
  have h1 := HP.out.below hb1
  have c0 := h1.hd.c0
  have c2 := h1.hd.c2
  have hlk := h1.hd.map.not HNo.out hn
  have HD := hide (HRd.out w1 hb1)
  have HP1 := hide h1
  have HB1 := hide hb1
  clear h1 hb1
  go_wp2_with fail
  refine HD.out.mono ?_
  rintro ed w2 ⟨v, rfl, hrd, hd2, hg2⟩
  obtain rfl := hrd.2 he
  have HP2 := hide (HP1.out.disk hd2 hg2)
  have HG2 := hide ((Go1.of_below HB1.out).trans (Pl.gone H3.out (hg2.left (P := OwP p e m L))))
  clear hrd hd2 hg2 hlk c0 c2
  go_wp2
  go_ret3
  exact ⟨_, rfl, ⟨_, _, _, _, _, _, HP2.out, rfl, fun k => Iff.rfl⟩, HG2.out⟩
set_option maxHeartbeats 3200000 in
set_option maxRecDepth 1000000 in
theorem read_disk (n : Nat) (hn : n < 4294967296) (h : Pl w p d q S most A OO) (hr : n < S.ls.length / 8) (hx : n ∉ A.map Pge.n) (hc : S.n1 + 1 ≤ 1000000) (he : S.er S.s1 S.l1 = 0) :
    Calls Tryz.prog 66 #[.pointer (some ⟨p, 0, none⟩), .int .u32 (n : Int)] w fun ed w' =>
      (Pg.opn n (rd S (8 * n) 8) = none → ∃ OO', ed = .returned (.tuple #[.int .u8 0, .slice none 0 0, .int .u16 100]) ∧ Pl w' p d q S.op1 most A OO' ∧ Go1 OO w OO' w') ∧
      (∀ k pl, Pg.opn n (rd S (8 * n) 8) = some (k, pl) → ∃ v OO', ed = .returned (.tuple #[.int .u8 (k : Int), v, .int .u16 0]) ∧ Fresh w w' OO' v pl ∧ Pl w' p d q S.op1 most (inn most A ⟨n, k, pl⟩) OO' ∧ Go1 OO w OO' w') := by
  obtain ⟨O, e, m, L, el, yo, h1, rfl, h3⟩ := h
  have em : (L.map Sh.pg).map Pge.n = L.map Sh.n := by rw [List.map_map]; rfl
  rw [em] at hx
  have hgd := h1.good
  have hls : 8 * n + 8 ≤ S.ls.length := by omega
  have HLen : Hid ((rd S (8 * n) 8).length = 1024) := rd_len hgd (8 * n) 8 hls
  have HBy : Hid (Byts (rd S (8 * n) 8)) := rd_byts hgd (8 * n) 8 hls
  have HR := hide (reaches_yes n h1 hn hr)
  have HP := hide h1
  have H3 := hide h3
  have HRd := hide (fun (W : World) (hW : Below w.heap.size w W) => read_any d q O S n W ((h1.below hW).dk) hr hc)
  obtain ⟨r, HEr⟩ : ∃ r, Hid (r = S.er S.s1 S.l1) := ⟨_, rfl⟩
  have hbz : Hid (S.be S.op1 = S.op1) := be_zero he
  rw [← HEr.out] at HRd he
  have e1 : (r : Int) = 0 := by omega
  have HNo := hide hx
  clear h1 h3 hr em hx hgd hls
  obtain ⟨zs, HZ⟩ : ∃ zs, Hid (zs = rd S (8 * n) 8) := ⟨_, rfl⟩
  rw [← HZ.out] at HLen HBy HRd ⊢
  obtain ⟨R, HRR⟩ : ∃ R, Hid (R = Pg.opn n zs) := ⟨_, rfl⟩
  rw [← HRR.out]
  have HSome : Hid (∀ k pl, R = some (k, pl) → k < 256 ∧ pl.length ≤ 1008 ∧ Byts pl) := hide fun k pl hh => by
    rw [HRR.out] at hh
    obtain ⟨q1, q2, q3, q4⟩ := Pg.opn_some hh
    refine ⟨by omega, q3, ?_⟩
    have h2 := Pg.pg_payload k n pl
    rw [← q4] at h2
    rw [← h2]
    exact (HBy.out.drop _).take _
  cases R with
  | none =>
    go_enter Tryz.func66, Tryz.ntmps66
    go_wp2_with fail
    refine HR.out.mono ?_
    rintro ed w1 ⟨rfl, hb1⟩
    have h1 := HP.out.below hb1
    have c0 := h1.hd.c0
    have c2 := h1.hd.c2
    have hlk := h1.hd.map.not HNo.out hn
    have HD := hide (HRd.out w1 hb1)
    have HP1 := hide h1
    have HB1 := hide hb1
    clear h1 hb1
    go_wp2_with fail
    refine HD.out.mono ?_
    rintro ed w2 ⟨v, rfl, hrd, hd2, hg2⟩
    obtain ⟨hown, hnew⟩ := hrd.1 he
    obtain ⟨a, c, rfl, hcc, hcm, hna, hrow, -⟩ := hown.shape
    have HP2 := hide (HP1.out.disk hd2 hg2)
    have HG2 := hide ((Go1.of_below HB1.out).trans (Pl.gone H3.out (hg2.left (P := OwP p e m L))))
    have HO := hide (open_any n a zs.length c zs w2 hn rfl hcc hcm hna hrow HBy.out)
    rw [← HRR.out] at HO
    obtain ⟨ln, HLn⟩ : ∃ ln, Hid (ln = zs.length) := ⟨_, rfl⟩
    rw [← HLn.out] at HO ⊢
    clear hrd hd2 hg2 hlk c0 c2 hown hnew hcc hcm hna hrow
    go_wp2_with fail
    refine HO.out.mono ?_
    rintro ed w3 ⟨-, hno⟩
    obtain ⟨rfl, hb3⟩ := hno rfl
    have HB3 := hide hb3
    clear hno hb3
    go_wp2
    go_ret3
    have hx := HP2.out.below HB3.out
    rw [hbz.out] at hx
    exact ⟨fun _ => ⟨_, rfl, ⟨_, _, _, _, _, _, hx, rfl, fun k => Iff.rfl⟩, HG2.out.trans (Go1.of_below HB3.out)⟩, fun k pl hh => by cases hh⟩
  | some x =>
    obtain ⟨k, pl⟩ := x
    obtain ⟨hk, hpl, h8⟩ := HSome.out k pl rfl
    have H8 := hide h8
    clear h8
    go_enter Tryz.func66, Tryz.ntmps66
    go_wp2_with fail
    refine HR.out.mono ?_
    rintro ed w1 ⟨rfl, hb1⟩
    have h1 := HP.out.below hb1
    have c0 := h1.hd.c0
    have c2 := h1.hd.c2
    have hlk := h1.hd.map.not HNo.out hn
    have HD := hide (HRd.out w1 hb1)
    have HP1 := hide h1
    have HB1 := hide hb1
    clear h1 hb1
    go_wp2_with fail
    refine HD.out.mono ?_
    rintro ed w2 ⟨v, rfl, hrd, hd2, hg2⟩
    obtain ⟨hown, hnew⟩ := hrd.1 he
    obtain ⟨a, c, rfl, hcc, hcm, hna, hrow, -⟩ := hown.shape
    have HP2 := hide (HP1.out.disk hd2 hg2)
    have HG2 := hide ((Go1.of_below HB1.out).trans (Pl.gone H3.out (hg2.left (P := OwP p e m L))))
    have HO := hide (open_any n a zs.length c zs w2 hn rfl hcc hcm hna hrow HBy.out)
    rw [← HRR.out] at HO
    obtain ⟨ln, HLn⟩ : ∃ ln, Hid (ln = zs.length) := ⟨_, rfl⟩
    rw [← HLn.out] at HO ⊢
    clear hrd hd2 hg2 hlk c0 c2 hown hnew hcc hcm hna hrow
    go_wp2_with fail
    refine HO.out.mono ?_
    rintro ed w3 ⟨hy, -⟩
    obtain ⟨v3, rfl, hown3, hnew3, hb3⟩ := hy k pl rfl
    obtain ⟨a3, c3, rfl, hcc3, hcm3, hna3, hrow3, hbk3⟩ := hown3.shape
    have hp3 := HP2.out.below hb3
    have hap3 : ∀ ad, a3 = some ad → ¬ OwP p e m L ad.block := fun ad had hx => by
      have h2 := hnew3 ad.block ((hbk3 ad.block).1 ⟨ad, had, rfl⟩)
      have h4 := HP2.out.hd.lt _ hx
      omega
    have HT := hide (take_any n k a3 pl.length c3 pl hp3.hd hn hk HNo.out rfl hna3 hrow3 H8.out hpl (fun _ => hap3))
    have HP3 := hide hp3
    have HG3 := hide (HG2.out.trans (Go1.of_below hb3))
    have HO3 := hide hown3
    have HN3 := hide hnew3
    obtain ⟨l3, HL3⟩ : ∃ ln, Hid (ln = pl.length) := ⟨_, rfl⟩
    rw [← HL3.out] at HT HO3 HN3 ⊢
    have c1 := hp3.hd.c1
    have HS3 := hide hb3.size
    clear hp3 hap3 hb3 hown3 hnew3 hcc3 hcm3 hna3 hrow3 hbk3 hy
    go_wp2_with fail
    refine HT.out.mono ?_
    rintro ed w4 ⟨rfl, L4, el4, yo4, hh4, hL4, hg4⟩
    have hp4 := HP3.out.hand hh4 hg4
    have HG4 := hide (HG3.out.trans (hg4.right (P := O)))
    have HF : Hid (Fresh w w4 (fun k => O k ∨ OwP p e m L4 k) (.slice a3 l3 c3) pl) := hide ⟨HO3.out.of_block fun g hg => hg4.mv.block g (HO3.out.lt hg) (fun hx => by
        have h2 := HN3.out g hg
        have h4 := HP2.out.hd.lt _ hx
        omega), fun g hg => by
        have h2 := HN3.out g hg
        have h5 := HG2.out.mv.size
        have h6 := HO3.out.lt hg
        refine ⟨by omega, fun hx => ?_⟩
        rcases hx with hx | hx
        · have := HP2.out.dk.lt g hx; omega
        · rcases hg4.own g hx with hx | hx
          · have := HP2.out.hd.lt g hx; omega
          · omega⟩
    have HP4 := hide hp4
    have HL4 := hide hL4
    clear hh4 hL4 hg4 hp4 c1
    go_wp2
    go_ret3
    refine ⟨fun hh => (by cases hh), fun k' pl' hh => ?_⟩
    cases hh
    have hx := HP4.out
    rw [hbz.out] at hx
    exact ⟨_, _, rfl, HF.out, ⟨_, _, _, _, _, _, hx, HL4.out, fun k => Iff.rfl⟩, HG4.out⟩
end Go.Proofs.YtlmofgfkclfgeaaGreat
/- A pool's Write. -/
namespace Go.Proofs.YtlmofgfkclfgeaaGreat
open Go.RowKit Go.Maps
set_option linter.unusedVariables false
variable {w w' : World} {p d q e m most : Nat} {S S' : DS} {O O' OO : Nat → Prop} {L L' : List Sh} {el yo el' yo' : Nat → Nat} {A : List Pge}

theorem made_shape {v : Value} {zs : List Int} (h : Own w v zs) (h0 : zs.length ≠ 0) : ∃ g cap, v = .slice (some ⟨g, 0, none⟩) zs.length cap ∧ zs.length ≤ cap ∧ cap ≤ 9223372036854775807 ∧ Row w (some ⟨g, 0, none⟩) zs ∧ g < w.heap.size ∧ v.ownBlock = some g := by
  obtain ⟨a, c, hv, hcc, hcm, hna, hrow, hbk⟩ := h.shape
  rcases h.2 with ⟨rfl, h1⟩ | ⟨g, cap, cur, rfl, hb, hh, hle, hm, -⟩
  · exact absurd h1 h0
  · cases hv
    exact ⟨g, c, rfl, hcc, hcm, hrow, h.lt rfl, rfl⟩
end Go.Proofs.YtlmofgfkclfgeaaGreat
/- A pool over a disk on which nothing fails. -/
namespace Go.Proofs.YtlmofgfkclfgeaaGreat
open Go.RowKit Go.Maps
set_option linter.unusedVariables false
variable {w w' : World} {p d q e m most : Nat} {S S' : DS} {O O' OO : Nat → Prop} {L L' : List Sh} {el yo el' yo' : Nat → Nat} {A : List Pge}

/-- a disk on which nothing fails, of so many pages, behind at most c operations. -/
structure Calm (S : DS) (pages c : Nat) : Prop where
  dk : S.dk = false
  ts : S.ts = false
  s1 : S.s1 = false
  s2 : S.s2 = false
  s3 : S.s3 = false
  len : S.ls.length = 8 * pages
  ws : S.ws.length ≤ 8 * c
  n1 : S.n1 ≤ c
  n2 : S.n2 ≤ c
  n3 : S.n3 ≤ c
variable {pages c : Nat}
theorem Calm.er (h : Calm S pages c) {s : Bool} {l : Int} (hs : s = false) : S.er s l = 0 := by
  unfold DS.er tick
  simp [h.dk, h.ts, hs]
theorem Calm.op1 (h : Calm S pages c) : Calm S.op1 pages (c + 1) := by
  refine ⟨h.dk, ?_, ?_, h.s2, h.s3, h.len, ?_, ?_, ?_, ?_⟩
  · show (tick S.ts S.tl).2.1 = false; simp [tick, h.ts]
  · show (tick S.s1 S.l1).2.1 = false; simp [tick, h.s1]
  · have := h.ws; show S.ws.length ≤ _; omega
  · have := h.n1; show S.n1 + 1 ≤ _; omega
  · have := h.n2; show S.n2 ≤ _; omega
  · have := h.n3; show S.n3 ≤ _; omega
theorem Calm.wr (h : Calm S pages c) (b : Nat) (zs : List Int) : Calm (S.op2.adds b zs 8) pages (c + 1) := by
  refine ⟨h.dk, ?_, h.s1, ?_, h.s3, h.len, ?_, ?_, ?_, ?_⟩
  · show (tick S.ts S.tl).2.1 = false; simp [tick, h.ts]
  · show (tick S.s2 S.l2).2.1 = false; simp [tick, h.s2]
  · have := h.ws; rw [DS.adds_len]; show S.ws.length + 8 ≤ _; omega
  · have := h.n1; show S.n1 ≤ _; omega
  · have := h.n2; show S.n2 + 1 ≤ _; omega
  · have := h.n3; show S.n3 ≤ _; omega
theorem Calm.sy (h : Calm S pages c) : Calm (S.op3.set yes) pages (c + 1) := by
  refine ⟨h.dk, ?_, h.s1, h.s2, ?_, ?_, ?_, ?_, ?_, ?_⟩
  · show (tick S.ts S.tl).2.1 = false; simp [tick, h.ts]
  · show (tick S.s3 S.l3).2.1 = false; simp [tick, h.s3]
  · show (settled _ _ _ _).length = _; rw [settled_len]; exact h.len
  · show 0 ≤ _; omega
  · have := h.n1; show S.n1 ≤ _; omega
  · have := h.n2; show S.n2 ≤ _; omega
  · have := h.n3; show S.n3 + 1 ≤ _; omega
theorem Calm.mono (h : Calm S pages c) {c' : Nat} (hc : c ≤ c') : Calm S pages c' := ⟨h.dk, h.ts, h.s1, h.s2, h.s3, h.len, by have := h.ws; omega, by have := h.n1; omega, by have := h.n2; omega, by have := h.n3; omega⟩
theorem Calm.new (pages : Nat) : Calm (DS.new (8 * pages)) pages 0 := ⟨rfl, rfl, rfl, rfl, rfl, by simp [DS.new], by simp [DS.new], by simp [DS.new], by simp [DS.new], by simp [DS.new]⟩
theorem rd_op1 (S : DS) (b k : Nat) : rd S.op1 b k = rd S b k := rd_same rfl rfl b k
theorem rd_wr_same (S : DS) (n : Nat) (zs : List Int) (h : zs.length = 1024) : rd (S.op2.adds (8 * n) zs 8) (8 * n) 8 = zs := rd_adds_same _ _ _ h
theorem rd_wr_other (S : DS) {n n' : Nat} (zs : List Int) (h : n ≠ n') : rd (S.op2.adds (8 * n) zs 8) (8 * n') 8 = rd S (8 * n') 8 := (rd_adds_other _ _ _ _ h).trans (rd_same rfl rfl _ _)

theorem cread_hand (n : Nat) (NI : Int) (hNI : NI = (n : Int)) (x : Pge) (hx : x ∈ A) (hxn : x.n = n) (h : Pl w p d q S most A OO) (hcm : Calm S pages c) (hn : n < pages) :
    Calls Tryz.prog 66 #[.pointer (some ⟨p, 0, none⟩), .int .u32 NI] w fun ed w' => ∃ v OO', ed = .returned (.tuple #[.int .u8 (x.k : Int), v, .int .u16 0]) ∧ Fresh w w' OO' v x.pl ∧ Pl w' p d q S most (wo A n ++ [x]) OO' ∧ Go1 OO w OO' w' := by
  subst hNI hxn
  exact read_hand x (h.mo.2.2.2.2 x hx).1 h (by rw [hcm.len]; omega) hx
theorem cread_disk (n k : Nat) (NI : Int) (hNI : NI = (n : Int)) (pl : List Int) (hx : n ∉ A.map Pge.n) (h : Pl w p d q S most A OO) (hcm : Calm S pages c) (hc : c ≤ 10000) (hpg : pages ≤ 10000) (hn : n < pages) (ho : Pg.opn n (rd S (8 * n) 8) = some (k, pl)) :
    Calls Tryz.prog 66 #[.pointer (some ⟨p, 0, none⟩), .int .u32 NI] w fun ed w' => ∃ v OO', ed = .returned (.tuple #[.int .u8 (k : Int), v, .int .u16 0]) ∧ Fresh w w' OO' v pl ∧ Pl w' p d q S.op1 most (inn most A ⟨n, k, pl⟩) OO' ∧ Go1 OO w OO' w' := by
  subst hNI
  have hn1 := hcm.n1
  refine (read_disk n (by omega) h (by rw [hcm.len]; omega) hx (by omega) (hcm.er hcm.s1)).mono ?_
  rintro ed w' ⟨-, hy⟩
  exact hy k pl ho
theorem cread_form (n : Nat) (NI : Int) (hNI : NI = (n : Int)) (hx : n ∉ A.map Pge.n) (h : Pl w p d q S most A OO) (hcm : Calm S pages c) (hc : c ≤ 10000) (hpg : pages ≤ 10000) (hn : n < pages) (ho : Pg.opn n (rd S (8 * n) 8) = none) :
    Calls Tryz.prog 66 #[.pointer (some ⟨p, 0, none⟩), .int .u32 NI] w fun ed w' => ∃ OO', ed = .returned (.tuple #[.int .u8 0, .slice none 0 0, .int .u16 100]) ∧ Pl w' p d q S.op1 most A OO' ∧ Go1 OO w OO' w' := by
  subst hNI
  have hn1 := hcm.n1
  refine (read_disk n (by omega) h (by rw [hcm.len]; omega) hx (by omega) (hcm.er hcm.s1)).mono ?_
  rintro ed w' ⟨hno, -⟩
  exact hno ho
theorem pcounts (h : Pl w p d q S most A OO) : Calls Tryz.prog 15 #[.pointer (some ⟨d, 0, none⟩)] w fun ed w' => ed = .returned (.agg #[.int .i64 S.n1, .int .i64 S.n2, .int .i64 S.n3]) ∧ Below w.heap.size w w' := by
  obtain ⟨O, e, m, L, el, yo, h1, -, -⟩ := h
  exact counts_any d q O S w h1.dk
/-- what a call made, and stays. -/
theorem Fresh.go {w1 w2 : World} {P P' : Nat → Prop} {v : Value} {zs : List Int} (h : Fresh w w1 P v zs) (hg : Go1 P w1 P' w2) : Fresh w w2 P' v zs :=
  ⟨h.1.of_block fun k hk => hg.mv.block k (h.1.lt hk) (h.2 k hk).2, fun g hv => ⟨(h.2 g hv).1, fun hx => (hg.own g hx).elim (h.2 g hv).2 (fun hl => by have := h.1.lt hv; omega)⟩⟩
theorem Fresh.on {w1 w2 : World} {P : Nat → Prop} {v : Value} {zs : List Int} (h : Fresh w w1 P v zs) (hb : Below w1.heap.size w1 w2) : Fresh w w2 P v zs := h.go (Go1.of_below hb)
theorem text_own {v : Value} {zs : List Int} (a : Option Addr) (n cap : Nat) (hv : v = .slice a n cap) (h : Own w v zs) (h8 : Byts zs) : (convert 22 9 (.slice a n cap)).run Tryz.prog w = .ok (.string (bk zs)) w := by
  subst hv
  obtain ⟨a', c', e, h1, h2, h3, h4, _⟩ := h.shape
  cases e
  exact run_text w a zs.length cap zs rfl h3 h4 h8
end Go.Proofs.YtlmofgfkclfgeaaGreat
/- The chapter's example comes out as it has it. -/
namespace Go.Proofs.YtlmofgfkclfgeaaGreat
open Go.RowKit Go.Maps
set_option linter.unusedVariables false

/-- bytes that were laid down as a constant, in a block of their own. -/
theorem row_const {w : World} (x : Int) (f : Nat × Nat) : Row (w.alloc (.cells #[.int .u8 x] 5 f)) (some ⟨w.heap.size, 0, none⟩) [x] := row_new w [x] _ f rfl
theorem new_not {w : World} {p d q most : Nat} {S : DS} {A : List Pge} {OO : Nat → Prop} {g : Nat} (h : Pl w p d q S most A OO) (hg : w.heap.size ≤ g) : ∀ ad, some (⟨g, 0, none⟩ : Addr) = some ad → ¬ OO ad.block := fun ad had hx => by
  cases had
  have := h.lt _ hx
  simp only at this
  omega
theorem b1 (x : Int) (h : 0 ≤ x ∧ x ≤ 255) : Byts [x] := fun c hc => by simp at hc; rw [hc]; exact h
theorem fieldC (a b c : Int) (W : World) : (Instr.field 74 (.agg #[.int .i64 a, .int .i64 b, .int .i64 c]) 0).run Tryz.prog W = .ok (.int .i64 a) W := by kernel_rfl
def k1 : DS := (DS.new (8 * 9)).op2.adds (8 * 2) (Pg.pg 1 2 [97]) 8
def k2 : DS := k1.op2.adds (8 * 3) (Pg.pg 1 3 [98]) 8
def k3 : DS := k2.op2.adds (8 * 4) (Pg.pg 1 4 [99]) 8
theorem k1c : Calm k1 9 1 := (Calm.new 9).wr _ _
theorem k2c : Calm k2 9 2 := k1c.wr _ _
theorem k3c : Calm k3 9 3 := k2c.wr _ _
theorem k3r : Pg.opn 3 (rd k3 (8 * 3) 8) = some (1, [98]) := by
  rw [k3, rd_wr_other _ _ (by omega), k2, rd_wr_same _ _ _ (Pg.pg_length 1 3 [98] (by simp))]
  exact Pg.opn_pg 1 3 [98] (by omega) (by omega) (by simp)
end Go.Proofs.YtlmofgfkclfgeaaGreat
/- What the proofs have in common: what a slice of bytes that came in is known to be. -/
namespace Go.Proofs.YtlmofgfkclfgeaaGreat
open Go.ChangeShapes Go.WideShapes Go.ChangeAt Go.RowKit
set_option linter.unusedVariables false

theorem own : ownKnob Tryz.prog.godebug = none := by kernel_rfl
theorem laidOut : laidOutB Tryz.prog = true := by kernel_rfl
/-- bytes that came in. -/
structure Inn (w : World) (a : Option Addr) (n c : Nat) (zs : List Int) : Prop where
  len : zs.length = n
  cap : n ≤ c
  max : c ≤ 9223372036854775807
  bare : a = none → n = 0 ∧ c = 0
  row : Row w a zs
  byts : Byts zs
theorem Inn.below {w w' : World} {a : Option Addr} {n c : Nat} {zs : List Int} (h : Inn w a n c zs) (hb : Below w.heap.size w w') : Inn w' a n c zs := ⟨h.len, h.cap, h.max, h.bare, h.row.below hb, h.byts⟩
/-- what a walk is told of a slice of integers that came in. -/
def IsRow (k : IntKind) (w : World) (a : Option Addr) (len cap : Nat) (zs : List Int) : Prop :=
  (a = none ∧ len = 0 ∧ cap = 0 ∧ zs = []) ∨
  ∃ x, a = some x ∧ len ≤ cap ∧ cap ≤ maxLen ∧ zs.length = cap ∧ (∀ i, i < zs.length → w.cell? (x.add i) = some (.int k (zs.getD i 0))) ∧ ∀ n ∈ zs, (Lit.int k n).wf = true
theorem isrow_inn {w : World} {a : Option Addr} {len cap : Nat} {zs : List Int} (h : IsRow .u8 w a len cap zs) : Inn w a len cap (zs.take len) := by
  rcases h with ⟨rfl, rfl, rfl, rfl⟩ | ⟨x, rfl, hl, hm, hz, hcell, hwz⟩
  · exact ⟨rfl, Nat.le_refl _, by omega, fun _ => ⟨rfl, rfl⟩, .inl rfl, (by intro c hc; simp at hc)⟩
  · have hlen : (zs.take len).length = len := by simp; omega
    refine ⟨hlen, hl, by unfold maxLen at hm; omega, by (intro h; cases h), ?_, ?_⟩
    · by_cases h0 : len = 0
      · subst h0; exact .inl rfl
      · obtain ⟨b, off, spot⟩ := x
        have hc := hcell 0 (by omega)
        have hspot : spot = none := by simpa [Addr.add] using World.cell?_spot hc
        subst hspot
        refine .inr ⟨b, off, rfl, ?_, fun i hi => ?_⟩
        · have := World.block_lt_of_cell? w _ hc
          rw [Addr.add_lit] at this
          exact this
        · rw [hlen] at hi
          have := hcell i (by omega)
          rw [Addr.add_lit] at this
          rw [this]; simp [hi]
    · intro c hc
      exact bounds_u8 (hwz c (List.mem_of_mem_take hc))
end Go.Proofs.YtlmofgfkclfgeaaGreat
