/- A pool's Write. -/
import Derived.Test.YtobokocpapfjbaaGreatPJ
namespace Go.Proofs.YtobokocpapfjbaaGreat
open Go.RowKit Go.Maps
set_option linter.unusedVariables false
variable {w w' : World} {p d q e m most : Nat} {S S' : DS} {O O' OO : Nat → Prop} {L L' : List Sh} {el yo el' yo' : Nat → Nat} {A : List Pge}

set_option maxHeartbeats 1600000 in
set_option maxRecDepth 1000000 in
theorem write_bad (n k : Nat) (a : Option Addr) (len c : Nat) (w : World) (P : Value) (h : ¬ (1 ≤ k ∧ k ≤ 4 ∧ len ≤ 1008)) :
    Calls Tryz.prog 17 #[P, .int .u32 (n : Int), .int .u8 (k : Int), .slice a len c] w fun ed w' => ed = .returned (.int .u16 80) ∧ Below w.heap.size w w' := by
  have HS := hide (seal_no k n a len c w h)
  clear h
  go_enter Tryz.func17, Tryz.ntmps17
  go_wp2_with fail
  refine HS.out.mono ?_
  rintro ed w1 ⟨rfl, hb1⟩
  have HB1 := hide hb1
  clear hb1
  go_wp2
  go_ret
  exact ⟨rfl, HB1.out⟩
theorem made_shape {v : Value} {zs : List Int} (h : Own w v zs) (h0 : zs.length ≠ 0) : ∃ g cap, v = .slice (some ⟨g, 0, none⟩) zs.length cap ∧ zs.length ≤ cap ∧ cap ≤ 9223372036854775807 ∧ Row w (some ⟨g, 0, none⟩) zs ∧ g < w.heap.size ∧ v.ownBlock = some g := by
  obtain ⟨a, c, hv, hcc, hcm, hna, hrow, hbk⟩ := h.shape
  rcases h.2 with ⟨rfl, h1⟩ | ⟨g, cap, cur, rfl, hb, hh, hle, hm, -⟩
  · exact absurd h1 h0
  · cases hv
    exact ⟨g, c, rfl, hcc, hcm, hrow, h.lt rfl, rfl⟩
set_option maxHeartbeats 1600000 in
set_option maxRecDepth 1000000 in
theorem write_off (n k : Nat) (a : Option Addr) (len c : Nat) (pl : List Int) (hn : n < 4294967296) (h : Pl w p d q S most A OO) (h1 : 1 ≤ k) (h4 : k ≤ 4) (hlen : len ≤ 1008) (hl : pl.length = len) (hna : a = none → len = 0 ∧ c = 0) (hr : Row w a pl) (h8 : Byts pl) (ho : ¬ n < S.ls.length / 8) :
    Calls Tryz.prog 17 #[.pointer (some ⟨p, 0, none⟩), .int .u32 (n : Int), .int .u8 (k : Int), .slice a len c] w fun ed w' => ed = .returned (.int .u16 2) ∧ Below w.heap.size w w' := by
  obtain ⟨O, e, m, L, el, yo, hp, rfl, h3⟩ := h
  have HS := hide (seal_ok k n a len c pl w h1 h4 hn hl hna hr h8 hlen)
  have HR := hide (fun (W : World) (hW : Below w.heap.size w W) => reaches_no n (hp.below hW) hn ho)
  clear hp h3 hl hna hr h8 ho
  go_enter Tryz.func17, Tryz.ntmps17
  go_wp2_with fail
  refine HS.out.mono ?_
  rintro ed w1 ⟨v, rfl, hown, hnew, hb1⟩
  obtain ⟨va, vn, vc, rfl, -⟩ := hown.shape2
  have HB1 := hide hb1
  have HR1 := hide (HR.out w1 hb1)
  clear hown hnew hb1
  go_wp2_with fail
  refine HR1.out.mono ?_
  rintro ed w2 ⟨rfl, hb2⟩
  have HB2 := hide (HB1.out.trans (hb2.mono HB1.out.size))
  clear hb2
  go_wp2
  go_ret
  exact ⟨rfl, HB2.out⟩
set_option maxHeartbeats 3200000 in
set_option maxRecDepth 1000000 in
theorem write_disk (n k : Nat) (a : Option Addr) (len c : Nat) (pl : List Int) (hn : n < 4294967296) (h : Pl w p d q S most A OO) (h1 : 1 ≤ k) (h4 : k ≤ 4) (hlen : len ≤ 1008) (hl : pl.length = len) (hna : a = none → len = 0 ∧ c = 0) (hr : Row w a pl) (h8 : Byts pl) (hap : pl ≠ [] → ∀ ad, a = some ad → ¬ OO ad.block)
    (ho : n < S.ls.length / 8) (hl8 : S.ls.length % 8 = 0) (hf : S.ws.length + 8 ≤ 1000000) (hc : S.n2 + 1 ≤ 1000000) :
    Calls Tryz.prog 17 #[.pointer (some ⟨p, 0, none⟩), .int .u32 (n : Int), .int .u8 (k : Int), .slice a len c] w fun ed w' => ed = .returned (.int .u16 (S.er S.s2 S.l2 : Int)) ∧ ∃ OO', Pl w' p d q (S.wr n (Pg.pg k n pl) 8) most (if S.er S.s2 S.l2 = 0 then inn most (wo A n) ⟨n, k, pl⟩ else wo A n) OO' ∧ Go1 OO w OO' w' := by
  obtain ⟨O, e, m, L, el, yo, hp, rfl, h3⟩ := h
  have HS := hide (seal_ok k n a len c pl w h1 h4 hn hl hna hr h8 hlen)
  have HR := hide (fun (W : World) (hW : Below w.heap.size w W) => reaches_yes n (hp.below hW) hn ho)
  have HP := hide hp
  have H3 := hide h3
  have HAp := hide hap
  have HRw := hide hr
  have H8 := hide h8
  have HNa := hide hna
  have HLl := hide hl
  have HLg : Hid ((Pg.pg k n pl).length = 1024) := Pg.pg_length k n pl (by rw [hl]; exact hlen)
  have HBg : Hid (Byts (Pg.pg k n pl)) := Pg.pg_b8 k n pl h8
  obtain ⟨zs, HZ⟩ : ∃ zs, Hid (zs = Pg.pg k n pl) := ⟨_, rfl⟩
  rw [← HZ.out] at HS HLg HBg ⊢
  have HW := hide (fun (W : World) (hW : DkAt W d q S O) (g cap : Nat) (ob : ¬ O g) (hrow : Row W (some ⟨g, 0, none⟩) zs) (hbl : g < W.heap.size) (hcc : 1024 ≤ cap) (hcm : cap ≤ 9223372036854775807) => write_any d q O S n g 0 1024 cap zs 8 W hW ob hrow hbl HLg.out HBg.out hcc hcm ho hl8 (.inl ⟨rfl, rfl⟩) hf hc)
  have hr4 := er_le S S.s2 S.l2
  obtain ⟨r, HEr⟩ : ∃ r, Hid (r = S.er S.s2 S.l2) := ⟨_, rfl⟩
  rw [← HEr.out] at HW hr4 ⊢
  clear hp h3 hl hna hr h8 ho hap hl8 hf hc
  obtain ⟨SW, HSW⟩ : ∃ X, Hid (X = S.wr n zs 8) := ⟨_, rfl⟩
  rw [← HSW.out] at HW ⊢
  by_cases hr0 : r = 0
  · rw [if_pos hr0]
    subst hr0
    go_enter Tryz.func17, Tryz.ntmps17
    go_wp2_with fail
    refine HS.out.mono ?_
    rintro ed w1 ⟨v, rfl, hown, hnew, hb1⟩
    obtain ⟨g, cap, rfl, hcc, hcm, hrow, hgl, hgb⟩ := made_shape hown (by rw [HLg.out]; omega)
    have HNg : Hid (w.heap.size ≤ g) := hnew g hgb
    rw [HLg.out] at hcc
    have HRow1 := hide hrow
    have HGl := hide hgl
    have HB1 := hide hb1
    have HR1 := hide (HR.out w1 hb1)
    rw [HLg.out]
    clear hown hnew hb1 hrow hgl hgb
    go_wp2_with fail
    refine HR1.out.mono ?_
    rintro ed w2 ⟨rfl, hb2⟩
    have HP2 := hide ((HP.out.below HB1.out).below hb2)
    have HD := hide (drop_any n HP2.out.hd hn)
    have HRow2 := hide (HRow1.out.below hb2)
    have HGl2 : Hid (g < w2.heap.size) := hide (Nat.lt_of_lt_of_le HGl.out hb2.size)
    have HB2 := hide (HB1.out.trans (hb2.mono HB1.out.size))
    have HRa2 := hide (HRw.out.below HB2.out)
    clear hb2
    go_wp2_with fail
    refine HD.out.mono ?_
    rintro ed w3 ⟨rfl, L3, el3, yo3, hh3, hL3, hs3, hm3⟩
    have hg3 : Go1 (OwP p e m L) w2 (OwP p e m L3) w3 := Go1.sub hm3 (owp_sub hs3)
    have hp3 := HP2.out.hand hh3 hg3
    have hng : ¬ OwP p e m L g := fun hx => by have := HP.out.hd.lt g hx; have := HNg.out; omega
    have hno : ¬ O g := fun hx => by have := HP.out.dk.lt g hx; have := HNg.out; omega
    have HRow3 := hide (hm3.row HRow2.out hng)
    have HRa3 := hide (hm3.rowa HRa2.out fun hz ad had hx => HAp.out hz ad had ((H3.out _).2 (.inr hx)))
    have HWr := hide (HW.out w3 hp3.dk g cap hno HRow3.out (Nat.lt_of_lt_of_le HGl2.out hm3.size) hcc hcm)
    have HP3 := hide hp3
    have HG3 := hide ((Go1.of_below HB2.out).trans (Pl.gone H3.out (hg3.right (P := O))))
    have HL3 := hide hL3
    have c0 := hp3.hd.c0
    have HS3 := hide hs3
    clear hh3 hL3 hs3 hm3 hg3 hp3 hng hno
    go_wp2_with fail
    refine HWr.out.mono ?_
    rintro ed w4 ⟨rfl, O4, hd4, hg4⟩
    have hp4 := HP3.out.disk hd4 hg4
    have HG4 := hide (HG3.out.trans (hg4.left (P := OwP p e m L3)))
    have HRa4 := hide (hg4.mv.rowa HRa3.out fun hz ad had hx => HAp.out hz ad had ((H3.out _).2 (.inl hx)))
    have hnot : n ∉ L3.map Sh.n := fun hx => by
      have e1 : L3.map Sh.n = (L3.map Sh.pg).map Pge.n := by rw [List.map_map]; rfl
      rw [e1, HL3.out] at hx
      obtain ⟨y, hy, e2⟩ := List.mem_map.1 hx
      have := (List.mem_filter.1 hy).2
      simp [e2] at this
    have HT := hide (take_any n k a len c pl hp4.hd hn (by omega) hnot HLl.out HNa.out HRa4.out H8.out hlen fun hz ad had hx => HAp.out hz ad had ((H3.out _).2 (.inr (owp_sub HS3.out _ hx))))
    have HP4 := hide hp4
    clear hd4 hg4 hp4 hnot c0
    go_wp2_with fail
    refine HT.out.mono ?_
    rintro ed w5 ⟨rfl, L5, el5, yo5, hh5, hL5, hg5⟩
    have HP5 := hide (HP4.out.hand hh5 hg5)
    have HG5 := hide (HG4.out.trans (hg5.right (P := O4)))
    have HL5 := hide hL5
    clear hh5 hL5 hg5
    go_wp2
    go_ret
    exact ⟨rfl, _, ⟨_, _, _, _, _, _, HP5.out, by rw [HL5.out, HL3.out], fun k => Iff.rfl⟩, HG5.out⟩
  · rw [if_neg hr0]
    have e1 : ¬ (r : Int) = 0 := by omega
    have e2 : ((r : Int) == 0) = false := by simpa using e1
    have e3 : r ≤ 6 := by omega
    go_enter Tryz.func17, Tryz.ntmps17
    go_wp2_with fail
    refine HS.out.mono ?_
    rintro ed w1 ⟨v, rfl, hown, hnew, hb1⟩
    obtain ⟨g, cap, rfl, hcc, hcm, hrow, hgl, hgb⟩ := made_shape hown (by rw [HLg.out]; omega)
    have HNg : Hid (w.heap.size ≤ g) := hnew g hgb
    rw [HLg.out] at hcc
    have HRow1 := hide hrow
    have HGl := hide hgl
    have HB1 := hide hb1
    have HR1 := hide (HR.out w1 hb1)
    rw [HLg.out]
    clear hown hnew hb1 hrow hgl hgb
    go_wp2_with fail
    refine HR1.out.mono ?_
    rintro ed w2 ⟨rfl, hb2⟩
    have HP2 := hide ((HP.out.below HB1.out).below hb2)
    have HD := hide (drop_any n HP2.out.hd hn)
    have HRow2 := hide (HRow1.out.below hb2)
    have HGl2 : Hid (g < w2.heap.size) := hide (Nat.lt_of_lt_of_le HGl.out hb2.size)
    have HB2 := hide (HB1.out.trans (hb2.mono HB1.out.size))
    clear hb2
    go_wp2_with fail
    refine HD.out.mono ?_
    rintro ed w3 ⟨rfl, L3, el3, yo3, hh3, hL3, hs3, hm3⟩
    have hg3 : Go1 (OwP p e m L) w2 (OwP p e m L3) w3 := Go1.sub hm3 (owp_sub hs3)
    have hp3 := HP2.out.hand hh3 hg3
    have hng : ¬ OwP p e m L g := fun hx => by have := HP.out.hd.lt g hx; have := HNg.out; omega
    have hno : ¬ O g := fun hx => by have := HP.out.dk.lt g hx; have := HNg.out; omega
    have HRow3 := hide (hm3.row HRow2.out hng)
    have HWr := hide (HW.out w3 hp3.dk g cap hno HRow3.out (Nat.lt_of_lt_of_le HGl2.out hm3.size) hcc hcm)
    have HP3 := hide hp3
    have HG3 := hide ((Go1.of_below HB2.out).trans (Pl.gone H3.out (hg3.right (P := O))))
    have HL3 := hide hL3
    have c0 := hp3.hd.c0
    clear hh3 hL3 hs3 hm3 hg3 hp3 hng hno
    go_wp2_with fail
    refine HWr.out.mono ?_
    rintro ed w4 ⟨rfl, O4, hd4, hg4⟩
    have HP4 := hide (HP3.out.disk hd4 hg4)
    have HG4 := hide (HG3.out.trans (hg4.left (P := OwP p e m L3)))
    clear hd4 hg4 c0
    go_wp2
    go_ret
    exact ⟨rfl, _, ⟨_, _, _, _, _, _, HP4.out, HL3.out, fun k => Iff.rfl⟩, HG4.out⟩
end Go.Proofs.YtobokocpapfjbaaGreat
/- A pool over a disk on which nothing fails. -/
namespace Go.Proofs.YtobokocpapfjbaaGreat
open Go.RowKit Go.Maps
set_option linter.unusedVariables false
variable {w w' : World} {p d q e m most : Nat} {S S' : DS} {O O' OO : Nat → Prop} {L L' : List Sh} {el yo el' yo' : Nat → Nat} {A : List Pge}

/-- a disk on which nothing fails, of so many pages, behind at most c operations. -/
structure Calm (S : DS) (pages c : Nat) : Prop where
  dk : S.dk = false
  ts : S.ts = false
  s1 : S.s1 = false
  s2 : S.s2 = false
  s3 : S.s3 = false
  len : S.ls.length = 8 * pages
  ws : S.ws.length ≤ 8 * c
  n1 : S.n1 ≤ c
  n2 : S.n2 ≤ c
  n3 : S.n3 ≤ c
variable {pages c : Nat}
theorem Calm.er (h : Calm S pages c) {s : Bool} {l : Int} (hs : s = false) : S.er s l = 0 := by
  unfold DS.er tick
  simp [h.dk, h.ts, hs]
theorem Calm.op1 (h : Calm S pages c) : Calm S.op1 pages (c + 1) := by
  refine ⟨h.dk, ?_, ?_, h.s2, h.s3, h.len, ?_, ?_, ?_, ?_⟩
  · show (tick S.ts S.tl).2.1 = false; simp [tick, h.ts]
  · show (tick S.s1 S.l1).2.1 = false; simp [tick, h.s1]
  · have := h.ws; show S.ws.length ≤ _; omega
  · have := h.n1; show S.n1 + 1 ≤ _; omega
  · have := h.n2; show S.n2 ≤ _; omega
  · have := h.n3; show S.n3 ≤ _; omega
theorem Calm.wr (h : Calm S pages c) (b : Nat) (zs : List Int) : Calm (S.op2.adds b zs 8) pages (c + 1) := by
  refine ⟨h.dk, ?_, h.s1, ?_, h.s3, h.len, ?_, ?_, ?_, ?_⟩
  · show (tick S.ts S.tl).2.1 = false; simp [tick, h.ts]
  · show (tick S.s2 S.l2).2.1 = false; simp [tick, h.s2]
  · have := h.ws; rw [DS.adds_len]; show S.ws.length + 8 ≤ _; omega
  · have := h.n1; show S.n1 ≤ _; omega
  · have := h.n2; show S.n2 + 1 ≤ _; omega
  · have := h.n3; show S.n3 ≤ _; omega
theorem Calm.sy (h : Calm S pages c) : Calm (S.op3.set yes) pages (c + 1) := by
  refine ⟨h.dk, ?_, h.s1, h.s2, ?_, ?_, ?_, ?_, ?_, ?_⟩
  · show (tick S.ts S.tl).2.1 = false; simp [tick, h.ts]
  · show (tick S.s3 S.l3).2.1 = false; simp [tick, h.s3]
  · show (settled _ _ _ _).length = _; rw [settled_len]; exact h.len
  · show 0 ≤ _; omega
  · have := h.n1; show S.n1 ≤ _; omega
  · have := h.n2; show S.n2 ≤ _; omega
  · have := h.n3; show S.n3 + 1 ≤ _; omega
theorem Calm.mono (h : Calm S pages c) {c' : Nat} (hc : c ≤ c') : Calm S pages c' := ⟨h.dk, h.ts, h.s1, h.s2, h.s3, h.len, by have := h.ws; omega, by have := h.n1; omega, by have := h.n2; omega, by have := h.n3; omega⟩
theorem Calm.new (pages : Nat) : Calm (DS.new (8 * pages)) pages 0 := ⟨rfl, rfl, rfl, rfl, rfl, by simp [DS.new], by simp [DS.new], by simp [DS.new], by simp [DS.new], by simp [DS.new]⟩
theorem rd_op1 (S : DS) (b k : Nat) : rd S.op1 b k = rd S b k := rd_same rfl rfl b k
theorem rd_wr_same (S : DS) (n : Nat) (zs : List Int) (h : zs.length = 1024) : rd (S.op2.adds (8 * n) zs 8) (8 * n) 8 = zs := rd_adds_same _ _ _ h
theorem rd_wr_other (S : DS) {n n' : Nat} (zs : List Int) (h : n ≠ n') : rd (S.op2.adds (8 * n) zs 8) (8 * n') 8 = rd S (8 * n') 8 := (rd_adds_other _ _ _ _ h).trans (rd_same rfl rfl _ _)

theorem cwrite (n k : Nat) (NI KI : Int) (hNI : NI = (n : Int)) (hKI : KI = (k : Int)) (a : Option Addr) (len cap : Nat) (pl : List Int) (h : Pl w p d q S most A OO) (hcm : Calm S pages c) (hc : c ≤ 10000) (hpg : pages ≤ 10000) (hn : n < pages) (h1 : 1 ≤ k) (h4 : k ≤ 4) (hlen : len ≤ 1008) (hl : pl.length = len) (hna : a = none → len = 0 ∧ cap = 0) (hr : Row w a pl) (h8 : Byts pl) (hap : pl ≠ [] → ∀ ad, a = some ad → ¬ OO ad.block) :
    Calls Tryz.prog 17 #[.pointer (some ⟨p, 0, none⟩), .int .u32 NI, .int .u8 KI, .slice a len cap] w fun ed w' => ed = .returned (.int .u16 0) ∧ ∃ OO', Pl w' p d q (S.op2.adds (8 * n) (Pg.pg k n pl) 8) most (inn most (wo A n) ⟨n, k, pl⟩) OO' ∧ Go1 OO w OO' w' := by
  subst hNI hKI
  have e0 := hcm.er (l := S.l2) hcm.s2
  have hll := hcm.len
  have hw := hcm.ws
  have hn2 := hcm.n2
  refine (write_disk n k a len cap pl (by omega) h h1 h4 hlen hl hna hr h8 hap (by rw [hll]; omega) (by rw [hll]; omega) (by omega) (by omega)).mono ?_
  rintro ed w' ⟨rfl, OO', hp, hg⟩
  rw [e0, if_pos rfl, DS.wr, if_pos e0] at hp
  exact ⟨by rw [e0]; rfl, OO', hp, hg⟩
theorem cread_hand (n : Nat) (NI : Int) (hNI : NI = (n : Int)) (x : Pge) (hx : x ∈ A) (hxn : x.n = n) (h : Pl w p d q S most A OO) (hcm : Calm S pages c) (hn : n < pages) :
    Calls Tryz.prog 12 #[.pointer (some ⟨p, 0, none⟩), .int .u32 NI] w fun ed w' => ∃ v OO', ed = .returned (.tuple #[.int .u8 (x.k : Int), v, .int .u16 0]) ∧ Fresh w w' OO' v x.pl ∧ Pl w' p d q S most (wo A n ++ [x]) OO' ∧ Go1 OO w OO' w' := by
  subst hNI hxn
  exact read_hand x (h.mo.2.2.2.2 x hx).1 h (by rw [hcm.len]; omega) hx
theorem cread_disk (n k : Nat) (NI : Int) (hNI : NI = (n : Int)) (pl : List Int) (hx : n ∉ A.map Pge.n) (h : Pl w p d q S most A OO) (hcm : Calm S pages c) (hc : c ≤ 10000) (hpg : pages ≤ 10000) (hn : n < pages) (ho : Pg.opn n (rd S (8 * n) 8) = some (k, pl)) :
    Calls Tryz.prog 12 #[.pointer (some ⟨p, 0, none⟩), .int .u32 NI] w fun ed w' => ∃ v OO', ed = .returned (.tuple #[.int .u8 (k : Int), v, .int .u16 0]) ∧ Fresh w w' OO' v pl ∧ Pl w' p d q S.op1 most (inn most A ⟨n, k, pl⟩) OO' ∧ Go1 OO w OO' w' := by
  subst hNI
  have hn1 := hcm.n1
  refine (read_disk n (by omega) h (by rw [hcm.len]; omega) hx (by omega) (hcm.er hcm.s1)).mono ?_
  rintro ed w' ⟨-, hy⟩
  exact hy k pl ho
theorem cread_form (n : Nat) (NI : Int) (hNI : NI = (n : Int)) (hx : n ∉ A.map Pge.n) (h : Pl w p d q S most A OO) (hcm : Calm S pages c) (hc : c ≤ 10000) (hpg : pages ≤ 10000) (hn : n < pages) (ho : Pg.opn n (rd S (8 * n) 8) = none) :
    Calls Tryz.prog 12 #[.pointer (some ⟨p, 0, none⟩), .int .u32 NI] w fun ed w' => ∃ OO', ed = .returned (.tuple #[.int .u8 0, .slice none 0 0, .int .u16 100]) ∧ Pl w' p d q S.op1 most A OO' ∧ Go1 OO w OO' w' := by
  subst hNI
  have hn1 := hcm.n1
  refine (read_disk n (by omega) h (by rw [hcm.len]; omega) hx (by omega) (hcm.er hcm.s1)).mono ?_
  rintro ed w' ⟨hno, -⟩
  exact hno ho
theorem pcounts (h : Pl w p d q S most A OO) : Calls Tryz.prog 29 #[.pointer (some ⟨d, 0, none⟩)] w fun ed w' => ed = .returned (.agg #[.int .i64 S.n1, .int .i64 S.n2, .int .i64 S.n3]) ∧ Below w.heap.size w w' := by
  obtain ⟨O, e, m, L, el, yo, h1, -, -⟩ := h
  exact counts_any d q O S w h1.dk
theorem phas_at (n : Nat) (NI : Int) (hNI : NI = (n : Int)) (hn : n < 4294967296) (h : Pl w p d q S most A OO) (b : Bool) (hb : decide (n ∈ A.map Pge.n) = b) :
    Calls Tryz.prog 32 #[.pointer (some ⟨p, 0, none⟩), .int .u32 NI] w fun ed w' => ed = .returned (.bool b) ∧ Below w.heap.size w w' := by
  subst hNI hb
  exact phas_any n hn h
theorem plen_at (n : Nat) (NI : Int) (hNI : NI = (n : Int)) (h : Pl w p d q S most A OO) (hn : A.length = n) :
    Calls Tryz.prog 30 #[.pointer (some ⟨p, 0, none⟩)] w fun ed w' => ed = .returned (.int .i64 NI) ∧ Below w.heap.size w w' := by
  subst hNI hn
  exact plen_any h
/-- what a call made, and stays. -/
theorem Fresh.go {w1 w2 : World} {P P' : Nat → Prop} {v : Value} {zs : List Int} (h : Fresh w w1 P v zs) (hg : Go1 P w1 P' w2) : Fresh w w2 P' v zs :=
  ⟨h.1.of_block fun k hk => hg.mv.block k (h.1.lt hk) (h.2 k hk).2, fun g hv => ⟨(h.2 g hv).1, fun hx => (hg.own g hx).elim (h.2 g hv).2 (fun hl => by have := h.1.lt hv; omega)⟩⟩
theorem Fresh.on {w1 w2 : World} {P : Nat → Prop} {v : Value} {zs : List Int} (h : Fresh w w1 P v zs) (hb : Below w1.heap.size w1 w2) : Fresh w w2 P v zs := h.go (Go1.of_below hb)
theorem text_own {v : Value} {zs : List Int} (a : Option Addr) (n cap : Nat) (hv : v = .slice a n cap) (h : Own w v zs) (h8 : Byts zs) : (convert 22 9 (.slice a n cap)).run Tryz.prog w = .ok (.string (bk zs)) w := by
  subst hv
  obtain ⟨a', c', e, h1, h2, h3, h4, _⟩ := h.shape
  cases e
  exact run_text w a zs.length cap zs rfl h3 h4 h8
end Go.Proofs.YtobokocpapfjbaaGreat
/- The chapter's example comes out as it has it. -/
namespace Go.Proofs.YtobokocpapfjbaaGreat
open Go.RowKit Go.Maps
set_option linter.unusedVariables false

/-- bytes that were laid down as a constant, in a block of their own. -/
theorem row_const {w : World} (x : Int) (f : Nat × Nat) : Row (w.alloc (.cells #[.int .u8 x] 5 f)) (some ⟨w.heap.size, 0, none⟩) [x] := row_new w [x] _ f rfl
theorem new_not {w : World} {p d q most : Nat} {S : DS} {A : List Pge} {OO : Nat → Prop} {g : Nat} (h : Pl w p d q S most A OO) (hg : w.heap.size ≤ g) : ∀ ad, some (⟨g, 0, none⟩ : Addr) = some ad → ¬ OO ad.block := fun ad had hx => by
  cases had
  have := h.lt _ hx
  simp only at this
  omega
theorem b1 (x : Int) (h : 0 ≤ x ∧ x ≤ 255) : Byts [x] := fun c hc => by simp at hc; rw [hc]; exact h
theorem kwrite {w : World} {p d q most pages c : Nat} {S : DS} {A : List Pge} {OO : Nat → Prop} (n : Nat) (NI : Int) (hNI : NI = (n : Int)) (x : Int) (hx : 0 ≤ x ∧ x ≤ 255) (f : Nat × Nat) (h : Pl w p d q S most A OO) (hcm : Calm S pages c) (hc : c ≤ 10000) (hpg : pages ≤ 10000) (hn : n < pages) :
    Calls Tryz.prog 17 #[.pointer (some ⟨p, 0, none⟩), .int .u32 NI, .int .u8 1, .slice (some ⟨w.heap.size, 0, none⟩) 1 1] (w.alloc (.cells #[.int .u8 x] 5 f)) fun ed w' => ed = .returned (.int .u16 0) ∧ ∃ OO', Pl w' p d q (S.op2.adds (8 * n) (Pg.pg 1 n [x]) 8) most (inn most (wo A n) ⟨n, 1, [x]⟩) OO' ∧ Go1 OO w OO' w' := by
  refine (cwrite n 1 NI 1 hNI rfl (some ⟨w.heap.size, 0, none⟩) 1 1 [x] (h.below (below_alloc w _)) hcm hc hpg hn (by omega) (by omega) (by omega) rfl (by intro h; cases h) (row_const x f) (b1 x hx) (fun _ => new_not h (Nat.le_refl _))).mono ?_
  rintro ed w' ⟨rfl, OO', hp, hg⟩
  exact ⟨rfl, OO', hp, (Go1.of_below (below_alloc w _)).trans hg⟩
theorem fieldC (a b c : Int) (W : World) : (Instr.field 83 (.agg #[.int .i64 a, .int .i64 b, .int .i64 c]) 0).run Tryz.prog W = .ok (.int .i64 a) W := by kernel_rfl
def k1 : DS := (DS.new (8 * 9)).op2.adds (8 * 2) (Pg.pg 1 2 [97]) 8
def k2 : DS := k1.op2.adds (8 * 3) (Pg.pg 1 3 [98]) 8
def k3 : DS := k2.op2.adds (8 * 4) (Pg.pg 1 4 [99]) 8
theorem k1c : Calm k1 9 1 := (Calm.new 9).wr _ _
theorem k2c : Calm k2 9 2 := k1c.wr _ _
theorem k3c : Calm k3 9 3 := k2c.wr _ _
theorem k3r : Pg.opn 3 (rd k3 (8 * 3) 8) = some (1, [98]) := by
  rw [k3, rd_wr_other _ _ (by omega), k2, rd_wr_same _ _ _ (Pg.pg_length 1 3 [98] (by simp))]
  exact Pg.opn_pg 1 3 [98] (by omega) (by omega) (by simp)
set_option maxHeartbeats 6400000 in
set_option maxRecDepth 1000000 in
theorem known_any (w : World) : Calls Tryz.prog 4 #[] w fun ed w' => ed = .returned (.bool true) ∧ Below w.heap.size w w' := by
  have kc := fun (w : World) (C : Array Value) (n c : Nat) => Lib.run_convert_bytes_const (P := Tryz.prog) w 22 5 C n c Tryz.underlying22 Tryz.underlying5
  have hfc := fieldC
  have Hab : Hid (bk [97] = ⟨#[97]⟩) := hide rfl
  have Hbb : Hid (bk [98] = ⟨#[98]⟩) := hide rfl
  go_enter Tryz.func4, Tryz.ntmps4
  go_wp2_with fail
  refine (new_at 9 9 w rfl (by omega) (by omega)).mono ?_
  rintro ed w1 ⟨O, d, q, rfl, hd, hf⟩
  have HF1 := hide hf
  have HD1 := hide hd
  clear hd hf
  go_wp2_with fail
  refine (pnew_any 2 2 rfl w1 HD1.out (by omega) (by omega)).mono ?_
  rintro ed w2 ⟨p, OO2, rfl, hp2, hg2⟩
  have HF2 := hide (HF1.out.go hg2)
  have HP2 := hide hp2
  clear hp2 hg2
  go_wp2_with fail
  refine (kwrite 2 2 rfl 97 (by omega) _ HP2.out (Calm.new 9) (by omega) (by omega) (by omega)).mono ?_
  rintro ed w3 ⟨rfl, OO3, hp3, hg3⟩
  have HF3 := hide (HF2.out.go hg3)
  have HP3 : Hid (Pl w3 p d q k1 2 [⟨2, 1, [97]⟩] OO3) := hp3
  clear hp3 hg3
  go_wp2_with fail
  refine (kwrite 3 3 rfl 98 (by omega) _ HP3.out k1c (by omega) (by omega) (by omega)).mono ?_
  rintro ed w4 ⟨rfl, OO4, hp4, hg4⟩
  have HF4 := hide (HF3.out.go hg4)
  have HP4 : Hid (Pl w4 p d q k2 2 [⟨2, 1, [97]⟩, ⟨3, 1, [98]⟩] OO4) := hp4
  clear hp4 hg4
  go_wp2_with fail
  refine (cread_hand 2 2 rfl ⟨2, 1, [97]⟩ (by simp) rfl HP4.out k2c (by omega)).mono ?_
  rintro ed w5 ⟨v5, OO5, rfl, hf5, hp5, hg5⟩
  have HF5 := hide (HF4.out.go hg5)
  have HP5 : Hid (Pl w5 p d q k2 2 [⟨3, 1, [98]⟩, ⟨2, 1, [97]⟩] OO5) := hp5
  obtain ⟨a5, n5, c5, rfl, -⟩ := hf5.1.shape2
  have HV5 := hide hf5
  clear hp5 hg5 hf5
  go_wp2_with fail
  refine (pcounts HP5.out).mono ?_
  rintro ed w6 ⟨rfl, hb6⟩
  have HF6 := hide (HF5.out.on hb6)
  have HP6 := hide (HP5.out.below hb6)
  have HV6 := hide (HV5.out.on hb6)
  have en1 : k2.n1 = 0 := rfl
  rw [en1]
  clear hb6 en1
  go_wp2_with fail
  refine (kwrite 4 4 rfl 99 (by omega) _ HP6.out k2c (by omega) (by omega) (by omega)).mono ?_
  rintro ed w7 ⟨rfl, OO7, hp7, hg7⟩
  have HF7 := hide (HF6.out.go hg7)
  have HP7 : Hid (Pl w7 p d q k3 2 [⟨2, 1, [97]⟩, ⟨4, 1, [99]⟩] OO7) := hp7
  have HV7 := hide (HV6.out.go hg7)
  clear hp7 hg7
  go_wp2_with fail
  refine (phas_at 3 3 rfl (by omega) HP7.out false (by decide)).mono ?_
  rintro ed w8 ⟨rfl, hb8⟩
  have HF8 := hide (HF7.out.on hb8)
  have HP8 := hide (HP7.out.below hb8)
  have HV8 := hide (HV7.out.on hb8)
  clear hb8
  go_wp2_with fail
  refine (cread_disk 3 1 3 rfl [98] (by decide) HP8.out k3c (by omega) (by omega) (by omega) k3r).mono ?_
  rintro ed w9 ⟨v9, OO9, rfl, hf9, hp9, hg9⟩
  have HF9 := hide (HF8.out.go hg9)
  have HP9 : Hid (Pl w9 p d q k3.op1 2 [⟨4, 1, [99]⟩, ⟨3, 1, [98]⟩] OO9) := hp9
  obtain ⟨a9, n9, c9, rfl, -⟩ := hf9.1.shape2
  have HV9 := hide (HV8.out.go hg9)
  have HU9 := hide hf9
  clear hp9 hg9 hf9
  have t1 := text_own a5 n5 c5 rfl HV9.out.1 (b1 97 (by omega))
  have t2 := text_own a9 n9 c9 rfl HU9.out.1 (b1 98 (by omega))
  rw [Hab.out] at t1
  rw [Hbb.out] at t2
  go_wp2_with fail
  refine (phas_at 2 2 rfl (by omega) HP9.out false (by decide)).mono ?_
  rintro ed w10 ⟨rfl, hb10⟩
  have HF10 := hide (HF9.out.on hb10)
  have HP10 := hide (HP9.out.below hb10)
  clear hb10 t1 t2
  go_wp2_with fail
  refine (plen_at 2 2 rfl HP10.out rfl).mono ?_
  rintro ed w11 ⟨rfl, hb11⟩
  have HF11 := hide (HF10.out.on hb11)
  have HP11 := hide (HP10.out.below hb11)
  clear hb11
  go_wp2_with fail
  refine (pcounts HP11.out).mono ?_
  rintro ed w12 ⟨rfl, hb12⟩
  have HF12 := hide (HF11.out.on hb12)
  have en1 : k3.op1.n1 = 1 := rfl
  rw [en1]
  clear hb12 en1
  go_wp2
  go_ret
  exact ⟨rfl, HF12.out.below⟩
end Go.Proofs.YtobokocpapfjbaaGreat
