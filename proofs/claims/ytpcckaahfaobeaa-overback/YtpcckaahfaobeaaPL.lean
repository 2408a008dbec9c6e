/- A pool's Write. -/
import Derived.Test.YtpcckaahfaobeaaPJ
namespace Go.Proofs.Ytpcckaahfaobeaa
open Go.RowKit Go.Maps
set_option linter.unusedVariables false
variable {w w' : World} {p d q e m most : Nat} {S S' : DS} {O O' OO : Nat → Prop} {L L' : List Sh} {el yo el' yo' : Nat → Nat} {A : List Pge}

set_option maxHeartbeats 1600000 in
set_option maxRecDepth 1000000 in
theorem write_bad (n k : Nat) (a : Option Addr) (len c : Nat) (w : World) (P : Value) (h : ¬ (1 ≤ k ∧ k ≤ 4 ∧ len ≤ 1008)) :
    Calls Try.prog 9 #[P, .int .u32 (n : Int), .int .u8 (k : Int), .slice a len c] w fun ed w' => ed = .returned (.int .u16 80) ∧ Below w.heap.size w w' := by
  have HS := hide (seal_no k n a len c w h)
  clear h
  go_enter Try.func9, Try.ntmps9
  go_wp2_with fail
  refine HS.out.mono ?_
  rintro ed w1 ⟨rfl, hb1⟩
  have HB1 := hide hb1
  clear hb1
  go_wp2
  go_ret
  exact ⟨rfl, HB1.out⟩
theorem made_shape {v : Value} {zs : List Int} (h : Own w v zs) (h0 : zs.length ≠ 0) : ∃ g cap, v = .slice (some ⟨g, 0, none⟩) zs.length cap ∧ zs.length ≤ cap ∧ cap ≤ 9223372036854775807 ∧ Row w (some ⟨g, 0, none⟩) zs ∧ g < w.heap.size ∧ v.ownBlock = some g := by
  obtain ⟨a, c, hv, hcc, hcm, hna, hrow, hbk⟩ := h.shape
  rcases h.2 with ⟨rfl, h1⟩ | ⟨g, cap, cur, rfl, hb, hh, hle, hm, -⟩
  · exact absurd h1 h0
  · cases hv
    exact ⟨g, c, rfl, hcc, hcm, hrow, h.lt rfl, rfl⟩
set_option maxHeartbeats 1600000 in
set_option maxRecDepth 1000000 in
theorem write_off (n k : Nat) (a : Option Addr) (len c : Nat) (pl : List Int) (hn : n < 4294967296) (h : Pl w p d q S most A OO) (h1 : 1 ≤ k) (h4 : k ≤ 4) (hlen : len ≤ 1008) (hl : pl.length = len) (hna : a = none → len = 0 ∧ c = 0) (hr : Row w a pl) (h8 : Byts pl) (ho : ¬ n < S.ls.length / 8) :
    Calls Try.prog 9 #[.pointer (some ⟨p, 0, none⟩), .int .u32 (n : Int), .int .u8 (k : Int), .slice a len c] w fun ed w' => ed = .returned (.int .u16 2) ∧ Below w.heap.size w w' := by
  obtain ⟨O, e, m, L, el, yo, hp, rfl, h3⟩ := h
  have HS := hide (seal_ok k n a len c pl w h1 h4 hn hl hna hr h8 hlen)
  have HR := hide (fun (W : World) (hW : Below w.heap.size w W) => reaches_no n (hp.below hW) hn ho)
  clear hp h3 hl hna hr h8 ho
  go_enter Try.func9, Try.ntmps9
  go_wp2_with fail
  refine HS.out.mono ?_
  rintro ed w1 ⟨v, rfl, hown, hnew, hb1⟩
  obtain ⟨va, vn, vc, rfl, -⟩ := hown.shape2
  have HB1 := hide hb1
  have HR1 := hide (HR.out w1 hb1)
  clear hown hnew hb1
  go_wp2_with fail
  refine HR1.out.mono ?_
  rintro ed w2 ⟨rfl, hb2⟩
  have HB2 := hide (HB1.out.trans (hb2.mono HB1.out.size))
  clear hb2
  go_wp2
  go_ret
  exact ⟨rfl, HB2.out⟩
set_option maxHeartbeats 3200000 in
set_option maxRecDepth 1000000 in
theorem write_disk (n k : Nat) (a : Option Addr) (len c : Nat) (pl : List Int) (hn : n < 4294967296) (h : Pl w p d q S most A OO) (h1 : 1 ≤ k) (h4 : k ≤ 4) (hlen : len ≤ 1008) (hl : pl.length = len) (hna : a = none → len = 0 ∧ c = 0) (hr : Row w a pl) (h8 : Byts pl) (hap : pl ≠ [] → ∀ ad, a = some ad → ¬ OO ad.block)
    (ho : n < S.ls.length / 8) (hl8 : S.ls.length % 8 = 0) (hf : S.ws.length + 8 ≤ 1000000) (hc : S.n2 + 1 ≤ 1000000) :
    Calls Try.prog 9 #[.pointer (some ⟨p, 0, none⟩), .int .u32 (n : Int), .int .u8 (k : Int), .slice a len c] w fun ed w' => ed = .returned (.int .u16 (S.er S.s2 S.l2 : Int)) ∧ ∃ OO', Pl w' p d q (S.wr n (Pg.pg k n pl) 8) most (if S.er S.s2 S.l2 = 0 then inn most (wo A n) ⟨n, k, pl⟩ else wo A n) OO' ∧ Go1 OO w OO' w' := by
  obtain ⟨O, e, m, L, el, yo, hp, rfl, h3⟩ := h
  have HS := hide (seal_ok k n a len c pl w h1 h4 hn hl hna hr h8 hlen)
  have HR := hide (fun (W : World) (hW : Below w.heap.size w W) => reaches_yes n (hp.below hW) hn ho)
  have HP := hide hp
  have H3 := hide h3
  have HAp := hide hap
  have HRw := hide hr
  have H8 := hide h8
  have HNa := hide hna
  have HLl := hide hl
  have HLg : Hid ((Pg.pg k n pl).length = 1024) := Pg.pg_length k n pl (by rw [hl]; exact hlen)
  have HBg : Hid (Byts (Pg.pg k n pl)) := Pg.pg_b8 k n pl h8
  obtain ⟨zs, HZ⟩ : ∃ zs, Hid (zs = Pg.pg k n pl) := ⟨_, rfl⟩
  rw [← HZ.out] at HS HLg HBg ⊢
  have HW := hide (fun (W : World) (hW : DkAt W d q S O) (g cap : Nat) (ob : ¬ O g) (hrow : Row W (some ⟨g, 0, none⟩) zs) (hbl : g < W.heap.size) (hcc : 1024 ≤ cap) (hcm : cap ≤ 9223372036854775807) => write_any d q O S n g 0 1024 cap zs 8 W hW ob hrow hbl HLg.out HBg.out hcc hcm ho hl8 (.inl ⟨rfl, rfl⟩) hf hc)
  have hr4 := er_le S S.s2 S.l2
  obtain ⟨r, HEr⟩ : ∃ r, Hid (r = S.er S.s2 S.l2) := ⟨_, rfl⟩
  rw [← HEr.out] at HW hr4 ⊢
  clear hp h3 hl hna hr h8 ho hap hl8 hf hc
  obtain ⟨SW, HSW⟩ : ∃ X, Hid (X = S.wr n zs 8) := ⟨_, rfl⟩
  rw [← HSW.out] at HW ⊢
  by_cases hr0 : r = 0
  · rw [if_pos hr0]
    subst hr0
    go_enter Try.func9, Try.ntmps9
    go_wp2_with fail
    refine HS.out.mono ?_
    rintro ed w1 ⟨v, rfl, hown, hnew, hb1⟩
    obtain ⟨g, cap, rfl, hcc, hcm, hrow, hgl, hgb⟩ := made_shape hown (by rw [HLg.out]; omega)
    have HNg : Hid (w.heap.size ≤ g) := hnew g hgb
    rw [HLg.out] at hcc
    have HRow1 := hide hrow
    have HGl := hide hgl
    have HB1 := hide hb1
    have HR1 := hide (HR.out w1 hb1)
    rw [HLg.out]
    clear hown hnew hb1 hrow hgl hgb
    go_wp2_with fail
    refine HR1.out.mono ?_
    rintro ed w2 ⟨rfl, hb2⟩
    have HP2 := hide ((HP.out.below HB1.out).below hb2)
    have HD := hide (drop_any n HP2.out.hd hn)
    have HRow2 := hide (HRow1.out.below hb2)
    have HGl2 : Hid (g < w2.heap.size) := hide (Nat.lt_of_lt_of_le HGl.out hb2.size)
    have HB2 := hide (HB1.out.trans (hb2.mono HB1.out.size))
    have HRa2 := hide (HRw.out.below HB2.out)
    clear hb2
    go_wp2_with fail
    refine HD.out.mono ?_
    rintro ed w3 ⟨rfl, L3, el3, yo3, hh3, hL3, hs3, hm3⟩
    have hg3 : Go1 (OwP p e m L) w2 (OwP p e m L3) w3 := Go1.sub hm3 (owp_sub hs3)
    have hp3 := HP2.out.hand hh3 hg3
    have hng : ¬ OwP p e m L g := fun hx => by have := HP.out.hd.lt g hx; have := HNg.out; omega
    have hno : ¬ O g := fun hx => by have := HP.out.dk.lt g hx; have := HNg.out; omega
    have HRow3 := hide (hm3.row HRow2.out hng)
    have HRa3 := hide (hm3.rowa HRa2.out fun hz ad had hx => HAp.out hz ad had ((H3.out _).2 (.inr hx)))
    have HWr := hide (HW.out w3 hp3.dk g cap hno HRow3.out (Nat.lt_of_lt_of_le HGl2.out hm3.size) hcc hcm)
    have HP3 := hide hp3
    have HG3 := hide ((Go1.of_below HB2.out).trans (Pl.gone H3.out (hg3.right (P := O))))
    have HL3 := hide hL3
    have c0 := hp3.hd.c0
    have HS3 := hide hs3
    clear hh3 hL3 hs3 hm3 hg3 hp3 hng hno
    go_wp2_with fail
    refine HWr.out.mono ?_
    rintro ed w4 ⟨rfl, O4, hd4, hg4⟩
    have hp4 := HP3.out.disk hd4 hg4
    have HG4 := hide (HG3.out.trans (hg4.left (P := OwP p e m L3)))
    have HRa4 := hide (hg4.mv.rowa HRa3.out fun hz ad had hx => HAp.out hz ad had ((H3.out _).2 (.inl hx)))
    have hnot : n ∉ L3.map Sh.n := fun hx => by
      have e1 : L3.map Sh.n = (L3.map Sh.pg).map Pge.n := by rw [List.map_map]; rfl
      rw [e1, HL3.out] at hx
      obtain ⟨y, hy, e2⟩ := List.mem_map.1 hx
      have := (List.mem_filter.1 hy).2
      simp [e2] at this
    have HT := hide (take_any n k a len c pl hp4.hd hn (by omega) hnot HLl.out HNa.out HRa4.out H8.out hlen fun hz ad had hx => HAp.out hz ad had ((H3.out _).2 (.inr (owp_sub HS3.out _ hx))))
    have HP4 := hide hp4
    clear hd4 hg4 hp4 hnot c0
    go_wp2_with fail
    refine HT.out.mono ?_
    rintro ed w5 ⟨rfl, L5, el5, yo5, hh5, hL5, hg5⟩
    have HP5 := hide (HP4.out.hand hh5 hg5)
    have HG5 := hide (HG4.out.trans (hg5.right (P := O4)))
    have HL5 := hide hL5
    clear hh5 hL5 hg5
    go_wp2
    go_ret
    exact ⟨rfl, _, ⟨_, _, _, _, _, _, HP5.out, by rw [HL5.out, HL3.out], fun k => Iff.rfl⟩, HG5.out⟩
  · rw [if_neg hr0]
    have e1 : ¬ (r : Int) = 0 := by omega
    have e2 : ((r : Int) == 0) = false := by simpa using e1
    have e3 : r ≤ 6 := by omega
    go_enter Try.func9, Try.ntmps9
    go_wp2_with fail
    refine HS.out.mono ?_
    rintro ed w1 ⟨v, rfl, hown, hnew, hb1⟩
    obtain ⟨g, cap, rfl, hcc, hcm, hrow, hgl, hgb⟩ := made_shape hown (by rw [HLg.out]; omega)
    have HNg : Hid (w.heap.size ≤ g) := hnew g hgb
    rw [HLg.out] at hcc
    have HRow1 := hide hrow
    have HGl := hide hgl
    have HB1 := hide hb1
    have HR1 := hide (HR.out w1 hb1)
    rw [HLg.out]
    clear hown hnew hb1 hrow hgl hgb
    go_wp2_with fail
    refine HR1.out.mono ?_
    rintro ed w2 ⟨rfl, hb2⟩
    have HP2 := hide ((HP.out.below HB1.out).below hb2)
    have HD := hide (drop_any n HP2.out.hd hn)
    have HRow2 := hide (HRow1.out.below hb2)
    have HGl2 : Hid (g < w2.heap.size) := hide (Nat.lt_of_lt_of_le HGl.out hb2.size)
    have HB2 := hide (HB1.out.trans (hb2.mono HB1.out.size))
    clear hb2
    go_wp2_with fail
    refine HD.out.mono ?_
    rintro ed w3 ⟨rfl, L3, el3, yo3, hh3, hL3, hs3, hm3⟩
    have hg3 : Go1 (OwP p e m L) w2 (OwP p e m L3) w3 := Go1.sub hm3 (owp_sub hs3)
    have hp3 := HP2.out.hand hh3 hg3
    have hng : ¬ OwP p e m L g := fun hx => by have := HP.out.hd.lt g hx; have := HNg.out; omega
    have hno : ¬ O g := fun hx => by have := HP.out.dk.lt g hx; have := HNg.out; omega
    have HRow3 := hide (hm3.row HRow2.out hng)
    have HWr := hide (HW.out w3 hp3.dk g cap hno HRow3.out (Nat.lt_of_lt_of_le HGl2.out hm3.size) hcc hcm)
    have HP3 := hide hp3
    have HG3 := hide ((Go1.of_below HB2.out).trans (Pl.gone H3.out (hg3.right (P := O))))
    have HL3 := hide hL3
    have c0 := hp3.hd.c0
    clear hh3 hL3 hs3 hm3 hg3 hp3 hng hno
    go_wp2_with fail
    refine HWr.out.mono ?_
    rintro ed w4 ⟨rfl, O4, hd4, hg4⟩
    have HP4 := hide (HP3.out.disk hd4 hg4)
    have HG4 := hide (HG3.out.trans (hg4.left (P := OwP p e m L3)))
    clear hd4 hg4 c0
    go_wp2
    go_ret
    exact ⟨rfl, _, ⟨_, _, _, _, _, _, HP4.out, HL3.out, fun k => Iff.rfl⟩, HG4.out⟩
end Go.Proofs.Ytpcckaahfaobeaa
/- A pool over a disk on which nothing fails. -/
namespace Go.Proofs.Ytpcckaahfaobeaa
open Go.RowKit Go.Maps
set_option linter.unusedVariables false
variable {w w' : World} {p d q e m most : Nat} {S S' : DS} {O O' OO : Nat → Prop} {L L' : List Sh} {el yo el' yo' : Nat → Nat} {A : List Pge}

/-- a disk on which nothing fails, of so many pages, behind at most c operations. -/
structure Calm (S : DS) (pages c : Nat) : Prop where
  dk : S.dk = false
  ts : S.ts = false
  s1 : S.s1 = false
  s2 : S.s2 = false
  s3 : S.s3 = false
  len : S.ls.length = 8 * pages
  ws : S.ws.length ≤ 8 * c
  n1 : S.n1 ≤ c
  n2 : S.n2 ≤ c
  n3 : S.n3 ≤ c
variable {pages c : Nat}
theorem Calm.er (h : Calm S pages c) {s : Bool} {l : Int} (hs : s = false) : S.er s l = 0 := by
  unfold DS.er tick
  simp [h.dk, h.ts, hs]
theorem Calm.op1 (h : Calm S pages c) : Calm S.op1 pages (c + 1) := by
  refine ⟨h.dk, ?_, ?_, h.s2, h.s3, h.len, ?_, ?_, ?_, ?_⟩
  · show (tick S.ts S.tl).2.1 = false; simp [tick, h.ts]
  · show (tick S.s1 S.l1).2.1 = false; simp [tick, h.s1]
  · have := h.ws; show S.ws.length ≤ _; omega
  · have := h.n1; show S.n1 + 1 ≤ _; omega
  · have := h.n2; show S.n2 ≤ _; omega
  · have := h.n3; show S.n3 ≤ _; omega
theorem Calm.wr (h : Calm S pages c) (b : Nat) (zs : List Int) : Calm (S.op2.adds b zs 8) pages (c + 1) := by
  refine ⟨h.dk, ?_, h.s1, ?_, h.s3, h.len, ?_, ?_, ?_, ?_⟩
  · show (tick S.ts S.tl).2.1 = false; simp [tick, h.ts]
  · show (tick S.s2 S.l2).2.1 = false; simp [tick, h.s2]
  · have := h.ws; rw [DS.adds_len]; show S.ws.length + 8 ≤ _; omega
  · have := h.n1; show S.n1 ≤ _; omega
  · have := h.n2; show S.n2 + 1 ≤ _; omega
  · have := h.n3; show S.n3 ≤ _; omega
theorem Calm.sy (h : Calm S pages c) : Calm (S.op3.set yes) pages (c + 1) := by
  refine ⟨h.dk, ?_, h.s1, h.s2, ?_, ?_, ?_, ?_, ?_, ?_⟩
  · show (tick S.ts S.tl).2.1 = false; simp [tick, h.ts]
  · show (tick S.s3 S.l3).2.1 = false; simp [tick, h.s3]
  · show (settled _ _ _ _).length = _; rw [settled_len]; exact h.len
  · show 0 ≤ _; omega
  · have := h.n1; show S.n1 ≤ _; omega
  · have := h.n2; show S.n2 ≤ _; omega
  · have := h.n3; show S.n3 + 1 ≤ _; omega
theorem Calm.mono (h : Calm S pages c) {c' : Nat} (hc : c ≤ c') : Calm S pages c' := ⟨h.dk, h.ts, h.s1, h.s2, h.s3, h.len, by have := h.ws; omega, by have := h.n1; omega, by have := h.n2; omega, by have := h.n3; omega⟩
theorem Calm.new (pages : Nat) : Calm (DS.new (8 * pages)) pages 0 := ⟨rfl, rfl, rfl, rfl, rfl, by simp [DS.new], by simp [DS.new], by simp [DS.new], by simp [DS.new], by simp [DS.new]⟩
theorem rd_op1 (S : DS) (b k : Nat) : rd S.op1 b k = rd S b k := rd_same rfl rfl b k
theorem rd_wr_same (S : DS) (n : Nat) (zs : List Int) (h : zs.length = 1024) : rd (S.op2.adds (8 * n) zs 8) (8 * n) 8 = zs := rd_adds_same _ _ _ h
theorem rd_wr_other (S : DS) {n n' : Nat} (zs : List Int) (h : n ≠ n') : rd (S.op2.adds (8 * n) zs 8) (8 * n') 8 = rd S (8 * n') 8 := (rd_adds_other _ _ _ _ h).trans (rd_same rfl rfl _ _)

theorem cwrite (n k : Nat) (NI KI : Int) (hNI : NI = (n : Int)) (hKI : KI = (k : Int)) (a : Option Addr) (len cap : Nat) (pl : List Int) (h : Pl w p d q S most A OO) (hcm : Calm S pages c) (hc : c ≤ 10000) (hpg : pages ≤ 10000) (hn : n < pages) (h1 : 1 ≤ k) (h4 : k ≤ 4) (hlen : len ≤ 1008) (hl : pl.length = len) (hna : a = none → len = 0 ∧ cap = 0) (hr : Row w a pl) (h8 : Byts pl) (hap : pl ≠ [] → ∀ ad, a = some ad → ¬ OO ad.block) :
    Calls Try.prog 9 #[.pointer (some ⟨p, 0, none⟩), .int .u32 NI, .int .u8 KI, .slice a len cap] w fun ed w' => ed = .returned (.int .u16 0) ∧ ∃ OO', Pl w' p d q (S.op2.adds (8 * n) (Pg.pg k n pl) 8) most (inn most (wo A n) ⟨n, k, pl⟩) OO' ∧ Go1 OO w OO' w' := by
  subst hNI hKI
  have e0 := hcm.er (l := S.l2) hcm.s2
  have hll := hcm.len
  have hw := hcm.ws
  have hn2 := hcm.n2
  refine (write_disk n k a len cap pl (by omega) h h1 h4 hlen hl hna hr h8 hap (by rw [hll]; omega) (by rw [hll]; omega) (by omega) (by omega)).mono ?_
  rintro ed w' ⟨rfl, OO', hp, hg⟩
  rw [e0, if_pos rfl, DS.wr, if_pos e0] at hp
  exact ⟨by rw [e0]; rfl, OO', hp, hg⟩
theorem cread_hand (n : Nat) (NI : Int) (hNI : NI = (n : Int)) (x : Pge) (hx : x ∈ A) (hxn : x.n = n) (h : Pl w p d q S most A OO) (hcm : Calm S pages c) (hn : n < pages) :
    Calls Try.prog 47 #[.pointer (some ⟨p, 0, none⟩), .int .u32 NI] w fun ed w' => ∃ v OO', ed = .returned (.tuple #[.int .u8 (x.k : Int), v, .int .u16 0]) ∧ Fresh w w' OO' v x.pl ∧ Pl w' p d q S most (wo A n ++ [x]) OO' ∧ Go1 OO w OO' w' := by
  subst hNI hxn
  exact read_hand x (h.mo.2.2.2.2 x hx).1 h (by rw [hcm.len]; omega) hx
theorem cread_disk (n k : Nat) (NI : Int) (hNI : NI = (n : Int)) (pl : List Int) (hx : n ∉ A.map Pge.n) (h : Pl w p d q S most A OO) (hcm : Calm S pages c) (hc : c ≤ 10000) (hpg : pages ≤ 10000) (hn : n < pages) (ho : Pg.opn n (rd S (8 * n) 8) = some (k, pl)) :
    Calls Try.prog 47 #[.pointer (some ⟨p, 0, none⟩), .int .u32 NI] w fun ed w' => ∃ v OO', ed = .returned (.tuple #[.int .u8 (k : Int), v, .int .u16 0]) ∧ Fresh w w' OO' v pl ∧ Pl w' p d q S.op1 most (inn most A ⟨n, k, pl⟩) OO' ∧ Go1 OO w OO' w' := by
  subst hNI
  have hn1 := hcm.n1
  refine (read_disk n (by omega) h (by rw [hcm.len]; omega) hx (by omega) (hcm.er hcm.s1)).mono ?_
  rintro ed w' ⟨-, hy⟩
  exact hy k pl ho
theorem cread_form (n : Nat) (NI : Int) (hNI : NI = (n : Int)) (hx : n ∉ A.map Pge.n) (h : Pl w p d q S most A OO) (hcm : Calm S pages c) (hc : c ≤ 10000) (hpg : pages ≤ 10000) (hn : n < pages) (ho : Pg.opn n (rd S (8 * n) 8) = none) :
    Calls Try.prog 47 #[.pointer (some ⟨p, 0, none⟩), .int .u32 NI] w fun ed w' => ∃ OO', ed = .returned (.tuple #[.int .u8 0, .slice none 0 0, .int .u16 100]) ∧ Pl w' p d q S.op1 most A OO' ∧ Go1 OO w OO' w' := by
  subst hNI
  have hn1 := hcm.n1
  refine (read_disk n (by omega) h (by rw [hcm.len]; omega) hx (by omega) (hcm.er hcm.s1)).mono ?_
  rintro ed w' ⟨hno, -⟩
  exact hno ho
/-- what a call made, and stays. -/
theorem Fresh.go {w1 w2 : World} {P P' : Nat → Prop} {v : Value} {zs : List Int} (h : Fresh w w1 P v zs) (hg : Go1 P w1 P' w2) : Fresh w w2 P' v zs :=
  ⟨h.1.of_block fun k hk => hg.mv.block k (h.1.lt hk) (h.2 k hk).2, fun g hv => ⟨(h.2 g hv).1, fun hx => (hg.own g hx).elim (h.2 g hv).2 (fun hl => by have := h.1.lt hv; omega)⟩⟩
theorem Fresh.on {w1 w2 : World} {P : Nat → Prop} {v : Value} {zs : List Int} (h : Fresh w w1 P v zs) (hb : Below w1.heap.size w1 w2) : Fresh w w2 P v zs := h.go (Go1.of_below hb)
theorem text_own {v : Value} {zs : List Int} (a : Option Addr) (n cap : Nat) (hv : v = .slice a n cap) (h : Own w v zs) (h8 : Byts zs) : (convert 22 9 (.slice a n cap)).run Try.prog w = .ok (.string (bk zs)) w := by
  subst hv
  obtain ⟨a', c', e, h1, h2, h3, h4, _⟩ := h.shape
  cases e
  exact run_text w a zs.length cap zs rfl h3 h4 h8
end Go.Proofs.Ytpcckaahfaobeaa
