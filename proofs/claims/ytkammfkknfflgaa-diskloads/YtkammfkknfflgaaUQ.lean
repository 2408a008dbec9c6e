/- The walk of DiskLoads. -/
import Derived.Test.YtkammfkknfflgaaUO
import Derived.Test.YtkammfkknfflgaaMV
import Derived.Test.YtkammfkknfflgaaDU
namespace Go.Proofs.Ytkammfkknfflgaa
open Go.RowKit
set_option linter.unusedVariables false
/-- what both Loads answer. -/
theorem loads_both (zs : List Int) (n : Nat) (hl : zs.length = n) (hby : Byts zs) (hn : n ≤ 20000000) (hbig : n ≤ 2000000 ∨ 16777216 < n) :
    (∃ (pg : Nat) (S : DS), 1 ≤ pg ∧ pg ≤ 1953 ∧ n = 1024 * pg ∧ Bd S (8 * pg) 0 ∧ S.ls.flatten = zs ∧
      (∀ W a cap, Row W a zs → n ≤ cap → cap ≤ 9223372036854775807 → Calls Try.prog 11 #[.slice a n cap] W fun e w' => ∃ O p q, e = .returned (.tuple #[.pointer (some ⟨p, 0, none⟩), .int .u16 0]) ∧ DkAt w' p q S O ∧ (∀ k, O k → W.heap.size ≤ k) ∧ Below W.heap.size W w') ∧
      (∀ W a cap, Row W a zs → n ≤ cap → cap ≤ 9223372036854775807 → Calls Try.prog 12 #[.slice a n cap] W fun e w' => ∃ O r, e = .returned (.tuple #[.pointer (some ⟨r, 0, none⟩), .int .u16 0]) ∧ RdAt w' r S O ∧ (∀ k, O k → W.heap.size ≤ k) ∧ Below W.heap.size W w')) ∨
    ((∀ W a cap, Calls Try.prog 11 #[.slice a n cap] W fun e w' => e = .returned (.tuple #[.pointer none, .int .u16 70]) ∧ Below W.heap.size W w') ∧
     (∀ W a cap, Calls Try.prog 12 #[.slice a n cap] W fun e w' => e = .returned (.tuple #[.pointer none, .int .u16 70]) ∧ w' = W)) := by
  by_cases hok : 1 ≤ n ∧ n % 1024 = 0 ∧ n ≤ 2000000
  · left
    obtain ⟨pg, hpg⟩ : ∃ pg, n = 1024 * pg := ⟨n / 1024, by omega⟩
    have h1 : 1 ≤ pg := by omega
    have h2 : pg ≤ 1953 := by omega
    subst hpg
    refine ⟨pg, DS.of ((List.range (8 * pg)).map (sec zs)), h1, h2, rfl, ⟨by simp [DS.of], by omega, by simp [DS.of], by simp [DS.of], by simp [DS.of], by simp [DS.of]⟩, ?_, ?_, ?_⟩
    · show ((List.range (8 * pg)).map (sec zs)).flatten = zs
      have key : ∀ k, k * 128 ≤ zs.length → ((List.range k).map (sec zs)).flatten = zs.take (k * 128) := by
        intro k
        induction k with
        | zero => intro _; simp
        | succ k ih =>
          intro hk
          rw [List.range_succ, List.map_append, List.flatten_append, ih (by omega)]
          simp only [List.map_cons, List.map_nil, List.flatten_cons, List.flatten_nil, List.append_nil, sec]
          rw [Nat.add_mul, Nat.one_mul, List.take_add]
      rw [key (8 * pg) (by omega), List.take_of_length_le (by omega)]
    · intro W a cap hr hc hm
      rcases hr with h0 | ⟨b, off, rfl, hb, hc2⟩
      · rw [h0] at hl; simp at hl; omega
      refine (load_any pg b off cap zs W h1 (by omega) hl (.inr ⟨b, off, rfl, hb, hc2⟩) hby hc hm).mono ?_
      rintro e w' ⟨O, p, q, rfl, hd, hf⟩
      rw [← load_of] at hd
      exact ⟨O, p, q, rfl, hd, hf.own, hf.below⟩
    · intro W a cap hr hc hm
      rcases hr with h0 | ⟨b, off, rfl, hb, hc2⟩
      · rw [h0] at hl; simp at hl; omega
      refine (rload_any pg b off cap zs W h1 (by omega) (.inr ⟨b, off, rfl, hb, hc2⟩) hl hby hc hm).mono ?_
      rintro e w' ⟨p, f, vl, Ls, rfl, hd, hf, hbl⟩
      exact ⟨_, p, rfl, ⟨vl, Ls, _, _, f, hd, fun k => Iff.rfl⟩, hf, hbl⟩
  · right
    have hbad : n = 0 ∨ n % 1024 ≠ 0 ∨ 16777216 < n := by omega
    exact ⟨fun W a cap => load_no a n cap W hbad (by omega), fun W a cap => rload_no a n cap W hbad (by omega)⟩
theorem below_tr {a b c : World} (h : Below a.heap.size a b) (k : Below b.heap.size b c) : Below a.heap.size a c := ⟨k.os.trans h.os, k.tape.trans h.tape, k.output.trans h.output, Nat.le_trans h.size k.size, fun i hi => (k.block i (Nat.lt_of_lt_of_le hi h.size)).trans (h.block i hi)⟩
theorem grow_mv {w w' : World} {g : Nat} (h : w.grownBy w' (some g)) : Mv (· = g) w w' := ⟨h.os, h.tape, h.output, h.size, fun k hk hne => h.block k hk (fun e => hne (by cases e; rfl))⟩
theorem row_of {w : World} {g l cc : Nat} {zs : List Int} (h : Own w (.slice (some ⟨g, 0, none⟩) l cc) zs) : Row w (some ⟨g, 0, none⟩) zs := by
  obtain ⟨a, c, e, -, -, -, hr, -⟩ := h.shape
  have e1 : some (⟨g, 0, none⟩ : Addr) = a := by injection e
  rw [e1]
  exact hr
theorem pr_new {w w7 : World} {p q r : Nat} {S : DS} {O O2 : Nat → Prop} (hd : DkAt w7 p q S O) (hr : RdAt w7 r S O2) (hdr : ∀ k, O k → ¬ O2 k) (hlo : (∀ k, O k → w.heap.size ≤ k) ∧ ∀ k, O2 k → w.heap.size ≤ k) (hb : Below w.heap.size w w7) :
    Pr w.heap.size w ((w7.alloc (.cells #[.slice none 0 0, .slice none 0 0, .slice none 0 0, .slice none 0 0, .slice none 0 0, .slice none 0 0, .slice none 0 0, .slice none 0 0, .slice none 0 0, .slice none 0 0, .slice none 0 0, .slice none 0 0, .slice none 0 0, .slice none 0 0, .slice none 0 0, .slice none 0 0, .slice none 0 0, .slice none 0 0, .slice none 0 0, .slice none 0 0, .slice none 0 0, .slice none 0 0, .slice none 0 0] 59)).alloc (.cells #[.pointer (some ⟨p, 0, none⟩), .pointer (some ⟨r, 0, none⟩), .pointer (some ⟨w7.heap.size, 0, none⟩)] 61)) (w7.heap.size + 1) p q r w7.heap.size 0 0 S S O O2 (· = w7.heap.size) := by
  have b1 := below_alloc w7 (.cells #[.slice none 0 0, .slice none 0 0, .slice none 0 0, .slice none 0 0, .slice none 0 0, .slice none 0 0, .slice none 0 0, .slice none 0 0, .slice none 0 0, .slice none 0 0, .slice none 0 0, .slice none 0 0, .slice none 0 0, .slice none 0 0, .slice none 0 0, .slice none 0 0, .slice none 0 0, .slice none 0 0, .slice none 0 0, .slice none 0 0, .slice none 0 0, .slice none 0 0, .slice none 0 0] 59)
  have b2 := below_alloc (w7.alloc (.cells #[.slice none 0 0, .slice none 0 0, .slice none 0 0, .slice none 0 0, .slice none 0 0, .slice none 0 0, .slice none 0 0, .slice none 0 0, .slice none 0 0, .slice none 0 0, .slice none 0 0, .slice none 0 0, .slice none 0 0, .slice none 0 0, .slice none 0 0, .slice none 0 0, .slice none 0 0, .slice none 0 0, .slice none 0 0, .slice none 0 0, .slice none 0 0, .slice none 0 0, .slice none 0 0] 59)) (.cells #[.pointer (some ⟨p, 0, none⟩), .pointer (some ⟨r, 0, none⟩), .pointer (some ⟨w7.heap.size, 0, none⟩)] 61)
  have hsz := hb.size
  refine ⟨?_, (hd.below b1).below b2, (hr.below b1).below b2, (bk_new w7).other (O1 := fun _ => False) ⟨b2.os, b2.tape, b2.output, b2.size, fun k hk _ => b2.block k hk⟩ (fun _ _ e => e), hdr, fun k e1 e2 => by have := hd.lt k e1; omega, fun k e1 e2 => by have := hr.lt k e1; omega, fun e => by have := hd.lt _ e; omega, fun e => by have := hr.lt _ e; omega, fun e => by omega, ⟨by omega, hlo.1, hlo.2, fun k e => by omega⟩, ?_⟩
  · have := heap_alloc_new (w7.alloc (.cells #[.slice none 0 0, .slice none 0 0, .slice none 0 0, .slice none 0 0, .slice none 0 0, .slice none 0 0, .slice none 0 0, .slice none 0 0, .slice none 0 0, .slice none 0 0, .slice none 0 0, .slice none 0 0, .slice none 0 0, .slice none 0 0, .slice none 0 0, .slice none 0 0, .slice none 0 0, .slice none 0 0, .slice none 0 0, .slice none 0 0, .slice none 0 0, .slice none 0 0, .slice none 0 0] 59)) (.cells #[.pointer (some ⟨p, 0, none⟩), .pointer (some ⟨r, 0, none⟩), .pointer (some ⟨w7.heap.size, 0, none⟩)] 61)
    rwa [size_al] at this
  · exact below_tr (below_tr hb b1) b2
set_option maxHeartbeats 6400000 in
set_option maxRecDepth 1000000 in
theorem walk (a : Option Addr) (n c : Nat) (zs : List Int) (a1 : Option Addr) (N c1 : Nat) (xs : List Ac) (w : World) (h : Inn w a n c zs) (ha : Acs w a1 N c1 xs) (hs : Sza xs) :
    Calls Try.prog 4 #[.slice a n c, .slice a1 N c1] w fun e w' => e = .returned (.bool true) ∧ Below w.heap.size w w' := by
  have HI := hide h
  have HA := hide ha
  have HSz := hide hs
  have hnn : n ≤ 9223372036854775807 := by have := h.cap; have := h.max; omega
  have hNN : N ≤ 140737488355328 := by have := hs.1; rwa [ha.len] at this
  clear h ha hs
  go_enter Try.func4, Try.ntmps4
  go_wp2_with fail
  refine (known_any w).mono ?_
  rintro e w1 ⟨rfl, hb1⟩
  have HB1 := hide hb1
  clear hb1
  by_cases hout : (2000000 < n ∧ n ≤ 16777216) ∨ 20000000 < n
  · have d1 : (2000000 : Int) < (n : Int) := by omega
    by_cases h2 : n ≤ 16777216
    · have d2 : (n : Int) ≤ 16777216 := by omega
      clear hout h2
      go_wp2
      go_ret
      exact ⟨rfl, HB1.out⟩
    · have d2 : ¬ (n : Int) ≤ 16777216 := by omega
      have d4 : (16777216 : Int) < (n : Int) := by omega
      have d3 : (20000000 : Int) < (n : Int) := by omega
      clear hout h2
      go_wp2
      go_ret
      exact ⟨rfl, HB1.out⟩
  · have hn20 : n ≤ 20000000 := by omega
    have hn2 : n ≤ 2000000 ∨ 16777216 < n := by omega
    have d1 : ¬ (20000000 : Int) < (n : Int) := by omega
    have d2 : ¬ ((2000000 : Int) < (n : Int) ∧ (n : Int) ≤ 16777216) := by omega
    have HLB := hide (loads_both zs n HI.out.len HI.out.byts hn20 hn2)
    have HI1 := hide (HI.out.below HB1.out)
    have HLe := hide (Le.lent_any a n c zs w1 HI1.out.len (by omega) HI1.out.bare HI1.out.row)
    obtain ⟨HN2, HN20⟩ : Hid (n ≤ 2000000 ∨ 16777216 < n) ∧ Hid (n ≤ 20000000) := ⟨hide hn2, hide hn20⟩
    have hd : (2000000 : Int) < (n : Int) ∧ ¬ (n : Int) ≤ 16777216 ∨ ¬ (2000000 : Int) < (n : Int) := by omega
    clear hout d2 hn2
    rcases hd with ⟨g1, g2⟩ | g1
    · have g3 : (16777216 : Int) < (n : Int) := by omega
      go_wp2_with fail
      refine HLe.out.mono ?_
      rintro e w2 ⟨rfl, ho2, hb2⟩
      have HB2 := hide (below_tr HB1.out hb2)
      have HI2 := hide (HI.out.below HB2.out)
      have HGe : Hid (w.heap.size ≤ w1.heap.size ∧ w1.heap.size < w2.heap.size) := hide ⟨HB1.out.size, ho2.lt rfl⟩
      generalize hg : w1.heap.size = g at ho2 HGe ⊢
      have HO2 := hide ho2
      clear ho2 hb2 hg HLe HI1
      rcases HLB.out with ⟨pg, S, h1, h2, hnp, hbd, hfl, hdl, hrl⟩ | ⟨hdl, hrl⟩
      · exfalso
        omega
      · have HDL := hide hdl
        have HRL := hide hrl
        clear hdl hrl HLB
        go_wp2_with fail
        refine (HDL.out w2 _ _).mono ?_
        rintro e w3 ⟨rfl, hb3⟩
        have HB3 := hide (below_tr HB2.out hb3)
        have HO3 := hide (HO2.out.on hb3)
        have HI3 := hide (HI.out.below HB3.out)
        clear hb3
        go_wp2_with fail
        refine (HRL.out w3 _ _).mono ?_
        rintro e w4 ⟨rfl, hw4⟩
        cases hw4
        go_wp2_with fail
        refine (Le.whole_any g a n c zs w3 HI3.out.len (by omega) (row_of HO3.out) HI3.out.row).mono ?_
        rintro e w5 ⟨rfl, hb5⟩
        have HB5 := hide (below_tr HB3.out hb5)
        have HO5 := hide (HO3.out.on hb5)
        clear hb5
        go_wp2_with fail
        refine (Le.spoil_any g n (n + 2) w5 (Le.own_blk HO5.out) (by omega) (by omega)).mono ?_
        rintro e w6 ⟨rfl, hg6⟩
        have HB6 := hide (mv_bel HB5.out (grow_mv hg6) HB5.out.size (fun k e => by subst e; exact HGe.out.1))
        clear hg6
        go_wp2
        go_ret
        exact ⟨rfl, HB6.out⟩
    · go_wp2_with fail
      refine HLe.out.mono ?_
      rintro e w2 ⟨rfl, ho2, hb2⟩
      have HB2 := hide (below_tr HB1.out hb2)
      have HI2 := hide (HI.out.below HB2.out)
      have HGe : Hid (w.heap.size ≤ w1.heap.size ∧ w1.heap.size < w2.heap.size) := hide ⟨HB1.out.size, ho2.lt rfl⟩
      generalize hg : w1.heap.size = g at ho2 HGe ⊢
      have HO2 := hide ho2
      clear ho2 hb2 hg HLe HI1
      rcases HLB.out with ⟨pg, S, h1, h2, hnp, hbd, hfl, hdl, hrl⟩ | ⟨hdl, hrl⟩
      · have HDL := hide hdl
        have HRL := hide hrl
        have HBD := hide hbd
        have HFL := hide hfl
        have HNP := hide hnp
        clear hdl hrl hbd hfl hnp HLB
        go_wp2_with fail
        refine (HDL.out w2 _ _ (Le.row_left (row_of HO2.out)) (by omega) (by omega)).mono ?_
        rintro e w3 ⟨O, p, q, rfl, hd3, ho3, hb3⟩
        have HD3 := hide hd3
        have HOo := hide ho3
        have HB3 := hide (below_tr HB2.out hb3)
        have HS3 := hide hb3.size
        have HO3 := hide (HO2.out.on hb3)
        have HI3 := hide (HI.out.below HB3.out)
        clear hd3 ho3 hb3
        go_wp2_with fail
        refine (HRL.out w3 _ _ HI3.out.row HI3.out.cap HI3.out.max).mono ?_
        rintro e w4 ⟨O2, r, rfl, hr4, ho4, hb4⟩
        have HR4 := hide hr4
        have HOr := hide ho4
        have HD4 := hide (HD3.out.below hb4)
        have HB4 := hide (below_tr HB3.out hb4)
        have HO4 := hide (HO3.out.on hb4)
        have HI4 := hide (HI.out.below HB4.out)
        have HDr : Hid (∀ k, O k → ¬ O2 k) := hide (fun k e1 e2 => by have := HD3.out.lt k e1; have := HOr.out k e2; omega)
        clear hr4 ho4 hb4
        go_wp2_with fail
        refine (Le.whole_any g a n c zs w4 HI4.out.len (by omega) (row_of HO4.out) HI4.out.row).mono ?_
        rintro e w5 ⟨rfl, hb5⟩
        have HD5 := hide (HD4.out.below hb5)
        have HR5 := hide (HR4.out.below hb5)
        have HB5 := hide (below_tr HB4.out hb5)
        have HO5 := hide (HO4.out.on hb5)
        clear hb5
        go_wp2_with fail
        refine (Le.spoil_any g n (n + 2) w5 (Le.own_blk HO5.out) (by omega) (by omega)).mono ?_
        rintro e w6 ⟨rfl, hg6⟩
        have HD6 := hide (HD5.out.other (grow_mv hg6) (fun k e1 e2 => by subst e2; have h1 := HOo.out _ e1; have h2 := HGe.out.2; omega))
        have HR6 := hide (HR5.out.other (grow_mv hg6) (fun k e1 e2 => by subst e2; have h1 := HOr.out _ e1; have h2 := HGe.out.2; have h3 := HS3.out; omega))
        have HB6 : Hid (Below w.heap.size w w6) := hide (mv_bel HB5.out (grow_mv hg6) HB5.out.size (fun k e => by subst e; exact HGe.out.1))
        have HLo : Hid ((∀ k, O k → w.heap.size ≤ k) ∧ ∀ k, O2 k → w.heap.size ≤ k) := hide ⟨fun k e => Nat.le_trans HB2.out.size (HOo.out k e), fun k e => Nat.le_trans HB3.out.size (HOr.out k e)⟩
        clear hg6
        by_cases h40 : 40 < N
        · have d40 : (40 : Int) < (N : Int) := by omega
          go_wp2
          go_ret
          exact ⟨rfl, HB6.out⟩
        · have d40 : ¬ (40 : Int) < (N : Int) := by omega
          have HMU := hide (much_any a1 N c1 xs w6 (HA.out.below HB6.out) HSz.out pg (by omega))
          have hq : (n : Int) / 1024 = (pg : Int) := by have := HNP.out; omega
          have hq2 : Int.tdiv (n : Int) 1024 = (pg : Int) := by rw [Int.tdiv_eq_ediv_of_nonneg (by omega)]; exact hq
          have hw : IntKind.i64.wrap (pg : Int) = (pg : Int) := by rw [IntKind.wrap_i64]; omega
          go_wp2_with fail
          refine HMU.out.mono ?_
          rintro e w7 ⟨hmo, hb7⟩
          have HB7 := hide (below_tr HB6.out hb7)
          have HD7 := hide (HD6.out.below hb7)
          have HR7 := hide (HR6.out.below hb7)
          clear hb7
          rcases hmo with rfl | ⟨rfl, hxs⟩
          · go_wp2
            go_ret
            exact ⟨rfl, HB7.out⟩
          · have HXS := hide hxs
            clear hxs
            go_wp2_with fail
            have HP8 := hide (pr_new HD7.out HR7.out HDr.out HLo.out HB7.out)
            refine (image_any p q O S _ HP8.out.d).mono ?_
            rintro e w9 ⟨v1, rfl, ho9, hn9, hb9⟩
            rw [HFL.out] at ho9
            have HP9 := hide (HP8.out.below hb9)
            obtain ⟨a9, l9, c9, rfl, HL9⟩ := ho9.shape2
            have HO9 := hide ho9
            have HA9 := hide (HP8.out.new (w := w9) hb9.size hn9 (fun k hk => ho9.lt hk))
            have HZL : Hid (zs.length ≤ 20000000) := hide (by rw [HI.out.len]; exact HN20.out)
            have cb2 := HP9.out.c2
            clear ho9 hn9 hb9
            go_wp2_with fail
            refine (bk_bytes w7.heap.size 0 0 _ w9 HP9.out.b a9 l9 c9 zs HO9.out HL9.out.symm (fun k hk => (HA9.out k hk).2.2.2.2.2) (Nat.le_trans HZL.out (by omega)) (by omega)).mono ?_
            rintro e w10 ⟨rfl, OB', hd10, hm10, hg10⟩
            have HP10 := hide (HP9.out.moveB HA9.out hd10 hm10 hg10)
            have HR10 := hide (HO9.out.of_block fun k hk => hm10.block k (HA9.out k hk).1 (HA9.out k hk).2.2.2.2.2)
            clear hd10 hm10 hg10 cb2
            obtain ⟨a9', c9', e9, -, -, -, hr9, -⟩ := HR10.out.shape
            have ea : a9 = a9' := by injection e9
            have HI10 := hide (HI.out.below HP10.out.bel)
            rw [← ea] at hr9
            have HSB := hide (sameb_any a9 a l9 n c9 c zs zs w10 HL9.out.symm HI10.out.len (by have h1 := HZL.out; have h2 := HL9.out; omega) (by omega) hr9 HI10.out.row)
            rw [show sameB zs zs = true from sameB_self _] at HSB
            clear e9 ea hr9
            go_wp2_with fail
            refine HSB.out.mono ?_
            rintro e w11 ⟨rfl, hb11⟩
            have HP11 := hide (HP10.out.below hb11)
            clear hb11
            have HPY := hide (plays_any a1 N c1 xs w w11 (w7.heap.size + 1) p q r w7.heap.size (8 * pg) ⟨S, O, O2, OB', 1, 0, HP11.out, HBD.out, by omega, by omega⟩ HA.out (by omega) HXS.out)
            go_wp2_with fail
            refine HPY.out.mono ?_
            rintro e w12 ⟨rfl, hb12⟩
            have HB12 := hide hb12
            clear hb12
            go_wp2
            go_ret
            exact ⟨rfl, HB12.out⟩
      · have HDL := hide hdl
        have HRL := hide hrl
        clear hdl hrl HLB
        go_wp2_with fail
        refine (HDL.out w2 _ _).mono ?_
        rintro e w3 ⟨rfl, hb3⟩
        have HB3 := hide (below_tr HB2.out hb3)
        have HO3 := hide (HO2.out.on hb3)
        have HI3 := hide (HI.out.below HB3.out)
        clear hb3
        go_wp2_with fail
        refine (HRL.out w3 _ _).mono ?_
        rintro e w4 ⟨rfl, hw4⟩
        cases hw4
        go_wp2_with fail
        refine (Le.whole_any g a n c zs w3 HI3.out.len (by omega) (row_of HO3.out) HI3.out.row).mono ?_
        rintro e w5 ⟨rfl, hb5⟩
        have HB5 := hide (below_tr HB3.out hb5)
        have HO5 := hide (HO3.out.on hb5)
        clear hb5
        go_wp2_with fail
        refine (Le.spoil_any g n (n + 2) w5 (Le.own_blk HO5.out) (by omega) (by omega)).mono ?_
        rintro e w6 ⟨rfl, hg6⟩
        have HB6 := hide (mv_bel HB5.out (grow_mv hg6) HB5.out.size (fun k e => by subst e; exact HGe.out.1))
        clear hg6
        go_wp2
        go_ret
        exact ⟨rfl, HB6.out⟩
end Go.Proofs.Ytkammfkknfflgaa
