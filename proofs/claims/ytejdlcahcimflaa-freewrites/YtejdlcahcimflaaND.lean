/- Decode of a payload: its next page and its pages. -/
import Derived.Test.YtejdlcahcimflaaNE
import Derived.Deep.RegionHeld3
namespace Go.Proofs.Ytejdlcahcimflaa
open Go.RowKit Go.Maps
set_option linter.unusedVariables false
variable {w w' : World}
/-- so many words of nothing. -/
def zer (n : Nat) : Array Value := madeCells #[Value.int .u32 0] n
theorem zer_size (n : Nat) : (zer n).size = n * 1 := by rw [zer, size_madeCells, Nat.mul_one]
theorem makeWords (n : Nat) (hn : n ≤ 1000000) (W : World) : (Instr.makeSlice 22 (.int .i64 0) (.int .i64 (n : Int))).run Try.prog W = .ok (.slice (some ⟨W.heap.size, 0, none⟩) 0 n) (W.alloc (.cells (zer n) 32)) := by
  obtain ⟨i0, hi, hz0, hz1, hz2⟩ := info_parts infoU32
  have := run_make (P := Try.prog) W 22 32 i0 _ Try.underlying22 hi hz0 .i64 .i64 0 (n : Int) (by omega) (by omega) (by rw [hz2]; omega) (by omega)
  rw [hz1] at this
  simp only [Int.toNat_natCast, Value.cells, Nat.mul_one, Int.toNat_zero] at this
  exact this
theorem OwnW.same {v : Value} {zs : List Nat} (h : OwnW w v zs) (hs : Same w w') : OwnW w' v zs := by
  obtain ⟨h1, h2⟩ := h
  refine ⟨h1, ?_⟩
  rcases h2 with h2 | ⟨g, cap, cur, rfl, hg, hh, r⟩
  · exact .inl h2
  · exact .inr ⟨g, cap, cur, rfl, hg, by rw [hs.heap]; exact hh, r⟩
/-- how long a slice is. -/
def vlen : Value → Nat
  | .slice _ n _ => n
  | _ => 0
theorem drop_flat {zs : List Nat} {i : Nat} (h : i < zs.length) : (zs.drop i).flatMap le4 = le4 (zs.getD i 0) ++ (zs.drop (i + 1)).flatMap le4 := by
  rw [List.drop_eq_getElem_cons h, List.flatMap_cons, List.getD_eq_getElem?_getD, List.getElem?_eq_getElem h]; rfl
set_option maxHeartbeats 3200000 in
set_option maxRecDepth 1000000 in
theorem decode_ok (w : World) (a : Option Addr) (n c x : Nat) (zs : List Nat) (hx : x ≤ 4294967295) (hz : W32 zs) (hm : zs.length ≤ 251) (hn : n = 4 + 4 * zs.length) (hc : n ≤ c) (hr : Row w a (le4 x ++ zs.flatMap le4))
    (h1 : (rise zs && zs.all okp) = true) (h2 : x = 0 ∨ okp x = true) :
    Calls Try.prog 9 #[.slice a n c] w fun e w' => ∃ v, e = .returned (.tuple #[.int .u32 (x : Int), v, .int .u16 0]) ∧ OwnW w' v zs ∧ (∀ k, v.ownBlock = some k → w.heap.size ≤ k) ∧ Below w.heap.size w w' := by
  obtain ⟨m, hmm⟩ : ∃ m, m = zs.length := ⟨_, rfl⟩
  have hnb : n ≤ 1008 := by omega
  have hnl : 4 ≤ n := by omega
  have hn4 : (n : Int) % 4 = 0 := by omega
  have q1 : ((n : Int) % 4 != 0) = false := by rw [bne_eq_false_iff_eq]; exact hn4
  have HG := hide (fun W (hW : Same w W) => getNumber_row a n c x (zs.flatMap le4) hx hnl (hr.below hW.below))
  have HCut : Hid (Row w (if c = 4 then a else a.map (fun x => x.add 4)) (zs.flatMap le4)) := by
    have := Row.cut4 hr 4 c (by rw [List.length_append, le4_len, flat4_len]; omega)
    rw [List.drop_left' (le4_len x)] at this
    exact this
  obtain ⟨i0, hi, hz0, hz1, hz2⟩ := info_parts infoU32
  have HMm := hide hmm
  have HZ := hide hz
  rw [← hmm] at hm
  have hnm2 : n - 4 = 4 * m := by omega
  have hcm : 4 * m ≤ c - 4 := by omega
  have hmk := makeWords m (by omega)
  have hq2 : (4 * (m : Int)) / 4 = (m : Int) := by omega
  have HMy := hide (fun W => mayBe_any W x hx)
  have HH1 := hide h1
  have HH2 := hide h2
  clear hr hn4 hz hn hmm h1 h2
  by_cases hc4 : c = 4
  · have hz0' : zs = [] := List.eq_nil_of_length_eq_zero (by have := HMm.out; omega)
    obtain rfl : n = 4 := by omega
    subst hc4
    subst hz0'
    obtain rfl : m = 0 := by omega
    have hmk0 : ∀ W : World, (Instr.makeSlice 22 (.int .i64 0) (.int .i64 0)).run Try.prog W = .ok (.slice (some ⟨W.heap.size, 0, none⟩) 0 0) (W.alloc (.cells (zer 0) 32)) := hmk
    clear HMm hq2 hnm2 hcm hm hmk
    go_enter Try.func9, Try.ntmps9
    go_wp2
    go_region_held3 (fun W => True) (trivial) ((first | (go_at_call 25; refine (HG.out _ (Same.refl w).drew).mono ?_; rintro e w1 ⟨rfl, hs1⟩; have HS1 := hide ((Same.refl w).drew.trans hs1); clear hs1)))
    go_wp2
    have hs1 : w1.heap.size = w.heap.size := by rw [HS1.out.heap]
    have HO1 : Hid (OwnW (w1.alloc (.cells (zer 0) 32)) (.slice (some ⟨w1.heap.size, 0, none⟩) 0 0) []) := World.ownsRow_made w1 (zer 0) 0 (Nat.zero_le _) (by unfold maxLen; omega) (zer_size 0)
    have HB1 : Hid (Below w.heap.size w (w1.alloc (.cells (zer 0) 32))) := HS1.out.below.trans ((below_alloc w1 _).mono (by omega))
    have HSz := hide hs1
    clear hmk0 hs1
    go_loopw [6, 7] (fun r u wr => ∃ v : Value, r = .slice a 0 0 ∧ u = v ∧ OwnW wr v [] ∧ (∀ k, v.ownBlock = some k → w.heap.size ≤ k) ∧ Below w.heap.size w wr) (fun r _ _ => vlen r)
    case atStart =>
      refine ⟨_, rfl, rfl, HO1.out, fun k hk => ?_, HB1.out⟩
      have : w1.heap.size = k := by simpa [Value.ownBlock] using hk
      have := HSz.out
      omega
    case round =>
      obtain ⟨v, rfl, rfl, hown, hlow, hbel⟩ := hrel
      have HOw := hide hown
      have HLo := hide hlow
      have HBe := hide hbel
      obtain ⟨a2, c2, rfl, hc2, hm2, hrw2, -⟩ := HOw.out.shape
      have HIs := hide (isList_any wr a2 0 c2 [] rfl (by omega) hrw2 HZ.out)
      rw [HH1.out] at HIs
      clear hrw2 hown hlow hbel
      rcases HH2.out with hx0 | hx0
      · subst hx0
        go_wp2_with (go_at_call 19; refine HIs.out.mono ?_; rintro e w5 ⟨rfl, hs5⟩; have HS5 := hide hs5; clear hs5)
        go_ret3
        exact ⟨_, rfl, HOw.out.same HS5.out, HLo.out, HBe.out.trans (HS5.out.below.mono HBe.out.size)⟩
      · have hxn : ((x : Int) != 0) = true := by
          have h9 : 2 ≤ x := by unfold okp at hx0; simp only [Bool.and_eq_true, decide_eq_true_eq] at hx0; omega
          rw [bne_iff_ne]; omega
        have HMx := hide (fun W => HMy.out W)
        unfold okp at hx0
        rw [hx0] at HMx
        clear hx0
        go_wp2_with (first
          | (go_at_call 19; refine HIs.out.mono ?_; rintro e w5 ⟨rfl, hs5⟩; have HS5 := hide hs5; clear hs5)
          | (go_at_call 26; refine (HMx.out _).mono ?_; rintro e w6 ⟨rfl, hw6⟩; rw [hw6]; clear hw6))
        go_ret3
        exact ⟨_, rfl, HOw.out.same HS5.out, HLo.out, HBe.out.trans (HS5.out.below.mono HBe.out.size)⟩
  · rw [if_neg hc4] at HCut
    go_enter Try.func9, Try.ntmps9
    go_wp2
    go_region_held3 (fun W => True) (trivial) ((first | (go_at_call 25; refine (HG.out _ (Same.refl w).drew).mono ?_; rintro e w1 ⟨rfl, hs1⟩; have HS1 := hide ((Same.refl w).drew.trans hs1); clear hs1)))
    go_wp2
    have hs1 : w1.heap.size = w.heap.size := by rw [HS1.out.heap]
    have HO1 : Hid (OwnW (w1.alloc (.cells (zer m) 32)) (.slice (some ⟨w1.heap.size, 0, none⟩) 0 m) []) := World.ownsRow_made w1 (zer m) m (Nat.zero_le _) (by unfold maxLen; omega) (zer_size m)
    have HB1 : Hid (Below w.heap.size w (w1.alloc (.cells (zer m) 32))) := HS1.out.below.trans ((below_alloc w1 _).mono (by omega))
    have HSz := hide hs1
    clear hmk hs1
    go_loopw [6, 7] (fun r u wr => ∃ (i n1 c1 : Nat) (a1 : Option Addr) (v : Value), i ≤ m ∧ Hid (n1 = 4 * (m - i)) ∧ r = .slice a1 n1 c1 ∧ n1 ≤ c1 ∧ Row w a1 ((zs.drop i).flatMap le4) ∧ u = v ∧ OwnW wr v (zs.take i) ∧ (∀ k, v.ownBlock = some k → w.heap.size ≤ k) ∧ Below w.heap.size w wr) (fun r _ _ => vlen r)
    case atStart =>
      refine ⟨0, 4 * m, _, _, _, Nat.zero_le _, hide rfl, rfl, by omega, ?_, rfl, HO1.out, fun k hk => ?_, HB1.out⟩
      · have h := HCut.out
        rw [List.drop_zero]
        first | exact h | (simpa [Addr.add] using h)
      · have : w1.heap.size = k := by simpa [Value.ownBlock] using hk
        have := HSz.out
        omega
    case round =>
      obtain ⟨i, n1, c1, a1, v, him, hn1, rfl, hnc, hrow, rfl, hown, hlow, hbel⟩ := hrel
      have HOw := hide hown
      have HLo := hide hlow
      have HBe := hide hbel
      have HRo := hide hrow
      have HN1 := hn1
      have hn1 := HN1.out
      have hn1b : n1 ≤ 4000 := by omega
      by_cases hlt : i < m
      · have hil : i < zs.length := by have := HMm.out; omega
        have hn4 : 4 ≤ n1 := by omega
        have hpos : (0 : Int) < (n1 : Int) := by omega
        have HD := hide (drop_flat hil)
        have HGn := hide (getNumber_row a1 n1 c1 (zs.getD i 0) ((zs.drop (i + 1)).flatMap le4) (HZ.out.at i) hn4 (by rw [← HD.out]; exact HRo.out.below HBe.out))
        have HTk : Hid (zs.take (i + 1) = zs.take i ++ [zs.getD i 0]) := by rw [Hid, List.take_succ_eq_append_getElem hil, List.getD_eq_getElem?_getD, List.getElem?_eq_getElem hil]; rfl
        have HCt : Hid (Row w (if c1 = 4 then a1 else a1.map (fun x => x.add 4)) ((zs.drop (i + 1)).flatMap le4)) := by
          have h9 := Row.cut4 HRo.out 4 c1 (by rw [flat4_len, List.length_drop]; have := HMm.out; omega)
          rw [HD.out, List.drop_left' (le4_len _)] at h9
          exact h9
        clear hown hlow hbel hrow hn1
        have hpl : (zs.take i).length ≤ 251 := by rw [List.length_take]; omega
        generalize zs.getD i 0 = z at *
        generalize zs.take i = pre at *
        obtain ⟨a2, c2, rfl, -⟩ := HOw.out.shape
        have HPL := hide hpl
        clear hpl
        by_cases hc14 : c1 = 4
        · have HC14 : Hid (n1 = 4 ∧ c1 = 4) := ⟨by omega, hc14⟩
          obtain rfl : n1 = 4 := by omega
          subst hc14
          go_wp2_with (first
            | (go_at_call 25; refine HGn.out.mono ?_; rintro e w3 ⟨rfl, hs3⟩; have HS3 := hide hs3; have HO3 := hide (HOw.out.same hs3); clear hs3)
            | (at_builtin; refine wpList_append_own_at _ (by rfl) (.tmp 35) (.tmp 38) 22 (by rfl) 0 32 i0 (.int .u32 0) 1 4 Try.underlying22 hi hz0 hz1 hz2 rfl (by omega) (.slice a2 pre.length c2) pre.length (pre.map fun (z : Nat) => Value.int .u32 (z : Int)) (by rfl) (World.ownsRow.alloc HO3.out _) ⟨w3.heap.size, 0, none⟩ 1 1 [.int .u32 (z : Int)] (by rfl) (by rfl) (cell_one_new _ _ _) (fun u hu => by rw [List.mem_singleton.1 hu]; rfl) (by have := HPL.out; unfold maxLen; omega) (by have := HPL.out; omega) (Nat.zero_le _) ?_; intro v4 w4 h1 h2 h3 h4; have H1 := hide h1; have H2 := hide h2; have H4 := hide h4; clear h1 h2 h3 h4))
          have hb3 : Below w.heap.size w w3 := HBe.out.trans (HS3.out.below.mono HBe.out.size)
          go_roundw
          case rel =>
            refine ⟨i + 1, 0, 0, a1, v4, by omega, hide (by have := HN1.out; have := HC14.out; omega), ?_, by omega, .inl (by rw [List.drop_of_length_le (by have := HMm.out; have := HN1.out; have := HC14.out; omega)]; rfl), rfl, ?_, fun j hj => ?_, ?_⟩
            · first | rfl | (simp [Addr.add])
            · have := H1.out
              unfold OwnW
              rw [HTk.out, List.length_append, List.map_append, List.length_singleton]
              exact this
            · rcases H4.out with e | e
              · rw [e] at hj; exact HLo.out j hj
              · rw [e] at hj; cases hj; have := hb3.size; simp; omega
            · exact hb3.trans ((Mv.below (((Mv.refl (fun k => (Value.slice a2 pre.length c2).ownBlock = some k) w3).alloc _).grown H2.out (fun k hk => .inl hk)) hb3.size (fun k hk => HLo.out k hk)))
          case measure => simp only [vlen]; omega
        · go_wp2_with (first
            | (go_at_call 25; refine HGn.out.mono ?_; rintro e w3 ⟨rfl, hs3⟩; have HS3 := hide hs3; have HO3 := hide (HOw.out.same hs3); clear hs3)
            | (at_builtin; refine wpList_append_own_at _ (by rfl) (.tmp 35) (.tmp 38) 22 (by rfl) 0 32 i0 (.int .u32 0) 1 4 Try.underlying22 hi hz0 hz1 hz2 rfl (by omega) (.slice a2 pre.length c2) pre.length (pre.map fun (z : Nat) => Value.int .u32 (z : Int)) (by rfl) (World.ownsRow.alloc HO3.out _) ⟨w3.heap.size, 0, none⟩ 1 1 [.int .u32 (z : Int)] (by rfl) (by rfl) (cell_one_new _ _ _) (fun u hu => by rw [List.mem_singleton.1 hu]; rfl) (by have := HPL.out; unfold maxLen; omega) (by have := HPL.out; omega) (Nat.zero_le _) ?_; intro v4 w4 h1 h2 h3 h4; have H1 := hide h1; have H2 := hide h2; have H4 := hide h4; clear h1 h2 h3 h4))
          have hb3 : Below w.heap.size w w3 := HBe.out.trans (HS3.out.below.mono HBe.out.size)
          go_roundw
          case rel =>
            refine ⟨i + 1, n1 - 4, c1 - 4, _, v4, by omega, hide (by have := HN1.out; omega), rfl, by omega, ?_, rfl, ?_, fun j hj => ?_, ?_⟩
            · have h9 := HCt.out; rw [if_neg hc14] at h9; first | exact h9 | (simpa [Addr.add] using h9)
            · have := H1.out
              unfold OwnW
              rw [HTk.out, List.length_append, List.map_append, List.length_singleton]
              exact this
            · rcases H4.out with e | e
              · rw [e] at hj; exact HLo.out j hj
              · rw [e] at hj; cases hj; have := hb3.size; simp; omega
            · exact hb3.trans ((Mv.below (((Mv.refl (fun k => (Value.slice a2 pre.length c2).ownBlock = some k) w3).alloc _).grown H2.out (fun k hk => .inl hk)) hb3.size (fun k hk => HLo.out k hk)))
          case measure => simp only [vlen]; omega
      · obtain rfl : i = m := by omega
        have hn10 : n1 = 0 := by omega
        subst hn10
        rw [List.take_of_length_le (by have := HMm.out; omega)] at HOw
        clear hown hlow hbel hrow hn1
        obtain ⟨a2, c2, rfl, hc2, hm2, hrw2, -⟩ := HOw.out.shape
        have hzl : zs.length ≤ 251 := by have := HMm.out; omega
        have HIs := hide (isList_any wr a2 zs.length c2 zs rfl (by omega) hrw2 HZ.out)
        rw [HH1.out] at HIs
        clear hrw2
        generalize hzL : zs.length = L9 at *
        have HzL := hide hzL
        clear hzL
        rcases HH2.out with hx0 | hx0
        · subst hx0
          go_wp2_with (go_at_call 19; refine HIs.out.mono ?_; rintro e w5 ⟨rfl, hs5⟩; have HS5 := hide hs5; clear hs5)
          go_ret3
          exact ⟨_, rfl, HOw.out.same HS5.out, HLo.out, HBe.out.trans (HS5.out.below.mono HBe.out.size)⟩
        · have hxn : ((x : Int) != 0) = true := by
            have h9 : 2 ≤ x := by unfold okp at hx0; simp only [Bool.and_eq_true, decide_eq_true_eq] at hx0; omega
            rw [bne_iff_ne]; omega
          have HMx := hide (fun W => HMy.out W)
          unfold okp at hx0
          rw [hx0] at HMx
          clear hx0
          go_wp2_with (first
            | (go_at_call 19; refine HIs.out.mono ?_; rintro e w5 ⟨rfl, hs5⟩; have HS5 := hide hs5; clear hs5)
            | (go_at_call 26; refine (HMx.out _).mono ?_; rintro e w6 ⟨rfl, hw6⟩; rw [hw6]; clear hw6))
          go_ret3
          exact ⟨_, rfl, HOw.out.same HS5.out, HLo.out, HBe.out.trans (HS5.out.below.mono HBe.out.size)⟩
end Go.Proofs.Ytejdlcahcimflaa
