/- The walk of OverBack. -/
import Derived.Test.YtpcckaahfaobeaaOW
import Derived.Test.YtpcckaahfaobeaaOG
import Derived.Test.YtpcckaahfaobeaaFQ
import Derived.Deep.RegionHeld3
namespace Go.Proofs.Ytpcckaahfaobeaa
open Go.RowKit Go.Maps
set_option linter.unusedVariables false
variable {w w' : World}
set_option maxHeartbeats 1600000 in
set_option maxRecDepth 1000000 in
theorem samew_eq (w : World) (a b : Option Addr) (n c d : Nat) (zs : List Nat) (hl : zs.length = n) (hn : n ≤ 1000000) (h1 : Rw w a zs) (h2 : Rw w b zs) :
    Calls Try.prog 12 #[.slice a n c, .slice b n d] w fun e w' => e = .returned (.bool true) ∧ Same w w' := by
  have HL := hide hl
  have H1 := hide h1
  have H2 := hide h2
  have hnb : ((n : Int) != (n : Int)) = false := by simp
  clear hl h1 h2
  go_enter Try.func12, Try.ntmps12
  go_wp2
  go_loopw [5] (fun i wr => ∃ k : Nat, k ≤ n ∧ i = .int .i64 k ∧ Same w wr) (fun i _ => n - (intOf i).toNat)
  case atStart => exact ⟨0, Nat.zero_le _, rfl, Same.refl _⟩
  case round =>
    obtain ⟨k, hk, rfl, hs⟩ := hrel
    have HS := hide hs
    clear hs
    by_cases hlt : k < n
    · have hlk : k < zs.length := by have := HL.out; omega
      rcases H1.out.below HS.out.below with h0 | ⟨b1, o1, rfl, _, hc1⟩
      · subst h0; simp at hlk
      rcases H2.out.below HS.out.below with h0 | ⟨b2, o2, rfl, _, hc2⟩
      · subst h0; simp at hlk
      have g1 := hc1 k hlk
      have g2 := hc2 k hlk
      clear hc1 hc2
      generalize zs.getD k 0 = z at *
      have hbn : ((z : Int) != (z : Int)) = false := by simp
      go_wp2
      go_quiet (fail)
      go_wp2
      go_roundw
      case rel => exact ⟨k + 1, by omega, by go_num, HS.out.drewN _⟩
      case measure => simp [intOf]; omega
    · go_wp2
      go_ret
      exact ⟨rfl, HS.out⟩

/-- the pages, one behind the other. -/
def kq (f s : Nat) : Nat → Nat
  | 0 => f % 29
  | i + 1 => (kq f s i + s) % 29
theorem kq_is (f s i : Nat) : kq f s i = (f + i * s) % 29 := by
  induction i with
  | zero => simp [kq]
  | succ i ih =>
    rw [kq, ih, Nat.succ_mul, ← Nat.add_assoc]
    omega
theorem prime29 : ∀ d, d < 9 → ∀ s, s < 29 → 1 ≤ d → 1 ≤ s → (d * s) % 29 ≠ 0 := by decide
theorem kq_ne (f s i j : Nat) (hs : 1 ≤ s ∧ s ≤ 28) (hij : i < j) (hj : j < 9) : kq f s i ≠ kq f s j := by
  rw [kq_is, kq_is]
  intro e
  have h := prime29 (j - i) (by omega) s (by omega) (by omega) hs.1
  have e2 : j * s = i * s + (j - i) * s := by rw [← Nat.add_mul]; congr 1; omega
  rw [e2] at e
  apply h
  omega
/-- the pages' numbers. -/
def yq (f s : Nat) (i : Nat) : List Nat := (List.range i).map fun j => 2 + kq f s j
theorem yq_len (f s i : Nat) : (yq f s i).length = i := by simp [yq]
theorem yq_succ (f s i : Nat) : yq f s (i + 1) = yq f s i ++ [2 + kq f s i] := by simp [yq, List.range_succ]
theorem yq_at (f s i j : Nat) (h : j < i) : (yq f s i).getD j 0 = 2 + kq f s j := by simp [yq, List.getD_eq_getElem?_getD, h]
theorem kq_lt (f s i : Nat) : kq f s i < 29 := by rw [kq_is]; omega
theorem yq_ok (f s i : Nat) : (yq f s i).all okp = true := by
  rw [all_at]
  intro j hj
  rw [yq_len] at hj
  rw [yq_at _ _ _ _ hj]
  have := kq_lt f s j
  simp [okp]; omega
theorem Ro.at {v : Value} {B : Nat} {vs : List Value} {L : Nat → List Int} (h : Ro w v B vs L) {j : Nat} (hj : j < vs.length) (h0 : L j ≠ []) : ∃ g cap b c, v = .slice (some ⟨g, 0, none⟩) vs.length cap ∧ w.cell? ⟨g, j, none⟩ = some (.slice (some ⟨b, 0, none⟩) (L j).length c) ∧ (L j).length ≤ c ∧ c ≤ maxLen ∧ Row w (some ⟨b, 0, none⟩) (L j) ∧ B ≤ b ∧ (vs.getD j nilv).ownBlock = some b := by
  rcases h.row.2 with ⟨_, h0⟩ | ⟨g, cap, cur, rfl, _, hg, _⟩
  · omega
  · obtain ⟨a, c, e, hc, hcm, hn, hrow, _⟩ := (h.own j hj).shape
    have hcell : w.cell? ⟨g, j, none⟩ = some (.slice a (L j).length c) := by
      have := World.ownsRow.cells h.row (g := g) rfl j (.slice a (L j).length c) (by rw [← e, List.getD_eq_getElem?_getD, List.getElem?_eq_getElem hj]; rfl)
      rwa [Addr.add_lit, Nat.zero_add] at this
    have hob : ∃ b, (vs.getD j nilv).ownBlock = some b ∧ a = some ⟨b, 0, none⟩ := by
      rcases (h.own j hj).2 with ⟨e0, h00⟩ | ⟨b, cap2, cur2, e2, _⟩
      · exact absurd (List.eq_nil_of_length_eq_zero h00) h0
      · rw [e] at e2
        cases e2
        exact ⟨b, by rw [e]; rfl, rfl⟩
    obtain ⟨b, hb1, rfl⟩ := hob
    exact ⟨g, cap, b, c, rfl, hcell, hc, hcm, hrow, (h.low j b hj hb1).1, hb1⟩
theorem pay_len (zs : List Int) (ys : List Nat) (j : Nat) : 4 ≤ (pay zs ys j).length ∧ (pay zs ys j).length ≤ 1008 := by
  rw [pay, List.length_append, le4_len, List.length_take]; omega
theorem pay_byts {zs : List Int} {ys : List Nat} (h : Byts zs) (hy : W32 ys) (j : Nat) : Byts (pay zs ys j) := by
  intro c hc
  rw [pay, List.mem_append] at hc
  rcases hc with hc | hc
  · have := hy.at (j + 1)
    simp only [le4, List.mem_cons, List.not_mem_nil, or_false] at hc
    rcases hc with rfl | rfl | rfl | rfl <;> omega
  · exact h c (List.mem_of_mem_drop (List.mem_of_mem_take hc))
set_option maxHeartbeats 1600000 in
set_option maxRecDepth 1000000 in
theorem back_walk (a : Option Addr) (n c : Nat) (zs : List Int) (F G : Nat) (w : World) (h : Inn w a n c zs) (hF : F < 256) (hG : G < 256) :
    Calls Try.prog 3 #[.slice a n c, .int .u8 (F : Int), .int .u8 (G : Int)] w fun e w' => e = .returned (.bool true) ∧ Below w.heap.size w w' := by
  have H := hide h
  have hmax := h.max
  have hcap := h.cap
  clear h
  by_cases hl : n ≤ 40000
  rotate_left
  · have d1 : (40000 : Int) < (n : Int) := by omega
    go_enter Try.func3, Try.ntmps3
    go_wp2_with (go_at_call 4; refine (known_any _).mono ?_; rintro e w1 ⟨rfl, hb1⟩)
    go_ret
    exact ⟨rfl, hb1⟩
  · have d1 : ¬ (40000 : Int) < (n : Int) := by omega
    go_enter Try.func3, Try.ntmps3
    go_wp2_with fail
    refine (known_any _).mono ?_
    rintro e w1 ⟨rfl, hb1⟩
    have HB1 := hide hb1
    clear hb1
    go_wp2_with fail
    refine (need_any w1 n (by omega)).mono ?_
    rintro e w2 ⟨rfl, rfl⟩
    by_cases h0 : need n = 0
    · have hn0 : n ≤ 64 ∨ 8192 < n := by unfold need at h0; split at h0 <;> omega
      rw [h0]
      rcases hn0 with hn0 | hn0
      · have d2 : (n : Int) < 65 := by omega
        go_wp2
        go_ret
        exact ⟨rfl, HB1.out⟩
      · have d2 : ¬ (n : Int) < 65 := by omega
        have d3 : (8192 : Int) < (n : Int) := by omega
        go_wp2
        go_ret
        exact ⟨rfl, HB1.out⟩
    · obtain ⟨hn1, hn2, hn3⟩ := need_pos (n := n) (by omega)
      obtain ⟨m, hm⟩ : ∃ m, m = need n := ⟨_, rfl⟩
      rw [← hm] at h0 hn3 ⊢
      have hm9 : 1 ≤ m ∧ m ≤ 9 := by omega
      have d2 : ((m : Int) == 0) = false := by simp; omega
      have HM := hide hm
      have HMn := hide hn3
      clear hm hn3 h0
      go_wp2_with fail
      refine (new_at 31 31 w2 rfl (by omega) (by omega)).mono ?_
      rintro e w3 ⟨O3, d, q, rfl, hd3, hf3⟩
      have HD3 := hide hd3
      have HF3 := hide hf3
      clear hd3 hf3
      go_wp2_with fail
      refine (CP.new (pages := 31) O3 3 3 rfl w3 HD3.out (by omega) (by omega)).mono ?_
      rintro e w4 ⟨p, OO, rfl, hcp, hgo⟩
      have HCp := hide hcp
      have HGo := hide hgo
      clear hcp hgo
      have hFd4 : Fd w2.heap.size w2 w4 OO := HF3.out.go HGo.out
      have HFd4 := hide hFd4
      have HB4 : Hid (Below w.heap.size w w4) := HB1.out.trans (hFd4.below.mono HB1.out.size)
      have HOl : Hid (∀ k, OO k → k < w4.heap.size) := fun k hk => HCp.out.pl.lt k hk
      have HOB : Hid (∀ k, OO k → w.heap.size ≤ k) := fun k hk => Nat.le_trans HB1.out.size (hFd4.own k hk)
      clear hFd4 HF3 HD3 HGo HFd4 HB1
      obtain ⟨st, hst⟩ : ∃ st, st = G % 28 + 1 := ⟨_, rfl⟩
      have hst1 : 1 ≤ st ∧ st ≤ 28 := by omega
      have HSt := hide hst
      clear hst
      obtain ⟨j0, ki, kz0, kz1, kz2⟩ := info_parts infoU32
      have HU2 := hide (show Try.prog.underlying 33 = some (.slice 34) by kernel_rfl)
      go_wp2
      go_loopw [12, 13, 14] (fun x y z wr => ∃ i : Nat, i ≤ m ∧ y = .int .i64 ((kq F st i : Nat) : Int) ∧ z = .int .i64 (i : Int) ∧ OwnW wr x (yq F st i) ∧ (∀ b, x.ownBlock = some b → w4.heap.size ≤ b) ∧ Below w4.heap.size w4 wr) (fun _ _ z _ => m - (intOf z).toNat)
      case atStart => exact ⟨0, Nat.zero_le _, by simp [kq], rfl, OwnW.nil _, fun b hb => (by cases hb), Below.refl _ _⟩
      case round =>
        obtain ⟨i, him, rfl, rfl, ho, hb, hbel⟩ := hrel
        obtain ⟨xa, xn, xc, rfl⟩ := own_slice ho
        have HO := hide ho
        have HBk := hide hb
        have HBe := hide hbel
        clear ho hb hbel
        by_cases hlt : i < m
        · have hK := kq_lt F st i
          have HN : Hid (((kq F st (i + 1) : Nat) : Int) = (((kq F st i : Nat) : Int) + (G : Int) % 28 + 1) % 29) := by rw [Hid, kq, HSt.out]; omega
          have HYs := hide (yq_succ F st i)
          have HOl2 : Hid ((wr.alloc (.cells #[.int .u32 (2 + ((kq F st i : Nat) : Int))] 34)).ownsRow 0 34 1 (.slice xa xn xc) ((yq F st i).map fun (z : Nat) => Value.int .u32 (z : Int)).length ((yq F st i).map fun (z : Nat) => Value.int .u32 (z : Int))) := by rw [Hid, List.length_map]; exact HO.out.of_block (fun k hk => Below.heap_alloc _ _ k (HO.out.lt hk))
          have hyl := yq_len F st i
          have HB3 : Hid ((((yq F st i).map fun (z : Nat) => Value.int .u32 (z : Int)).length + 1) * j0.bytes ≤ 140737488355328) := by rw [Hid, kz2, List.length_map, hyl]; omega
          have HB5 : Hid (((yq F st i).map fun (z : Nat) => Value.int .u32 (z : Int)).length + 1 ≤ 140737488355328) := by rw [Hid, List.length_map, hyl]; omega
          have HS2 := hide (src_laid (P := Try.prog) wr (.int .u32 (2 + ((kq F st i : Nat) : Int))) HU2.out rfl)
          clear hyl
          generalize kq F st i = K at *
          generalize hYq : yq F st i = Y at *
          have hil : (i : Int) < (m : Int) := by omega
          go_wp2_with (at_builtin; refine wpList_append_one (by rfl) _ _ 33 33 34 (by rfl) j0 (.int .u32 0) HU2.out ki kz0 kz1 rfl (.slice xa xn xc) _ (by rfl) HOl2.out _ 1 _ (by rfl) HS2.out HB3.out HB5.out ?_; intro u2 w5 g1 g2 g3 g4; have G1 := hide g1; have G2 := hide g2; have G3 := hide g3; clear g1 g2 g3 g4)
          go_roundw
          case rel =>
            have hbl : Below w4.heap.size w4 (wr.alloc (.cells #[.int .u32 (2 + (K : Int))] 34)) := HBe.out.alloc HBe.out.size _
            refine ⟨i + 1, by omega, by rw [HN.out], by go_num, ?_, fun b hb => ?_, ⟨G2.out.os.trans hbl.os, G2.out.tape.trans hbl.tape, G2.out.output.trans hbl.output, Nat.le_trans hbl.size G2.out.size, fun k hk => (G2.out.block k (Nat.lt_of_lt_of_le hk hbl.size) (fun e => by have := HBk.out k e.symm; omega)).trans (hbl.block k hk)⟩⟩
            · rw [HYs.out]
              have hh := G1.out
              rw [show (Y.map fun (z : Nat) => Value.int .u32 (z : Int)) ++ [Value.int .u32 (2 + (K : Int))] = (Y ++ [2 + K]).map (fun (z : Nat) => Value.int .u32 (z : Int)) by simp, List.length_map] at hh
              exact hh
            · rcases G3.out b hb with e | e
              · exact HBk.out b e
              · exact Nat.le_trans hbl.size e
          case measure => simp [intOf]; omega
        · have hie : i = m := by omega
          have HIe := hide hie
          have hil : ¬ (i : Int) < (m : Int) := by omega
          clear hie
          obtain ⟨W5, hW5⟩ : ∃ W, W = wr := ⟨_, rfl⟩
          rw [← hW5] at HO HBe
          rw [← hW5]
          clear hW5 wr
          rw [HIe.out] at HO
          have hxn : m = xn := ((own_len HO.out).trans (yq_len F st m)).symm
          subst hxn
          obtain ⟨av, cv, ev, hvc, hvm, hvr, hvb⟩ := HO.out.shape
          rw [yq_len] at ev hvc
          cases ev
          obtain ⟨b0, off, ha, hlt0⟩ : ∃ b0 off, a = some ⟨b0, off, none⟩ ∧ True := by
            rcases H.out.row with h0 | ⟨b, o, e, _⟩
            · have := H.out.len; rw [h0] at this; simp at this; omega
            · exact ⟨b, o, e, trivial⟩
          subst ha
          have HB5' : Hid (Below w.heap.size w W5) := HB4.out.trans (HBe.out.mono HB4.out.size)
          have HYl := hide (yq_len F st m)
          have HYk := hide (yq_ok F st m)
          have HY32 : Hid (W32 (yq F st m)) := fun z hz => by
            obtain ⟨j, hj, rfl⟩ := List.mem_map.1 hz
            have := kq_lt F st j
            omega
          have HRw := hide hvr
          have hin5 := H.out.below HB5'.out
          have HEn := hide (encode_ok W5 xa b0 off n c m xc zs (yq F st m) hin5.len hin5.cap hin5.max hin5.row HYl.out HM.out (by omega) hvc hvr HY32.out HYk.out)
          have HBk2 : Hid (∀ k, (Value.slice xa m xc).ownBlock = some k → w4.heap.size ≤ k) := HBk.out
          clear hvr hvm hvb hin5 HBk
          go_wp2_with fail
          refine HEn.out.mono ?_
          rintro e w6 ⟨v, vs, rfl, hvs, hro, hb6⟩
          obtain ⟨la, ln, lc, rfl⟩ := own_slice hro.row
          have hln : vs.length = ln := (own_len hro.row).symm
          rw [hvs] at hln
          subst hln
          have d6 : ((m : Int) != (m : Int)) = false := by simp
          have HVs := hide hvs
          have HRo := hide hro
          have HB46 : Hid (Below w4.heap.size w4 w6) := HBe.out.trans (hb6.mono HBe.out.size)
          have HO6 : Hid (OwnW w6 (.slice xa m xc) (yq F st m)) := HO.out.of_block (fun k hk => hb6.block k (HO.out.lt hk))
          have HW56 := hide hb6.size
          have HLv : Hid (∀ k, (Value.slice xa m xc).ownBlock = some k → k < W5.heap.size) := fun k hk => HO.out.lt hk
          clear hvs hro hb6 HEn HRw
          go_wp2
          have HRo5 : Hid (∀ V OO', Go1 OO w6 OO' V → Ro V (.slice la m lc) W5.heap.size vs (pay zs (yq F st m)) ∧ OwnW V (.slice xa m xc) (yq F st m)) := fun V OO' hg => by
            refine ⟨HRo.out.stays (fun k h1 h2 => hg.mv.block k h2 (fun ho => by have := HOl.out k ho; have := HBe.out.size; omega)), HO6.out.of_block (fun k hk => hg.mv.block k (HO6.out.lt hk) (fun ho => by have := HOl.out k ho; have := HBk2.out k hk; omega))⟩
          go_loopw [17] (fun x wr => ∃ (i : Nat) (S : DS) (A : List Pge) (OO' : Nat → Prop), i ≤ m ∧ x = .int .i64 (i : Int) ∧ CP wr p d q S 3 A OO' 31 i ∧ (∀ j, j < i → rd S (8 * (yq F st m).getD j 0) 8 = Pg.pg 3 ((yq F st m).getD j 0) (pay zs (yq F st m) j)) ∧ Go1 OO w6 OO' wr) (fun x _ => m - (intOf x).toNat)
          case atStart => exact ⟨0, _, _, OO, Nat.zero_le _, rfl, HCp.out.below HB46.out, fun j hj => by omega, Go1.refl _ _⟩
          case round =>
            clear hlt him HIe
            obtain ⟨t, S, A, OO', htm, rfl, hcp, hrd, hgo⟩ := hrel
            obtain ⟨hro, how⟩ := HRo5.out wr OO' hgo
            have HC := hide hcp
            have HRd := hide hrd
            have HG := hide hgo
            have HRoi := hide hro
            have HOwi := hide how
            clear hcp hrd hgo hro how
            by_cases hlt : t < m
            · have hil : (t : Int) < (m : Int) := by omega
              have hpl := pay_len zs (yq F st m) t
              obtain ⟨lg, lcap, pb, pcap, hv1, hv2, hv4, hv5, hv6, hv7, hv8⟩ := HRoi.out.at (j := t) (by rw [HVs.out]; exact hlt) (by intro e; rw [e] at hpl; simp at hpl)
              rw [HVs.out] at hv1
              cases hv1
              obtain ⟨av', cv', ev', hvc', hvm', hvr', -⟩ := HOwi.out.shape
              rw [yq_len] at ev'
              cases ev'
              rcases hvr' with h00 | ⟨ab, ao, rfl, hab, hac⟩
              · have := HYl.out; rw [h00] at this; simp at this; omega
              have ha1 := hac t (by rw [HYl.out]; exact hlt)
              have HCw := hide ((HC.out.below ((Same.refl wr).drew).below).write (by omega) (by omega) ((yq F st m).getD t 0) 3 (by have := HY32.out.at t; omega) (some ⟨pb, 0, none⟩) pcap (pay zs (yq F st m) t) ⟨rfl, hv4, Nat.le_trans hv5 (by unfold maxLen; omega), by (intro e; cases e), hv6, pay_byts H.out.byts HY32.out t⟩ (fun _ ad e ho => by
                cases e
                rcases HG.out.own _ ho with h | h
                · have := HOl.out _ h; have := HBe.out.size; simp at *; omega
                · have h8 := HRo.out.lt.2 t pb (by rw [HVs.out]; exact hlt) hv8; simp at h; omega) _ rfl)
              have hwe : we 31 ((yq F st m).getD t 0) 3 (pay zs (yq F st m) t).length = 0 := by
                unfold we
                rw [if_pos (by omega), if_pos (by rw [yq_at _ _ _ _ hlt]; have := kq_lt F st t; omega)]
              rw [hwe] at HCw
              have HWe := hide hwe
              clear hwe hv4 hv5 hv6 hv7 hv8 hvc' hvm' hac hpl
              have hpn : (pay zs (yq F st m) t).length ≤ 1008 := (pay_len zs (yq F st m) t).2
              have hit : (0 : Int) ≤ (t : Int) := by omega
              generalize hY0 : (yq F st m).getD t 0 = y0 at *
              have HY0 := hide hY0
              clear hY0
              generalize hPt : pay zs (yq F st m) t = pt at *
              have HPt := hide hPt
              clear hPt
              have hnab : ¬ OO' ab := fun ho => by
                have h1 := HBk2.out ab rfl
                have h2 := HLv.out ab rfl
                rcases HG.out.own _ ho with h | h
                · have := HOl.out _ h; omega
                · have := HW56.out; omega
              have hnlg : ¬ OO' lg := fun ho => by
                have h1 := HRo.out.vlow lg rfl
                have h2 := HRo.out.lt.1 lg rfl
                rcases HG.out.own _ ho with h | h
                · have := HOl.out _ h; have := HBe.out.size; omega
                · omega
              have HNa := hide hnab
              have HNl := hide hnlg
              have ha1d : wr.drew.cell? ⟨ab, ao + t, none⟩ = some (.int .u32 (y0 : Int)) := ha1
              have hv2d : wr.drew.cell? ⟨lg, t, none⟩ = some (.slice (some ⟨pb, 0, none⟩) pt.length pcap) := hv2
              have HA1 := hide ha1
              have HV2 := hide hv2
              clear ha1 hv2 hnab hnlg
              have hwt : IntKind.i64.wrap (t : Int) = (t : Int) := by rw [IntKind.wrap_i64]; omega
              go_wp2
              go_region_held3 (fun W => W.cell? ⟨ab, ao + t, none⟩ = some (.int .u32 (y0 : Int)) ∧ W.cell? ⟨lg, t, none⟩ = some (.slice (some ⟨pb, 0, none⟩) pt.length pcap)) ((refine ⟨?_, ?_⟩ <;> assumption)) ((first | (go_at_call 9; refine HCw.out.mono ?_; rintro e w7 ⟨S', A', OO2, rfl, k1, k2, k3⟩; have K1 := hide k1; have K2 := hide k2; have K3 := hide k3; have s1 := k3.mv.cell ha1d HNa.out; have s2 := k3.mv.cell hv2d HNl.out; clear k1 k2 k3)))
              have hmd : ((0 : Int) != 0) = false := rfl
              go_wp2
              go_roundw
              case rel =>
                refine ⟨t + 1, S', A', OO2, by omega, by go_num, K1.out, fun j hj => ?_, HG.out.trans ((Go1.of_below ((Same.refl wr).drew).below).trans K3.out)⟩
                have hjm : j < m := by omega
                have hkl := kq_lt F st j
                have hy31 : (yq F st m).getD j 0 < 31 := by rw [yq_at _ _ _ _ hjm]; omega
                rw [K2.out _ hy31]
                by_cases e : j = t
                · subst e
                  rw [if_pos ⟨trivial, HY0.out⟩, HY0.out, HPt.out]
                · rw [if_neg (fun h => ?_)]
                  · exact HRd.out j (by omega)
                  · have h2 := h.2
                    rw [← HY0.out, yq_at _ _ _ _ hjm, yq_at _ _ _ _ hlt] at h2
                    exact kq_ne F st j t hst1 (by omega) (by omega) (by omega)
              case measure => simp [intOf]; omega
            · have hte : t = m := by omega
              have hil : ¬ (t : Int) < (m : Int) := by omega
              have HTe := hide hte
              clear hte
              obtain ⟨av', cv', ev', hvc', hvm', hvr', -⟩ := HOwi.out.shape
              rw [yq_len] at ev'
              cases ev'
              have hvr2 := hvr'
              rcases hvr' with h00 | ⟨ab, ao, rfl, hab, hac⟩
              · have := HYl.out; rw [h00] at this; simp at this; omega
              have ha1 := hac 0 (by rw [HYl.out]; omega)
              rw [Nat.add_zero] at ha1
              have HRe := hide (oread_ok HC.out n m (yq F st m) zs H.out.len ⟨hn1, hn2⟩ HMn.out HYl.out HYk.out (fun j hj => by rw [yq_at _ _ _ _ hj]; have := kq_lt F st j; omega) (by omega) (by omega) (fun j hj => by rw [HRd.out j (by have := HTe.out; omega)]; rfl))
              have hnab : ¬ OO' ab := fun ho => by
                have h1 := HBk2.out ab rfl
                have h2 := HLv.out ab rfl
                rcases HG.out.own _ ho with h | h
                · have := HOl.out _ h; omega
                · have := HW56.out; omega
              have HNa := hide hnab
              have HRw2 := hide hvr2
              generalize hY0 : (yq F st m).getD 0 0 = y0 at *
              have HY0 := hide hY0
              clear hY0 hac hnab hvr2 hvc' hvm'
              have hnm : (n : Int) % 4294967296 = (n : Int) := by omega
              have hm0 : (0 : Int) < (m : Int) := by omega
              have hsb : sameB zs zs = true := by simp [sameB]
              have HSb := hide hsb
              have HOB' : Hid (∀ k, OO' k → w.heap.size ≤ k) := fun k hk => (HG.out.own k hk).elim (HOB.out k) (fun h => by have := HB4.out.size; have := HB46.out.size; omega)
              have HBwr : Hid (Below w.heap.size w wr) := (HB4.out.trans (HB46.out.mono HB4.out.size)).trans (HG.out.mv.below (Nat.le_trans HB4.out.size HB46.out.size) HOB.out)
              have HLr : Hid (ab < wr.heap.size) := hab
              clear hsb hab
              have M1 := hide trivial
              go_wp2_with (first | (go_at_call 10; refine HRe.out.mono ?_; rintro e w7 ⟨rv, rc, pv, pc', OO2, rfl, k1, k2, k3⟩; have K1 := hide k1; have K2 := hide k2; have HB7 : Hid (Below w.heap.size w w7) := HBwr.out.trans (k3.mv.below HBwr.out.size HOB'.out); have HR7 : Hid (OwnW w7 (.slice (some ⟨ab, ao, none⟩) m xc) (yq F st m)) := HOwi.out.of_block (fun k hk => k3.mv.block k (HOwi.out.lt hk) (by cases hk; exact HNa.out)); clear k1 k2 k3) | (go_at_call 11; obtain ⟨sa, sc, se, hsc1, hsc2, hsn, hsr, -⟩ := K1.out.shape; rw [H.out.len] at se; cases se; refine (sameb_any rv (some ⟨b0, off, none⟩) n n rc c zs zs w7 H.out.len H.out.len (by omega) (by omega) hsr (H.out.below HB7.out).row).mono ?_; rw [HSb.out]; rintro e w8 ⟨rfl, hb8⟩; have HB8 := hide (HB7.out.trans (hb8.mono HB7.out.size)); have HR8 : Hid (OwnW w8 (.slice (some ⟨ab, ao, none⟩) m xc) (yq F st m)) := HR7.out.of_block (fun k hk => hb8.block k (HR7.out.lt hk)); have HK8 : Hid (OwnW w8 (.slice pv m pc') (yq F st m)) := K2.out.of_block (fun k hk => hb8.block k (K2.out.lt hk)); clear hb8 hsc1 hsc2 hsn hsr) | (go_at_call 12; obtain ⟨ta, tc, te, -, -, tr, -⟩ := HR8.out.shape; rw [yq_len] at te; cases te; obtain ⟨ua, uc, ue, -, -, ur, -⟩ := HK8.out.shape; rw [yq_len] at ue; cases ue; refine (samew_eq w8 pv (some ⟨ab, ao, none⟩) m pc' xc (yq F st m) HYl.out (by omega) ur tr).mono ?_; rintro e w9 ⟨rfl, hs9⟩; have HB9 := hide (HB8.out.trans (hs9.below.mono HB8.out.size)); clear hs9 tr ur))
              go_ret
              exact ⟨rfl, HB9.out⟩
end Go.Proofs.Ytpcckaahfaobeaa
