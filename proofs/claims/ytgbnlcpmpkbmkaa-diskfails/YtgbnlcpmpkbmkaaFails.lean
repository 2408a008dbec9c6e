/- The Go function DiskFails answers true for all kinds, all faults and all calls, and leaves them as they were: a fault lets just one operation of its kind fail, behind as many as it says, and that one does nothing; all others go as if there were none. No condition. -/
import Derived.Test.YtgbnlcpmpkbmkaaDZ
import Derived.Deep.RegionHeld3
namespace Go.Proofs.Ytgbnlcpmpkbmkaa.Fails
open Go.ChangeShapes Go.WideShapes Go.ChangeAt Go.RowKit
set_option linter.unusedVariables false

theorem read_io (p q : Nat) (O : Nat → Prop) (S : DS) (pg : Nat) (P : Int) (w : World) (h : DkAt w p q S O) (hP : P = (pg : Int)) (hpg : pg < S.ls.length / 8) (hn : S.n1 + 1 ≤ 1000000) (he : S.er S.s1 S.l1 = 6) :
    Calls Try.prog 30 #[.pointer (some ⟨p, 0, none⟩), .int .i64 P] w fun e w' => e = .returned (.tuple #[.slice none 0 0, .int .u16 6]) ∧ ∃ O', DkAt w' p q (S.be S.op1) O' ∧ Go1 O w O' w' := by
  subst hP
  refine (read_any p q O S pg w h hpg hn).mono ?_
  rintro e w' ⟨v, rfl, hr, hd, hg⟩
  have := hr.2 (by omega)
  subst this
  exact ⟨by rw [he]; rfl, O, hd, hg⟩
theorem read_ok' (p q : Nat) (O : Nat → Prop) (S : DS) (pg : Nat) (P : Int) (w : World) (h : DkAt w p q S O) (hP : P = (pg : Int)) (hpg : pg < S.ls.length / 8) (hn : S.n1 + 1 ≤ 1000000) (he : S.er S.s1 S.l1 = 0) :
    Calls Try.prog 30 #[.pointer (some ⟨p, 0, none⟩), .int .i64 P] w fun e w' => ∃ v, e = .returned (.tuple #[v, .int .u16 0]) ∧ ∃ O', DkAt w' p q S.op1 O' ∧ Go1 O w O' w' := by
  refine (read_ok p q O S pg P w h hP hpg hn he).mono ?_
  rintro e w' ⟨v, rfl, _, _, _, hd, hg⟩
  exact ⟨v, rfl, O, hd, hg⟩
theorem sync_io (p q : Nat) (O : Nat → Prop) (S : DS) (w : World) (h : DkAt w p q S O) (hn : S.n3 + 1 ≤ 1000000) (he : S.er S.s3 S.l3 = 6) :
    Calls Try.prog 24 #[.pointer (some ⟨p, 0, none⟩)] w fun e w' => e = .returned (.int .u16 6) ∧ ∃ O', DkAt w' p q (S.be S.op3) O' ∧ Go1 O w O' w' := by
  refine (sync_any p q O S w h hn).mono ?_
  rintro e w' ⟨rfl, O', hd, hg⟩
  refine ⟨by rw [he]; rfl, O', ?_, hg⟩
  rwa [DS.sy, if_neg (by omega)] at hd
theorem flk_any (f bh p q : Nat) (O : Nat → Prop) (w : World) (hf : f = 1 ∨ f = 2 ∨ f = 3) (hb : bh ≤ 100) (h : DkAt w p q (DS.new 32) O) :
    Calls Try.prog 31 #[.pointer (some ⟨p, 0, none⟩), .int .i64 (f : Int), .int .i64 (bh : Int)] w fun e w' => e = .returned (.int .u16 0) ∧ ∃ S, DkAt w' p q S O ∧ Fl f bh 0 0 S (DS.new 32) ∧ Go1 O w O w' := by
  rcases hf with rfl | rfl | rfl
  · refine (fl1_any p q O _ (bh : Int) w h (by omega) (by omega) rfl).mono ?_
    rintro e w' ⟨rfl, hd, hg⟩
    exact ⟨rfl, _, hd, (Fl.start bh).1, hg⟩
  · refine (fl2_any p q O _ (bh : Int) w h (by omega) (by omega) rfl).mono ?_
    rintro e w' ⟨rfl, hd, hg⟩
    exact ⟨rfl, _, hd, (Fl.start bh).2.1, hg⟩
  · refine (fl3_any p q O _ (bh : Int) w h (by omega) (by omega) rfl).mono ?_
    rintro e w' ⟨rfl, hd, hg⟩
    exact ⟨rfl, _, hd, (Fl.start bh).2.2, hg⟩
theorem own_row2 {w : World} {a : Option Addr} {n c : Nat} {zs : List Int} (h : Own w (.slice a n c) zs) : Row w a zs := by
  obtain ⟨a', c', e, _, _, _, hr, _⟩ := h.shape
  cases e
  exact hr
theorem own_small {w : World} {a : Option Addr} {n c : Nat} {zs : List Int} (h : Own w (.slice a n c) zs) : n ≤ 9223372036854775807 := by
  obtain ⟨a', c', e, h1, h2, _⟩ := h.shape
  cases e
  unfold maxLen at h2
  omega
theorem two_row {O : Nat → Prop} {w w' : World} {b n : Nat} {c : Int} {O' : Nat → Prop} (hr : Row w (some ⟨b, 0, none⟩) (List.replicate n c)) (hg : Go1 O w O' w') (ho : ¬ O b) : Row w' (some ⟨b, 0, none⟩) (List.replicate n c) := hg.mv.row hr ho

set_option maxHeartbeats 12800000 in
set_option maxRecDepth 1000000 in
theorem walk (a n : Nat) (la : Option Addr) (lc : Nat) (xs : List Nat) (w : World) (ha : a ≤ 255) (hn : n ≤ 255) (hr : WRow w la xs) (hx : ∀ x ∈ xs, x ≤ 65535) (hl : xs.length ≤ 9223372036854775807) :
    Calls Try.prog 7 #[.int .u8 (a : Int), .int .u8 (n : Int), .slice la xs.length lc] w fun e w' => e = .returned (.bool true) ∧ Below w.heap.size w w' := by
  have HRw : Hid (∀ W, Below w.heap.size w W → WRow W la xs) := fun W hb => hr.below hb
  have HXb : Hid (∀ i, xs.getD i 0 ≤ 65535) := fun i => by
    by_cases h : i < xs.length
    · exact hx _ (getD_mem _ _ _ h)
    · rw [List.getD_eq_getElem?_getD, List.getElem?_eq_none (by omega)]; exact Nat.zero_le _
  clear hr hx
  obtain ⟨f, HFm, hfc⟩ : ∃ f, Hid (f = a % 3 + 1) ∧ Hid (f = 1 ∨ f = 2 ∨ f = 3) := ⟨_, rfl, by rw [Hid]; omega⟩
  obtain ⟨bh, HBm, hbh⟩ : ∃ bh, Hid (bh = n % 12) ∧ bh ≤ 11 := ⟨_, rfl, by omega⟩
  have e3 : (a : Int) % 3 + 1 = (f : Int) := by rw [HFm.out]; omega
  have e4 : (n : Int) % 12 = (bh : Int) := by rw [HBm.out]; omega
  go_enter Try.func7, Try.ntmps7
  go_wp2_with fail
  refine (new_at 4 4 w rfl (by omega) (by omega)).mono ?_
  rintro e w1 ⟨O1, p, q, rfl, hd, hf⟩
  have HD1 : Hid (DkAt w1 p q (DS.new 32) O1) := hd
  have HF1 := hide hf
  clear hd hf
  go_wp2_with fail
  refine (new_at 4 4 w1 rfl (by omega) (by omega)).mono ?_
  rintro e w2 ⟨O2, p2, q2, rfl, hd, hf⟩
  have HT2 : Hid (Two w.heap.size w w2 p q O1 (DS.new 32) p2 q2 O2 (DS.new 32)) := ⟨HD1.out.below hf.below, hd, fun k h2 h1 => by have h3 := hf.own k h2; have h4 := HD1.out.lt k h1; omega, (HF1.out.on hf.below).below, Nat.le_trans HF1.out.size hf.size, HF1.out.own, fun k h2 => Nat.le_trans HF1.out.size (hf.own k h2)⟩
  clear hd hf HD1 HF1
  go_wp2_with fail
  refine (known_any w2).mono ?_
  rintro e w3 ⟨rfl, hb⟩
  have HT3 := hide (HT2.out.on hb)
  clear hb HT2
  go_wp2_with fail
  refine (flk_any f bh p q O1 w3 hfc.out (by omega) HT3.out.d).mono ?_
  rintro e w4 ⟨rfl, S0, hd, hfl, hg⟩
  have HT4 := hide (HT3.out.go hd hg)
  have HFl0 := hide hfl
  clear hd hfl hg HT3
  go_wp2
  go_loopw [14, 13] (fun i mt wr' => ∃ (k met : Nat) (S C : DS) (O O2 : Nat → Prop), k ≤ 100 ∧ met ≤ k ∧ i = .int .i64 (k : Int) ∧ mt = .int .i64 (met : Int) ∧ Two w.heap.size w wr' p q O S p2 q2 O2 C ∧ Fl f bh met k S C) (fun i _ _ => 100 - (intOf i).toNat)
  case atStart => exact ⟨0, 0, _, _, _, _, by omega, by omega, rfl, rfl, HT4.out, HFl0.out⟩
  case round =>
    obtain ⟨k, met, S, C, O, O2, hk, hmk, rfl, rfl, ht, hfl⟩ := hrel
    have HT := hide ht
    have HFl := hide hfl
    clear ht hfl
    by_cases hlt : k < xs.length ∧ k < 100
    · obtain ⟨hlt1, hlt2⟩ := hlt
      have hd1 : decide (k < xs.length) = true := by simp [hlt1]
      have hd2 : decide ((k : Int) < 100) = true := by simp; omega
      obtain ⟨lb, lo, rfl, hcell⟩ : ∃ lb lo, la = some ⟨lb, lo, none⟩ ∧ Hid (∀ W, Below w.heap.size w W → W.cell? ⟨lb, lo + k, none⟩ = some (.int .u16 ((xs.getD k 0 : Nat) : Int))) := wrow_at (HRw.out) hlt1
      have HCl := hcell
      clear hcell
      have hxb := HXb.out k
      generalize xs.getD k 0 = x at *
      obtain ⟨t, HTt, ht4⟩ : ∃ t, Hid (t = x / 3 % 4) ∧ t < 4 := ⟨_, rfl, Nat.mod_lt _ (by omega)⟩
      obtain ⟨y, HY, hyb⟩ : ∃ y, Hid (y = x / 12) ∧ y ≤ 65535 := ⟨_, rfl, by omega⟩
      obtain ⟨cc, HCc, hcb⟩ : ∃ cc, Hid (cc = y % 256) ∧ cc ≤ 255 := ⟨_, rfl, by omega⟩
      have e12 : IntKind.i64.wrap (x : Int) = (x : Int) := by rw [IntKind.wrap_i64]; omega
      have e7 : (x : Int) / 3 % 4 = (t : Int) := by rw [HTt.out]; omega
      have e8 : (x : Int) / 12 = (y : Int) := by rw [HY.out]; rfl
      have e9 : IntKind.u16.wrap (y : Int) = (y : Int) := by rw [IntKind.wrap_u16]; omega
      have e10 : IntKind.u8.wrap (y : Int) = (cc : Int) := by rw [IntKind.wrap_u8, HCc.out]; omega
      have e11 : (y : Int) % 256 = (cc : Int) := by rw [HCc.out]; omega
      have c0 := HCl.out wr HT.out.below
      have hmet : met ≤ 100 := by omega
      have hmw : IntKind.i64.wrap ((met : Int) + 1) = (met : Int) + 1 := by rw [IntKind.wrap_i64]; omega
      have HLn := hide HFl.out.n
      have HLs := hide HFl.out.ls
      have HWs := hide HFl.out.ws
      have HWn := hide HFl.out.w
      have HCn := hide HFl.out.cnt
      have HEc := hide HFl.out.erC
      have HFi := hide (filled_at 1024 1024 (cc : Int) wr rfl (by omega))
      by_cases hx0 : x % 3 = 0
      · by_cases hfK : f = 1
        · by_cases hmb0 : met = bh
          · have e6 : (x : Int) % 3 = 0 := by omega
            have hkf : ((1 : Int) == (f : Int)) = true := by rw [hfK]; rfl
            have hmb : ((met : Int) == (bh : Int)) = true := by rw [beq_iff_eq]; omega
            have HE : Hid (S.er S.s1 S.l1 = 6) := by rw [Hid, HFl.out.er1, if_pos ⟨hfK, hmb0⟩]
            have HfK := hide hfK
            clear hfK
            have HmB := hide hmb0
            clear hmb0
            go_wp2_with fail
            refine HFi.out.mono ?_
            rintro e w5 ⟨rfl, hrow, hlt5, hb⟩
            have HR5 := hide hrow
            have HNo := hide HT.out.no
            have HT5 := hide (HT.out.on hb)
            clear hrow hb c0
            go_wp2_with fail
            refine (read_io p q O S t (t : Int) w5 HT5.out.d rfl (by rw [HLs.out, HLn.out]; omega) (by have := HCn.out; omega) HE.out).mono ?_
            rintro e w6 ⟨rfl, O6, hd, hg⟩
            have HT6 := hide (HT5.out.go hd hg)
            have HR6 := hide (two_row HR5.out hg HNo.out.1)
            clear hd hg
            have HFn := hide HFl.out.one1
            rw [HFl.out.be1] at HT6
            rw [if_pos HfK.out] at HFn
            go_wp2
            go_roundw
            case rel => exact ⟨k + 1, met + 1, _, _, _, _, by omega, by omega, by go_num, by go_num, HT6.out, HFn.out⟩
            case measure => simp [intOf]; omega
          · have e6 : (x : Int) % 3 = 0 := by omega
            have hkf : ((1 : Int) == (f : Int)) = true := by rw [hfK]; rfl
            have hmb : ((met : Int) == (bh : Int)) = false := by rw [beq_eq_false_iff_ne]; omega
            have HE : Hid (S.er S.s1 S.l1 = 0) := by rw [Hid, HFl.out.er1, if_neg (fun h => hmb0 h.2)]
            have HfK := hide hfK
            clear hfK
            have HmB := hide hmb0
            clear hmb0
            go_wp2_with fail
            refine HFi.out.mono ?_
            rintro e w5 ⟨rfl, hrow, hlt5, hb⟩
            have HR5 := hide hrow
            have HNo := hide HT.out.no
            have HT5 := hide (HT.out.on hb)
            clear hrow hb c0
            go_wp2_with fail
            refine (read_ok' p q O S t (t : Int) w5 HT5.out.d rfl (by rw [HLs.out, HLn.out]; omega) (by have := HCn.out; omega) HE.out).mono ?_
            rintro e w6 ⟨vr, rfl, O6, hd, hg⟩
            have HT6 := hide (HT5.out.go hd hg)
            have HR6 := hide (two_row HR5.out hg HNo.out.1)
            clear hd hg
            have HFn := hide HFl.out.one1
            rw [if_pos HfK.out] at HFn
            go_wp2
            go_roundw
            case rel => exact ⟨k + 1, met + 1, _, _, _, _, by omega, by omega, by go_num, by go_num, HT6.out, HFn.out⟩
            case measure => simp [intOf]; omega
        · have e6 : (x : Int) % 3 = 0 := by omega
          have hkf : ((1 : Int) == (f : Int)) = false := by rw [beq_eq_false_iff_ne]; omega
          have HE : Hid (S.er S.s1 S.l1 = 0) := by rw [Hid, HFl.out.er1, if_neg (fun h => hfK h.1)]
          have HfK := hide hfK
          clear hfK
          go_wp2_with fail
          refine HFi.out.mono ?_
          rintro e w5 ⟨rfl, hrow, hlt5, hb⟩
          have HR5 := hide hrow
          have HNo := hide HT.out.no
          have HT5 := hide (HT.out.on hb)
          clear hrow hb c0
          go_wp2_with fail
          refine (read_ok' p q O S t (t : Int) w5 HT5.out.d rfl (by rw [HLs.out, HLn.out]; omega) (by have := HCn.out; omega) HE.out).mono ?_
          rintro e w6 ⟨vr, rfl, O6, hd, hg⟩
          have HT6 := hide (HT5.out.go hd hg)
          have HR6 := hide (two_row HR5.out hg HNo.out.1)
          clear hd hg
          have HFn := hide HFl.out.one1
          rw [if_neg HfK.out] at HFn
          go_wp2
          go_roundw
          case rel => exact ⟨k + 1, met, _, _, _, _, by omega, by omega, by go_num, rfl, HT6.out, HFn.out⟩
          case measure => simp [intOf]; omega
      · by_cases hx1 : x % 3 = 1
        · by_cases hfK : f = 2
          · by_cases hmb0 : met = bh
            · have e6 : (x : Int) % 3 = 1 := by omega
              have hkf : ((2 : Int) == (f : Int)) = true := by rw [hfK]; rfl
              have hmb : ((met : Int) == (bh : Int)) = true := by rw [beq_iff_eq]; omega
              have HE : Hid (S.er S.s2 S.l2 = 6) := by rw [Hid, HFl.out.er2, if_pos ⟨hfK, hmb0⟩]
              have HfK := hide hfK
              clear hfK
              have HmB := hide hmb0
              clear hmb0
              go_wp2_with fail
              refine HFi.out.mono ?_
              rintro e w5 ⟨rfl, hrow, hlt5, hb⟩
              have HR5 := hide hrow
              have HNo := hide HT.out.no
              have HT5 := hide (HT.out.on hb)
              clear hrow hb c0
              go_wp2_with fail
              refine (write_io p q O S t (t : Int) wr.heap.size 1024 (cc : Int) 8 w5 HT5.out.d rfl (by omega) HNo.out.1 HR5.out hlt5 (by rw [HLs.out, HLn.out]; omega) (by rw [HLs.out, HLn.out]) (by omega) (by rw [HWs.out]; have := HWn.out; omega) (by have := HCn.out; omega) HE.out).mono ?_
              rintro e w6 ⟨rfl, O6, hd, hg⟩
              have HT6 := hide (HT5.out.go hd hg)
              have HR6 := hide (two_row HR5.out hg HNo.out.1)
              clear hd hg
              have HFn := hide HFl.out.one2
              rw [HFl.out.be2] at HT6
              rw [if_pos HfK.out] at HFn
              go_wp2
              go_roundw
              case rel => exact ⟨k + 1, met + 1, _, _, _, _, by omega, by omega, by go_num, by go_num, HT6.out, HFn.out⟩
              case measure => simp [intOf]; omega
            · have e6 : (x : Int) % 3 = 1 := by omega
              have hkf : ((2 : Int) == (f : Int)) = true := by rw [hfK]; rfl
              have hmb : ((met : Int) == (bh : Int)) = false := by rw [beq_eq_false_iff_ne]; omega
              have HE : Hid (S.er S.s2 S.l2 = 0) := by rw [Hid, HFl.out.er2, if_neg (fun h => hmb0 h.2)]
              have HfK := hide hfK
              clear hfK
              have HmB := hide hmb0
              clear hmb0
              go_wp2_with fail
              refine HFi.out.mono ?_
              rintro e w5 ⟨rfl, hrow, hlt5, hb⟩
              have HR5 := hide hrow
              have HNo := hide HT.out.no
              have HT5 := hide (HT.out.on hb)
              clear hrow hb c0
              go_wp2_with fail
              refine (write_ok p q O S t (t : Int) wr.heap.size 1024 (cc : Int) 8 w5 HT5.out.d rfl (by omega) HNo.out.1 HR5.out hlt5 (by rw [HLs.out, HLn.out]; omega) (by rw [HLs.out, HLn.out]) (by omega) (by rw [HWs.out]; have := HWn.out; omega) (by have := HCn.out; omega) HE.out).mono ?_
              rintro e w6 ⟨rfl, O6, hd, hg⟩
              have HT6 := hide (HT5.out.go hd hg)
              have HR6 := hide (two_row HR5.out hg HNo.out.1)
              have HN6 : Hid (wr.heap.size < w6.heap.size) := Nat.lt_of_lt_of_le hlt5 hg.mv.size
              clear hd hg
              go_wp2_with fail
              refine (write_ok p2 q2 O2 C t (t : Int) wr.heap.size 1024 (cc : Int) 8 w6 HT6.out.c rfl (by omega) HNo.out.2 HR6.out HN6.out (by rw [HLn.out]; omega) (by rw [HLn.out]) (by omega) (by have := HWn.out; omega) (by have := HCn.out; omega) HEc.out.1).mono ?_
              rintro e w7 ⟨rfl, O7, hd, hg⟩
              have HT7 := hide (HT6.out.go2 hd hg)
              clear hd hg
              have HFn := hide (HFl.out.write (8 * t) (List.replicate 1024 (cc : Int)))
              rw [if_pos HfK.out] at HFn
              go_wp2
              go_roundw
              case rel => exact ⟨k + 1, met + 1, _, _, _, _, by omega, by omega, by go_num, by go_num, HT7.out, HFn.out⟩
              case measure => simp [intOf]; omega
          · have e6 : (x : Int) % 3 = 1 := by omega
            have hkf : ((2 : Int) == (f : Int)) = false := by rw [beq_eq_false_iff_ne]; omega
            have HE : Hid (S.er S.s2 S.l2 = 0) := by rw [Hid, HFl.out.er2, if_neg (fun h => hfK h.1)]
            have HfK := hide hfK
            clear hfK
            go_wp2_with fail
            refine HFi.out.mono ?_
            rintro e w5 ⟨rfl, hrow, hlt5, hb⟩
            have HR5 := hide hrow
            have HNo := hide HT.out.no
            have HT5 := hide (HT.out.on hb)
            clear hrow hb c0
            go_wp2_with fail
            refine (write_ok p q O S t (t : Int) wr.heap.size 1024 (cc : Int) 8 w5 HT5.out.d rfl (by omega) HNo.out.1 HR5.out hlt5 (by rw [HLs.out, HLn.out]; omega) (by rw [HLs.out, HLn.out]) (by omega) (by rw [HWs.out]; have := HWn.out; omega) (by have := HCn.out; omega) HE.out).mono ?_
            rintro e w6 ⟨rfl, O6, hd, hg⟩
            have HT6 := hide (HT5.out.go hd hg)
            have HR6 := hide (two_row HR5.out hg HNo.out.1)
            have HN6 : Hid (wr.heap.size < w6.heap.size) := Nat.lt_of_lt_of_le hlt5 hg.mv.size
            clear hd hg
            go_wp2_with fail
            refine (write_ok p2 q2 O2 C t (t : Int) wr.heap.size 1024 (cc : Int) 8 w6 HT6.out.c rfl (by omega) HNo.out.2 HR6.out HN6.out (by rw [HLn.out]; omega) (by rw [HLn.out]) (by omega) (by have := HWn.out; omega) (by have := HCn.out; omega) HEc.out.1).mono ?_
            rintro e w7 ⟨rfl, O7, hd, hg⟩
            have HT7 := hide (HT6.out.go2 hd hg)
            clear hd hg
            have HFn := hide (HFl.out.write (8 * t) (List.replicate 1024 (cc : Int)))
            rw [if_neg HfK.out] at HFn
            go_wp2
            go_roundw
            case rel => exact ⟨k + 1, met, _, _, _, _, by omega, by omega, by go_num, rfl, HT7.out, HFn.out⟩
            case measure => simp [intOf]; omega
        · have hx2 : x % 3 = 2 := by omega
          by_cases hfK : f = 3
          · by_cases hmb0 : met = bh
            · have e6 : (x : Int) % 3 = 2 := by omega
              have hkf : ((3 : Int) == (f : Int)) = true := by rw [hfK]; rfl
              have hmb : ((met : Int) == (bh : Int)) = true := by rw [beq_iff_eq]; omega
              have HE : Hid (S.er S.s3 S.l3 = 6) := by rw [Hid, HFl.out.er3, if_pos ⟨hfK, hmb0⟩]
              have HfK := hide hfK
              clear hfK
              have HmB := hide hmb0
              clear hmb0
              go_wp2_with fail
              refine HFi.out.mono ?_
              rintro e w5 ⟨rfl, hrow, hlt5, hb⟩
              have HR5 := hide hrow
              have HNo := hide HT.out.no
              have HT5 := hide (HT.out.on hb)
              clear hrow hb c0
              go_wp2_with fail
              refine (sync_io p q O S w5 HT5.out.d (by have := HCn.out; omega) HE.out).mono ?_
              rintro e w6 ⟨rfl, O6, hd, hg⟩
              have HT6 := hide (HT5.out.go hd hg)
              have HR6 := hide (two_row HR5.out hg HNo.out.1)
              clear hd hg
              have HFn := hide HFl.out.one3
              rw [HFl.out.be3] at HT6
              rw [if_pos HfK.out] at HFn
              go_wp2
              go_roundw
              case rel => exact ⟨k + 1, met + 1, _, _, _, _, by omega, by omega, by go_num, by go_num, HT6.out, HFn.out⟩
              case measure => simp [intOf]; omega
            · have e6 : (x : Int) % 3 = 2 := by omega
              have hkf : ((3 : Int) == (f : Int)) = true := by rw [hfK]; rfl
              have hmb : ((met : Int) == (bh : Int)) = false := by rw [beq_eq_false_iff_ne]; omega
              have HE : Hid (S.er S.s3 S.l3 = 0) := by rw [Hid, HFl.out.er3, if_neg (fun h => hmb0 h.2)]
              have HfK := hide hfK
              clear hfK
              have HmB := hide hmb0
              clear hmb0
              go_wp2_with fail
              refine HFi.out.mono ?_
              rintro e w5 ⟨rfl, hrow, hlt5, hb⟩
              have HR5 := hide hrow
              have HNo := hide HT.out.no
              have HT5 := hide (HT.out.on hb)
              clear hrow hb c0
              go_wp2_with fail
              refine (sync_ok p q O S w5 HT5.out.d (by have := HCn.out; omega) HE.out).mono ?_
              rintro e w6 ⟨rfl, O6, hd, hg⟩
              have HT6 := hide (HT5.out.go hd hg)
              have HR6 := hide (two_row HR5.out hg HNo.out.1)
              clear hd hg
              go_wp2_with fail
              refine (sync_ok p2 q2 O2 C w6 HT6.out.c (by have := HCn.out; omega) HEc.out.2).mono ?_
              rintro e w7 ⟨rfl, O7, hd, hg⟩
              have HT7 := hide (HT6.out.go2 hd hg)
              clear hd hg
              have HFn := hide HFl.out.sync
              rw [if_pos HfK.out] at HFn
              go_wp2
              go_roundw
              case rel => exact ⟨k + 1, met + 1, _, _, _, _, by omega, by omega, by go_num, by go_num, HT7.out, HFn.out⟩
              case measure => simp [intOf]; omega
          · have e6 : (x : Int) % 3 = 2 := by omega
            have hkf : ((3 : Int) == (f : Int)) = false := by rw [beq_eq_false_iff_ne]; omega
            have HE : Hid (S.er S.s3 S.l3 = 0) := by rw [Hid, HFl.out.er3, if_neg (fun h => hfK h.1)]
            have HfK := hide hfK
            clear hfK
            go_wp2_with fail
            refine HFi.out.mono ?_
            rintro e w5 ⟨rfl, hrow, hlt5, hb⟩
            have HR5 := hide hrow
            have HNo := hide HT.out.no
            have HT5 := hide (HT.out.on hb)
            clear hrow hb c0
            go_wp2_with fail
            refine (sync_ok p q O S w5 HT5.out.d (by have := HCn.out; omega) HE.out).mono ?_
            rintro e w6 ⟨rfl, O6, hd, hg⟩
            have HT6 := hide (HT5.out.go hd hg)
            have HR6 := hide (two_row HR5.out hg HNo.out.1)
            clear hd hg
            go_wp2_with fail
            refine (sync_ok p2 q2 O2 C w6 HT6.out.c (by have := HCn.out; omega) HEc.out.2).mono ?_
            rintro e w7 ⟨rfl, O7, hd, hg⟩
            have HT7 := hide (HT6.out.go2 hd hg)
            clear hd hg
            have HFn := hide HFl.out.sync
            rw [if_neg HfK.out] at HFn
            go_wp2
            go_roundw
            case rel => exact ⟨k + 1, met, _, _, _, _, by omega, by omega, by go_num, rfl, HT7.out, HFn.out⟩
            case measure => simp [intOf]; omega
    · have HLs := hide HFl.out.ls
      have HWs := hide HFl.out.ws
      have HWn := hide HFl.out.w
      by_cases hk1 : k < xs.length
      · have hd1 : decide (k < xs.length) = true := by simp; omega
        have hd2 : decide ((k : Int) < 100) = false := by simp; omega
        go_wp2_with fail
        refine (pending_any p q O S wr HT.out.d).mono ?_
        rintro e w5 ⟨v5, rfl, hown, hnew, hb⟩
        rw [HWs.out] at hown
        obtain ⟨a5, c5, rfl, hr5⟩ := hown.row
        have HT5 := hide (HT.out.on hb)
        have HR5 := hide hr5
        clear hown hnew hb hr5
        go_wp2_with fail
        refine (pending_any p2 q2 O2 C w5 HT5.out.c).mono ?_
        rintro e w6 ⟨v6, rfl, hown, hnew, hb⟩
        obtain ⟨a6, c6, rfl, hr6⟩ := hown.row
        have HT6 := hide (HT5.out.on hb)
        have HR56 := hide (HR5.out.below hb)
        have HR6 := hide hr6
        clear hown hnew hb hr6
        have HSi := hide (samei_any a5 a6 C.ws.length c5 c6 (C.ws.map (·.1)) w6 (by rw [List.length_map]) (by have := HWn.out; omega) HR56.out HR6.out)
        go_wp2_with fail
        refine HSi.out.mono ?_
        rintro e w7 ⟨rfl, hb⟩
        have HT7 := hide (HT6.out.on hb)
        clear hb HSi
        go_wp2_with fail
        refine (image_any p q O S w7 HT7.out.d).mono ?_
        rintro e w8 ⟨v8, rfl, hown, hnew, hb⟩
        rw [HLs.out] at hown
        have HT8 := hide (HT7.out.on hb)
        obtain ⟨a8, n8, c8, rfl, hn8⟩ := hown.shape2
        have HO8 := hide hown
        clear hown hnew hb
        go_wp2_with fail
        refine (image_any p2 q2 O2 C w8 HT8.out.c).mono ?_
        rintro e w9 ⟨v9, rfl, hown, hnew, hb⟩
        have HT9 := hide (HT8.out.on hb)
        obtain ⟨a9, n9, c9, rfl, hn9⟩ := hown.shape2
        have HO9 := hide hown
        have HO89 := hide (HO8.out.on hb)
        clear hown hnew hb
        have HSb := hide (sameb_any a8 a9 n8 n9 c8 c9 C.ls.flatten C.ls.flatten w9 hn8.out.symm hn9.out.symm (own_small HO89.out) (own_small HO9.out) (own_row2 HO89.out) (own_row2 HO9.out))
        rw [sameB_self] at HSb
        go_wp2_with fail
        refine HSb.out.mono ?_
        rintro e w10 ⟨rfl, hb⟩
        have HT10 := hide (HT9.out.on hb)
        clear hb
        go_wp2
        go_ret
        exact ⟨rfl, HT10.out.below⟩
      · have hd1 : decide (k < xs.length) = false := by simp; omega
        go_wp2_with fail
        refine (pending_any p q O S wr HT.out.d).mono ?_
        rintro e w5 ⟨v5, rfl, hown, hnew, hb⟩
        rw [HWs.out] at hown
        obtain ⟨a5, c5, rfl, hr5⟩ := hown.row
        have HT5 := hide (HT.out.on hb)
        have HR5 := hide hr5
        clear hown hnew hb hr5
        go_wp2_with fail
        refine (pending_any p2 q2 O2 C w5 HT5.out.c).mono ?_
        rintro e w6 ⟨v6, rfl, hown, hnew, hb⟩
        obtain ⟨a6, c6, rfl, hr6⟩ := hown.row
        have HT6 := hide (HT5.out.on hb)
        have HR56 := hide (HR5.out.below hb)
        have HR6 := hide hr6
        clear hown hnew hb hr6
        have HSi := hide (samei_any a5 a6 C.ws.length c5 c6 (C.ws.map (·.1)) w6 (by rw [List.length_map]) (by have := HWn.out; omega) HR56.out HR6.out)
        go_wp2_with fail
        refine HSi.out.mono ?_
        rintro e w7 ⟨rfl, hb⟩
        have HT7 := hide (HT6.out.on hb)
        clear hb HSi
        go_wp2_with fail
        refine (image_any p q O S w7 HT7.out.d).mono ?_
        rintro e w8 ⟨v8, rfl, hown, hnew, hb⟩
        rw [HLs.out] at hown
        have HT8 := hide (HT7.out.on hb)
        obtain ⟨a8, n8, c8, rfl, hn8⟩ := hown.shape2
        have HO8 := hide hown
        clear hown hnew hb
        go_wp2_with fail
        refine (image_any p2 q2 O2 C w8 HT8.out.c).mono ?_
        rintro e w9 ⟨v9, rfl, hown, hnew, hb⟩
        have HT9 := hide (HT8.out.on hb)
        obtain ⟨a9, n9, c9, rfl, hn9⟩ := hown.shape2
        have HO9 := hide hown
        have HO89 := hide (HO8.out.on hb)
        clear hown hnew hb
        have HSb := hide (sameb_any a8 a9 n8 n9 c8 c9 C.ls.flatten C.ls.flatten w9 hn8.out.symm hn9.out.symm (own_small HO89.out) (own_small HO9.out) (own_row2 HO89.out) (own_row2 HO9.out))
        rw [sameB_self] at HSb
        go_wp2_with fail
        refine HSb.out.mono ?_
        rintro e w10 ⟨rfl, hb⟩
        have HT10 := hide (HT9.out.on hb)
        clear hb
        go_wp2
        go_ret
        exact ⟨rfl, HT10.out.below⟩
set_option maxHeartbeats 1600000 in
set_option maxRecDepth 100000 in
theorem lifted (os : Os) (started : os.Started) (H : Type) (enc : TypeId × Value → H) :
    ReturnsInHanded {} Try.checked os 7 .any (Rows.diskFailsSpec.pre6 enc Try.prog Try.f7 Rows.diskFailsRow.domain false) (Rows.diskFailsSpec.post enc Try.prog Try.f7 false true false false) := by
  refine returnsInHanded_of_change (C := Try.checked) own started (by kernel_rfl) Try.func7
    (ChangeSpec.witness6 (enc := enc) (C := Try.checked) false ⟨#[], #[.int .u8 0, .int .u8 0, .slice none 0 0], []⟩ 8 (by kernel_rfl) (by kernel_rfl) (by kernel_rfl) (by kernel_rfl)) ?_
  intro W base args ds gs before hval0 hW hcnd _
  have hval : ∀ (j : Nat) t v, Try.f7.params[j]? = some t → args[j]? = some v → Value.okWide Try.prog W .any base t v := hval0
  have hW' := hW
  obtain ⟨p, q, hA0, hV, rfl, hfz, hnd⟩ := hW
  have hA : DataW.TrodAll enc Try.prog W 0 (fun _ => true) true Try.f7.params.toList args.toList ds p := hA0
  rw [Try.params7] at hA hval
  obtain ⟨v0, vs0, d0, ds0, p0, q0, hargs, rfl, rfl, h0, r0⟩ := trodAll_cons hA
  obtain ⟨v1, vs1, d1, ds1, p1, q1, rfl, rfl, rfl, h1, r1⟩ := trodAll_cons r0
  obtain ⟨v2, vs2, d2, ds2, p2, q2, rfl, rfl, rfl, h2, r2⟩ := trodAll_cons r1
  obtain ⟨rfl, rfl, rfl⟩ := trodAll_nil r2
  obtain rfl : args = #[v0, v1, v2] := by cases args; simp_all
  obtain ⟨rfl, rfl⟩ := trodVars_none hV
  obtain ⟨a0, rfl, rfl, rfl, w0⟩ := open_int Try.underlying5 (hval 0 5 v0 rfl rfl) h0
  obtain ⟨a1, rfl, rfl, rfl, w1⟩ := open_int Try.underlying5 (hval 1 5 v1 rfl rfl) h1
  obtain ⟨a2, len2, cap2, rfl⟩ := okWide_slice Try.underlying71 (hval 2 71 v2 rfl rfl)
  have k2 := h2
  have lt2 : ∀ x ∈ p2, x.block < W.heap.size := by obtain ⟨m, hm⟩ := k2; exact DataW.trod_lt m _ _ _ hm
  obtain ⟨z2, w2⟩ : ∃ zs, IsRow .u16 W a2 len2 cap2 zs := by
    obtain ⟨fuel, hf⟩ := h2
    rcases open_ints Try.underlying71 Try.underlying25 (by kernel_rfl) hf with ⟨hcs, _⟩ | ⟨x, l, c, zs, hcs, _, hl, hm, hz, _, hcell, hwz⟩
    · simp [Value.cells] at hcs
      obtain ⟨rfl, rfl, rfl⟩ := hcs
      exact ⟨[], .inl ⟨rfl, rfl, rfl, rfl⟩⟩
    · simp [Value.cells] at hcs
      obtain ⟨rfl, rfl, rfl⟩ := hcs
      exact ⟨zs, .inr ⟨_, rfl, hl, hm, by simpa using hz, hcell, hwz⟩⟩
  obtain ⟨hrow2, hbd2, hlen2, hm2⟩ := isrow16 w2
  clear hA0 hval0
  have b0 := bounds_u8 w0
  have b1 := bounds_u8 w1
  have hwk := walk a0.toNat a1.toNat a2 cap2 ((z2.take len2).map Int.toNat) W (by omega) (by omega) hrow2 hbd2 (by rw [hlen2]; exact hm2)
  rw [hlen2, Int.toNat_of_nonneg b0.1, Int.toNat_of_nonneg b1.1] at hwk
  refine hwk.mono fun e W' ⟨he, bel⟩ => ?_
  subst he
  exact ⟨_, rfl, _, _, _, [], _, [], hW', trodAll_mk1 (shut_bool Try.underlying4 _), (trodAll_cons_mk (shut_int Try.underlying5 w0) (trodAll_cons_mk (shut_int Try.underlying5 w1) (trodAll_cons_mk (Below.trod laidOut (by kernel_rfl) (of_decide_eq_true (by kernel_rfl)) k2 bel lt2) trodAll_mk0))), rfl, bel.frame _, fun h => by cases h⟩

theorem over : Rows.diskFailsRow.holds Try.pinned (OpenSpec.ofChange Rows.diskFailsSpec) :=
  OpenClaim.holds_of_wide 7 Try.f7 rfl rfl rfl rfl rfl rfl rfl ⟨rfl, rfl, rfl, rfl, rfl⟩ rfl rfl rfl rfl rfl (by kernel_rfl) Try.func7 (by kernel_rfl)
    (of_decide_eq_true (by kernel_rfl)) (by unfold Func.isWrapper; first | (rw [if_pos (by decide +kernel)]; kernel_rfl) | (rw [if_neg (by decide +kernel)]; exact ⟨rfl, rfl⟩))
    (fun os started H enc _ => lifted os started H enc)

end Go.Proofs.Ytgbnlcpmpkbmkaa.Fails
namespace Go.Proofs.Ytgbnlcpmpkbmkaa
theorem diskFails_holds : Rows.DiskFailsSaid := Fails.over
#print axioms diskFails_holds
end Go.Proofs.Ytgbnlcpmpkbmkaa
