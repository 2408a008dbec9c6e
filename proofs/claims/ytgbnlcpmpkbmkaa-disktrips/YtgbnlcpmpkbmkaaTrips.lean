/- The Go function DiskTrips answers true for all numbers of pages, all trips and all writes, and leaves them as they were: behind a trip of n just n operations are done, and nothing that comes behind them changes anything till the next cut. No condition. -/
import Derived.Test.YtgbnlcpmpkbmkaaDX
import Derived.Deep.RegionHeld3
namespace Go.Proofs.Ytgbnlcpmpkbmkaa.Trips
open Go.ChangeShapes Go.WideShapes Go.ChangeAt Go.RowKit
set_option linter.unusedVariables false

set_option maxHeartbeats 6400000 in
set_option maxRecDepth 1000000 in
theorem walk (a n : Nat) (la : Option Addr) (lc : Nat) (xs : List Nat) (w : World) (ha : a ≤ 255) (hn : n ≤ 255) (hr : WRow w la xs) (hx : ∀ x ∈ xs, x ≤ 65535) (hl : xs.length ≤ 9223372036854775807) :
    Calls Try.prog 6 #[.int .u8 (a : Int), .int .u8 (n : Int), .slice la xs.length lc] w fun e w' => e = .returned (.bool true) ∧ Below w.heap.size w w' := by
  have HRw : Hid (∀ W, Below w.heap.size w W → WRow W la xs) := fun W hb => hr.below hb
  have HXb : Hid (∀ i, xs.getD i 0 ≤ 65535) := fun i => by
    by_cases h : i < xs.length
    · exact hx _ (getD_mem _ _ _ h)
    · rw [List.getD_eq_getElem?_getD, List.getElem?_eq_none (by omega)]; exact Nat.zero_le _
  clear hr hx
  obtain ⟨M, HM, hM1, hM6⟩ : ∃ M, Hid (M = a % 6 + 1) ∧ 1 ≤ M ∧ M ≤ 6 := ⟨_, rfl, by omega, by omega⟩
  obtain ⟨T, HT, hT⟩ : ∃ T, Hid (T = n % 40) ∧ T ≤ 39 := ⟨_, rfl, by omega⟩
  have e3 : (a : Int) % 6 + 1 = (M : Int) := by rw [HM.out]; omega
  have e4 : (n : Int) % 40 = (T : Int) := by rw [HT.out]; omega
  go_enter Try.func6, Try.ntmps6
  go_wp2_with fail
  refine (new_at M (M : Int) w rfl hM1 (by omega)).mono ?_
  rintro e w1 ⟨O1, p, q, rfl, hd, hf⟩
  have HD1 := hide hd
  have HF1 := hide hf
  clear hd hf
  go_wp2_with fail
  refine (known_any w1).mono ?_
  rintro e w2 ⟨rfl, hb⟩
  have HD2 := hide (HD1.out.below hb)
  have HF2 := hide (HF1.out.on hb)
  clear hb HD1 HF1
  go_wp2_with fail
  refine (trip_any p q O1 (DS.new (8 * M)) (T : Int) w2 HD2.out (by omega) (by omega) rfl).mono ?_
  rintro e w3 ⟨rfl, hd, hg⟩
  have HD3 := hide hd
  have HF3 := hide (HF2.out.go hg)
  clear hd hg HD2 HF2
  go_wp2
  go_loopw [13, 12] (fun i dn wr' => ∃ (k : Nat) (S : DS) (O : Nat → Prop), k ≤ 100 ∧ i = .int .i64 (k : Int) ∧ dn = .int .i64 ((min k T : Nat) : Int) ∧ DkAt wr' p q S O ∧ Trp M T k S ∧ Fd w.heap.size w wr' O) (fun i _ _ => 100 - (intOf i).toNat)
  case atStart => exact ⟨0, _, O1, by omega, rfl, by simp, HD3.out, Trp.start M T, HF3.out⟩
  case round =>
    obtain ⟨k, S, O, hk, rfl, rfl, hd, htr, hf⟩ := hrel
    have HD := hide hd
    have HTr := hide htr
    have HF := hide hf
    clear hd htr hf
    by_cases hlt : k < xs.length ∧ k < 100
    · obtain ⟨hlt1, hlt2⟩ := hlt
      have hd1 : decide (k < xs.length) = true := by simp [hlt1]
      have hd2 : decide ((k : Int) < 100) = true := by simp; omega
      obtain ⟨lb, lo, rfl, hcell⟩ : ∃ lb lo, la = some ⟨lb, lo, none⟩ ∧ Hid (∀ W, Below w.heap.size w W → W.cell? ⟨lb, lo + k, none⟩ = some (.int .u16 ((xs.getD k 0 : Nat) : Int))) := wrow_at (HRw.out) hlt1
      have HCl := hcell
      clear hcell
      have hxb := HXb.out k
      generalize xs.getD k 0 = x at *
      obtain ⟨r, HR, hrM⟩ : ∃ r, Hid (r = x % M) ∧ r < M := ⟨_, rfl, Nat.mod_lt _ (by omega)⟩
      obtain ⟨cc, HC, hcb⟩ : ∃ cc, Hid (cc = x / 256) ∧ cc ≤ 255 := ⟨_, rfl, by omega⟩
      have e6 : (x : Int) % (M : Int) = (r : Int) := by rw [HR.out]; rfl
      have e7 : (x : Int) / 256 = (cc : Int) := by rw [HC.out]; rfl
      have e8 : Int.tmod (x : Int) (M : Int) = (r : Int) := by rw [Int.tmod_eq_emod_of_nonneg (by omega)]; exact e6
      have e9 : IntKind.i64.wrap (r : Int) = (r : Int) := by rw [IntKind.wrap_i64]; omega
      have hM0 : ¬ ((M : Int) = 0) := by omega
      have hM0' : ((M : Int) == 0) = false := by simp; omega
      have hM0'' : ¬ (M = 0) := by omega
      have c0 := HCl.out wr.drew HF.out.below.drew
      have e12 : IntKind.i64.wrap (x : Int) = (x : Int) := by rw [IntKind.wrap_i64]; omega
      have e10 : IntKind.u16.wrap (cc : Int) = (cc : Int) := by rw [IntKind.wrap_u16]; omega
      have e11 : IntKind.u8.wrap (cc : Int) = (cc : Int) := by rw [IntKind.wrap_u8]; omega
      have HDd := hide (HD.out.below (Below.refl _ _).drew)
      have HFd := hide (HF.out.on (Below.refl _ _).drew)
      have hls := HTr.out.ls
      have hws := HTr.out.ws
      have hn2 := HTr.out.n2
      have HFl := hide (filled_at 128 128 (cc : Int) wr.drew rfl (by omega))
      have HLs := hide hls
      have HWs := hide hws
      have HN2 := hide hn2
      clear hls hws hn2
      by_cases hkT : k < T
      · have hkd : decide (k < T) = true := by simp [hkT]
        have hkg : decide (T ≤ k) = false := by simp; omega
        have he := HTr.out.er0 hkT
        have HE := hide he
        clear he
        go_wp2
        go_region_held3 (fun W => W.cell? ⟨lb, lo + k, none⟩ = some (.int .u16 (x : Int))) (assumption) ((first | (go_at_call 23; refine HFl.out.mono ?_; intro r' w5 hh; obtain ⟨rfl, hrow, hlt, hb⟩ := hh; have HR5 := hide hrow; have HL5 := hide hlt; have HNo : Hid (¬ O wr.drew.heap.size) := (fun h => by have h1 := HDd.out.lt _ h; omega); have HD5 := hide (HDd.out.below hb); have HF5 := hide (HFd.out.on hb); clear hrow hlt hb c0; have c0 := HCl.out w5 HF5.out.below) | (go_at_call 22; refine (write_ok p q O S r (r : Int) wr.drew.heap.size 128 (cc : Int) 1 w5 HD5.out rfl (by omega) HNo.out HR5.out HL5.out (by rw [HLs.out]; omega) (by rw [HLs.out]; omega) (by omega) (by rw [HWs.out]; omega) (by rw [HN2.out]; omega) HE.out).mono ?_; intro r' w6 hh; obtain ⟨rfl, O6, hd, hg⟩ := hh; have HD6 := hide hd; have HF6 := hide (HF5.out.go hg); clear hd hg c0; have c0 := HCl.out w6 HF6.out.below)))
        have HTn := hide (HTr.out.go hkT (8 * r) (List.replicate 128 (cc : Int)))
        have HDk := hide (dark_any p q O6 _ w6 HD6.out)
        rw [(HTn.out.on (by omega)).1] at HDk
        go_wp2_with fail
        refine HDk.out.mono ?_
        rintro e w7 ⟨rfl, hb⟩
        have HD7 := hide (HD6.out.below hb)
        have HF7 := hide (HF6.out.on hb)
        clear hb c0
        go_wp2
        go_roundw
        case rel => exact ⟨k + 1, _, O6, by omega, by go_num, by rw [show min (k + 1) T = min k T + 1 by omega]; rfl, HD7.out, HTn.out, HF7.out⟩
        case measure => simp [intOf]; omega
      · have hkd : decide (k < T) = false := by simp; omega
        have hkg : decide (T ≤ k) = true := by simp; omega
        have he := HTr.out.er4 (by omega)
        have HE := hide he
        clear he
        go_wp2
        go_region_held3 (fun W => W.cell? ⟨lb, lo + k, none⟩ = some (.int .u16 (x : Int))) (assumption) ((first | (go_at_call 23; refine HFl.out.mono ?_; intro r' w5 hh; obtain ⟨rfl, hrow, hlt, hb⟩ := hh; have HR5 := hide hrow; have HL5 := hide hlt; have HNo : Hid (¬ O wr.drew.heap.size) := (fun h => by have h1 := HDd.out.lt _ h; omega); have HD5 := hide (HDd.out.below hb); have HF5 := hide (HFd.out.on hb); clear hrow hlt hb c0; have c0 := HCl.out w5 HF5.out.below) | (go_at_call 22; refine (write_dark p q O S r (r : Int) wr.drew.heap.size 128 (cc : Int) 1 w5 HD5.out rfl (by omega) HNo.out HR5.out HL5.out (by rw [HLs.out]; omega) (by rw [HLs.out]; omega) (by omega) (by rw [HWs.out]; omega) (by rw [HN2.out]; omega) HE.out).mono ?_; intro r' w6 hh; obtain ⟨rfl, O6, hd, hg⟩ := hh; have HD6 := hide hd; have HF6 := hide (HF5.out.go hg); clear hd hg c0; have c0 := HCl.out w6 HF6.out.below)))
        have HTn := hide (HTr.out.stop (by omega))
        have HDk := hide (dark_any p q O6 _ w6 HD6.out)
        rw [HTn.out.2] at HDk
        go_wp2_with fail
        refine HDk.out.mono ?_
        rintro e w7 ⟨rfl, hb⟩
        have HD7 := hide (HD6.out.below hb)
        have HF7 := hide (HF6.out.on hb)
        clear hb c0
        go_wp2
        go_roundw
        case rel => exact ⟨k + 1, _, O6, by omega, by go_num, by rw [show min (k + 1) T = min k T by omega], HD7.out, HTn.out.1, HF7.out⟩
        case measure => simp [intOf]; omega
    · obtain ⟨D, hD⟩ : ∃ D, D = min k T := ⟨_, rfl⟩
      rw [← hD]
      have HDl : Hid ((S.ws.map (·.1)).length = D) := by rw [Hid, List.length_map, HTr.out.ws, hD]
      have HN2 : Hid (S.n2 = (D : Int)) := by rw [Hid, HTr.out.n2, hD]
      have hdm : D ≤ 100 := by omega
      have HPd := hide (pending_any p q O S wr HD.out)
      clear hD
      by_cases hk1 : k < xs.length
      · have hd1 : decide (k < xs.length) = true := by simp; omega
        have hd2 : decide ((k : Int) < 100) = false := by simp; omega
        go_wp2_with fail
        refine HPd.out.mono ?_
        rintro e w5 ⟨vp, rfl, hown, hnew, hb⟩
        obtain ⟨pa, pn, pc, rfl, hpn⟩ := ownI_shape hown
        rw [HDl.out] at hpn
        subst hpn
        have HD5 := hide (HD.out.below hb)
        have HF5 := hide (HF.out.on hb)
        clear hown hnew hb
        have HCo := hide (counts_any p q O S w5 HD5.out)
        rw [HN2.out] at HCo
        have hz82 := zero82
        go_wp2_with fail
        refine HCo.out.mono ?_
        rintro e w6 ⟨rfl, hb⟩
        have HD6 := hide (HD5.out.below hb)
        have HF6 := hide (HF5.out.on hb)
        clear hb
        have HBx := hide (below_alloc w6 (.cells #[.int .i64 S.n1, .int .i64 (D : Int), .int .i64 S.n3] 82))
        have HD7 := hide (HD6.out.below HBx.out)
        have HF7 := hide (HF6.out.on HBx.out)
        have HNw : Hid (¬ O w6.heap.size) := fun h => by have h1 := HD6.out.lt _ h; omega
        have HCx : Hid (w6.heap.size < (w6.alloc (.cells #[.int .i64 S.n1, .int .i64 (D : Int), .int .i64 S.n3] 82)).heap.size ∧ (w6.alloc (.cells #[.int .i64 S.n1, .int .i64 (D : Int), .int .i64 S.n3] 82)).cell? ⟨w6.heap.size, 1, none⟩ = some (.int .i64 (D : Int))) := ⟨by rw [size_al]; omega, by rw [cell_of_row _ _ 1 _ 82 (0, 0) (heap_alloc_new w6 _)]; rfl⟩
        have HCt := hide (fun W h => cut_any p q O S none 0 [] W h (.inl rfl) (fun h0 => absurd rfl h0) (fun h0 => absurd rfl h0) (by decide))
        have HN1 := hide HTr.out.n1
        have HLs := hide HTr.out.ls
        go_wp2_with fail
        refine (HCt.out _ HD7.out).mono ?_
        rintro e w8 ⟨rfl, O8, hd, hg⟩
        have HD8 := hide hd
        have HF8 := hide (HF7.out.go hg)
        have c8 : w8.cell? ⟨w6.heap.size, 1, none⟩ = some (.int .i64 (D : Int)) := hg.mv.cell HCx.out.2 HNw.out
        have HN8 : Hid (¬ O8 w6.heap.size) := fun h => (hg.own _ h).elim HNw.out (fun hl => by have h1 := HCx.out.1; omega)
        clear hd hg
        go_wp2_with fail
        refine (read_ok p q O8 (S.cut []) 0 0 w8 HD8.out rfl (by rw [cut_len, HLs.out]; omega) (by show S.n1 + 1 ≤ 1000000; rw [HN1.out]; omega) rfl).mono ?_
        rintro e w9 ⟨vx, rfl, hown, hap, hnew, hd, hg⟩
        have HD9 := hide hd
        have HF9 := hide (HF8.out.go hg)
        have c9 := hg.mv.cell c8 HN8.out
        clear hown hap hnew hd hg c8
        have HDk := hide (dark_any p q O8 _ w9 HD9.out)
        rw [show ((S.cut []).op1).dk = false from rfl] at HDk
        go_wp2_with fail
        refine HDk.out.mono ?_
        rintro e w10 ⟨rfl, hb⟩
        have HF10 := hide (HF9.out.on hb)
        clear hb c9
        go_wp2
        go_ret
        exact ⟨rfl, HF10.out.below⟩
      · have hd1 : decide (k < xs.length) = false := by simp; omega
        go_wp2_with fail
        refine HPd.out.mono ?_
        rintro e w5 ⟨vp, rfl, hown, hnew, hb⟩
        obtain ⟨pa, pn, pc, rfl, hpn⟩ := ownI_shape hown
        rw [HDl.out] at hpn
        subst hpn
        have HD5 := hide (HD.out.below hb)
        have HF5 := hide (HF.out.on hb)
        clear hown hnew hb
        have HCo := hide (counts_any p q O S w5 HD5.out)
        rw [HN2.out] at HCo
        have hz82 := zero82
        go_wp2_with fail
        refine HCo.out.mono ?_
        rintro e w6 ⟨rfl, hb⟩
        have HD6 := hide (HD5.out.below hb)
        have HF6 := hide (HF5.out.on hb)
        clear hb
        have HBx := hide (below_alloc w6 (.cells #[.int .i64 S.n1, .int .i64 (D : Int), .int .i64 S.n3] 82))
        have HD7 := hide (HD6.out.below HBx.out)
        have HF7 := hide (HF6.out.on HBx.out)
        have HNw : Hid (¬ O w6.heap.size) := fun h => by have h1 := HD6.out.lt _ h; omega
        have HCx : Hid (w6.heap.size < (w6.alloc (.cells #[.int .i64 S.n1, .int .i64 (D : Int), .int .i64 S.n3] 82)).heap.size ∧ (w6.alloc (.cells #[.int .i64 S.n1, .int .i64 (D : Int), .int .i64 S.n3] 82)).cell? ⟨w6.heap.size, 1, none⟩ = some (.int .i64 (D : Int))) := ⟨by rw [size_al]; omega, by rw [cell_of_row _ _ 1 _ 82 (0, 0) (heap_alloc_new w6 _)]; rfl⟩
        have HCt := hide (fun W h => cut_any p q O S none 0 [] W h (.inl rfl) (fun h0 => absurd rfl h0) (fun h0 => absurd rfl h0) (by decide))
        have HN1 := hide HTr.out.n1
        have HLs := hide HTr.out.ls
        go_wp2_with fail
        refine (HCt.out _ HD7.out).mono ?_
        rintro e w8 ⟨rfl, O8, hd, hg⟩
        have HD8 := hide hd
        have HF8 := hide (HF7.out.go hg)
        have c8 : w8.cell? ⟨w6.heap.size, 1, none⟩ = some (.int .i64 (D : Int)) := hg.mv.cell HCx.out.2 HNw.out
        have HN8 : Hid (¬ O8 w6.heap.size) := fun h => (hg.own _ h).elim HNw.out (fun hl => by have h1 := HCx.out.1; omega)
        clear hd hg
        go_wp2_with fail
        refine (read_ok p q O8 (S.cut []) 0 0 w8 HD8.out rfl (by rw [cut_len, HLs.out]; omega) (by show S.n1 + 1 ≤ 1000000; rw [HN1.out]; omega) rfl).mono ?_
        rintro e w9 ⟨vx, rfl, hown, hap, hnew, hd, hg⟩
        have HD9 := hide hd
        have HF9 := hide (HF8.out.go hg)
        have c9 := hg.mv.cell c8 HN8.out
        clear hown hap hnew hd hg c8
        have HDk := hide (dark_any p q O8 _ w9 HD9.out)
        rw [show ((S.cut []).op1).dk = false from rfl] at HDk
        go_wp2_with fail
        refine HDk.out.mono ?_
        rintro e w10 ⟨rfl, hb⟩
        have HF10 := hide (HF9.out.on hb)
        clear hb c9
        go_wp2
        go_ret
        exact ⟨rfl, HF10.out.below⟩
set_option maxHeartbeats 1600000 in
set_option maxRecDepth 100000 in
theorem lifted (os : Os) (started : os.Started) (H : Type) (enc : TypeId × Value → H) :
    ReturnsInHanded {} Try.checked os 6 .any (Rows.diskTripsSpec.pre6 enc Try.prog Try.f6 Rows.diskTripsRow.domain false) (Rows.diskTripsSpec.post enc Try.prog Try.f6 false true false false) := by
  refine returnsInHanded_of_change (C := Try.checked) own started (by kernel_rfl) Try.func6
    (ChangeSpec.witness6 (enc := enc) (C := Try.checked) false ⟨#[], #[.int .u8 0, .int .u8 0, .slice none 0 0], []⟩ 8 (by kernel_rfl) (by kernel_rfl) (by kernel_rfl) (by kernel_rfl)) ?_
  intro W base args ds gs before hval0 hW hcnd _
  have hval : ∀ (j : Nat) t v, Try.f6.params[j]? = some t → args[j]? = some v → Value.okWide Try.prog W .any base t v := hval0
  have hW' := hW
  obtain ⟨p, q, hA0, hV, rfl, hfz, hnd⟩ := hW
  have hA : DataW.TrodAll enc Try.prog W 0 (fun _ => true) true Try.f6.params.toList args.toList ds p := hA0
  rw [Try.params6] at hA hval
  obtain ⟨v0, vs0, d0, ds0, p0, q0, hargs, rfl, rfl, h0, r0⟩ := trodAll_cons hA
  obtain ⟨v1, vs1, d1, ds1, p1, q1, rfl, rfl, rfl, h1, r1⟩ := trodAll_cons r0
  obtain ⟨v2, vs2, d2, ds2, p2, q2, rfl, rfl, rfl, h2, r2⟩ := trodAll_cons r1
  obtain ⟨rfl, rfl, rfl⟩ := trodAll_nil r2
  obtain rfl : args = #[v0, v1, v2] := by cases args; simp_all
  obtain ⟨rfl, rfl⟩ := trodVars_none hV
  obtain ⟨a0, rfl, rfl, rfl, w0⟩ := open_int Try.underlying5 (hval 0 5 v0 rfl rfl) h0
  obtain ⟨a1, rfl, rfl, rfl, w1⟩ := open_int Try.underlying5 (hval 1 5 v1 rfl rfl) h1
  obtain ⟨a2, len2, cap2, rfl⟩ := okWide_slice Try.underlying71 (hval 2 71 v2 rfl rfl)
  have k2 := h2
  have lt2 : ∀ x ∈ p2, x.block < W.heap.size := by obtain ⟨m, hm⟩ := k2; exact DataW.trod_lt m _ _ _ hm
  obtain ⟨z2, w2⟩ : ∃ zs, IsRow .u16 W a2 len2 cap2 zs := by
    obtain ⟨fuel, hf⟩ := h2
    rcases open_ints Try.underlying71 Try.underlying25 (by kernel_rfl) hf with ⟨hcs, _⟩ | ⟨x, l, c, zs, hcs, _, hl, hm, hz, _, hcell, hwz⟩
    · simp [Value.cells] at hcs
      obtain ⟨rfl, rfl, rfl⟩ := hcs
      exact ⟨[], .inl ⟨rfl, rfl, rfl, rfl⟩⟩
    · simp [Value.cells] at hcs
      obtain ⟨rfl, rfl, rfl⟩ := hcs
      exact ⟨zs, .inr ⟨_, rfl, hl, hm, by simpa using hz, hcell, hwz⟩⟩
  obtain ⟨hrow2, hbd2, hlen2, hm2⟩ := isrow16 w2
  clear hA0 hval0
  have b0 := bounds_u8 w0
  have b1 := bounds_u8 w1
  have hwk := walk a0.toNat a1.toNat a2 cap2 ((z2.take len2).map Int.toNat) W (by omega) (by omega) hrow2 hbd2 (by rw [hlen2]; exact hm2)
  rw [hlen2, Int.toNat_of_nonneg b0.1, Int.toNat_of_nonneg b1.1] at hwk
  refine hwk.mono fun e W' ⟨he, bel⟩ => ?_
  subst he
  exact ⟨_, rfl, _, _, _, [], _, [], hW', trodAll_mk1 (shut_bool Try.underlying4 _), (trodAll_cons_mk (shut_int Try.underlying5 w0) (trodAll_cons_mk (shut_int Try.underlying5 w1) (trodAll_cons_mk (Below.trod laidOut (by kernel_rfl) (of_decide_eq_true (by kernel_rfl)) k2 bel lt2) trodAll_mk0))), rfl, bel.frame _, fun h => by cases h⟩

theorem over : Rows.diskTripsRow.holds Try.pinned (OpenSpec.ofChange Rows.diskTripsSpec) :=
  OpenClaim.holds_of_wide 6 Try.f6 rfl rfl rfl rfl rfl rfl rfl ⟨rfl, rfl, rfl, rfl, rfl⟩ rfl rfl rfl rfl rfl (by kernel_rfl) Try.func6 (by kernel_rfl)
    (of_decide_eq_true (by kernel_rfl)) (by unfold Func.isWrapper; first | (rw [if_pos (by decide +kernel)]; kernel_rfl) | (rw [if_neg (by decide +kernel)]; exact ⟨rfl, rfl⟩))
    (fun os started H enc _ => lifted os started H enc)

end Go.Proofs.Ytgbnlcpmpkbmkaa.Trips
namespace Go.Proofs.Ytgbnlcpmpkbmkaa
theorem diskTrips_holds : Rows.DiskTripsSaid := Trips.over
#print axioms diskTrips_holds
end Go.Proofs.Ytgbnlcpmpkbmkaa
