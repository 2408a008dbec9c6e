/- The Go function CodeBack answers true for every list of calls that is handed in, and leaves it as it was: what is written is read by the same calls, in the same order, and nothing is left. No condition. -/
import Derived.Test.YtobkmjkcbihfbaaQ
import Derived.Deep.RegionHeld3
import Derived.RegionTactic
namespace Go.Proofs.Ytobkmjkcbihfbaa.Back
open Go.ChangeShapes Go.WideShapes Go.ChangeAt Go.RowKit Go.Deep
set_option linter.unusedVariables false

theorem Rd.drew {w : World} {p : Nat} {a : Option Addr} {bs : List Int} {i e : Nat} (h : Rd w p a bs i e) : Rd w.drew p a bs i e := h.below (Below.refl _ _).drew
/-- a reader behind a call, in a box of its own. -/
theorem box_stays {w w' : World} {q b : Nat} {j : Nat} {v : Value} (hq : q ≠ b) (hc : w.cell? ⟨b, j, none⟩ = some v) (hg : w.grownBy w' (some q)) : w'.cell? ⟨b, j, none⟩ = some v :=
  hg.cell hc (fun e => hq (by simpa using e.symm))

set_option maxHeartbeats 3200000 in
set_option maxRecDepth 1000000 in
theorem walk (a0 : Option Addr) (l0 c0 : Nat) (O : Nat → Cal) (w : World) (h0 : Cals w a0 l0 O) (hl0 : l0 ≤ 140737488355328) :
    Calls Try.prog 5 #[.slice a0 l0 c0] w fun e w' => e = .returned (.bool true) ∧ Below w.heap.size w w' := by
  have H0 := hide h0
  clear h0
  go_enter Try.func5, Try.ntmps5
  go_wp2_with fail
  refine (much_any a0 l0 c0 O w hl0 H0.out).mono ?_
  rintro e w1 ⟨rfl | ⟨rfl, hb0⟩, rfl⟩
  · go_wp2
    go_ret
    exact ⟨rfl, Below.refl _ _⟩
  go_wp2_with fail
  refine (new_any _).mono ?_
  rintro e w2 ⟨rfl, rfl⟩
  have S1 := hide (new_st w1.heap.size w1 w1 (Below.refl _ _) (Nat.le_refl _))
  generalize w1.alloc (.cells #[.slice none 0 0] 88) = W2 at *
  generalize hB : w1.heap.size = B at S1 ⊢
  have HBB := hide hB
  clear hB
  go_wp2_with fail
  refine (known_any _).mono ?_
  rintro e W3 ⟨rfl, hb⟩
  have S3 := hide (S1.out.on hb)
  clear hb S1
  go_wp2
  go_loopw [4] (fun i wr' => ∃ k : Nat, k ≤ l0 ∧ i = .int .i64 (k : Int) ∧ St B w1 wr' B (ws O k)) (fun i _ => l0 - (intOf i).toNat)
  case atStart => exact ⟨0, Nat.zero_le _, rfl, S3.out⟩
  case round =>
    obtain ⟨k, hk, rfl, hT⟩ := hrel
    have T := hide hT
    clear hT S3
    by_cases hlt : k < l0
    · obtain ⟨b, off, rfl, hbl, hc⟩ := H0.out.at_ (by omega)
      obtain ⟨g0, g1, g2, g3⟩ := hc k hlt
      have hbB : b < B := HBB.out ▸ hbl
      have same : ∀ W : World, Below B w1 W → ∀ j v, w1.cell? ⟨b, j, none⟩ = some v → W.cell? ⟨b, j, none⟩ = some v := fun W hW j v h => (World.cell?_of_block (a := ⟨b, j, none⟩) (hW.block b hbB)).trans h
      have q0 := same _ T.out.below _ _ g0
      have q1 := same _ T.out.below _ _ g1
      have q2 := same _ T.out.below _ _ g2
      have q3 := same _ T.out.below _ _ g3
      have G0 := hide g0
      have G1 := hide g1
      have G2 := hide g2
      have G3 := hide g3
      have HSame := hide same
      clear hc g0 g1 g2 g3 same
      have hws := ws_long O l0 k hk H0.out.num H0.out.long hb0
      have htk := tot_mono O k l0 hk
      have HP1 := hide (prep H0.out HBB.out T.out.below T.out.new T.out.wr hlt hb0 (by omega))
      go_wp2
      go_region_held3 (fun W => W.cell? ⟨b, off + k * 4, none⟩ = some (.int .u8 ((O k).k : Int)) ∧ W.cell? ⟨b, off + k * 4 + 1, none⟩ = some (.int .u64 ((O k).v : Int)) ∧ W.cell? ⟨b, off + k * 4 + 2, none⟩ = some (.int .i64 (O k).n) ∧ W.cell? ⟨b, off + k * 4 + 3, none⟩ = some (.slice (O k).a (O k).l (O k).c)) ((refine ⟨?_, ?_, ?_, ?_⟩ <;> assumption)) ((first | (go_at_call 12; refine HP1.out.mono ?_; intro r w1 hput; obtain ⟨x1, x2, x3, rfl, hwA, hoA⟩ := Put.drop hput; have TA := hide ((T.out.on (Below.refl _ _).drew).wrote hwA hoA); have qa0 := HSame.out _ TA.out.below _ _ G0.out; have qa1 := HSame.out _ TA.out.below _ _ G1.out; have qa2 := HSame.out _ TA.out.below _ _ G2.out; have qa3 := HSame.out _ TA.out.below _ _ G3.out; clear hput hwA hoA)))
      clear q0 q1 q2 q3 HP1 T
      go_wp2
      go_roundw
      case rel => exact ⟨k + 1, by omega, by go_num, TA.out⟩
      case measure => simp [intOf]; omega
    · have hke : k = l0 := by omega
      subst hke
      have hwsA := ws_long O k k hk H0.out.num H0.out.long hb0
      have LA : Hid ((ws O k).length ≤ 1000000) := by rw [Hid]; omega
      have YA := hide (ws_byts O k k hk H0.out.byts)
      have DA := hide (fun r hr => ws_drop O r k hr)
      have EA : Hid (ws O k = ws O k) := rfl
      clear hwsA
      generalize hA : ws O k = A at T LA YA DA
      have HA := hide hA
      clear hA hk hlt EA
      go_wp2_with fail
      refine (wbytes_any B A _ T.out.wr (by have := LA.out; omega)).mono ?_
      rintro e W4 ⟨x1, rfl, hown, hfr, hb4⟩
      have R4 := hide hown.row
      have T4 := hide (T.out.on hb4)
      clear hown hfr hb4 T
      go_wp2_with fail
      refine (read_any x1 A.length A.length A W4 rfl R4.out YA.out (by have := LA.out; omega)).mono ?_
      rintro e W5 ⟨q, a2, rfl, hrd, hq, -, hb5⟩
      have S5 : Hid (Sr B w1 W5 q a2 A 0 0) := ⟨T4.out.below.trans (hb5.mono T4.out.size), Nat.le_trans T4.out.size hb5.size, hrd, Nat.le_trans T4.out.size hq⟩
      clear hrd hq hb5 R4 T4
      go_wp2
      go_loopw [6] (fun i wr' => ∃ j : Nat, j ≤ k ∧ i = .int .i64 (j : Int) ∧ Sr B w1 wr' q a2 A (ws O j).length 0) (fun i _ => k - (intOf i).toNat)
      case atStart => exact ⟨0, Nat.zero_le _, rfl, S5.out⟩
      case round =>
        clear S5
        obtain ⟨r, hr, rfl, hS⟩ := hrel
        have S := hide hS
        clear hS
        by_cases hlt : r < k
        · obtain ⟨b, off, rfl, hbl, hc⟩ := H0.out.at_ (by omega)
          obtain ⟨g0, g1, g2, g3⟩ := hc r hlt
          have hbB : b < B := HBB.out ▸ hbl
          have same : ∀ W : World, Below B w1 W → ∀ j v, w1.cell? ⟨b, j, none⟩ = some v → W.cell? ⟨b, j, none⟩ = some v := fun W hW j v h => (World.cell?_of_block (a := ⟨b, j, none⟩) (hW.block b hbB)).trans h
          have q0 := same _ S.out.below _ _ g0
          have q1 := same _ S.out.below _ _ g1
          have q2 := same _ S.out.below _ _ g2
          have q3 := same _ S.out.below _ _ g3
          clear hc g0 g1 g2 g3 same
          have hkk := H0.out.kind r hlt
          have hv := H0.out.num r hlt
          have HD := hide (DA.out r hlt)
          have HN := hide (ws_next O r)
          have HYl := hide (H0.out.long r hlt)
          have hsm : (O r).l ≤ 1000000 := by
            have h2 := tot_mono O (r + 1) k (by omega)
            have h4 : tot O (r + 1) = tot O r + (O r).l := rfl
            omega
          have HBa := hide (H0.out.bare r hlt)
          have HYb := hide (H0.out.byts r hlt)
          have HRw0 := hide (H0.out.row r hlt)
          have HRw := hide ((H0.out.row r hlt).below (by rw [HBB.out]; exact S.out.below))
          generalize (ws O r).length = i at *
          generalize (O r).k = kk at *
          generalize (O r).v = v at *
          generalize (O r).n = nn at *
          generalize (O r).a = aa at *
          generalize (O r).l = ll at *
          generalize (O r).c = cc at *
          generalize (O r).bs = ys at *
          have HB1 := hide (below_alloc wr (.cells #[.int .u8 (kk : Int), .int .u64 (v : Int), .int .i64 nn, .slice aa ll cc] 57))
          have S1 := hide (S.out.on HB1.out)
          have HRw1 := hide (HRw.out.below HB1.out)
          have HX1 : Hid ((wr.alloc (.cells #[.int .u8 (kk : Int), .int .u64 (v : Int), .int .i64 nn, .slice aa ll cc] 57)).cell? ⟨wr.heap.size, 1, none⟩ = some (.int .u64 (v : Int))) := by rw [Hid, World.cell?, heap_alloc_new]; rfl
          have HX3 : Hid ((wr.alloc (.cells #[.int .u8 (kk : Int), .int .u64 (v : Int), .int .i64 nn, .slice aa ll cc] 57)).cell? ⟨wr.heap.size, 3, none⟩ = some (.slice aa ll cc)) := by rw [Hid, World.cell?, heap_alloc_new]; rfl
          have HQ : Hid (q ≠ wr.heap.size) := by have := S.out.rd.lt; rw [Hid]; omega
          have hmod : kk % 8 < 8 := Nat.mod_lt _ (by omega)
          generalize hj : kk % 8 = j at *
          have hj2 : (kk : Int) % 8 = (j : Int) := by omega
          clear hj HB1
          obtain ⟨t, ht⟩ := HD.out
          have HT := hide ht
          clear ht HD
          by_cases h0 : j = 0
          · subst h0
            have HP := hide (back0 (Rd.drew S1.out.rd) HT.out)
            go_wp2
            generalize wr.alloc (.cells #[.int .u8 (kk : Int), .int .u64 (v : Int), .int .i64 nn, .slice aa ll cc] 57) = X at *
            generalize wr.heap.size = bx at *
            have y1 := HX1.out
            have HX1d : Hid (X.drew.cell? ⟨bx, 1, none⟩ = some (.int .u64 (v : Int))) := HX1.out
            have HB2 := hide ((Below.refl X.heap.size X).drew)
            clear q0 q1 q2 q3
            go_region_held3 (fun W => W.cell? ⟨bx, 1, none⟩ = some (.int .u64 (v : Int))) (assumption) ((first | (go_at_call 26; refine HP.out.mono ?_; intro r' w2 hh; obtain ⟨rfl, hrd, hg⟩ := hh; have S2 := hide ((S1.out.on HB2.out).grown hrd hg); have y2 := box_stays HQ.out HX1d.out hg; clear hrd hg)))
            rw [show ((v : Int) % 256 == IntKind.u8.wrap (v : Int)) = true from by simp [IntKind.wrap, IntKind.bits, IntKind.signed]]
            go_wp2
            go_roundw
            case rel => exact ⟨r + 1, by omega, by go_num, by rw [HN.out]; exact S2.out⟩
            case measure => simp [intOf]; omega
          by_cases h1 : j = 1
          · subst h1
            have HP := hide (back1 (Rd.drew S1.out.rd) HT.out)
            go_wp2
            generalize wr.alloc (.cells #[.int .u8 (kk : Int), .int .u64 (v : Int), .int .i64 nn, .slice aa ll cc] 57) = X at *
            generalize wr.heap.size = bx at *
            have y1 := HX1.out
            have HX1d : Hid (X.drew.cell? ⟨bx, 1, none⟩ = some (.int .u64 (v : Int))) := HX1.out
            have HB2 := hide ((Below.refl X.heap.size X).drew)
            clear q0 q1 q2 q3
            go_region_held3 (fun W => W.cell? ⟨bx, 1, none⟩ = some (.int .u64 (v : Int))) (assumption) ((first | (go_at_call 27; refine HP.out.mono ?_; intro r' w2 hh; obtain ⟨rfl, hrd, hg⟩ := hh; have S2 := hide ((S1.out.on HB2.out).grown hrd hg); have y2 := box_stays HQ.out HX1d.out hg; clear hrd hg)))
            rw [show ((v : Int) % 65536 == IntKind.u16.wrap (v : Int)) = true from by simp [IntKind.wrap, IntKind.bits, IntKind.signed]]
            go_wp2
            go_roundw
            case rel => exact ⟨r + 1, by omega, by go_num, by rw [HN.out]; exact S2.out⟩
            case measure => simp [intOf]; omega
          by_cases h2 : j = 2
          · subst h2
            have HP := hide (back2 (Rd.drew S1.out.rd) HT.out)
            go_wp2
            generalize wr.alloc (.cells #[.int .u8 (kk : Int), .int .u64 (v : Int), .int .i64 nn, .slice aa ll cc] 57) = X at *
            generalize wr.heap.size = bx at *
            have y1 := HX1.out
            have HX1d : Hid (X.drew.cell? ⟨bx, 1, none⟩ = some (.int .u64 (v : Int))) := HX1.out
            have HB2 := hide ((Below.refl X.heap.size X).drew)
            clear q0 q1 q2 q3
            go_region_held3 (fun W => W.cell? ⟨bx, 1, none⟩ = some (.int .u64 (v : Int))) (assumption) ((first | (go_at_call 28; refine HP.out.mono ?_; intro r' w2 hh; obtain ⟨rfl, hrd, hg⟩ := hh; have S2 := hide ((S1.out.on HB2.out).grown hrd hg); have y2 := box_stays HQ.out HX1d.out hg; clear hrd hg)))
            rw [show ((v : Int) % 4294967296 == IntKind.u32.wrap (v : Int)) = true from by simp [IntKind.wrap, IntKind.bits, IntKind.signed]]
            go_wp2
            go_roundw
            case rel => exact ⟨r + 1, by omega, by go_num, by rw [HN.out]; exact S2.out⟩
            case measure => simp [intOf]; omega
          by_cases h3 : j = 3
          · subst h3
            have HP := hide (back3 (Rd.drew S1.out.rd) HT.out hv)
            go_wp2
            generalize wr.alloc (.cells #[.int .u8 (kk : Int), .int .u64 (v : Int), .int .i64 nn, .slice aa ll cc] 57) = X at *
            generalize wr.heap.size = bx at *
            have y1 := HX1.out
            have HX1d : Hid (X.drew.cell? ⟨bx, 1, none⟩ = some (.int .u64 (v : Int))) := HX1.out
            have HB2 := hide ((Below.refl X.heap.size X).drew)
            clear q0 q1 q2 q3
            go_region_held3 (fun W => W.cell? ⟨bx, 1, none⟩ = some (.int .u64 (v : Int))) (assumption) ((first | (go_at_call 29; refine HP.out.mono ?_; intro r' w2 hh; obtain ⟨rfl, hrd, hg⟩ := hh; have S2 := hide ((S1.out.on HB2.out).grown hrd hg); have y2 := box_stays HQ.out HX1d.out hg; clear hrd hg)))
            go_wp2
            go_roundw
            case rel => exact ⟨r + 1, by omega, by go_num, by rw [HN.out]; exact S2.out⟩
            case measure => simp [intOf]; omega
          by_cases h4 : j = 4
          · subst h4
            have HP := hide (back4 (Rd.drew S1.out.rd) HT.out hv)
            go_wp2
            generalize wr.alloc (.cells #[.int .u8 (kk : Int), .int .u64 (v : Int), .int .i64 nn, .slice aa ll cc] 57) = X at *
            generalize wr.heap.size = bx at *
            have y1 := HX1.out
            have HX1d : Hid (X.drew.cell? ⟨bx, 1, none⟩ = some (.int .u64 (v : Int))) := HX1.out
            have HB2 := hide ((Below.refl X.heap.size X).drew)
            clear q0 q1 q2 q3
            go_region_held3 (fun W => W.cell? ⟨bx, 1, none⟩ = some (.int .u64 (v : Int))) (assumption) ((first | (go_at_call 30; refine HP.out.mono ?_; intro r' w2 hh; obtain ⟨rfl, hrd, hg⟩ := hh; have S2 := hide ((S1.out.on HB2.out).grown hrd hg); have y2 := box_stays HQ.out HX1d.out hg; clear hrd hg)))
            go_wp2
            go_roundw
            case rel => exact ⟨r + 1, by omega, by go_num, by rw [HN.out]; exact S2.out⟩
            case measure => simp [intOf]; omega
          by_cases h5 : j = 5
          · subst h5
            have HP := hide (back5 (Rd.drew S1.out.rd) HT.out)
            go_wp2
            generalize wr.alloc (.cells #[.int .u8 (kk : Int), .int .u64 (v : Int), .int .i64 nn, .slice aa ll cc] 57) = X at *
            generalize wr.heap.size = bx at *
            have y1 := HX1.out
            have HX1d : Hid (X.drew.cell? ⟨bx, 1, none⟩ = some (.int .u64 (v : Int))) := HX1.out
            have HB2 := hide ((Below.refl X.heap.size X).drew)
            clear q0 q1 q2 q3
            go_region_held3 (fun W => W.cell? ⟨bx, 1, none⟩ = some (.int .u64 (v : Int))) (assumption) ((first | (go_at_call 31; refine HP.out.mono ?_; intro r' w2 hh; obtain ⟨rfl, hrd, hg⟩ := hh; have S2 := hide ((S1.out.on HB2.out).grown hrd hg); have y2 := box_stays HQ.out HX1d.out hg; clear hrd hg)))
            rw [show (s64 v == IntKind.i64.wrap (v : Int)) = true from by simp [s64]]
            go_wp2
            go_roundw
            case rel => exact ⟨r + 1, by omega, by go_num, by rw [HN.out]; exact S2.out⟩
            case measure => simp [intOf]; omega
          by_cases h6 : j = 6
          · subst h6
            have HP : Hid (Calls Try.prog 32 #[.pointer (some ⟨q, 0, none⟩), .int .i64 (ll : Int)] _ _) := HYl.out ▸ back6 (Rd.drew S1.out.rd) HT.out (by have := HYl.out; omega)
            go_wp2
            generalize wr.alloc (.cells #[.int .u8 (kk : Int), .int .u64 (v : Int), .int .i64 nn, .slice aa ll cc] 57) = X at *
            generalize wr.heap.size = bx at *
            have y1 := HX3.out
            have HX1d : Hid (X.drew.cell? ⟨bx, 3, none⟩ = some (.slice aa ll cc)) := HX3.out
            have HB2 := hide ((Below.refl X.heap.size X).drew)
            clear q0 q1 q2 q3
            go_region_held3 (fun W => W.cell? ⟨bx, 3, none⟩ = some (.slice aa ll cc)) (assumption) ((first | (go_at_call 32; refine HP.out.mono ?_; intro r' w2 hh; obtain ⟨x6, rfl, hrow, hrd, hg⟩ := hh; have S2 := hide ((S1.out.on HB2.out).grown hrd hg); have y2 := box_stays HQ.out HX1d.out hg; have HS6 := hide (same_any x6 aa ll ll cc ys w2 HYl.out (by omega) hrow (HRw0.out.below (by rw [HBB.out]; exact S2.out.below))); have HX2 := hide y2; clear hrd hg hrow) | (go_at_call 18; refine HS6.out.mono ?_; intro r' w3 hh; obtain ⟨rfl, hb3⟩ := hh; have S3 := hide (S2.out.on hb3); have y3 := (World.cell?_of_block (a := ⟨bx, 3, none⟩) (hb3.block bx (World.block_lt_of_cell? _ _ HX2.out))).trans HX2.out; clear hb3)))
            go_wp2
            go_roundw
            case rel => exact ⟨r + 1, by omega, by go_num, by rw [HN.out]; exact S3.out⟩
            case measure => simp [intOf]; omega
          · have h7 : j = 7 := by omega
            subst h7
            have HP := hide (back7 (Rd.drew S1.out.rd) HT.out (by have := HYl.out; omega))
            have HC1 := hide (run_text _ aa ll cc ys HYl.out HBa.out HRw1.out HYb.out)
            go_wp2
            generalize wr.alloc (.cells #[.int .u8 (kk : Int), .int .u64 (v : Int), .int .i64 nn, .slice aa ll cc] 57) = X at *
            generalize wr.heap.size = bx at *
            have y1 := HX3.out
            have z1 := HC1.out
            have HX1d : Hid (X.drew.cell? ⟨bx, 3, none⟩ = some (.slice aa ll cc)) := HX3.out
            have HB2 := hide ((Below.refl X.heap.size X).drew)
            have z2 := run_text X.drew aa ll cc ys HYl.out HBa.out (HRw1.out.below HB2.out) HYb.out
            clear q0 q1 q2 q3
            go_region_held3 (fun W => W.cell? ⟨bx, 3, none⟩ = some (.slice aa ll cc) ∧ (convert 27 9 (.slice aa ll cc)).run Try.prog W = .ok (.string (bk ys)) W) ((refine ⟨?_, ?_⟩ <;> assumption)) ((first | (go_at_call 33; refine HP.out.mono ?_; intro r' w2 hh; obtain ⟨rfl, hrd, hg⟩ := hh; have S2 := hide ((S1.out.on HB2.out).grown hrd hg); have y2 := box_stays HQ.out HX1d.out hg; have z3 := run_text w2 aa ll cc ys HYl.out HBa.out (HRw0.out.below (by rw [HBB.out]; exact S2.out.below)) HYb.out; clear hrd hg)))
            go_wp2
            go_roundw
            case rel => exact ⟨r + 1, by omega, by go_num, by rw [HN.out]; exact S2.out⟩
            case measure => simp [intOf]; omega
        · obtain rfl : r = k := by omega
          have HS : Hid (Sr B w1 wr q a2 A A.length 0) := by have := S.out; rw [HA.out] at this; exact this
          clear S
          go_wp2_with fail
          refine (end_any q a2 A A.length 0 _ HS.out.rd).mono ?_
          rintro e W6 ⟨rfl, hb6⟩
          have S6 := hide (HS.out.on hb6)
          clear hb6 HS
          rw [show enEr A.length A.length 0 = 0 from by rw [enEr, if_neg (by omega)]]
          go_wp2_with fail
          refine (left_any q a2 A A.length 0 _ S6.out.rd).mono ?_
          rintro e W7 ⟨rfl, hb7⟩
          have S7 := hide (S6.out.on hb7)
          clear hb7 S6
          rw [Nat.sub_self]
          go_wp2
          go_ret
          exact ⟨rfl, by rw [HBB.out]; exact S7.out.below⟩

set_option maxRecDepth 1000000 in
theorem lifted (os : Os) (started : os.Started) (H : Type) (enc : TypeId × Value → H) :
    ReturnsInHanded {} Try.checked os 5 .any (Rows.codeBackSpec.pre6 enc Try.prog Try.f5 Rows.codeBackRow.domain false) (Rows.codeBackSpec.post enc Try.prog Try.f5 false true false false) := by
  refine returnsInHanded_of_change_sized (C := Try.checked) own started (by kernel_rfl) Try.func5
    (ChangeSpec.witness6 (enc := enc) (C := Try.checked) false ⟨#[], #[.slice none 0 0], []⟩ 8 (by kernel_rfl) (by kernel_rfl) (by kernel_rfl) (by kernel_rfl)) ?_
  intro W base args ds gs before hval0 hW hcnd hsz0 _
  have hval : ∀ (j : Nat) t v, Try.f5.params[j]? = some t → args[j]? = some v → Value.okWide Try.prog W .any base t v := hval0
  have hsz : (DataW.weightsEach Try.prog (Try.f5.params.toList ++ Rows.codeBackSpec.plain.varTypes Try.prog) (ds ++ gs)).all (· ≤ reachBytes) = true := hsz0
  have hW' := hW
  obtain ⟨p, q, hA0, hV, rfl, hfz, hnd⟩ := hW
  have hA : DataW.TrodAll enc Try.prog W 0 (fun _ => true) true Try.f5.params.toList args.toList ds p := hA0
  rw [Try.params5] at hA hval hsz
  obtain ⟨v0, vs0, d0, ds0, p0, q0, hargs, rfl, rfl, h0, r0⟩ := trodAll_cons hA
  obtain ⟨rfl, rfl, rfl⟩ := trodAll_nil r0
  obtain rfl : args = #[v0] := by cases args; simp_all
  obtain ⟨rfl, rfl⟩ := trodVars_none hV
  obtain ⟨a0, len0, cap0, rfl⟩ := okWide_slice Try.underlying22 (hval 0 22 v0 rfl rfl)
  have k0 := h0
  have lt0 : ∀ x ∈ p0, x.block < W.heap.size := by obtain ⟨m, hm⟩ := k0; exact DataW.trod_lt m _ _ _ hm
  have s0 : (d0.weights Try.prog 22).all (· ≤ reachBytes) = true := List.all_eq_true.2 fun n hn => List.all_eq_true.1 hsz n (List.mem_append.2 (.inl hn))
  obtain ⟨hl0, O, c0⟩ : len0 ≤ 140737488355328 ∧ ∃ O, Cals W a0 len0 O := by
    obtain ⟨fuel, hf⟩ := h0
    exact calls_open (x := (d0, p0)) hf s0
  clear hA0 hval0
  refine (walk a0 len0 cap0 O W c0 hl0).mono fun e W' ⟨he, bel⟩ => ?_
  subst he
  exact ⟨_, rfl, _, _, _, [], _, [], hW', trodAll_mk1 (shut_bool Try.underlying4 _), (trodAll_cons_mk (Below.trod laidOut (by kernel_rfl) (of_decide_eq_true (by kernel_rfl)) k0 bel lt0) trodAll_mk0), rfl, bel.frame _, fun h => by cases h⟩

theorem over : Rows.codeBackRow.holds Try.pinned (OpenSpec.ofChange Rows.codeBackSpec) :=
  OpenClaim.holds_of_wide 5 Try.f5 rfl rfl rfl rfl rfl rfl rfl ⟨rfl, rfl, rfl, rfl, rfl⟩ rfl rfl rfl rfl rfl (by kernel_rfl) Try.func5 (by kernel_rfl)
    (of_decide_eq_true (by kernel_rfl)) (by unfold Func.isWrapper; first | (rw [if_pos (by decide +kernel)]; kernel_rfl) | (rw [if_neg (by decide +kernel)]; exact ⟨rfl, rfl⟩))
    (fun os started H enc _ => lifted os started H enc)

end Go.Proofs.Ytobkmjkcbihfbaa.Back
namespace Go.Proofs.Ytobkmjkcbihfbaa
theorem codeBack_holds : Rows.CodeBackSaid := Back.over
#print axioms codeBack_holds
end Go.Proofs.Ytobkmjkcbihfbaa
