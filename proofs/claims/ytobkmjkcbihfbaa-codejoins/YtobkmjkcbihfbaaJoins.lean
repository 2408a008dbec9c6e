/- The Go function CodeJoins answers true for every two lists of calls that are handed in, and leaves them as they were: what two rows of calls write one behind the other is what each of them writes, one behind the other. No condition. -/
import Derived.Test.YtobkmjkcbihfbaaL
import Derived.Deep.RegionHeld3
import Derived.RegionTactic
namespace Go.Proofs.Ytobkmjkcbihfbaa.Joins
open Go.ChangeShapes Go.WideShapes Go.ChangeAt Go.RowKit Go.Deep
set_option linter.unusedVariables false

/-- what the first k calls write. -/
def ws (O : Nat → Cal) : Nat → List Int
  | 0 => []
  | k + 1 => ws O k ++ en ((O k).k % 8) (O k).v (O k).bs
theorem ws_long (O : Nat → Cal) (len k : Nat) (hk : k ≤ len) (hv : ∀ r, r < len → (O r).v < 18446744073709551616) (hl : ∀ r, r < len → (O r).bs.length = (O r).l) (hb : len + tot O len ≤ 20000) : (ws O k).length ≤ 10 * k + tot O k := by
  induction k with
  | zero => simp [ws]
  | succ k ih =>
    have h1 := ih (by omega)
    have h2 := tot_mono O (k + 1) len hk
    have h3 := hl k (by omega)
    have h4 : tot O (k + 1) = tot O k + (O k).l := rfl
    have h5 := en_long ((O k).k % 8) (O k).v (O k).bs (hv k (by omega)) (by omega)
    rw [ws, List.length_append]
    omega
theorem Put.drop {w : World} {p : Nat} {zs es : List Int} {r : Ending} {w' : World} (h : Put w p zs es r w') : ∃ a n c, r = .returned (.slice a n c) ∧ Wr w' p (zs ++ es) ∧ Wrote p w w' := by
  obtain ⟨a, n, c, h1, _, _, _, h2, h3⟩ := h
  exact ⟨a, n, c, h1, h2, h3⟩

/-- a call of a writer, as one of a list of calls that came in says. -/
theorem prep {w1 W : World} {B : Nat} {a0 : Option Addr} {l0 : Nat} {O : Nat → Cal} {k p : Nat} {zs : List Int} (H : Cals w1 a0 l0 O) (hB : w1.heap.size = B) (hb : Below B w1 W) (hn : New B W p) (hw : Wr W p zs) (hlt : k < l0) (hbd : l0 + tot O l0 ≤ 20000) (hz : zs.length ≤ 10000000000) :
    Calls Try.prog 12 #[.pointer (some ⟨p, 0, none⟩), .agg #[.int .u8 ((O k).k : Int), .int .u64 ((O k).v : Int), .int .i64 (O k).n, .slice (O k).a (O k).l (O k).c], .slice (O k).a (O k).l (O k).c] W.drew fun r w' => Put W.drew p zs (en ((O k).k % 8) (O k).v (O k).bs) r w' := by
  have hbelow : Below w1.heap.size w1 W := by rw [hB]; exact hb
  have hap : (O k).bs = [] ∨ ∀ ad, (O k).a = some ad → ¬ foot W.drew p ad.block := by
    rcases Classical.em ((O k).bs = []) with h | h
    · exact .inl h
    · refine .inr fun ad had hf => ?_
      rcases H.inn k hlt ad had with h2 | h2
      · have := hn _ hf
        omega
      · exact h h2
  have hsz : (O k).bs.length ≤ 1000000 := by
    have h2 := tot_mono O (k + 1) l0 (by omega)
    have h3 := H.long k hlt
    have h4 : tot O (k + 1) = tot O k + (O k).l := rfl
    omega
  exact puts_any p (O k).k (O k).v (O k).n (O k).a (O k).l (O k).c (O k).a (O k).l (O k).c zs (O k).bs W.drew hw.drew (H.kind k hlt) (H.num k hlt) (H.long k hlt) (H.long k hlt) (H.bare k hlt) (H.bare k hlt) ((H.row k hlt).below hbelow).drew ((H.row k hlt).below hbelow).drew (H.byts k hlt) hsz (by omega) hap

set_option maxHeartbeats 3200000 in
set_option maxRecDepth 1000000 in
theorem walk (a0 : Option Addr) (l0 c0 : Nat) (O : Nat → Cal) (a1 : Option Addr) (l1 c1 : Nat) (U : Nat → Cal) (w : World) (h0 : Cals w a0 l0 O) (h1 : Cals w a1 l1 U) (hl0 : l0 ≤ 140737488355328) (hl1 : l1 ≤ 140737488355328) :
    Calls Try.prog 7 #[.slice a0 l0 c0, .slice a1 l1 c1] w fun e w' => e = .returned (.bool true) ∧ Below w.heap.size w w' := by
  have H0 := hide h0
  have H1 := hide h1
  clear h0 h1
  go_enter Try.func7, Try.ntmps7
  go_wp2_with fail
  refine (much_any a0 l0 c0 O w hl0 H0.out).mono ?_
  rintro e w1 ⟨rfl | ⟨rfl, hb0⟩, rfl⟩
  · go_wp2
    go_ret
    exact ⟨rfl, Below.refl _ _⟩
  go_wp2_with fail
  refine (much_any a1 l1 c1 U _ hl1 H1.out).mono ?_
  rintro e w1 ⟨rfl | ⟨rfl, hb1⟩, rfl⟩
  · go_wp2
    go_ret
    exact ⟨rfl, Below.refl _ _⟩
  go_wp2_with fail
  refine (new_any _).mono ?_
  rintro e w2 ⟨rfl, rfl⟩
  go_wp2_with fail
  refine (new_any _).mono ?_
  rintro e w2 ⟨rfl, rfl⟩
  go_wp2_with fail
  refine (new_any _).mono ?_
  rintro e w2 ⟨rfl, rfl⟩
  have T1 := hide (Three.start w1.heap.size w1 w1 (Below.refl _ _) (Nat.le_refl _))
  generalize ((w1.alloc (.cells #[.slice none 0 0] 88)).alloc (.cells #[.slice none 0 0] 88)).alloc (.cells #[.slice none 0 0] 88) = W2 at *
  generalize ((w1.alloc (.cells #[.slice none 0 0] 88)).alloc (.cells #[.slice none 0 0] 88)).heap.size = pz at *
  have hpy : (w1.alloc (.cells #[.slice none 0 0] 88)).heap.size = w1.heap.size + 1 := by simp
  rw [hpy] at T1
  clear hpy
  generalize w1.heap.size + 1 = py at *
  generalize hB : w1.heap.size = B at T1 ⊢
  have HBB := hide hB
  clear hB
  go_wp2_with fail
  refine (known_any _).mono ?_
  rintro e W3 ⟨rfl, hb⟩
  have T3 := hide (T1.out.on hb)
  clear hb T1
  go_wp2
  go_loopw [8] (fun i wr' => ∃ k : Nat, k ≤ l0 ∧ i = .int .i64 (k : Int) ∧ Three B B w1 wr' B (ws O k) py [] pz (ws O k)) (fun i _ => l0 - (intOf i).toNat)
  case atStart => exact ⟨0, Nat.zero_le _, rfl, T3.out⟩
  case round =>
    obtain ⟨k, hk, rfl, hT⟩ := hrel
    have T := hide hT
    clear hT T3
    by_cases hlt : k < l0
    · obtain ⟨b, off, rfl, hbl, hc⟩ := H0.out.at_ (by omega)
      obtain ⟨g0, g1, g2, g3⟩ := hc k hlt
      have hbB : b < B := HBB.out ▸ hbl
      have same : ∀ W : World, Below B w1 W → ∀ j v, w1.cell? ⟨b, j, none⟩ = some v → W.cell? ⟨b, j, none⟩ = some v := fun W hW j v h => (World.cell?_of_block (a := ⟨b, j, none⟩) (hW.block b hbB)).trans h
      have q0 := same _ T.out.below _ _ g0
      have q1 := same _ T.out.below _ _ g1
      have q2 := same _ T.out.below _ _ g2
      have q3 := same _ T.out.below _ _ g3
      have G0 := hide g0
      have G1 := hide g1
      have G2 := hide g2
      have G3 := hide g3
      have HSame := hide same
      clear hc g0 g1 g2 g3 same
      have hws := ws_long O l0 k hk H0.out.num H0.out.long hb0
      have htk := tot_mono O k l0 hk
      have HP1 := hide (prep H0.out HBB.out T.out.below T.out.nx T.out.wx hlt hb0 (by omega))
      go_wp2
      go_region_held3 (fun W => W.cell? ⟨b, off + k * 4, none⟩ = some (.int .u8 ((O k).k : Int)) ∧ W.cell? ⟨b, off + k * 4 + 1, none⟩ = some (.int .u64 ((O k).v : Int)) ∧ W.cell? ⟨b, off + k * 4 + 2, none⟩ = some (.int .i64 (O k).n) ∧ W.cell? ⟨b, off + k * 4 + 3, none⟩ = some (.slice (O k).a (O k).l (O k).c)) ((refine ⟨?_, ?_, ?_, ?_⟩ <;> assumption)) ((first | (go_at_call 12; refine HP1.out.mono ?_; intro r w1 hput; obtain ⟨x1, x2, x3, rfl, hwA, hoA⟩ := Put.drop hput; have TA := hide ((T.out.on (Below.refl _ _).drew).onX hwA hoA); have qa0 := HSame.out _ TA.out.below _ _ G0.out; have qa1 := HSame.out _ TA.out.below _ _ G1.out; have qa2 := HSame.out _ TA.out.below _ _ G2.out; have qa3 := HSame.out _ TA.out.below _ _ G3.out; clear hput hwA hoA)))
      have HP2 := hide (prep H0.out HBB.out TA.out.below TA.out.nz TA.out.wz hlt hb0 (by omega))
      clear q0 q1 q2 q3 HP1 T
      go_wp2
      go_region_held3 (fun W => W.cell? ⟨b, off + k * 4, none⟩ = some (.int .u8 ((O k).k : Int)) ∧ W.cell? ⟨b, off + k * 4 + 1, none⟩ = some (.int .u64 ((O k).v : Int)) ∧ W.cell? ⟨b, off + k * 4 + 2, none⟩ = some (.int .i64 (O k).n) ∧ W.cell? ⟨b, off + k * 4 + 3, none⟩ = some (.slice (O k).a (O k).l (O k).c)) ((refine ⟨?_, ?_, ?_, ?_⟩ <;> assumption)) ((first | (go_at_call 12; refine HP2.out.mono ?_; intro r w2 hput; obtain ⟨x1, x2, x3, rfl, hwA, hoA⟩ := Put.drop hput; have TB := hide ((TA.out.on (Below.refl _ _).drew).onZ hwA hoA); have qa0 := HSame.out _ TB.out.below _ _ G0.out; have qa1 := HSame.out _ TB.out.below _ _ G1.out; have qa2 := HSame.out _ TB.out.below _ _ G2.out; have qa3 := HSame.out _ TB.out.below _ _ G3.out; clear hput hwA hoA)))
      clear qa0 qa1 qa2 qa3 HP2 TA
      go_wp2
      go_roundw
      case rel => exact ⟨k + 1, by omega, by go_num, TB.out⟩
      case measure => simp [intOf]; omega
    · have hke : k = l0 := by omega
      subst hke
      have hwsA := ws_long O k k hk H0.out.num H0.out.long hb0
      have LA : Hid ((ws O k).length ≤ 1000000) := by rw [Hid]; omega
      clear hwsA
      generalize hA : ws O k = A at *
      clear hA hk hlt
      go_wp2
      go_loopw [9] (fun i wr' => ∃ j : Nat, j ≤ l1 ∧ i = .int .i64 (j : Int) ∧ Three B B w1 wr' B A py (ws U j) pz (A ++ ws U j)) (fun i _ => l1 - (intOf i).toNat)
      case atStart => exact ⟨0, Nat.zero_le _, rfl, by rw [ws, List.append_nil]; exact T.out⟩
      case round =>
        clear T
        obtain ⟨k, hk, rfl, hT⟩ := hrel
        have T := hide hT
        clear hT
        by_cases hlt : k < l1
        · obtain ⟨b, off, rfl, hbl, hc⟩ := H1.out.at_ (by omega)
          obtain ⟨g0, g1, g2, g3⟩ := hc k hlt
          have hbB : b < B := HBB.out ▸ hbl
          have same : ∀ W : World, Below B w1 W → ∀ j v, w1.cell? ⟨b, j, none⟩ = some v → W.cell? ⟨b, j, none⟩ = some v := fun W hW j v h => (World.cell?_of_block (a := ⟨b, j, none⟩) (hW.block b hbB)).trans h
          have q0 := same _ T.out.below _ _ g0
          have q1 := same _ T.out.below _ _ g1
          have q2 := same _ T.out.below _ _ g2
          have q3 := same _ T.out.below _ _ g3
          have G0 := hide g0
          have G1 := hide g1
          have G2 := hide g2
          have G3 := hide g3
          have HSame := hide same
          clear hc g0 g1 g2 g3 same
          have hws := ws_long U l1 k hk H1.out.num H1.out.long hb1
          have htk := tot_mono U k l1 hk
          have hz1 : (ws U k).length ≤ 10000000000 := by omega
          have hz2 : (A ++ ws U k).length ≤ 10000000000 := by rw [List.length_append]; have := LA.out; omega
          have HP1 := hide (prep H1.out HBB.out T.out.below T.out.ny T.out.wy hlt hb1 hz1)
          clear hws htk hz1
          go_wp2
          go_region_held3 (fun W => W.cell? ⟨b, off + k * 4, none⟩ = some (.int .u8 ((U k).k : Int)) ∧ W.cell? ⟨b, off + k * 4 + 1, none⟩ = some (.int .u64 ((U k).v : Int)) ∧ W.cell? ⟨b, off + k * 4 + 2, none⟩ = some (.int .i64 (U k).n) ∧ W.cell? ⟨b, off + k * 4 + 3, none⟩ = some (.slice (U k).a (U k).l (U k).c)) ((refine ⟨?_, ?_, ?_, ?_⟩ <;> assumption)) ((first | (go_at_call 12; refine HP1.out.mono ?_; intro r w1 hput; obtain ⟨x1, x2, x3, rfl, hwA, hoA⟩ := Put.drop hput; have TA := hide ((T.out.on (Below.refl _ _).drew).onY hwA hoA); have qa0 := HSame.out _ TA.out.below _ _ G0.out; have qa1 := HSame.out _ TA.out.below _ _ G1.out; have qa2 := HSame.out _ TA.out.below _ _ G2.out; have qa3 := HSame.out _ TA.out.below _ _ G3.out; clear hput hwA hoA)))
          have HP2 := hide (prep H1.out HBB.out TA.out.below TA.out.nz TA.out.wz hlt hb1 hz2)
          clear q0 q1 q2 q3 HP1 T hz2
          go_wp2
          go_region_held3 (fun W => W.cell? ⟨b, off + k * 4, none⟩ = some (.int .u8 ((U k).k : Int)) ∧ W.cell? ⟨b, off + k * 4 + 1, none⟩ = some (.int .u64 ((U k).v : Int)) ∧ W.cell? ⟨b, off + k * 4 + 2, none⟩ = some (.int .i64 (U k).n) ∧ W.cell? ⟨b, off + k * 4 + 3, none⟩ = some (.slice (U k).a (U k).l (U k).c)) ((refine ⟨?_, ?_, ?_, ?_⟩ <;> assumption)) ((first | (go_at_call 12; refine HP2.out.mono ?_; intro r w2 hput; obtain ⟨x1, x2, x3, rfl, hwA, hoA⟩ := Put.drop hput; have TB := hide ((TA.out.on (Below.refl _ _).drew).onZ hwA hoA); have qa0 := HSame.out _ TB.out.below _ _ G0.out; have qa1 := HSame.out _ TB.out.below _ _ G1.out; have qa2 := HSame.out _ TB.out.below _ _ G2.out; have qa3 := HSame.out _ TB.out.below _ _ G3.out; clear hput hwA hoA)))
          clear qa0 qa1 qa2 qa3 HP2 TA
          go_wp2
          go_roundw
          case rel => exact ⟨k + 1, by omega, by go_num, by rw [ws, ← List.append_assoc]; exact TB.out⟩
          case measure => simp [intOf]; omega
        · have hke : k = l1 := by omega
          subst hke
          have hwsU := ws_long U k k hk H1.out.num H1.out.long hb1
          have LU : Hid ((ws U k).length ≤ 1000000) := by rw [Hid]; omega
          clear hwsU
          generalize hU : ws U k = D at *
          clear hU hk hlt
          go_wp2_with fail
          refine (wbytes_any B A _ T.out.wx (by have := LA.out; omega)).mono ?_
          rintro e W4 ⟨x1, rfl, hown, hfr, hb4⟩
          have HO4 := hide hown
          have HF4 : Hid (∀ q, (Value.slice x1 A.length A.length).ownBlock = some q → wr.heap.size ≤ q) := by
            intro q hq
            rcases hfr with h | h
            · rw [h] at hq; simp [Value.ownBlock] at hq
            · rw [h] at hq; simp [Value.ownBlock] at hq; omega
          have HB4 := hide hb4
          have HL4 : Hid (A.length ≤ 1000000) := LA.out
          clear hown hfr hb4
          generalize hnA : A.length = nA at *
          have HnA := hide hnA
          clear hnA
          have T4 := hide (T.out.on HB4.out)
          go_wp2_with fail
          refine (wbytes_any py D _ T4.out.wy (by have := LU.out; omega)).mono ?_
          rintro e W5 ⟨x2, rfl, hown, hfr, hb5⟩
          have HO5 : Hid (Own W5 (.slice x1 nA nA) A) := HO4.out.of_block (fun q hq => hb5.block q (HO4.out.lt hq))
          obtain ⟨i0, hi, hz0, hz1, hz2⟩ := info_parts Try.info5
          have HS5 : Hid (Src Try.prog 1 27 (.slice x2 D.length D.length) D.length (D.map (Value.int .u8)) W5) := by
            obtain ⟨b1, b2, e1, -, -, hbare, -, -⟩ := hown.shape
            cases e1
            exact src_row W5 _ _ _ D rfl hbare hown.row
          have HB5 := hide (HB4.out.trans (hb5.mono HB4.out.size))
          clear hown hfr hb5
          generalize hnD : D.length = nD at *
          have HnD := hide hnD
          clear hnD
          have HBd : Hid (A.length + nD ≤ 140737488355328) := by have h1 := LU.out; have h2 := HL4.out; have h3 := HnA.out; rw [Hid]; omega
          go_wp2_with (at_builtin; refine wpList_append_src (by rfl) (.tmp 92) (.tmp 94) 27 27 (by rfl) i0 Try.underlying27 hi hz0 hz1 hz2 (.slice x1 nA nA) A (by rfl) HO5.out (.slice x2 nD nD) nD D (by rfl) HS5.out HBd.out ?_; intro v' w6 hown6 hg6 hf6; obtain ⟨x3, n3, c3, rfl, HN3⟩ := hown6.shape2; have HO6 := hide hown6; have HB6 := hide (HB5.out.grown hg6 HB5.out.size HF4.out); clear hown6 hg6 hf6)
          have T6 := hide (T.out.on HB6.out)
          refine (wbytes_any pz (A ++ D) _ T6.out.wz (by rw [List.length_append]; have h1 := LU.out; have h2 := HL4.out; have h3 := HnA.out; have h4 := HnD.out; omega)).mono ?_
          rintro e W7 ⟨x4, rfl, hown, hfr, hb7⟩
          have R7 := hide (HO6.out.row.below hb7)
          have Q7 := hide hown.row
          have T7 := hide (T6.out.on hb7)
          have HS := hide (T7.out.below)
          rw [← HN3.out]
          clear hown hfr hb7 T6 T4 T
          go_wp2_with fail
          refine (same_any x3 x4 n3 c3 n3 (A ++ D) W7 HN3.out.symm (by have := HN3.out; rw [List.length_append] at this; have h1 := LU.out; have h2 := HL4.out; have h3 := HnA.out; have h4 := HnD.out; omega) R7.out Q7.out).mono ?_
          rintro e W8 ⟨rfl, hb8⟩
          have T8 := hide (T7.out.on hb8)
          clear hb8 T7
          go_wp2_with fail
          refine (wlen_any B A _ T8.out.wx).mono ?_
          rintro e W9 ⟨rfl, rfl⟩
          go_wp2_with fail
          refine (wlen_any py D _ T8.out.wy).mono ?_
          rintro e W9 ⟨rfl, rfl⟩
          go_wp2_with fail
          refine (wlen_any pz (A ++ D) _ T8.out.wz).mono ?_
          rintro e W9 ⟨rfl, rfl⟩
          rw [HnA.out, HnD.out, List.length_append, HnA.out, HnD.out]
          have h1 := HL4.out
          have h2 : nD ≤ 1000000 := by have := LU.out; have := HnD.out; omega
          have hwp : wrap64 ((nA : Int) + (nD : Int)) = (nA : Int) + (nD : Int) := by unfold wrap64; omega
          go_wp2
          go_ret
          refine ⟨?_, by rw [HBB.out]; exact T8.out.below⟩
          first | rfl | (rw [show (wrap64 ((nA : Int) + (nD : Int)) == (nA : Int) + (nD : Int)) = true from by rw [hwp]; simp]; rfl) | simp

set_option maxRecDepth 1000000 in
theorem lifted (os : Os) (started : os.Started) (H : Type) (enc : TypeId × Value → H) :
    ReturnsInHanded {} Try.checked os 7 .any (Rows.codeJoinsSpec.pre6 enc Try.prog Try.f7 Rows.codeJoinsRow.domain false) (Rows.codeJoinsSpec.post enc Try.prog Try.f7 false true false false) := by
  refine returnsInHanded_of_change_sized (C := Try.checked) own started (by kernel_rfl) Try.func7
    (ChangeSpec.witness6 (enc := enc) (C := Try.checked) false ⟨#[], #[.slice none 0 0, .slice none 0 0], []⟩ 8 (by kernel_rfl) (by kernel_rfl) (by kernel_rfl) (by kernel_rfl)) ?_
  intro W base args ds gs before hval0 hW hcnd hsz0 _
  have hval : ∀ (j : Nat) t v, Try.f7.params[j]? = some t → args[j]? = some v → Value.okWide Try.prog W .any base t v := hval0
  have hsz : (DataW.weightsEach Try.prog (Try.f7.params.toList ++ Rows.codeJoinsSpec.plain.varTypes Try.prog) (ds ++ gs)).all (· ≤ reachBytes) = true := hsz0
  have hW' := hW
  obtain ⟨p, q, hA0, hV, rfl, hfz, hnd⟩ := hW
  have hA : DataW.TrodAll enc Try.prog W 0 (fun _ => true) true Try.f7.params.toList args.toList ds p := hA0
  rw [Try.params7] at hA hval hsz
  obtain ⟨v0, vs0, d0, ds0, p0, q0, hargs, rfl, rfl, h0, r0⟩ := trodAll_cons hA
  obtain ⟨v1, vs1, d1, ds1, p1, q1, rfl, rfl, rfl, h1, r1⟩ := trodAll_cons r0
  obtain ⟨rfl, rfl, rfl⟩ := trodAll_nil r1
  obtain rfl : args = #[v0, v1] := by cases args; simp_all
  obtain ⟨rfl, rfl⟩ := trodVars_none hV
  obtain ⟨a0, len0, cap0, rfl⟩ := okWide_slice Try.underlying22 (hval 0 22 v0 rfl rfl)
  obtain ⟨a1, len1, cap1, rfl⟩ := okWide_slice Try.underlying22 (hval 1 22 v1 rfl rfl)
  have k0 := h0
  have k1 := h1
  have lt0 : ∀ x ∈ p0, x.block < W.heap.size := by obtain ⟨m, hm⟩ := k0; exact DataW.trod_lt m _ _ _ hm
  have lt1 : ∀ x ∈ p1, x.block < W.heap.size := by obtain ⟨m, hm⟩ := k1; exact DataW.trod_lt m _ _ _ hm
  have s0 : (d0.weights Try.prog 22).all (· ≤ reachBytes) = true := List.all_eq_true.2 fun n hn => List.all_eq_true.1 hsz n (List.mem_append.2 (.inl hn))
  have s1 : (d1.weights Try.prog 22).all (· ≤ reachBytes) = true := List.all_eq_true.2 fun n hn => List.all_eq_true.1 hsz n (List.mem_append.2 (.inr (List.mem_append.2 (.inl hn))))
  obtain ⟨hl0, O, c0⟩ : len0 ≤ 140737488355328 ∧ ∃ O, Cals W a0 len0 O := by
    obtain ⟨fuel, hf⟩ := h0
    exact calls_open (x := (d0, p0)) hf s0
  obtain ⟨hl1, U, c1⟩ : len1 ≤ 140737488355328 ∧ ∃ O, Cals W a1 len1 O := by
    obtain ⟨fuel, hf⟩ := h1
    exact calls_open (x := (d1, p1)) hf s1
  clear hA0 hval0
  refine (walk a0 len0 cap0 O a1 len1 cap1 U W c0 c1 hl0 hl1).mono fun e W' ⟨he, bel⟩ => ?_
  subst he
  exact ⟨_, rfl, _, _, _, [], _, [], hW', trodAll_mk1 (shut_bool Try.underlying4 _), (trodAll_cons_mk (Below.trod laidOut (by kernel_rfl) (of_decide_eq_true (by kernel_rfl)) k0 bel lt0) (trodAll_cons_mk (Below.trod laidOut (by kernel_rfl) (of_decide_eq_true (by kernel_rfl)) k1 bel lt1) trodAll_mk0)), rfl, bel.frame _, fun h => by cases h⟩

theorem over : Rows.codeJoinsRow.holds Try.pinned (OpenSpec.ofChange Rows.codeJoinsSpec) :=
  OpenClaim.holds_of_wide 7 Try.f7 rfl rfl rfl rfl rfl rfl rfl ⟨rfl, rfl, rfl, rfl, rfl⟩ rfl rfl rfl rfl rfl (by kernel_rfl) Try.func7 (by kernel_rfl)
    (of_decide_eq_true (by kernel_rfl)) (by unfold Func.isWrapper; first | (rw [if_pos (by decide +kernel)]; kernel_rfl) | (rw [if_neg (by decide +kernel)]; exact ⟨rfl, rfl⟩))
    (fun os started H enc _ => lifted os started H enc)

end Go.Proofs.Ytobkmjkcbihfbaa.Joins
namespace Go.Proofs.Ytobkmjkcbihfbaa
theorem codeJoins_holds : Rows.CodeJoinsSaid := Joins.over
#print axioms codeJoins_holds
end Go.Proofs.Ytobkmjkcbihfbaa
