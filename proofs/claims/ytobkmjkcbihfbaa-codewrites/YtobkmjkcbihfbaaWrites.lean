/- The Go function CodeWrites answers true for every list of calls that is handed in, and leaves it as it was: behind any calls a writer has just the bytes that the chapter says; what is handed in stays, what comes out is its owner's. No condition. -/
import Derived.Test.YtobkmjkcbihfbaaWa
import Derived.RegionTactic
namespace Go.Proofs.Ytobkmjkcbihfbaa.Writes
open Go.ChangeShapes Go.WideShapes Go.ChangeAt Go.RowKit Go.Deep
set_option linter.unusedVariables false

/-- a call of a writer, as one of a list of calls that came in says, with its bytes lent. -/
theorem prep {w1 W : World} {B : Nat} {a0 : Option Addr} {l0 : Nat} {O : Nat → Cal} {k p g : Nat} {zs : List Int} (H : Cals w1 a0 l0 O) (hB : w1.heap.size = B) (hb : Below B w1 W) (hn : New B W p) (hw : Wr W p zs) (hlt : k < l0) (hbd : l0 + tot O l0 ≤ 20000) (hz : zs.length ≤ 10000000000)
    (hl : Row W (some ⟨g, 0, none⟩) (O k).bs) :
    Calls Try.prog 12 #[.pointer (some ⟨p, 0, none⟩), .agg #[.int .u8 ((O k).k : Int), .int .u64 ((O k).v : Int), .int .i64 (O k).n, .slice (O k).a (O k).l (O k).c], .slice (some ⟨g, 0, none⟩) (O k).l ((O k).l + 2)] W fun r w' => Put W p zs (en ((O k).k % 8) (O k).v (O k).bs) r w' := by
  have hbelow : Below w1.heap.size w1 W := by rw [hB]; exact hb
  have hap : (O k).bs = [] ∨ ∀ ad, (O k).a = some ad → ¬ foot W p ad.block := by
    rcases Classical.em ((O k).bs = []) with h | h
    · exact .inl h
    · refine .inr fun ad had hf => ?_
      rcases H.inn k hlt ad had with h2 | h2
      · have := hn _ hf
        omega
      · exact h h2
  have hsz : (O k).bs.length ≤ 1000000 := by
    have h2 := tot_mono O (k + 1) l0 (by omega)
    have h3 := H.long k hlt
    have h4 : tot O (k + 1) = tot O k + (O k).l := rfl
    omega
  exact puts_any p (O k).k (O k).v (O k).n (some ⟨g, 0, none⟩) (O k).l ((O k).l + 2) (O k).a (O k).l (O k).c zs (O k).bs W hw (H.kind k hlt) (H.num k hlt) (H.long k hlt) (H.long k hlt) (fun h => by cases h) (H.bare k hlt) hl ((H.row k hlt).below hbelow) (H.byts k hlt) hsz (by omega) hap

/-- the book is laid. -/
theorem start {B : Nat} {w0 w : World} {p : Nat} (h : St B w0 w p []) (A : Nat → Option Addr) (Z : Nat → List Int) : Wst B w0 (w.alloc (.cells #[.slice none 0 0, .slice none 0 0, .slice none 0 0, .slice none 0 0, .slice none 0 0, .slice none 0 0, .slice none 0 0, .slice none 0 0, .slice none 0 0, .slice none 0 0, .slice none 0 0, .slice none 0 0, .slice none 0 0, .slice none 0 0, .slice none 0 0, .slice none 0 0, .slice none 0 0, .slice none 0 0, .slice none 0 0, .slice none 0 0, .slice none 0 0, .slice none 0 0, .slice none 0 0] 53)) p w.heap.size (.slice none 0 0) (.slice none 0 0) 0 A Z [] [] fun _ => False := by
  have hb := below_alloc w (.cells #[.slice none 0 0, .slice none 0 0, .slice none 0 0, .slice none 0 0, .slice none 0 0, .slice none 0 0, .slice none 0 0, .slice none 0 0, .slice none 0 0, .slice none 0 0, .slice none 0 0, .slice none 0 0, .slice none 0 0, .slice none 0 0, .slice none 0 0, .slice none 0 0, .slice none 0 0, .slice none 0 0, .slice none 0 0, .slice none 0 0, .slice none 0 0, .slice none 0 0, .slice none 0 0] 53)
  have h2 := h.on hb
  have hsz : (w.alloc (.cells #[.slice none 0 0, .slice none 0 0, .slice none 0 0, .slice none 0 0, .slice none 0 0, .slice none 0 0, .slice none 0 0, .slice none 0 0, .slice none 0 0, .slice none 0 0, .slice none 0 0, .slice none 0 0, .slice none 0 0, .slice none 0 0, .slice none 0 0, .slice none 0 0, .slice none 0 0, .slice none 0 0, .slice none 0 0, .slice none 0 0, .slice none 0 0, .slice none 0 0, .slice none 0 0] 53)).heap.size = w.heap.size + 1 := by simp
  refine ⟨⟨h2.below, h2.size, ?_, ?_, ?_⟩, h2.wr, Own.nil _, heap_alloc_new w _, ⟨World.ownsRow_nil _ _ _ _, fun i hi => by omega, fun i j hi => by omega⟩⟩
  · intro i k hk
    match i, hk with
    | 0, hk => exact h2.new k hk
    | 1, hk => cases hk
    | 2, .inl hk => have := h.size; omega
    | 2, .inr (.inl hk) => cases hk
    | 2, .inr (.inr ⟨i, hi, _⟩) => omega
    | 3, hk => exact hk.elim
    | n + 4, hk => exact hk.elim
  · intro i k hk
    match i, hk with
    | 0, hk => exact h2.wr.foot_lt hk
    | 1, hk => cases hk
    | 2, .inl hk => omega
    | 2, .inr (.inl hk) => cases hk
    | 2, .inr (.inr ⟨i, hi, _⟩) => omega
    | 3, hk => exact hk.elim
    | n + 4, hk => exact hk.elim
  · have f0 : ∀ k, foot (w.alloc (.cells #[.slice none 0 0, .slice none 0 0, .slice none 0 0, .slice none 0 0, .slice none 0 0, .slice none 0 0, .slice none 0 0, .slice none 0 0, .slice none 0 0, .slice none 0 0, .slice none 0 0, .slice none 0 0, .slice none 0 0, .slice none 0 0, .slice none 0 0, .slice none 0 0, .slice none 0 0, .slice none 0 0, .slice none 0 0, .slice none 0 0, .slice none 0 0, .slice none 0 0, .slice none 0 0] 53)) p k → k < w.heap.size := fun k hk => h.wr.foot_lt ((foot_same (hb.block p h.wr.lt)).1 hk)
    have f2 : ∀ k, bft w.heap.size (.slice none 0 0) 0 A k → k = w.heap.size := by
      rintro k (hk | hk | ⟨i, hi, _⟩)
      · exact hk
      · cases hk
      · omega
    intro i j k hne h1 h3
    match i, j, hne, h1, h3 with
    | 0, 0, hne, _, _ => omega
    | 0, 1, _, _, h3 => cases h3
    | 0, 2, _, h1, h3 => have := f0 k h1; have := f2 k h3; omega
    | 0, 3, _, _, h3 => exact h3
    | 0, n + 4, _, _, h3 => exact h3
    | 1, _, _, h1, _ => cases h1
    | 2, 0, _, h1, h3 => have := f0 k h3; have := f2 k h1; omega
    | 2, 1, _, _, h3 => cases h3
    | 2, 2, hne, _, _ => omega
    | 2, 3, _, _, h3 => exact h3
    | 2, n + 4, _, _, h3 => exact h3
    | 3, _, _, h1, _ => exact h1
    | n + 4, _, _, h1, _ => exact h1
theorem Wst.new {B : Nat} {w0 w : World} {p q : Nat} {vw vb : Value} {n : Nat} {A : Nat → Option Addr} {Z : Nat → List Int} {zs ys : List Int} {d : Nat → Prop} (h : Wst B w0 w p q vw vb n A Z zs ys d) : New B w p := fun k hk => h.sep.low 0 k hk

set_option maxHeartbeats 3200000 in
set_option maxRecDepth 1000000 in
theorem walk (a0 : Option Addr) (l0 c0 : Nat) (O : Nat → Cal) (w : World) (h0 : Cals w a0 l0 O) (hl0 : l0 ≤ 140737488355328) :
    Calls Try.prog 3 #[.slice a0 l0 c0] w fun e w' => e = .returned (.bool true) ∧ Below w.heap.size w w' := by
  obtain ⟨i0, hi, hz0, hz1, hz2⟩ := info_parts Try.info5
  have H0 := hide h0
  clear h0
  go_enter Try.func3, Try.ntmps3
  go_wp2_with fail
  refine (much_any a0 l0 c0 O w hl0 H0.out).mono ?_
  rintro e w1 ⟨rfl | ⟨rfl, hb0⟩, rfl⟩
  · go_wp2
    go_ret
    exact ⟨rfl, Below.refl _ _⟩
  go_wp2_with fail
  refine (new_any _).mono ?_
  rintro e w2 ⟨rfl, rfl⟩
  have S1 := hide (new_st w1.heap.size w1 w1 (Below.refl _ _) (Nat.le_refl _))
  generalize w1.alloc (.cells #[.slice none 0 0] 88) = W2 at *
  generalize hB : w1.heap.size = B at S1 ⊢
  have HBB := hide hB
  clear hB
  go_wp2_with fail
  refine (known_any _).mono ?_
  rintro e W3 ⟨rfl, hb⟩
  have S3 := hide (S1.out.on hb)
  clear hb S1
  go_wp2
  have T0 := hide (start S3.out (fun _ => none) (fun _ => []))
  clear S3
  generalize W3.alloc (.cells #[.slice none 0 0, .slice none 0 0, .slice none 0 0, .slice none 0 0, .slice none 0 0, .slice none 0 0, .slice none 0 0, .slice none 0 0, .slice none 0 0, .slice none 0 0, .slice none 0 0, .slice none 0 0, .slice none 0 0, .slice none 0 0, .slice none 0 0, .slice none 0 0, .slice none 0 0, .slice none 0 0, .slice none 0 0, .slice none 0 0, .slice none 0 0, .slice none 0 0, .slice none 0 0] 53) = W4 at *
  generalize W3.heap.size = q at *
  go_loopw [4, 6] (fun x y wr' => ∃ (k n : Nat) (vb : Value) (A : Nat → Option Addr) (Z : Nat → List Int), k ≤ l0 ∧ y = .int .i64 (k : Int) ∧ Wst B w1 wr' B q x vb n A Z (ws O k) (ws O k) (fun _ => False) ∧ n ≤ k + 1 ∧ ∀ i, i < n → (Z i).length ≤ 10000000) (fun _ y _ => l0 - (intOf y).toNat)
  case atStart => exact ⟨0, 0, _, _, _, Nat.zero_le _, rfl, T0.out, by omega, fun i hi => by omega⟩
  case round =>
    clear T0
    obtain ⟨k, n, vb, A, Z, hk, rfl, hT, hn, hZ⟩ := hrel
    obtain ⟨va, vm, vc, rfl, HVm⟩ := hT.own.shape2
    have T := hide hT
    have HZ := hide hZ
    clear hT hZ
    by_cases hlt : k < l0
    · obtain ⟨b, off, rfl, hbl, hc⟩ := H0.out.at_ (by omega)
      obtain ⟨g0, g1, g2, g3⟩ := hc k hlt
      have hbB : b < B := HBB.out ▸ hbl
      have same : ∀ W : World, Below B w1 W → ∀ j v, w1.cell? ⟨b, j, none⟩ = some v → W.cell? ⟨b, j, none⟩ = some v := fun W hW j v h => (World.cell?_of_block (a := ⟨b, j, none⟩) (hW.block b hbB)).trans h
      have q3 := same _ T.out.sep.below _ _ g3
      have G0 := hide g0
      have G1 := hide g1
      have G2 := hide g2
      have G3 := hide g3
      have HSame := hide same
      clear hc g0 g1 g2 g3 same
      have hws := ws_long O l0 k hk H0.out.num H0.out.long hb0
      have hwsn := ws_long O l0 (k + 1) hlt H0.out.num H0.out.long hb0
      have htk := tot_mono O (k + 1) l0 hlt
      have htk2 : tot O (k + 1) = tot O k + (O k).l := rfl
      have hll : (O k).l ≤ 100000 := by omega
      have HLs : Hid ((ws O k).length ≤ 1000000) := by rw [Hid]; omega
      have HLn : Hid ((ws O (k + 1)).length ≤ 1000000) := by rw [Hid]; omega
      have HWs : Hid (ws O (k + 1) = ws O k ++ en ((O k).k % 8) (O k).v (O k).bs) := rfl
      have HRw := hide (H0.out.row k hlt)
      have HYl := hide (H0.out.long k hlt)
      have HBa := hide (H0.out.bare k hlt)
      clear hws hwsn htk htk2
      have HP0 := hide (lent_any (O k).a (O k).l (O k).c (O k).bs wr HYl.out hll HBa.out (HRw.out.below (by rw [HBB.out]; exact T.out.sep.below)))
      go_wp2_with fail
      refine HP0.out.mono ?_
      rintro e W5 ⟨rfl, hown, hb⟩
      have hgl : wr.heap.size < W5.heap.size := hown.lt (k := wr.heap.size) rfl
      have T5 := hide (T.out.lend hb (d := fun k => k = wr.heap.size) (by rintro x rfl; exact ⟨Nat.le_refl _, hgl⟩))
      have L5 := hide hown
      clear hown hb T HP0 q3 hgl
      generalize wr.heap.size = g at *
      have q0 := HSame.out _ T5.out.sep.below _ _ G0.out
      have q1 := HSame.out _ T5.out.sep.below _ _ G1.out
      have q2 := HSame.out _ T5.out.sep.below _ _ G2.out
      have q3 := HSame.out _ T5.out.sep.below _ _ G3.out
      have HP1 := hide (prep H0.out HBB.out T5.out.sep.below (Wst.new T5.out) T5.out.wr hlt hb0 (by have := HLs.out; omega) (L5.out.row.left))
      have HEq : ∀ x, Hid (blks (Value.slice (some ⟨g, 0, none⟩) ((O k).l + 2) ((O k).l + 2)) x → x = g) := fun x h => by cases h; rfl
      go_wp2_with fail
      refine HP1.out.mono ?_
      rintro e W6 ⟨x1, x2, x3, rfl, hlen, hbare, hrow, hwA, hoA⟩
      have L6 := hide (T5.out.lent L5.out (fun x => (HEq x).out) (.inl ⟨_, hwA, hoA⟩))
      have T6 := hide (T5.out.wrote hwA hoA)
      have HSr := hide (src_row W6 x1 x2 x3 _ hlen hbare hrow)
      have HBd : Hid ((ws O k).length + x2 ≤ 140737488355328) := by
        have h1 := HLn.out
        rw [HWs.out, List.length_append, hlen] at h1
        rw [Hid]; omega
      clear hlen hbare hrow hwA hoA HP1 T5 L5 q0 q1 q2 q3
      go_wp2_with (at_builtin; refine wpList_append_src (by rfl) (.tmp 33) (.tmp 40) 27 27 (by rfl) i0 Try.underlying27 hi hz0 hz1 hz2 (.slice va vm vc) (ws O k) (by rfl) T6.out.own (.slice x1 x2 x3) x2 _ (by rfl) HSr.out HBd.out ?_; intro v' W7 hown hg hf; obtain ⟨x4, n4, c4, rfl, HN4⟩ := hown.shape2; have L7 := hide (T6.out.lent L6.out (fun x => (HEq x).out) (.inr hg)); have T7 := hide (T6.out.want hown hg hf); have q7 := HSame.out _ T7.out.sep.below _ _ G3.out; clear hown hg hf)
      refine (whole_any g (O k).a (O k).l (O k).c (O k).bs W7 HYl.out hll L7.out.row (HRw.out.below (by rw [HBB.out]; exact T7.out.sep.below))).mono ?_
      rintro e W8 ⟨rfl, hb8⟩
      have T8 := hide (T7.out.on hb8)
      have L8 : Hid (Blk W8 g ((O k).l + 2)) := (L7.out.of_block fun x hx => hb8.block x (L7.out.lt hx)).blk
      clear hb8 T7 L7 q7 T6 L6 HSr
      go_wp2_with fail
      refine (spoil_any g (O k).l ((O k).l + 2) W8 L8.out (by omega) (by omega)).mono ?_
      rintro e W9 ⟨rfl, hg9⟩
      have T9 := hide (T8.out.spoil hg9)
      clear hg9 T8 L8
      go_wp2_with fail
      refine (wlen_any B _ W9 T9.out.wr).mono ?_
      rintro e W10 ⟨rfl, rfl⟩
      rw [← HN4.out]
      have HN5 : Hid (n4 = (ws O (k + 1)).length) := HN4.out
      have T10 : Hid (Wst B w1 W10 B q (.slice x4 n4 c4) vb n A Z (ws O (k + 1)) (ws O (k + 1)) fun _ => False) := T9.out
      clear T9 HN4 HWs HBd
      by_cases hk16 : k % 16 = 0
      · have hm : ((k : Int) % 16 == 0) = true := by simp; omega
        go_wp2_with fail
        refine (wbytes_any B _ W10 T10.out.wr (by have := HLn.out; omega)).mono ?_
        rintro e W11 ⟨x5, rfl, hown, hfr, hb11⟩
        have T11 := hide (T10.out.lend hb11 (d := fun x => ∃ ad, x5 = some ad ∧ ad.block = x) (by
          rintro x ⟨ad, rfl, rfl⟩
          refine ⟨?_, hown.lt rfl⟩
          rcases hfr with h | h
          · cases h
          · cases h; exact Nat.le_refl _))
        have HO11 := hide hown
        clear hown hfr hb11 T10
        go_wp2_with fail
        refine (book_any q vb n A Z x5 (ws O (k + 1)) _ rfl W11 T11.out.bk T11.out.fam HO11.out (fun x h1 h2 => T11.out.sep.dis 2 3 x (by omega) (.inr (.inr h1)) h2) (by have := HLn.out; omega)).mono ?_
        rintro e W12 ⟨rfl, vb', hbk, hfam, hkp, hv⟩
        have T12 := hide (T11.out.put hbk hfam hkp hv)
        clear hbk hfam hkp hv T11 HO11
        go_wp2
        go_roundw
        case rel => exact ⟨k + 1, n + 1, _, _, _, by omega, by go_num, T12.out, by omega, fun i hi => by
          by_cases e : i = n
          · subst e; rw [put_same]; have := HLn.out; omega
          · rw [put_other _ _ _ _ e]; exact HZ.out i (by omega)⟩
        case measure => simp [intOf]; omega
      · have hm : ((k : Int) % 16 == 0) = false := by simp; omega
        go_wp2
        go_roundw
        case rel => exact ⟨k + 1, n, _, _, _, by omega, by go_num, T10.out, by omega, HZ.out⟩
        case measure => simp [intOf]; omega
    · have hke : k = l0 := by omega
      subst hke
      have hws := ws_long O k k hk H0.out.num H0.out.long hb0
      have HLs : Hid ((ws O k).length ≤ 1000000) := by rw [Hid]; omega
      clear hws
      generalize ws O k = V at *
      go_wp2_with fail
      refine (wbytes_any B V wr T.out.wr (by have := HLs.out; omega)).mono ?_
      rintro e W11 ⟨x5, rfl, hown, hfr, hb11⟩
      have T11 := hide (T.out.lend hb11 (d := fun x => ∃ ad, x5 = some ad ∧ ad.block = x) (by
        rintro x ⟨ad, rfl, rfl⟩
        refine ⟨?_, hown.lt rfl⟩
        rcases hfr with h | h
        · cases h
        · cases h; exact Nat.le_refl _))
      have HO11 := hide hown
      clear hown hfr hb11 T
      go_wp2_with fail
      refine (book_any q vb n A Z x5 V _ rfl W11 T11.out.bk T11.out.fam HO11.out (fun x h1 h2 => T11.out.sep.dis 2 3 x (by omega) (.inr (.inr h1)) h2) (by omega)).mono ?_
      rintro e W12 ⟨rfl, vb', hbk, hfam, hkp, hv⟩
      have T12 := hide (T11.out.put hbk hfam hkp hv)
      have HO12 : Hid (Own W12 (.slice x5 V.length V.length) V) := by
        refine HO11.out.of_block fun x hx => hkp.block x (HO11.out.lt hx) ?_
        rintro (rfl | h)
        · exact book_ne_row T11.out.bk HO11.out hx
        · exact list_ne_row T11.out.fam.list HO11.out x h hx
      clear hbk hfam hkp hv T11 HO11
      have HR12 := hide T12.out.own.row
      rw [HVm.out]
      go_wp2_with fail
      refine (same_any x5 va V.length V.length vc V W12 rfl (by have := HLs.out; omega) HO12.out.row HR12.out).mono ?_
      rintro e W13 ⟨rfl, hb13⟩
      have T13 := hide (T12.out.on hb13)
      clear hb13 T12 HO12 HR12
      go_wp2_with fail
      refine (own_any q vb' (n + 1) _ _ W13 T13.out.bk T13.out.fam (by omega) (fun i hi => by
          by_cases e : i = n
          · subst e; rw [put_same]; have := HLs.out; omega
          · rw [put_other _ _ _ _ e]; exact HZ.out i (by omega))).mono ?_
      rintro e W14 ⟨rfl, hkp⟩
      have HE : Hid (Below B w1 W14) := T13.out.sep.below.trans (hkp.below (fun x hx => T13.out.sep.low 2 x (.inr (.inr hx))) T13.out.sep.size)
      clear hkp T13
      go_wp2
      go_ret
      exact ⟨rfl, by rw [HBB.out]; exact HE.out⟩

set_option maxRecDepth 1000000 in
theorem lifted (os : Os) (started : os.Started) (H : Type) (enc : TypeId × Value → H) :
    ReturnsInHanded {} Try.checked os 3 .any (Rows.codeWritesSpec.pre6 enc Try.prog Try.f3 Rows.codeWritesRow.domain false) (Rows.codeWritesSpec.post enc Try.prog Try.f3 false true false false) := by
  refine returnsInHanded_of_change_sized (C := Try.checked) own started (by kernel_rfl) Try.func3
    (ChangeSpec.witness6 (enc := enc) (C := Try.checked) false ⟨#[], #[.slice none 0 0], []⟩ 8 (by kernel_rfl) (by kernel_rfl) (by kernel_rfl) (by kernel_rfl)) ?_
  intro W base args ds gs before hval0 hW hcnd hsz0 _
  have hval : ∀ (j : Nat) t v, Try.f3.params[j]? = some t → args[j]? = some v → Value.okWide Try.prog W .any base t v := hval0
  have hsz : (DataW.weightsEach Try.prog (Try.f3.params.toList ++ Rows.codeWritesSpec.plain.varTypes Try.prog) (ds ++ gs)).all (· ≤ reachBytes) = true := hsz0
  have hW' := hW
  obtain ⟨p, q, hA0, hV, rfl, hfz, hnd⟩ := hW
  have hA : DataW.TrodAll enc Try.prog W 0 (fun _ => true) true Try.f3.params.toList args.toList ds p := hA0
  rw [Try.params3] at hA hval hsz
  obtain ⟨v0, vs0, d0, ds0, p0, q0, hargs, rfl, rfl, h0, r0⟩ := trodAll_cons hA
  obtain ⟨rfl, rfl, rfl⟩ := trodAll_nil r0
  obtain rfl : args = #[v0] := by cases args; simp_all
  obtain ⟨rfl, rfl⟩ := trodVars_none hV
  obtain ⟨a0, len0, cap0, rfl⟩ := okWide_slice Try.underlying22 (hval 0 22 v0 rfl rfl)
  have k0 := h0
  have lt0 : ∀ x ∈ p0, x.block < W.heap.size := by obtain ⟨m, hm⟩ := k0; exact DataW.trod_lt m _ _ _ hm
  have s0 : (d0.weights Try.prog 22).all (· ≤ reachBytes) = true := List.all_eq_true.2 fun n hn => List.all_eq_true.1 hsz n (List.mem_append.2 (.inl hn))
  obtain ⟨hl0, O, c0⟩ : len0 ≤ 140737488355328 ∧ ∃ O, Cals W a0 len0 O := by
    obtain ⟨fuel, hf⟩ := h0
    exact calls_open (x := (d0, p0)) hf s0
  clear hA0 hval0
  refine (walk a0 len0 cap0 O W c0 hl0).mono fun e W' ⟨he, bel⟩ => ?_
  subst he
  exact ⟨_, rfl, _, _, _, [], _, [], hW', trodAll_mk1 (shut_bool Try.underlying4 _), (trodAll_cons_mk (Below.trod laidOut (by kernel_rfl) (of_decide_eq_true (by kernel_rfl)) k0 bel lt0) trodAll_mk0), rfl, bel.frame _, fun h => by cases h⟩

theorem over : Rows.codeWritesRow.holds Try.pinned (OpenSpec.ofChange Rows.codeWritesSpec) :=
  OpenClaim.holds_of_wide 3 Try.f3 rfl rfl rfl rfl rfl rfl rfl ⟨rfl, rfl, rfl, rfl, rfl⟩ rfl rfl rfl rfl rfl (by kernel_rfl) Try.func3 (by kernel_rfl)
    (of_decide_eq_true (by kernel_rfl)) (by unfold Func.isWrapper; first | (rw [if_pos (by decide +kernel)]; kernel_rfl) | (rw [if_neg (by decide +kernel)]; exact ⟨rfl, rfl⟩))
    (fun os started H enc _ => lifted os started H enc)

end Go.Proofs.Ytobkmjkcbihfbaa.Writes
namespace Go.Proofs.Ytobkmjkcbihfbaa
theorem codeWrites_holds : Rows.CodeWritesSaid := Writes.over
#print axioms codeWrites_holds
end Go.Proofs.Ytobkmjkcbihfbaa
