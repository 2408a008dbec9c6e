/- A chain: its pages, one behind the other. -/
import Derived.Test.YtpcckaahfaobeaaOU
import Derived.Test.YtpcckaahfaobeaaOT
import Derived.Test.YtpcckaahfaobeaaOC
namespace Go.Proofs.Ytpcckaahfaobeaa
open Go.RowKit Go.Shelf
attribute [local go_sem] Oper.semAt_some
set_option linter.unusedVariables false
theorem wide_fn2 (f : FuncId) : Fence.wide.fn f = True := eq_true trivial
attribute [local go_sem] wide_fn2
variable {w w' : World}
set_option maxHeartbeats 800000 in
theorem chain_any (p : Nat) (x : Int) (n : Int) (w : World) :
    Calls Try.prog 24 #[.pointer (some ⟨p, 0, none⟩), .int .u32 x, .int .i64 n] w fun e w' => e = .returned (.func (.func 43) #[] #[.pointer (some ⟨w.heap.size + 1, 0, none⟩), .pointer (some ⟨w.heap.size + 2, 0, none⟩), .pointer (some ⟨w.heap.size, 0, none⟩)]) ∧ w' = ((w.alloc (.cells #[.pointer (some ⟨p, 0, none⟩)] 30)).alloc (.cells #[.int .u32 x] 34)).alloc (.cells #[.int .i64 n] 3) := by
  go_enter Try.func24, Try.ntmps24
  go_wp2
  go_ret
  exact ⟨rfl, rfl⟩
/-- the boxes of what is ranged over. -/
structure Cx (s p : Nat) (x n : Int) (W : World) : Prop where
  p : W.heap[s]? = some (.cells #[.pointer (some ⟨p, 0, none⟩)] 30 (0, 0))
  x : W.heap[s + 1]? = some (.cells #[.int .u32 x] 34 (0, 0))
  n : W.heap[s + 2]? = some (.cells #[.int .i64 n] 3 (0, 0))
def Bx (s k : Nat) : Prop := k = s ∨ k = s + 1 ∨ k = s + 2
/-- the bytes of the page at i. -/
def chk1 (zs : List Int) (i : Nat) : List Int := (zs.drop (1004 * i)).take 1004
/-- a chain under way: i pages are read. -/
def ChSt (s p d q most pages c0 : Nat) (S0 : DS) (x n : Int) (i : Nat) (V : World) (O : Nat → Prop) : Prop :=
  ∃ OO S A, (∀ k, OO k → O k) ∧ (∀ k, Bx s k → O k ∧ ¬ OO k) ∧ CP V p d q S most A OO pages (c0 + i) ∧ (∀ j, j < pages → rd S (8 * j) 8 = rd S0 (8 * j) 8) ∧ Cx s p x n V
/-- what a chain hands over. -/
def ChX (ys : List Nat) (zs : List Int) (i : Nat) (args : Array Value) (V : World) (O : Nat → Prop) : Prop :=
  ∃ g o cap, args = #[.agg #[.int .u32 ((ys.getD i 0 : Nat) : Int), .int .u32 ((ys.getD (i + 1) 0 : Nat) : Int), .slice (some ⟨g, o, none⟩) (chk1 zs i).length cap], .int .u16 0] ∧ Row V (some ⟨g, o, none⟩) (chk1 zs i) ∧ (chk1 zs i).length ≤ cap ∧ cap ≤ 9223372036854775807 ∧ g < V.heap.size ∧ ¬ O g ∧ ∀ k, O k → k < V.heap.size
theorem ChSt.keep {s p d q most pages c0 : Nat} {S0 : DS} {x n : Int} {i : Nat} {V V' : World} {O : Nat → Prop} (h : ChSt s p d q most pages c0 S0 x n i V O) (hm : Mv (fun k => ¬ O k) V V') : ChSt s p d q most pages c0 S0 x n i V' O := by
  obtain ⟨OO, S, A, h1, h2, h3, h4, h5⟩ := h
  exact ⟨OO, S, A, h1, h2, h3.other hm (fun k hk hn => hn (h1 k hk)), h4, ⟨(hm.block _ (lt_of_block h5.p) (fun hn => hn (h2 s (.inl rfl)).1)).trans h5.p, (hm.block _ (lt_of_block h5.x) (fun hn => hn (h2 (s + 1) (.inr (.inl rfl))).1)).trans h5.x, (hm.block _ (lt_of_block h5.n) (fun hn => hn (h2 (s + 2) (.inr (.inr rfl))).1)).trans h5.n⟩⟩
theorem chk1_len {zs : List Int} {n i : Nat} (hl : zs.length = n) : (chk1 zs i).length = min 1004 (n - 1004 * i) := by simp [chk1, hl]
set_option maxHeartbeats 3200000 in
set_option maxRecDepth 1000000 in
theorem chain1_goes (s p d q most pages c0 n m : Nat) (S0 : DS) (ys : List Nat) (zs : List Int) (hl : zs.length = n) (hn : 65 ≤ n ∧ n ≤ 8192) (hm : m = (n + 1003) / 1004) (hlm : ys.length = m) (hok : ys.all okp = true) (hpg : ∀ i, i < m → ys.getD i 0 < pages) (hp9 : pages ≤ 10000) (hc0 : c0 ≤ 8000)
    (hrd : ∀ i, i < m → rd S0 (8 * ys.getD i 0) 8 = Pg.pg 3 (ys.getD i 0) (le4 (ys.getD (i + 1) 0) ++ chk1 zs i)) :
    GoesP Try.prog 43 #[.pointer (some ⟨s + 1, 0, none⟩), .pointer (some ⟨s + 2, 0, none⟩), .pointer (some ⟨s, 0, none⟩)] m (ChSt s p d q most pages c0 S0 ((ys.getD 0 0 : Nat) : Int) (n : Int)) (ChX ys zs) := by
  intro l C Cy W O hC hCy hY h0 hS
  have HC := hide hC
  have HY := hide hY
  have HN := hide hn
  have HMm := hide hm
  have HLm := hide hlm
  have HOk := hide hok
  have HPg := hide hpg
  have HRd := hide hrd
  have HL := hide hl
  have H0 := hide h0
  have HS := hide hS
  obtain ⟨OO, S, A, i1, i2, i3, i4, i5⟩ := hS
  have q0 := cell_of_one i5.p
  have q1 := cell_of_one i5.x
  have q2 := cell_of_one i5.n
  clear hC hY hn hm hlm hok hpg hrd hl h0 hCy i1 i2 i3 i4 i5 OO S A
  refine (callsIn_wide (n := 9)).1 ?_
  refine callsIn_of_wp Try.func43 rfl trivial ?_ rfl
  simp only [Try.ntmps43, List.size_toArray, List.length_cons, List.length_nil, Nat.reduceAdd, Nat.reduceSub, Array.replicate_succ, Array.replicate_zero, List.push_toArray, List.append_toArray, List.nil_append, List.cons_append]
  gi_wp2
  -- LOOP
  gi_loopw [5, 6] (fun x y wr => ∃ (i : Nat) (O : Nat → Prop), i ≤ m ∧ x = .int .u32 ((ys.getD i 0 : Nat) : Int) ∧ y = .int .i64 ((n : Int) - 1004 * (i : Int)) ∧ C i wr O ∧ ChSt s p d q most pages c0 S0 ((ys.getD 0 0 : Nat) : Int) (n : Int) i wr O) (fun _ y _ => (intOf y).toNat)
  case atStart => exact ⟨0, O, by omega, rfl, by simp, H0.out, HS.out⟩
  case round =>
    clear H0 HS q0 q1 q2 O
    obtain ⟨i, O, him, rfl, rfl, hCi, hSi⟩ := hrel
    have HCi := hide hCi
    have HSi := hide hSi
    clear hCi hSi
    by_cases hlt : i < m
    · obtain ⟨L, hL⟩ : ∃ L : Nat, L = n - 1004 * i := ⟨_, rfl⟩
      have hnn := HN.out
      have hmm := HMm.out
      have hLi : (n : Int) - 1004 * (i : Int) = (L : Int) := by omega
      have hL1 : 1 ≤ L ∧ L ≤ 8192 := by omega
      have HLast : Hid (L ≤ 1004 ↔ i + 1 = m) := by rw [Hid]; omega
      rw [hLi]
      have HLi := hide hLi
      have HLL := hide hL
      have hp0 : (0 : Int) < (L : Int) := by omega
      obtain ⟨OO, S, A, i1, i2, i3, i4, i5⟩ := HSi.out
      have hyi := HPg.out i hlt
      have hrdi := (i4 _ hyi).trans (HRd.out i hlt)
      have hnx : ys.getD (i + 1) 0 ≤ 4294967295 := by
        by_cases h : i + 1 < m
        · have := HPg.out (i + 1) h; omega
        · have : ys.getD (i + 1) 0 = 0 := by rw [List.getD_eq_getElem?_getD, List.getElem?_eq_none (by rw [HLm.out]; omega)]; rfl
          omega
      have HRL : Hid (Calls Try.prog 44 #[.pointer (some ⟨p, 0, none⟩), .int .u32 ((ys.getD i 0 : Nat) : Int), .int .i64 (L : Int)] wr fun e w' => LinkOut (ys.getD i 0) (ys.getD (i + 1) 0) (chk1 zs i) p d q S most OO pages (c0 + i) wr e w') := by
        by_cases hla : L ≤ 1004
        · refine readLink_last i3 (by omega) hp9 _ _ L L hyi _ hrdi hnx (by rw [chk1_len HL.out]; omega) (by omega) (by omega) hla rfl ?_
          have h := HLast.out.1 hla
          have : ys.getD (i + 1) 0 = 0 := by rw [List.getD_eq_getElem?_getD, List.getElem?_eq_none (by rw [HLm.out]; omega)]; rfl
          simp only [leads, this]; rfl
        · refine readLink_on i3 (by omega) hp9 _ _ L 1004 hyi _ hrdi hnx (by rw [chk1_len HL.out]; omega) (by omega) (by omega) (by omega) rfl ?_
          have h : i + 1 < m := by have := HLast.out; omega
          have := (all_at (p := okp)).1 HOk.out (i + 1) (by rw [HLm.out]; exact h)
          simpa [leads] using this
      have q0 := cell_of_one i5.p
      have HI1 := hide i1
      have HI2 := hide i2
      have HI5 := hide i5
      have HI4 := hide i4
      clear i1 i2 i3 i4 i5 hrdi hLi hL hnn hmm
      generalize hY0 : ys.getD i 0 = y0 at *
      generalize hY1 : ys.getD (i + 1) 0 = y1 at *
      have HY0 := hide hY0
      have HY1 := hide hY1
      clear hY0 hY1
      generalize hPt : chk1 zs i = pt at *
      have HPt := hide hPt
      clear hPt
      gi_wp2_with (gi_at_call 44; refine (callsIn_wide.2 HRL.out).mono ?_; rintro e w1 ⟨g, o, cap, S', A', OO', rfl, r1, r2, r3, r4, r5, r6, r7, r8, r9⟩; have R1 := hide r1; have R2 := hide r2; have R3 := hide r3; have R4 := hide r4; have R5 := hide r5; have R6 := hide r6; have R7 := hide r7; have R8 := hide r8; have R9 := hide r9; clear r1 r2 r3 r4 r5 r6 r7 r8 r9)
      obtain ⟨W2, hW2⟩ : ∃ W, W = w1.alloc (.cells #[.int .u32 (y0 : Int), .int .u32 (y1 : Int), .slice (some ⟨g, o, none⟩) pt.length cap] 78) := ⟨_, rfl⟩
      have hb2 : Below w1.heap.size w1 W2 := by rw [hW2]; exact below_alloc w1 _
      have HX2 : Hid (W2.heap[w1.heap.size]? = some (.cells #[.int .u32 (y0 : Int), .int .u32 (y1 : Int), .slice (some ⟨g, o, none⟩) pt.length cap] 78 (0, 0))) := by rw [hW2]; exact heap_alloc_new w1 _
      have hbx : ∀ k, Bx s k → k < wr.heap.size := fun k hk => by
        rcases hk with rfl | rfl | rfl
        · exact lt_of_block HI5.out.p
        · exact lt_of_block HI5.out.x
        · exact lt_of_block HI5.out.n
      obtain ⟨Oy, hOy⟩ : ∃ Oy : Nat → Prop, Oy = fun k => OO' k ∨ Bx s k ∨ k = w1.heap.size := ⟨_, rfl⟩
      have hgo : Go1 O wr Oy W2 := by
        have hm : Mv O wr W2 := Mv.trans' (R9.out.mv.mono HI1.out) (Mv.of_below hb2)
        refine ⟨hm, fun k hk => ?_⟩
        rw [hOy] at hk
        rcases hk with hk | hk | hk
        · rcases R9.out.own k hk with h | h
          · exact .inl (HI1.out k h)
          · exact .inr h
        · exact .inl (HI2.out k hk).1
        · exact .inr (by rw [hk]; exact R9.out.mv.size)
      have hC2 := HC.out i wr O W2 Oy HCi.out hgo
      have hno : ∀ k, Bx s k → ¬ OO' k := fun k hk ho => (R9.out.own k ho).elim (HI2.out k hk).2 (fun h => by have := hbx k hk; omega)
      have hS2 : ChSt s p d q most pages c0 S0 ((ys.getD 0 0 : Nat) : Int) (n : Int) (i + 1) W2 Oy := by
        refine ⟨OO', S', A', fun k hk => by rw [hOy]; exact .inl hk, fun k hk => ⟨by rw [hOy]; exact .inr (.inl hk), hno k hk⟩, R7.out.below hb2, fun j hj => (R8.out j hj).trans (HI4.out j hj), ?_⟩
        have keep : ∀ k, Bx s k → W2.heap[k]? = wr.heap[k]? := fun k hk => (hb2.block k (Nat.lt_of_lt_of_le (hbx k hk) R9.out.mv.size)).trans (R9.out.mv.block k (hbx k hk) (HI2.out k hk).2)
        exact ⟨(keep s (.inl rfl)).trans HI5.out.p, (keep (s + 1) (.inr (.inl rfl))).trans HI5.out.x, (keep (s + 2) (.inr (.inr rfl))).trans HI5.out.n⟩
      have hX : ChX ys zs i #[.agg #[.int .u32 (y0 : Int), .int .u32 (y1 : Int), .slice (some ⟨g, o, none⟩) pt.length cap], .int .u16 0] W2 Oy := by
        refine ⟨g, o, cap, by rw [HY0.out, HY1.out, HPt.out], ?_, by rw [HPt.out]; exact R2.out, R3.out, Nat.lt_of_lt_of_le R5.out hb2.size, ?_, ?_⟩
        · rw [HPt.out]; exact R1.out.below hb2
        · rw [hOy]
          rintro (h | h | h)
          · exact R6.out h
          · have := hbx g h; have := R4.out; omega
          · have := R5.out; omega
        · rw [hOy]
          rintro k (h | h | h)
          · exact Nat.lt_of_lt_of_le (R7.out.pl.lt k h) hb2.size
          · exact Nat.lt_of_lt_of_le (hbx k h) (Nat.le_trans R9.out.mv.size hb2.size)
          · have := lt_of_block HX2.out; omega
      have hOyl : Oy w1.heap.size := by rw [hOy]; exact .inr (.inr rfl)
      have HOyl := hide hOyl
      have HS2 := hide hS2
      have HGo := hide hgo
      obtain ⟨fn, tmps, assign, body, hy, hR⟩ := HY.out i _ W2 Oy hlt hC2 hX
      rw [← hW2, hy]
      clear hb2 hbx hgo hC2 hno hS2 hX hOyl hOy hy hW2
      simp only [Oper.uponIn]
      refine ⟨fun _ => by omega, (RoundIn.anyDepth rfl hR).mono ?_⟩
      rintro e W3 ⟨hmv, (⟨rfl, hC3⟩ | ⟨rfl, hCx3⟩)⟩
      · have hx3 := (hmv.block _ (lt_of_block HX2.out) (fun h => h HOyl.out)).trans HX2.out
        obtain ⟨z0, z1, z2, -⟩ := cells_3 hx3
        have HS3 := hide (HS2.out.keep hmv)
        have HC3 := hide hC3
        have hwr : IntKind.i64.wrap ((L : Int) - 1004) = (L : Int) - 1004 := by rw [IntKind.wrap_i64] <;> omega
        clear hmv hx3 hC3 hR
        gi_wp2
        go_roundw
        case rel => exact ⟨i + 1, Oy, by omega, by rw [HY1.out], by have := HLi.out; congr 1; omega, HC3.out, HS3.out⟩
        case measure => simp [intOf]; omega
      · have HS3 := hide (HS2.out.keep hmv)
        clear hmv hR
        gi_wp2
        refine bodyPost_ret (results_none rfl _ _ _) rfl ?_
        exact ⟨⟨_, rfl⟩, i + 1, Oy, HS3.out, .inr hCx3⟩
    · have hie : i = m := by omega
      have hmm := HMm.out
      have hp0 : ¬ (0 : Int) < (n : Int) - 1004 * (i : Int) := by omega
      have HE := hide hie
      clear hie hmm
      generalize hLL : (n : Int) - 1004 * (i : Int) = L at *
      clear hLL
      gi_wp2
      go_end0
      exact ⟨⟨_, rfl⟩, i, O, HSi.out, .inl ⟨by rw [← HE.out]; exact HCi.out, HE.out⟩⟩
end Go.Proofs.Ytpcckaahfaobeaa
