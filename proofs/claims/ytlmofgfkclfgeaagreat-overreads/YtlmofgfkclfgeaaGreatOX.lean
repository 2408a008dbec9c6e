/- A chain: its pages, one behind the other, whatever they are. -/
import Derived.Test.YtlmofgfkclfgeaaGreatYM
import Derived.Test.YtlmofgfkclfgeaaGreatYC
import Derived.Test.YtlmofgfkclfgeaaGreatOC
import Derived.Test.YtlmofgfkclfgeaaGreatOT
import Derived.Orders
import Derived.OrdersIn
import Derived.Test.YtlmofgfkclfgeaaGreatYA
import Derived.Test.YtlmofgfkclfgeaaGreatGA
import Derived.Deep.AppendSrc
import Derived.OwnWalkIn
namespace Go.Proofs.YtlmofgfkclfgeaaGreat
open Go.RowKit Go.Shelf
attribute [local go_sem] Oper.semAt_some
set_option linter.unusedVariables false
theorem wide_fn2 (f : FuncId) : Fence.wide.fn f = True := eq_true trivial
attribute [local go_sem] wide_fn2
variable {w w' : World}
set_option maxHeartbeats 800000 in
theorem chain_any (p : Nat) (x : Int) (n : Int) (w : World) :
    Calls Tryz.prog 23 #[.pointer (some ⟨p, 0, none⟩), .int .u32 x, .int .i64 n] w fun e w' => e = .returned (.func (.func 55) #[] #[.pointer (some ⟨w.heap.size + 1, 0, none⟩), .pointer (some ⟨w.heap.size + 2, 0, none⟩), .pointer (some ⟨w.heap.size, 0, none⟩)]) ∧ w' = ((w.alloc (.cells #[.pointer (some ⟨p, 0, none⟩)] 33)).alloc (.cells #[.int .u32 x] 23)).alloc (.cells #[.int .i64 n] 3) := by
  go_enter Tryz.func23, Tryz.ntmps23
  go_wp2
  go_ret
  exact ⟨rfl, rfl⟩
/-- the boxes of what is ranged over. -/
structure Cx (s p : Nat) (x n : Int) (W : World) : Prop where
  p : W.heap[s]? = some (.cells #[.pointer (some ⟨p, 0, none⟩)] 33 (0, 0))
  x : W.heap[s + 1]? = some (.cells #[.int .u32 x] 23 (0, 0))
  n : W.heap[s + 2]? = some (.cells #[.int .i64 n] 3 (0, 0))
def Bxs (s k : Nat) : Prop := k = s ∨ k = s + 1 ∨ k = s + 2
/-- a chain under way: i pages are read. -/
def ChSt (s p d q most : Nat) (S0 : DS) (A0 : List Pge) (a0 size : Nat) (i : Nat) (V : World) (O : Nat → Prop) : Prop :=
  ∃ OO, (∀ k, OO k → O k) ∧ (∀ k, Bxs s k → O k ∧ ¬ OO k) ∧ Pl V p d q (trk most S0 A0 a0 i).S most (trk most S0 A0 a0 i).A OO ∧ Cx s p (a0 : Int) (size : Int) V
/-- what a chain hands over. -/
def ChX (most : Nat) (S0 : DS) (A0 : List Pge) (a0 size : Nat) (i : Nat) (args : Array Value) (V : World) (O : Nat → Prop) : Prop :=
  ((okk most S0 A0 a0 size i = true ∧ ∃ g cap, args = #[.agg #[.int .u32 ((trk most S0 A0 a0 i).a : Int), .int .u32 ((trk most S0 A0 a0 (i + 1)).a : Int), .slice (some ⟨g, 4, none⟩) ((lkk most S0 A0 a0 i).pl.drop 4).length cap], .int .u16 0] ∧ Row V (some ⟨g, 4, none⟩) ((lkk most S0 A0 a0 i).pl.drop 4) ∧ ((lkk most S0 A0 a0 i).pl.drop 4).length ≤ cap ∧ cap ≤ 9223372036854775807 ∧ g < V.heap.size ∧ ¬ O g) ∨
    (okk most S0 A0 a0 size i = false ∧ args = #[.agg #[.int .u32 0, .int .u32 0, .slice none 0 0], .int .u16 (lkEr (lkk most S0 A0 a0 i) : Int)])) ∧ ∀ k, O k → k < V.heap.size
theorem ChSt.keep {s p d q most size a0 : Nat} {S0 : DS} {A0 : List Pge} {i : Nat} {V V' : World} {O : Nat → Prop} (h : ChSt s p d q most S0 A0 a0 size i V O) (hm : Mv (fun k => ¬ O k) V V') : ChSt s p d q most S0 A0 a0 size i V' O := by
  obtain ⟨OO, h1, h2, h3, h5⟩ := h
  exact ⟨OO, h1, h2, h3.other hm (fun k hk hn => hn (h1 k hk)), ⟨(hm.block _ (lt_of_block h5.p) (fun hn => hn (h2 s (.inl rfl)).1)).trans h5.p, (hm.block _ (lt_of_block h5.x) (fun hn => hn (h2 (s + 1) (.inr (.inl rfl))).1)).trans h5.x, (hm.block _ (lt_of_block h5.n) (fun hn => hn (h2 (s + 2) (.inr (.inr rfl))).1)).trans h5.n⟩⟩
theorem trk_n1 {most : Nat} {S0 : DS} {A0 : List Pge} {a0 : Nat} : ∀ i, (trk most S0 A0 a0 i).S.n1 ≤ S0.n1 + i
  | 0 => by simp [trk]
  | i + 1 => by
    have h := trk_n1 (most := most) (S0 := S0) (A0 := A0) (a0 := a0) i
    have h2 := (rdo_more most (trk most S0 A0 a0 i).S (trk most S0 A0 a0 i).A (trk most S0 A0 a0 i).a).1
    show (rdo most (trk most S0 A0 a0 i).S (trk most S0 A0 a0 i).A (trk most S0 A0 a0 i).a).S.n1 ≤ S0.n1 + ((i + 1 : Nat) : Int)
    omega
set_option maxHeartbeats 3200000 in
set_option maxRecDepth 1000000 in
theorem chain1_goes (s p d q most n size r a0 : Nat) (S0 : DS) (A0 : List Pge) (hn : 1004 * (n - 1) + 1 ≤ size ∧ size ≤ 1004 * n) (hn9 : size ≤ 8192) (hR : Rds most S0 A0 a0 size n r) (hc : S0.n1 + 20 ≤ 1000000) (ha : a0 < 4294967296)
    (hB : ∀ i V OO, Pl V p d q (trk most S0 A0 a0 i).S most (trk most S0 A0 a0 i).A OO → (lkk most S0 A0 a0 i).pl.length ≤ 1008 ∧ Byts (lkk most S0 A0 a0 i).pl) :
    GoesQ Tryz.prog 55 #[.pointer (some ⟨s + 1, 0, none⟩), .pointer (some ⟨s + 2, 0, none⟩), .pointer (some ⟨s, 0, none⟩)] r (okk most S0 A0 a0 size (r - 1) = false) (ChSt s p d q most S0 A0 a0 size) (ChX most S0 A0 a0 size) := by
  intro l C Cy W O hC hCy hBd hY h0 hS
  have HC := hide hC
  have HY := hide hY
  have HBd := hide hBd
  have HN := hide hn
  have HR := hide hR
  have H0 := hide h0
  have HS := hide hS
  have HBB := hide hB
  have HCnt := hide hc
  have HA0 := hide ha
  obtain ⟨OO, i1, i2, i3, i5⟩ := hS
  have q0 := cell_of_one i5.p
  have q1 := cell_of_one i5.x
  have q2 := cell_of_one i5.n
  clear hC hY hBd hn hR h0 hCy i1 i2 i3 i5 OO hB hc ha
  refine (callsIn_wide (n := 9)).1 ?_
  refine callsIn_of_wp Tryz.func55 rfl trivial ?_ rfl
  simp only [Tryz.ntmps55, List.size_toArray, List.length_cons, List.length_nil, Nat.reduceAdd, Nat.reduceSub, Array.replicate_succ, Array.replicate_zero, List.push_toArray, List.append_toArray, List.nil_append, List.cons_append]
  gi_wp2
  -- LOOP
  gi_loopw [5, 6] (fun x y wr => ∃ (i a : Nat) (O : Nat → Prop), i ≤ r ∧ x = .int .u32 (a : Int) ∧ Hid (a = (trk most S0 A0 a0 i).a) ∧ a < 4294967296 ∧ y = .int .i64 ((size : Int) - 1004 * (i : Int)) ∧ C i wr O ∧ ChSt s p d q most S0 A0 a0 size i wr O) (fun _ y _ => (intOf y).toNat)
  case atStart => exact ⟨0, a0, O, by omega, rfl, hide rfl, HA0.out, by simp, H0.out, HS.out⟩
  case round =>
    clear H0 HS q0 q1 q2 O
    obtain ⟨i, a, O, him, rfl, HAi, hai, rfl, hCi, hSi⟩ := hrel
    have HCi := hide hCi
    have HSi := hide hSi
    clear hCi hSi
    by_cases hlt : i < r
    · obtain ⟨L, hL⟩ : ∃ L : Nat, L = size - 1004 * i := ⟨_, rfl⟩
      have hnn := HN.out
      have hrl := HR.out.le
      have hLi : (size : Int) - 1004 * (i : Int) = (L : Int) := by omega
      have hL1 : 1 ≤ L ∧ L ≤ 8192 := by omega
      rw [hLi]
      have HLi := hide hLi
      have HLL := hide hL
      have hp0 : (0 : Int) < (L : Int) := by omega
      obtain ⟨OO, i1, i2, i3, i5⟩ := HSi.out
      obtain ⟨ok, hok⟩ : ∃ ok, okk most S0 A0 a0 size i = ok := ⟨_, rfl⟩
      have HRL := hide (readLink_any i3 (by have h1 := trk_n1 (most := most) (S0 := S0) (A0 := A0) (a0 := a0) i; have h2 := HCnt.out; omega) (trk most S0 A0 a0 i).a L (by rw [← HAi.out]; exact hai) hL1.1 (by omega) (lkk most S0 A0 a0 i) rfl ok (by rw [hL]; exact hok))
      rw [← HAi.out] at HRL
      have HBi := hide (HBB.out i _ _ i3)
      have HOk := hide hok
      have q0 := cell_of_one i5.p
      have HI1 := hide i1
      have HI2 := hide i2
      have HI5 := hide i5
      clear i1 i2 i3 i5 hLi hL hnn hrl hok
      have hTs := hide (trk_succ (most := most) (S := S0) (A := A0) (a := a0) i)
      obtain ⟨R, hRR⟩ : ∃ R, Hid (R = lkk most S0 A0 a0 i) := ⟨_, rfl⟩
      rw [← hRR.out] at HRL HBi hTs
      cases ok with
      | true =>
        obtain ⟨nx, HNx⟩ : ∃ nx, Hid (nx = nx4 R.pl) := ⟨_, rfl⟩
        obtain ⟨pt, HPt⟩ : ∃ pt, Hid (pt = R.pl.drop 4) := ⟨_, rfl⟩
        have HNb : Hid (nx < 4294967296) := by
          have h1 := HOk.out
          unfold okk lkOk at h1
          rw [← hRR.out] at h1
          simp only [Bool.and_eq_true, decide_eq_true_eq] at h1
          have := (nx4_le R.pl (by have := h1.2.1.2; omega) HBi.out.2).2
          rw [Hid, HNx.out]; omega
        unfold LinkO at HRL
        have HLn : Hid (∀ (w' : World) (lo : Nat) (OO' : Nat → Prop) (v : Value) (er : Nat), Lnk a R true w' lo OO' v er → er = 0 ∧ ∃ g cap, v = .agg #[.int .u32 (a : Int), .int .u32 (nx : Int), .slice (some ⟨g, 4, none⟩) pt.length cap] ∧ Row w' (some ⟨g, 4, none⟩) pt ∧ pt.length ≤ cap ∧ cap ≤ 9223372036854775807 ∧ lo ≤ g ∧ g < w'.heap.size ∧ ¬ OO' g) := fun w' lo OO' v er h => by rw [HNx.out, HPt.out]; exact h.fine rfl
        gi_wp2_with (gi_at_call 56; refine (callsIn_wide.2 HRL.out).mono ?_; rintro e w1 ⟨v, er, OO', rfl, r1, r7, r9⟩; obtain ⟨rfl, g, cap, rfl, r2, r3, r4, r5, r6, r8⟩ := HLn.out _ _ _ _ _ r1; have R2 := hide r2; have R3 := hide r3; have R4 := hide r4; have R5 := hide r5; have R6 := hide r6; have R8 := hide r8; have R7 := hide r7; have R9 := hide r9; clear r1 r2 r3 r4 r5 r6 r7 r8 r9)
        obtain ⟨W2, hW2⟩ : ∃ W, W = w1.alloc (.cells #[.int .u32 (a : Int), .int .u32 (nx : Int), .slice (some ⟨g, 4, none⟩) pt.length cap] 114) := ⟨_, rfl⟩
        have hb2 : Below w1.heap.size w1 W2 := by rw [hW2]; exact below_alloc w1 _
        have HX2 : Hid (W2.heap[w1.heap.size]? = some (.cells #[.int .u32 (a : Int), .int .u32 (nx : Int), .slice (some ⟨g, 4, none⟩) pt.length cap] 114 (0, 0))) := by rw [hW2]; exact heap_alloc_new w1 _
        have hbx : ∀ k, Bxs s k → k < wr.heap.size := fun k hk => by
          rcases hk with rfl | rfl | rfl
          · exact lt_of_block HI5.out.p
          · exact lt_of_block HI5.out.x
          · exact lt_of_block HI5.out.n
        obtain ⟨Oy, hOy⟩ : ∃ Oy : Nat → Prop, Oy = fun k => OO' k ∨ Bxs s k ∨ k = w1.heap.size := ⟨_, rfl⟩
        have hgo : Go1 O wr Oy W2 := by
          have hm : Mv O wr W2 := Mv.trans' (R9.out.mv.mono HI1.out) (Mv.of_below hb2)
          refine ⟨hm, fun k hk => ?_⟩
          rw [hOy] at hk
          rcases hk with hk | hk | hk
          · rcases R9.out.own k hk with h | h
            · exact .inl (HI1.out k h)
            · exact .inr h
          · exact .inl (HI2.out k hk).1
          · exact .inr (by rw [hk]; exact R9.out.mv.size)
        have hC2 := HC.out i wr O W2 Oy HCi.out hgo
        have hno : ∀ k, Bxs s k → ¬ OO' k := fun k hk ho => (R9.out.own k ho).elim (HI2.out k hk).2 (fun h => by have := hbx k hk; omega)
        have hS2 : ChSt s p d q most S0 A0 a0 size (i + 1) W2 Oy := by
          refine ⟨OO', fun k hk => by rw [hOy]; exact .inl hk, fun k hk => ⟨by rw [hOy]; exact .inr (.inl hk), hno k hk⟩, by rw [hTs.out]; exact R7.out.below hb2, ?_⟩
          have keep : ∀ k, Bxs s k → W2.heap[k]? = wr.heap[k]? := fun k hk => (hb2.block k (Nat.lt_of_lt_of_le (hbx k hk) R9.out.mv.size)).trans (R9.out.mv.block k (hbx k hk) (HI2.out k hk).2)
          exact ⟨(keep s (.inl rfl)).trans HI5.out.p, (keep (s + 1) (.inr (.inl rfl))).trans HI5.out.x, (keep (s + 2) (.inr (.inr rfl))).trans HI5.out.n⟩
        have hOl : ∀ k, Oy k → k < W2.heap.size := by
          rw [hOy]
          rintro k (h | h | h)
          · exact Nat.lt_of_lt_of_le (R7.out.lt k h) hb2.size
          · exact Nat.lt_of_lt_of_le (hbx k h) (Nat.le_trans R9.out.mv.size hb2.size)
          · have := lt_of_block HX2.out; omega
        have hX : ChX most S0 A0 a0 size i #[.agg #[.int .u32 (a : Int), .int .u32 (nx : Int), .slice (some ⟨g, 4, none⟩) pt.length cap], .int .u16 0] W2 Oy := by
          refine ⟨.inl ⟨HOk.out, g, cap, by rw [HAi.out, HNx.out, hTs.out, HPt.out, hRR.out], ?_, by rw [← hRR.out, ← HPt.out]; exact R3.out, R4.out, Nat.lt_of_lt_of_le R6.out hb2.size, ?_⟩, hOl⟩
          · rw [← hRR.out, ← HPt.out]; exact R2.out.below hb2
          · rw [hOy]
            rintro (h | h | h)
            · exact R8.out h
            · have := hbx g h; have := R5.out; omega
            · have := R6.out; omega
        have hOyl : Oy w1.heap.size := by rw [hOy]; exact .inr (.inr rfl)
        have HOyl := hide hOyl
        have HS2 := hide hS2
        have HGo := hide hgo
        obtain ⟨fn, tmps, assign, body, hy, hR⟩ := HY.out i _ W2 Oy hlt hC2 hX
        rw [← hW2, hy]
        clear hb2 hbx hgo hC2 hno hS2 hX hOyl hOy hy hW2 hOl
        simp only [Oper.uponIn]
        refine ⟨fun _ => by omega, (RoundIn.anyDepth rfl hR).mono ?_⟩
        rintro e W3 ⟨hmv, (⟨rfl, hC3⟩ | ⟨rfl, hCx3⟩)⟩
        · have hx3 := (hmv.block _ (lt_of_block HX2.out) (fun h => h HOyl.out)).trans HX2.out
          obtain ⟨z0, z1, z2, -⟩ := cells_3 hx3
          have HS3 := hide (HS2.out.keep hmv)
          have HC3 := hide hC3
          have hwr : IntKind.i64.wrap ((L : Int) - 1004) = (L : Int) - 1004 := by rw [IntKind.wrap_i64] <;> omega
          clear hmv hx3 hC3 hR
          gi_wp2
          go_roundw
          case rel => exact ⟨i + 1, nx, Oy, by omega, rfl, by rw [Hid, hTs.out]; exact HNx.out, HNb.out, by have := HLi.out; congr 1; omega, HC3.out, HS3.out⟩
          case measure => simp [intOf]; omega
        · have HS3 := hide (HS2.out.keep hmv)
          clear hmv hR
          gi_wp2
          refine bodyPost_ret (results_none rfl _ _ _) rfl ?_
          exact ⟨⟨_, rfl⟩, i + 1, Oy, HS3.out, .inr hCx3⟩
      | false =>
        obtain ⟨er, HEr⟩ : ∃ er, Hid (er = lkEr R) := ⟨_, rfl⟩
        have HLn : Hid (∀ (w' : World) (lo : Nat) (OO' : Nat → Prop) (v : Value) (e : Nat), Lnk a R false w' lo OO' v e → e = er ∧ v = .agg #[.int .u32 0, .int .u32 0, .slice none 0 0]) := fun w' lo OO' v e h => by rw [HEr.out]; exact h.bad rfl
        gi_wp2_with (gi_at_call 56; refine (callsIn_wide.2 HRL.out).mono ?_; rintro e w1 ⟨v, er', OO', rfl, r1, r7, r9⟩; obtain ⟨h1, rfl⟩ := HLn.out _ _ _ _ _ r1; rw [h1]; clear h1; have R7 := hide r7; have R9 := hide r9; clear r1 r7 r9)
        obtain ⟨W2, hW2⟩ : ∃ W, W = w1.alloc (.cells #[.int .u32 0, .int .u32 0, .slice none 0 0] 114) := ⟨_, rfl⟩
        have hb2 : Below w1.heap.size w1 W2 := by rw [hW2]; exact below_alloc w1 _
        have HX2 : Hid (W2.heap[w1.heap.size]? = some (.cells #[.int .u32 0, .int .u32 0, .slice none 0 0] 114 (0, 0))) := by rw [hW2]; exact heap_alloc_new w1 _
        have hbx : ∀ k, Bxs s k → k < wr.heap.size := fun k hk => by
          rcases hk with rfl | rfl | rfl
          · exact lt_of_block HI5.out.p
          · exact lt_of_block HI5.out.x
          · exact lt_of_block HI5.out.n
        obtain ⟨Oy, hOy⟩ : ∃ Oy : Nat → Prop, Oy = fun k => OO' k ∨ Bxs s k ∨ k = w1.heap.size := ⟨_, rfl⟩
        have hgo : Go1 O wr Oy W2 := by
          have hm : Mv O wr W2 := Mv.trans' (R9.out.mv.mono HI1.out) (Mv.of_below hb2)
          refine ⟨hm, fun k hk => ?_⟩
          rw [hOy] at hk
          rcases hk with hk | hk | hk
          · rcases R9.out.own k hk with h | h
            · exact .inl (HI1.out k h)
            · exact .inr h
          · exact .inl (HI2.out k hk).1
          · exact .inr (by rw [hk]; exact R9.out.mv.size)
        have hC2 := HC.out i wr O W2 Oy HCi.out hgo
        have hno : ∀ k, Bxs s k → ¬ OO' k := fun k hk ho => (R9.out.own k ho).elim (HI2.out k hk).2 (fun h => by have := hbx k hk; omega)
        have hS2 : ChSt s p d q most S0 A0 a0 size (i + 1) W2 Oy := by
          refine ⟨OO', fun k hk => by rw [hOy]; exact .inl hk, fun k hk => ⟨by rw [hOy]; exact .inr (.inl hk), hno k hk⟩, by rw [hTs.out]; exact R7.out.below hb2, ?_⟩
          have keep : ∀ k, Bxs s k → W2.heap[k]? = wr.heap[k]? := fun k hk => (hb2.block k (Nat.lt_of_lt_of_le (hbx k hk) R9.out.mv.size)).trans (R9.out.mv.block k (hbx k hk) (HI2.out k hk).2)
          exact ⟨(keep s (.inl rfl)).trans HI5.out.p, (keep (s + 1) (.inr (.inl rfl))).trans HI5.out.x, (keep (s + 2) (.inr (.inr rfl))).trans HI5.out.n⟩
        have hOl : ∀ k, Oy k → k < W2.heap.size := by
          rw [hOy]
          rintro k (h | h | h)
          · exact Nat.lt_of_lt_of_le (R7.out.lt k h) hb2.size
          · exact Nat.lt_of_lt_of_le (hbx k h) (Nat.le_trans R9.out.mv.size hb2.size)
          · have := lt_of_block HX2.out; omega
        have hX : ChX most S0 A0 a0 size i #[.agg #[.int .u32 0, .int .u32 0, .slice none 0 0], .int .u16 (er : Int)] W2 Oy := ⟨.inr ⟨HOk.out, by rw [← hRR.out, HEr.out]⟩, hOl⟩
        have hOyl : Oy w1.heap.size := by rw [hOy]; exact .inr (.inr rfl)
        have HOyl := hide hOyl
        have HS2 := hide hS2
        have HGo := hide hgo
        obtain ⟨fn, tmps, assign, body, hy, hR⟩ := HY.out i _ W2 Oy hlt hC2 hX
        rw [← hW2, hy]
        clear hb2 hbx hgo hC2 hno hS2 hX hOyl hOy hy hW2 hOl
        simp only [Oper.uponIn]
        refine ⟨fun _ => by omega, (RoundIn.anyDepth rfl hR).mono ?_⟩
        rintro e W3 ⟨hmv, (⟨rfl, hC3⟩ | ⟨rfl, hCx3⟩)⟩
        · exfalso
          have hi1 : i + 1 = r := by
            have h1 := HOk.out
            by_cases h2 : i + 1 < r
            · have := HR.out.ok i h2
              rw [h1] at this; cases this
            · omega
          refine HBd.out ?_ W3 Oy (hi1 ▸ hC3)
          have : r - 1 = i := by omega
          rw [this]; exact HOk.out
        · have HS3 := hide (HS2.out.keep hmv)
          clear hmv hR
          gi_wp2
          refine bodyPost_ret (results_none rfl _ _ _) rfl ?_
          exact ⟨⟨_, rfl⟩, i + 1, Oy, HS3.out, .inr hCx3⟩
    · have hie : i = r := by omega
      have hrl := HR.out.le
      have hnn := HN.out
      have hp0 : ¬ (0 : Int) < (size : Int) - 1004 * (i : Int) := by
        rcases HR.out.last with h1 | h1
        · exact absurd (hie ▸ HCi.out) (HBd.out h1 _ _)
        · have := h1.2; omega
      have HE := hide hie
      clear hie hrl hnn
      generalize hLL : (size : Int) - 1004 * (i : Int) = L at *
      clear hLL
      gi_wp2
      go_end0
      exact ⟨⟨_, rfl⟩, i, O, HSi.out, .inl ⟨by rw [← HE.out]; exact HCi.out, HE.out⟩⟩
end Go.Proofs.YtlmofgfkclfgeaaGreat
/- A region that draws its order, within a round of a range over a function: walked as anywhere. -/
namespace Go.Proofs.YtlmofgfkclfgeaaGreat
open Go.RowKit
set_option linter.unusedVariables false
theorem upon_in {l n : Nat} {P : Program} {o : Oper} {a : Act} {next : Act → World → Prop} {Q : Exit → Act → World → Prop} : ∀ {r : Result Next}, o.upon P a next Q r → o.uponIn (Fence.wide.inRound l) n P a next Q r
  | .ok (.value v) w', h => h
  | .ok .skip w', h => h
  | .ok (.defer d) w', h => h
  | .ok (.enter f args) w', h => ⟨(fun hd => by cases hd), CallsIn.inRound l (callsIn_wide.2 h)⟩
  | .ok (.row row args) w', h => ⟨(fun hd => by cases hd), fun c cs _ => (h c cs).elim fun v hv => hv.elim fun w'' hw => ⟨v, w'', hw.1, stepsIn_wide.2 hw.2⟩⟩
  | .ok (.round l f tmps assign body) w', h => h.elim
  | .halt (.panic v) w', h => h
theorem op_in {l n : Nat} {P : Program} {o : Oper} {a : Act} {w : World} {next : Act → World → Prop} {Q : Exit → Act → World → Prop} (hnd : ∀ c, o.op ≠ .defer c) (h : o.wp P a w next Q) : o.wpIn (Fence.wide.inRound l) n P a w next Q :=
  ⟨fun _ _ => trivial, by rw [Oper.semAt_eq _ _ _ hnd]; exact upon_in h⟩
theorem any_in {l n : Nat} {P : Program} {md : Region.Mode} {ops : Array Oper} {Q : Exit → Act → World → Prop} (hnd : ∀ (i : Nat) (o : Oper), ops[i]? = some o → ∀ c, o.op ≠ .defer c) (hQ : ¬ LetsOut Q) :
    ∀ (fuel : Nat) (listed : Array Bool) (a : Act) (w : World), wpAny P md ops Q fuel listed a w → wpAnyIn (Fence.wide.inRound l) n P md ops Q fuel listed a w
  | 0, _, _, _, h => h
  | fuel + 1, listed, a, w, h => ⟨h.1, fun i hi => by
      have h1 := wpOp_mono (fun a' w' h' => any_in (l := l) (n := n) hnd hQ fuel _ a' w' h') (h.2 i hi)
      unfold wpOp at h1
      unfold wpOpIn
      cases ho : ops[i]? with
      | none => rw [ho] at h1; exact h1
      | some o =>
        rw [ho] at h1
        simp only at h1 ⊢
        split
        · rw [if_pos (by assumption)] at h1
          rcases h1 with h1 | ⟨_, h1⟩
          · exact op_in (hnd i o ho) h1
          · exact absurd h1 hQ
        · rw [if_neg (by assumption)] at h1
          exact ⟨fun _ _ => trivial, h1⟩⟩
/-- no operation of these defers a call. -/
def noDefer (ops : Array Oper) : Bool := ops.toList.all fun o => match o.op with | .defer _ => false | _ => true
theorem noDefer_at {ops : Array Oper} (h : noDefer ops = true) (i : Nat) (o : Oper) (ho : ops[i]? = some o) (c : _) : o.op ≠ .defer c := by
  intro e
  have hm : o ∈ ops.toList := Array.mem_toList_iff.2 (Array.mem_of_getElem? ho)
  have := (List.all_eq_true.1 h) o hm
  rw [e] at this
  cases this
theorem region_in {l n id : Nat} {P : Program} {ops : Array Oper} {Q : Exit → Act → World → Prop} {a : Act} {w : World} (hm : P.follows .mixedOrders = true) (hnd : noDefer ops = true) (hQ : ¬ LetsOut Q)
    (h : wpAny P .any ops Q ops.size (Array.replicate ops.size false) a w.drew) : (Code.region id ops true).wpIn (Fence.wide.inRound l) n P Q a w :=
  wpIn_region_any hm (any_in (fun i o ho c => noDefer_at hnd i o ho c) hQ _ _ _ _ h)
end Go.Proofs.YtlmofgfkclfgeaaGreat
/- Appends within a round. -/
namespace Go.Proofs.YtlmofgfkclfgeaaGreat
open Go.RowKit
set_option linter.unusedVariables false

theorem wpListIn_append_one {l q : Nat} {P : Program} {w : World} {ops : Array Oper} {rest : List Oper} {o : Oper} {a : Act} {Q : Exit → Act → World → Prop} (hgd : o.guard = none) (s x : Operand) (t tx e : TypeId) (ho : o.op = .call { callee := .builtin .append, args := #[s, x], argTypes := #[t, tx] })
    (i : TypeInfo) (z : Value) (ht : P.underlying t = some (.slice e)) (hi : P.info? e = some i) (hz : i.zero = some z) (h1 : i.size = 1) (hzc : z.cells.size = 1)
    (v : Value) (xs : List Value) (hs : a.eval s = v) (hown : w.ownsRow 0 e 1 v xs.length xs) (xv : Value) (n : Nat) (news : List Value) (hx : a.eval x = xv) (hsrc : Src P 1 tx xv n news w) (hb : (xs.length + n) * i.bytes ≤ 140737488355328) (hm : xs.length + n ≤ 140737488355328)
    (h : ∀ v' w', w'.ownsRow 0 e 1 v' (xs ++ news).length (xs ++ news) → w.grownBy w' v.ownBlock → (∀ k, v'.ownBlock = some k → v.ownBlock = some k ∨ w.heap.size ≤ k) → wpListIn (Fence.wide.inRound l) q P ops Q rest (a.put o.dst v') w') : wpListIn (Fence.wide.inRound l) q P ops Q (o :: rest) a w :=
  wpListIn_plain hgd fun _ hK => op_in (fun c hc => by rw [ho] at hc; cases hc) (by
    obtain ⟨v', w', hr, h2, h3, h4, h5⟩ := Bo.run_append_one (P := P) w t tx o.type e i z ht hi hz h1 hzc v xs hown xv n news hsrc hb hm
    unfold Oper.wp execOp
    simp only [ho, resolve, invoke, builtin, Sem.run_bind, Sem.run_pure, Result.andThen_ok, List.map_toArray, List.map_cons, List.map_nil, hs, hx, hr]
    exact hK _ _ (h v' w' h2 h3 h4))
end Go.Proofs.YtlmofgfkclfgeaaGreat
