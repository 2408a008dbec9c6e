/- Contract of write, of documents; of any value. -/
import Derived.Test.YtehapglbenaikaaKE
namespace Go.Proofs.Ytehapglbenaikaa
open Go.RowKit
set_option linter.unusedVariables false

def Box8 (W : World) (b : Nat) (c0 c1 c2 c3 c4 c5 c6 c7 : Value) : Prop := W.heap[b]? = some (.cells #[c0, c1, c2, c3, c4, c5, c6, c7] 53 (0, 0))
section
variable {W W' : World} {b p : Nat} {c0 c1 c2 c3 c4 c5 c6 c7 : Value}
theorem Box8.lt (h : Box8 W b c0 c1 c2 c3 c4 c5 c6 c7) : b < W.heap.size := lt_of_block h
theorem Box8.cells (h : Box8 W b c0 c1 c2 c3 c4 c5 c6 c7) : W.cell? ⟨b, 0, none⟩ = some c0 ∧ W.cell? ⟨b, 1, none⟩ = some c1 ∧ W.cell? ⟨b, 2, none⟩ = some c2 ∧ W.cell? ⟨b, 3, none⟩ = some c3 ∧ W.cell? ⟨b, 4, none⟩ = some c4 ∧ W.cell? ⟨b, 5, none⟩ = some c5 ∧ W.cell? ⟨b, 6, none⟩ = some c6 ∧ W.cell? ⟨b, 7, none⟩ = some c7 := by
  unfold Box8 at h
  simp [World.cell?, h]
theorem Box8.wrote (hB : Box8 W b c0 c1 c2 c3 c4 c5 c6 c7) (ho : Wrote p W W') (hn : ¬ foot W p b) : Box8 W' b c0 c1 c2 c3 c4 c5 c6 c7 := (ho.block b hB.lt hn).trans hB
theorem Box8.new (W : World) (c0 c1 c2 c3 c4 c5 c6 c7 : Value) : Box8 (W.alloc (.cells #[c0, c1, c2, c3, c4, c5, c6, c7] 53)) W.heap.size c0 c1 c2 c3 c4 c5 c6 c7 := heap_alloc_new W _
end
set_option maxHeartbeats 3200000 in
set_option maxRecDepth 1000000 in
theorem dw7 (W : World) (n₀ p pw pp : Nat) (bo : Bool) (n : Int) (t : ByteArray) (ya : Option Addr) (yl yc : Nat) (la : Option Addr) (ll lc : Nat) (fa : Option Addr) (fc : Nat) (f : FL) (zs : List Int) (h : Wr W p zs) (hs : DS W p pw pp) (hm : f.Mem n₀ W fa 0) (hN : New n₀ W p) (hn : n₀ ≤ W.heap.size) (hll : f.list.length ≤ 9223372036854775807) (hsz : ∀ x ∈ f.list, x.1.size ≤ 10000000) (hb : zs.length + (1 + (vb f.list.length).length + f.denc.length) ≤ 100000000) (hi : ∀ x ∈ f.list, Does n₀ p pw pp x.2) :
    Calls Try.prog 24 #[.pointer (some ⟨p, 0, none⟩), .agg #[.int .u8 7, .bool bo, .int .i64 n, .string t, .slice ya yl yc, .slice la ll lc, .slice fa f.list.length fc], .func (.func 23) #[] #[.pointer (some ⟨pw, 0, none⟩), .pointer (some ⟨pp, 0, none⟩)]] W fun e W' => e = .returned (.tuple #[]) ∧ Wr W' p (zs ++ (8 :: (vb f.list.length ++ f.denc))) ∧ Wrote p W W' := by
  have H := hide h
  have HX := hide (below_alloc W (.cells #[.int .u8 7, .bool bo, .int .i64 n, .string t, .slice ya yl yc, .slice la ll lc, .slice fa f.list.length fc] 27))
  have HB1 := hide (Box7.new W (.int .u8 7) (.bool bo) (.int .i64 n) (.string t) (.slice ya yl yc) (.slice la ll lc) (.slice fa f.list.length fc))
  have HNf : Hid (¬ foot (W.alloc (.cells #[.int .u8 7, .bool bo, .int .i64 n, .string t, .slice ya yl yc, .slice la ll lc, .slice fa f.list.length fc] 27)) p W.heap.size) := fun hf => by have := h.foot_lt ((foot_same (HX.out.block p h.lt)).1 hf); omega
  have HX0 := hide (h.below HX.out)
  have HWo := hide (Wrote.of_below h.lt HX.out)
  have HU := hide (wu8_any p 8 zs (W.alloc (.cells #[.int .u8 7, .bool bo, .int .i64 n, .string t, .slice ya yl yc, .slice la ll lc, .slice fa f.list.length fc] 27)) HX0.out (by omega) (by omega))
  rw [fb_one 8 (by omega)] at HU
  have HS := hide hs
  have HM := hide hm
  have HNw := hide hN
  have HI := hide hi
  have HSz := hide hsz
  have HVt := hide (vb_ten f.list.length (by omega))
  have HEi := hide (FL.denc_is f)
  clear h hs hm hN hi hsz
  go_enter Try.func24, Try.ntmps24
  go_wp2_with fail
  refine HU.out.mono ?_
  rintro e W1 ⟨rfl, hw1, ho1⟩
  have HW1 := hide hw1
  have HO1 := hide ho1
  have HB2 : Hid (Box7 W1 W.heap.size (.int .u8 7) (.bool bo) (.int .i64 n) (.string t) (.slice ya yl yc) (.slice la ll lc) (.slice fa f.list.length fc)) := HB1.out.wrote ho1 HNf.out
  have HNf2 : Hid (¬ foot W1 p W.heap.size) := fun hf => (ho1.foot _ hf).elim HNf.out (fun hs => by have := HB1.out.lt; omega)
  obtain ⟨k0, k1, k2, k3, k4, k5, k6⟩ := HB2.out.cells
  clear hw1 ho1
  go_wp2_with fail
  refine (wvarint_any p f.list.length _ W1 HW1.out (by omega) (by simp; omega)).mono ?_
  rintro e W2 ⟨rfl, hw2, ho2⟩
  have HW2 := hide hw2
  have HB3 : Hid (Box7 W2 W.heap.size (.int .u8 7) (.bool bo) (.int .i64 n) (.string t) (.slice ya yl yc) (.slice la ll lc) (.slice fa f.list.length fc)) := HB2.out.wrote ho2 HNf2.out
  have HO2 := hide (HWo.out.trans (HO1.out.trans ho2))
  clear hw2 ho2 k0 k1 k2 k3 k4 k5 k6
  obtain ⟨k0, k1, k2, k3, k4, k5, k6⟩ := HB3.out.cells
  clear HB1 HB2 HB3 HNf HNf2 HO1 HW1 HU HX HX0 HWo
  go_wp2
  go_loopw [82] (fun i wr => ∃ j : Nat, j ≤ f.list.length ∧ i = .int .i64 (j : Int) ∧ Wr wr p (zs ++ (8 :: (vb f.list.length ++ (f.list.take j).flatMap fden))) ∧ Wrote p W wr) (fun i _ => f.list.length - (intOf i).toNat)
  case atStart => exact ⟨0, by omega, rfl, by simpa using HW2.out, HO2.out⟩
  case round =>
    obtain ⟨j, hj, rfl, hp, ho⟩ := hrel
    have HP := hide hp
    have HO := hide ho
    clear hp ho HW2 HO2 k0 k1 k2 k3 k4 k5 k6
    have hszr : W.heap.size ≤ wr.heap.size := HO.out.size
    by_cases hlt : j < f.list.length
    · obtain ⟨⟨s, c⟩, hc⟩ : ∃ c, f.list[j]? = some c := ⟨_, List.getElem?_eq_getElem hlt⟩
      have HTk := hide (take_next f.list j (s, c) hc)
      have HLn : Hid (((f.list.take j).flatMap fden).length + (fden (s, c)).length ≤ f.denc.length) := by
        rw [Hid, HEi.out]
        conv => rhs; rw [split_list f.list j (s, c) hc]
        simp [← Nat.add_assoc]
      have hmem : (s, c) ∈ f.list := List.mem_of_getElem? hc
      have hss : s.size ≤ 10000000 := HSz.out _ hmem
      have HMw := hide (HM.out.on (HO.out.below HNw.out hn))
      have HMc := hide (FL.Mem.at f 0 HMw.out j (s, c) hc).2
      have HNr := hide (HNw.out.wrote HO.out hn)
      have HSr := hide (HS.out.wrote HO.out)
      have HDc := hide (HI.out _ hmem)
      have HFd : Hid (fden (s, c) = vb s.size ++ (sb s ++ c.denc)) := rfl
      clear hmem
      generalize hdc : c.denc = ds at *
      have HDs := hide hdc
      clear hdc
      cases c with
      | mk ck cbo cn ct cya cyc cy cla clc cl cfa cfc cf =>
      obtain ⟨b', o', rfl, hb', cs, c0, c1, c2, c3, c4, c5, c6⟩ := HMw.out.cells hc
      have HC0 := hide hc
      clear hc
      have HXa := hide (below_alloc wr (.cells #[.string s, .int .u8 ck, .bool cbo, .int .i64 cn, .string ct, .slice cya cy.length cyc, .slice cla cl.list.length clc, .slice cfa cf.list.length cfc] 53))
      have HBx := hide (Box8.new wr (.string s) (.int .u8 ck) (.bool cbo) (.int .i64 cn) (.string ct) (.slice cya cy.length cyc) (.slice cla cl.list.length clc) (.slice cfa cf.list.length cfc))
      have HNx : Hid (¬ foot (wr.alloc (.cells #[.string s, .int .u8 ck, .bool cbo, .int .i64 cn, .string ct, .slice cya cy.length cyc, .slice cla cl.list.length clc, .slice cfa cf.list.length cfc] 53)) p wr.heap.size) := fun hf => by have := HP.out.foot_lt ((foot_same (HXa.out.block p HP.out.lt)).1 hf); omega
      have HPt := hide (wtext_any p s _ (wr.alloc (.cells #[.string s, .int .u8 ck, .bool cbo, .int .i64 cn, .string ct, .slice cya cy.length cyc, .slice cla cl.list.length clc, .slice cfa cf.list.length cfc] 53)) (HP.out.below HXa.out) hss (by have := HLn.out; have := HVt.out; simp only [List.length_append, List.length_cons]; omega))
      go_wp2_with fail
      refine HPt.out.mono ?_
      rintro e W3 ⟨rfl, hp3, ho3⟩
      have HP3 := hide hp3
      have HO3 := hide (HO.out.trans ((Wrote.of_below HP.out.lt HXa.out).trans ho3))
      have HBy := hide (HBx.out.wrote ho3 HNx.out)
      obtain ⟨q0, q1, q2, q3, q4, q5, q6, q7⟩ := HBy.out.cells
      clear hp3 ho3 cs c0 c1 c2 c3 c4 c5 c6
      have HM3 := hide (FL.Mem.at f 0 (HM.out.on (HO3.out.below HNw.out hn)) j _ HC0.out).2
      have HIc := hide (part_of n₀ p pw pp (.mk ck cbo cn ct cya cyc cy cla clc cl cfa cfc cf) HDc.out W3 _ HP3.out (HS.out.wrote HO3.out) (HM3.out) (HNw.out.wrote HO3.out hn) (Nat.le_trans hn HO3.out.size) (by rw [HDs.out]; have h1 := HLn.out; have h2 := HVt.out; rw [HFd.out] at h1; simp only [List.length_append, List.length_cons] at h1 ⊢; omega))
      rw [HDs.out] at HIc
      simp only [T.val] at HIc
      go_wp2_with fail
      refine HIc.out.mono ?_
      rintro e W4 ⟨rfl, hp4, ho4⟩
      have HP4 := hide hp4
      have HO4 := hide (HO3.out.trans ho4)
      clear hp4 ho4 q0 q1 q2 q3 q4 q5 q6 q7
      go_wp2
      go_roundw
      case rel => exact ⟨j + 1, by omega, by go_num, by rw [HTk.out, List.flatMap_append, List.flatMap_singleton, HFd.out]; simpa using HP4.out, HO4.out⟩
      case measure => simp [intOf]; omega
    · have hjl : f.list.take j = f.list := List.take_of_length_le (by omega)
      rw [hjl, ← HEi.out] at HP
      clear hjl
      go_wp2
      go_end0
      exact ⟨rfl, HP.out, HO.out⟩
end Go.Proofs.Ytehapglbenaikaa
