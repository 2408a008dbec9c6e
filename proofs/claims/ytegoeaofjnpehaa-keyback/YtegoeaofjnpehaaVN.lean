/- How much there is in a value. -/
import Derived.Test.YtegoeaofjnpehaaVM
import Derived.Test.YtegoeaofjnpehaaVO
namespace Go.Proofs.Ytegoeaofjnpehaa
open Go.RowKit
set_option linter.unusedVariables false

mutual
def T.wt : T → Nat
  | .mk k bo n t ya yc y la lc l fa fc f => 1 + t.size / 64 + y.length / 64 + l.wt + f.wt
def TL.wt : TL → Nat
  | .nil => 0
  | .cons v r => v.wt + r.wt
def FL.wt : FL → Nat
  | .nil => 0
  | .cons s v r => s.size / 64 + v.wt + r.wt
end
def sumL (l : List T) : Nat := (l.map T.wt).sum
def sumF (l : List (ByteArray × T)) : Nat := (l.map fun x => x.1.size / 64 + x.2.wt).sum
theorem TL.wt_is (l : TL) : l.wt = sumL l.list := by
  match l with
  | .nil => simp [TL.wt, TL.list, sumL]
  | .cons v r => have := TL.wt_is r; simp [TL.wt, TL.list, sumL] at *; omega
theorem FL.wt_is (l : FL) : l.wt = sumF l.list := by
  match l with
  | .nil => simp [FL.wt, FL.list, sumF]
  | .cons s v r => have := FL.wt_is r; simp [FL.wt, FL.list, sumF] at *; omega
theorem sumL_snoc (l : List T) (c : T) : sumL (l ++ [c]) = sumL l + c.wt := by simp [sumL]
theorem sumF_snoc (l : List (ByteArray × T)) (c : ByteArray × T) : sumF (l ++ [c]) = sumF l + (c.1.size / 64 + c.2.wt) := by simp [sumF]
theorem TL.Szd.at : ∀ (l : TL), l.Szd → ∀ c ∈ l.list, c.Szd
  | .nil, _, c, h => by simp [TL.list] at h
  | .cons v r, ⟨h1, h2⟩, c, h => by
    simp only [TL.list, List.mem_cons] at h
    rcases h with rfl | h
    · exact h1
    · exact TL.Szd.at r h2 c h
theorem FL.Szd.at : ∀ (l : FL), l.Szd → ∀ c ∈ l.list, c.1.size ≤ 9223372036854775807 ∧ c.2.Szd
  | .nil, _, c, h => by simp [FL.list] at h
  | .cons s v r, ⟨h0, h1, h2⟩, c, h => by
    simp only [FL.list, List.mem_cons] at h
    rcases h with rfl | h
    · exact ⟨h0, h1⟩
    · exact FL.Szd.at r h2 c h
/-- what weight answers. -/
def Wt (v : T) (w0 : Int) (w : World) (e : Ending) (w' : World) : Prop := (∃ r : Int, e = .returned (.int .i64 r) ∧ 0 ≤ r ∧ r ≤ 1152921504606846976 ∧ (r ≤ 20000 → r = w0 + v.wt)) ∧ Below w.heap.size w w'
set_option maxHeartbeats 3200000 in
set_option maxRecDepth 1000000 in
theorem weight_step (n₀ : Nat) (v : T) (w0 : Int) (w : World) (hm : v.Mem n₀ w) (hs : v.Szd) (hn : n₀ ≤ w.heap.size) (hw : 0 ≤ w0 ∧ w0 ≤ 288230376151711744)
    (HI : Hid (∀ c ∈ v.kids, c.Szd → ∀ W x, c.Mem n₀ W → n₀ ≤ W.heap.size → 0 ≤ x ∧ x ≤ 288230376151711744 → Calls Try.prog 18 #[c.val, .int .i64 x] W fun e W' => Wt c x W e W' ∧ True)) :
    Calls Try.prog 18 #[v.val, .int .i64 w0] w fun e w' => (∃ r : Int, e = .returned (.int .i64 r) ∧ 0 ≤ r ∧ r ≤ 1152921504606846976 ∧ (r ≤ 20000 → r = w0 + v.wt)) ∧ Below w.heap.size w w' := by
  cases v with
  | mk k bo n t ya yc y la lc l fa fc f =>
  have HM := hide hm
  have HSz := hide hs
  have ht := hs.2.2.1
  have hy := hm.2.2.2.1
  have hl7 := hm.2.2.2.2.2.2.1
  have hf7 := hm.2.2.2.2.2.2.2.2.2
  have HF0 := hide ((Fr.refl w).alloc (.cells #[.int .u8 k, .bool bo, .int .i64 n, .string t, .slice ya y.length yc, .slice la l.list.length lc, .slice fa f.list.length fc] 41))
  have HB0 := hide (Box7.new w (.int .u8 k) (.bool bo) (.int .i64 n) (.string t) (.slice ya y.length yc) (.slice la l.list.length lc) (.slice fa f.list.length fc))
  clear hm hs
  simp only [T.val, T.wt]
  go_enter Try.func18, Try.ntmps18
  go_wp2
  have hw1b : 0 ≤ w0 + 1 + (t.size : Int) / 64 + (y.length : Int) / 64 ∧ w0 + 1 + (t.size : Int) / 64 + (y.length : Int) / 64 ≤ 1152921504606846976 := by omega
  have HW1 : Hid (w0 + 1 + (t.size : Int) / 64 + (y.length : Int) / 64 = w0 + ((1 + t.size / 64 + y.length / 64 : Nat) : Int)) := by rw [Hid]; omega
  generalize w0 + 1 + (t.size : Int) / 64 + (y.length : Int) / 64 = w1 at *
  generalize hbw : w.heap.size = b at *
  have HBW := hide hbw
  clear hbw
  go_loopw [1, 5] (fun s i wr => ∃ (r : Int) (j : Nat), s = .int .i64 r ∧ i = .int .i64 (j : Int) ∧ j ≤ l.list.length ∧ 0 ≤ r ∧ r ≤ 1152921504606846976 ∧ (r ≤ 20000 → r = w1 + (sumL (l.list.take j) : Int)) ∧ Fr b w wr ∧ Box7 wr b (.int .u8 k) (.bool bo) (.int .i64 n) (.string t) (.slice ya y.length yc) (.slice la l.list.length lc) (.slice fa f.list.length fc)) (fun s i _ => l.list.length - (intOf i).toNat)
  case atStart => exact ⟨w1, 0, rfl, rfl, by omega, hw1b.1, hw1b.2, fun _ => by simp [sumL], HF0.out, HB0.out⟩
  case round =>
    obtain ⟨r, j, rfl, rfl, hj, hr0, hr1, hre, hfr, hbx⟩ := hrel
    have HRe := hide hre
    have HFr := hide hfr
    have HBx := hide hbx
    clear hre hfr hbx HF0 HB0 hw1b
    obtain ⟨k0, k1, k2, k3, k4, k5, k6⟩ := HBx.out.cells
    by_cases hlt : j < l.list.length
    · by_cases hr2 : r ≤ 20000
      · obtain ⟨c, hc⟩ : ∃ c, l.list[j]? = some c := ⟨_, List.getElem?_eq_getElem hlt⟩
        have HTk := hide (take_next l.list j c hc)
        have hmem : c ∈ l.list := List.mem_of_getElem? hc
        have hkid : c ∈ (T.mk k bo n t ya yc y la lc l fa fc f).kids := by simp only [T.kids]; exact List.mem_append_left _ hmem
        have HIc := hide (fun W x => HI.out c hkid (TL.Szd.at l HSz.out.2.2.2.1 c hmem) W x)
        have hB0 : Below n₀ w wr := HFr.out.below.mono hn
        have HMw := hide (HM.out.2.2.2.2.1.on hB0)
        have HMc := hide (TL.Mem.at l 0 HMw.out j c hc).2
        have hns : n₀ ≤ wr.heap.size := by have := HFr.out.size; omega
        clear hmem hkid hB0
        cases c with
        | mk ck cbo cn ct cya cyc cy cla clc cl cfa cfc cf =>
        obtain ⟨b', o', rfl, hb', c0, c1, c2, c3, c4, c5, c6⟩ := HMw.out.cells hc
        clear hc
        simp only [T.val] at HIc
        have HCw : Hid (((sumL (l.list.take (j + 1)) : Nat) : Int) = (sumL (l.list.take j) : Int) + ((T.mk ck cbo cn ct cya cyc cy cla clc cl cfa cfc cf).wt : Int)) := by rw [Hid, HTk.out, sumL_snoc]; simp
        go_wp2_with fail
        refine (HIc.out wr r HMc.out hns (by omega)).mono ?_
        rintro e V ⟨⟨⟨r3, rfl, hq0, hq1, hq2⟩, hb3⟩, -⟩
        have HB3 := hide (HBx.out.below hb3)
        have HF3 := hide (HFr.out.on hb3)
        have HQ2 := hide hq2
        clear hb3 hq2 c0 c1 c2 c3 c4 c5 c6
        go_wp2
        go_roundw
        case rel => exact ⟨r3, j + 1, by go_num, by go_num, by omega, hq0, hq1, (fun h => by have h1 := HQ2.out h; have h2 := HRe.out hr2; have h3 := HCw.out; omega), HF3.out, HB3.out⟩
        case measure => simp [intOf]; omega
      · go_wp2
        go_loopw [1, 6] (fun s i wr => ∃ (r : Int) (j : Nat), s = .int .i64 r ∧ i = .int .i64 (j : Int) ∧ j ≤ f.list.length ∧ 0 ≤ r ∧ r ≤ 1152921504606846976 ∧ (r ≤ 20000 → r = w1 + (l.wt : Int) + (sumF (f.list.take j) : Int)) ∧ Fr b w wr ∧ Box7 wr b (.int .u8 k) (.bool bo) (.int .i64 n) (.string t) (.slice ya y.length yc) (.slice la l.list.length lc) (.slice fa f.list.length fc)) (fun s i _ => f.list.length - (intOf i).toNat)
        case atStart => exact ⟨r, 0, rfl, rfl, by omega, hr0, hr1, fun h => by omega, HFr.out, HBx.out⟩
        case round =>
          clear k0 k1 k2 k3 k4 k5 k6 HFr HBx HRe hr0 hr1
          obtain ⟨r, j, rfl, rfl, hj, hr0, hr1, hre, hfr, hbx⟩ := hrel
          have HRe := hide hre
          have HFr := hide hfr
          have HBx := hide hbx
          clear hre hfr hbx
          obtain ⟨k0, k1, k2, k3, k4, k5, k6⟩ := HBx.out.cells
          by_cases hlt : j < f.list.length
          · by_cases hr2 : r ≤ 20000
            · obtain ⟨⟨s, c⟩, hc⟩ : ∃ c, f.list[j]? = some c := ⟨_, List.getElem?_eq_getElem hlt⟩
              have HTk := hide (take_next f.list j (s, c) hc)
              have hmem : (s, c) ∈ f.list := List.mem_of_getElem? hc
              have hss : s.size ≤ 9223372036854775807 := (FL.Szd.at f HSz.out.2.2.2.2 _ hmem).1
              have hkid : c ∈ (T.mk k bo n t ya yc y la lc l fa fc f).kids := by simp only [T.kids]; exact List.mem_append_right _ (List.mem_map_of_mem hmem)
              have HIc := hide (fun W x => HI.out c hkid (FL.Szd.at f HSz.out.2.2.2.2 _ hmem).2 W x)
              have hB0 : Below n₀ w wr := HFr.out.below.mono hn
              have HMw := hide (HM.out.2.2.2.2.2.2.2.1.on hB0)
              have HMc := hide ((FL.Mem.at f 0 HMw.out j _ hc).2.on ((Below.refl n₀ wr).drew))
              have HBd := hide (HBx.out.below (Below.refl _ _).drew)
              have HFd := hide HFr.out.drew
              have hns : n₀ ≤ wr.drew.heap.size := by have h9 := HFr.out.size; have h8 : wr.drew.heap.size = wr.heap.size := rfl; omega
              clear hmem hkid hB0
              cases c with
              | mk ck cbo cn ct cya cyc cy cla clc cl cfa cfc cf =>
              obtain ⟨b', o', rfl, hb', cs, c0, c1, c2, c3, c4, c5, c6⟩ := HMw.out.cells hc
              clear hc
              simp only [T.val] at HIc
              have HCw : Hid (((sumF (f.list.take (j + 1)) : Nat) : Int) = (sumF (f.list.take j) : Int) + ((s.size / 64 : Nat) : Int) + ((T.mk ck cbo cn ct cya cyc cy cla clc cl cfa cfc cf).wt : Int)) := by rw [Hid, HTk.out, sumF_snoc]; simp only []; omega
              have hxb : 0 ≤ r + (s.size : Int) / 64 ∧ r + (s.size : Int) / 64 ≤ 288230376151711744 := by omega
              have hb1 : b < wr.drew.heap.size := HBd.out.lt
              have hb2 : b' < wr.drew.heap.size := by omega
              have HZ : Hid (∀ V, Below wr.drew.heap.size wr.drew V → V.cell? ⟨b, 6, none⟩ = some (.slice (some ⟨b', o', none⟩) f.list.length fc) ∧ V.cell? ⟨b', o' + j * 8, none⟩ = some (.string s) ∧ V.cell? ⟨b', o' + j * 8 + 1, none⟩ = some (.int .u8 ck) ∧ V.cell? ⟨b', o' + j * 8 + 2, none⟩ = some (.bool cbo) ∧ V.cell? ⟨b', o' + j * 8 + 3, none⟩ = some (.int .i64 cn) ∧ V.cell? ⟨b', o' + j * 8 + 4, none⟩ = some (.string ct) ∧ V.cell? ⟨b', o' + j * 8 + 5, none⟩ = some (.slice cya cy.length cyc) ∧ V.cell? ⟨b', o' + j * 8 + 6, none⟩ = some (.slice cla cl.list.length clc) ∧ V.cell? ⟨b', o' + j * 8 + 7, none⟩ = some (.slice cfa cf.list.length cfc)) := fun V hv => ⟨(hv.cell (p := ⟨b, 6, none⟩) hb1).trans k6, (hv.cell (p := ⟨b', o' + j * 8, none⟩) hb2).trans cs, (hv.cell (p := ⟨b', o' + j * 8 + 1, none⟩) hb2).trans c0, (hv.cell (p := ⟨b', o' + j * 8 + 2, none⟩) hb2).trans c1, (hv.cell (p := ⟨b', o' + j * 8 + 3, none⟩) hb2).trans c2, (hv.cell (p := ⟨b', o' + j * 8 + 4, none⟩) hb2).trans c3, (hv.cell (p := ⟨b', o' + j * 8 + 5, none⟩) hb2).trans c4, (hv.cell (p := ⟨b', o' + j * 8 + 6, none⟩) hb2).trans c5, (hv.cell (p := ⟨b', o' + j * 8 + 7, none⟩) hb2).trans c6⟩
              have hwi : IntKind.i64.wrap ((s.size : Int) / 64) = (s.size : Int) / 64 := by simp only [IntKind.wrap, IntKind.bits, IntKind.signed]; simp; omega
              have hwx : IntKind.i64.wrap (r + IntKind.i64.wrap ((s.size : Int) / 64)) = r + (s.size : Int) / 64 := by rw [hwi]; simp only [IntKind.wrap, IntKind.bits, IntKind.signed]; simp; omega
              have HCall := HIc.out wr.drew (r + (s.size : Int) / 64) HMc.out hns hxb
              rw [← hwx] at HCall
              simp only [Wt] at HCall
              have HWx := hide hwx
              replace HCall := hide HCall
              clear hwi hwx
              clear HIc HMc hxb
              go_wp2
              go_region_held3 (fun W => W.cell? ⟨b, 6, none⟩ = some (.slice (some ⟨b', o', none⟩) f.list.length fc) ∧ W.cell? ⟨b', o' + j * 8, none⟩ = some (.string s) ∧ W.cell? ⟨b', o' + j * 8 + 1, none⟩ = some (.int .u8 ck) ∧ W.cell? ⟨b', o' + j * 8 + 2, none⟩ = some (.bool cbo) ∧ W.cell? ⟨b', o' + j * 8 + 3, none⟩ = some (.int .i64 cn) ∧ W.cell? ⟨b', o' + j * 8 + 4, none⟩ = some (.string ct) ∧ W.cell? ⟨b', o' + j * 8 + 5, none⟩ = some (.slice cya cy.length cyc) ∧ W.cell? ⟨b', o' + j * 8 + 6, none⟩ = some (.slice cla cl.list.length clc) ∧ W.cell? ⟨b', o' + j * 8 + 7, none⟩ = some (.slice cfa cf.list.length cfc)) ((refine ⟨?_, ?_, ?_, ?_, ?_, ?_, ?_, ?_, ?_⟩ <;> assumption)) ((first | (go_at_call 18; refine HCall.out.mono ?_; intro e' V hh; obtain ⟨⟨⟨r3, rfl, hq0, hq1, hq2⟩, hb3⟩, -⟩ := hh; have HB3 := hide (HBd.out.below hb3); have HF3 := hide (HFd.out.on hb3); have HQ2 := hide hq2; obtain ⟨z0, z1, z2, z3, z4, z5, z6, z7, z8⟩ := HZ.out _ hb3; clear hb3 hq2)))
              clear c0 c1 c2 c3 c4 c5 c6 cs z0 z1 z2 z3 z4 z5 z6 z7 z8
              go_wp2
              go_roundw
              case rel => exact ⟨r3, j + 1, by go_num, by go_num, by omega, hq0, hq1, (fun h => by have h1 := HQ2.out h; rw [HWx.out] at h1; have h2 := HRe.out hr2; have h3 := HCw.out; omega), HF3.out, HB3.out⟩
              case measure => simp [intOf]; omega
            · go_wp2
              go_ret
              exact ⟨⟨r, rfl, hr0, hr1, fun h => by omega⟩, by rw [HBW.out]; exact HFr.out.below⟩
          · have hjl : f.list.take j = f.list := List.take_of_length_le (by omega)
            rw [hjl, ← FL.wt_is] at HRe
            clear hjl
            go_wp2
            go_ret
            exact ⟨⟨r, rfl, hr0, hr1, fun h => by have h1 := HRe.out h; have h2 := HW1.out; omega⟩, by rw [HBW.out]; exact HFr.out.below⟩
    · have hjl : l.list.take j = l.list := List.take_of_length_le (by omega)
      rw [hjl, ← TL.wt_is] at HRe
      clear hjl
      go_wp2
      go_loopw [1, 6] (fun s i wr => ∃ (r : Int) (j : Nat), s = .int .i64 r ∧ i = .int .i64 (j : Int) ∧ j ≤ f.list.length ∧ 0 ≤ r ∧ r ≤ 1152921504606846976 ∧ (r ≤ 20000 → r = w1 + (l.wt : Int) + (sumF (f.list.take j) : Int)) ∧ Fr b w wr ∧ Box7 wr b (.int .u8 k) (.bool bo) (.int .i64 n) (.string t) (.slice ya y.length yc) (.slice la l.list.length lc) (.slice fa f.list.length fc)) (fun s i _ => f.list.length - (intOf i).toNat)
      case atStart => exact ⟨r, 0, rfl, rfl, by omega, hr0, hr1, fun h => by have h1 := HRe.out h; simp [sumF]; omega, HFr.out, HBx.out⟩
      case round =>
        clear k0 k1 k2 k3 k4 k5 k6 HFr HBx HRe hr0 hr1
        obtain ⟨r, j, rfl, rfl, hj, hr0, hr1, hre, hfr, hbx⟩ := hrel
        have HRe := hide hre
        have HFr := hide hfr
        have HBx := hide hbx
        clear hre hfr hbx
        obtain ⟨k0, k1, k2, k3, k4, k5, k6⟩ := HBx.out.cells
        by_cases hlt : j < f.list.length
        · by_cases hr2 : r ≤ 20000
          · obtain ⟨⟨s, c⟩, hc⟩ : ∃ c, f.list[j]? = some c := ⟨_, List.getElem?_eq_getElem hlt⟩
            have HTk := hide (take_next f.list j (s, c) hc)
            have hmem : (s, c) ∈ f.list := List.mem_of_getElem? hc
            have hss : s.size ≤ 9223372036854775807 := (FL.Szd.at f HSz.out.2.2.2.2 _ hmem).1
            have hkid : c ∈ (T.mk k bo n t ya yc y la lc l fa fc f).kids := by simp only [T.kids]; exact List.mem_append_right _ (List.mem_map_of_mem hmem)
            have HIc := hide (fun W x => HI.out c hkid (FL.Szd.at f HSz.out.2.2.2.2 _ hmem).2 W x)
            have hB0 : Below n₀ w wr := HFr.out.below.mono hn
            have HMw := hide (HM.out.2.2.2.2.2.2.2.1.on hB0)
            have HMc := hide ((FL.Mem.at f 0 HMw.out j _ hc).2.on ((Below.refl n₀ wr).drew))
            have HBd := hide (HBx.out.below (Below.refl _ _).drew)
            have HFd := hide HFr.out.drew
            have hns : n₀ ≤ wr.drew.heap.size := by have h9 := HFr.out.size; have h8 : wr.drew.heap.size = wr.heap.size := rfl; omega
            clear hmem hkid hB0
            cases c with
            | mk ck cbo cn ct cya cyc cy cla clc cl cfa cfc cf =>
            obtain ⟨b', o', rfl, hb', cs, c0, c1, c2, c3, c4, c5, c6⟩ := HMw.out.cells hc
            clear hc
            simp only [T.val] at HIc
            have HCw : Hid (((sumF (f.list.take (j + 1)) : Nat) : Int) = (sumF (f.list.take j) : Int) + ((s.size / 64 : Nat) : Int) + ((T.mk ck cbo cn ct cya cyc cy cla clc cl cfa cfc cf).wt : Int)) := by rw [Hid, HTk.out, sumF_snoc]; simp only []; omega
            have hxb : 0 ≤ r + (s.size : Int) / 64 ∧ r + (s.size : Int) / 64 ≤ 288230376151711744 := by omega
            have hb1 : b < wr.drew.heap.size := HBd.out.lt
            have hb2 : b' < wr.drew.heap.size := by omega
            have HZ : Hid (∀ V, Below wr.drew.heap.size wr.drew V → V.cell? ⟨b, 6, none⟩ = some (.slice (some ⟨b', o', none⟩) f.list.length fc) ∧ V.cell? ⟨b', o' + j * 8, none⟩ = some (.string s) ∧ V.cell? ⟨b', o' + j * 8 + 1, none⟩ = some (.int .u8 ck) ∧ V.cell? ⟨b', o' + j * 8 + 2, none⟩ = some (.bool cbo) ∧ V.cell? ⟨b', o' + j * 8 + 3, none⟩ = some (.int .i64 cn) ∧ V.cell? ⟨b', o' + j * 8 + 4, none⟩ = some (.string ct) ∧ V.cell? ⟨b', o' + j * 8 + 5, none⟩ = some (.slice cya cy.length cyc) ∧ V.cell? ⟨b', o' + j * 8 + 6, none⟩ = some (.slice cla cl.list.length clc) ∧ V.cell? ⟨b', o' + j * 8 + 7, none⟩ = some (.slice cfa cf.list.length cfc)) := fun V hv => ⟨(hv.cell (p := ⟨b, 6, none⟩) hb1).trans k6, (hv.cell (p := ⟨b', o' + j * 8, none⟩) hb2).trans cs, (hv.cell (p := ⟨b', o' + j * 8 + 1, none⟩) hb2).trans c0, (hv.cell (p := ⟨b', o' + j * 8 + 2, none⟩) hb2).trans c1, (hv.cell (p := ⟨b', o' + j * 8 + 3, none⟩) hb2).trans c2, (hv.cell (p := ⟨b', o' + j * 8 + 4, none⟩) hb2).trans c3, (hv.cell (p := ⟨b', o' + j * 8 + 5, none⟩) hb2).trans c4, (hv.cell (p := ⟨b', o' + j * 8 + 6, none⟩) hb2).trans c5, (hv.cell (p := ⟨b', o' + j * 8 + 7, none⟩) hb2).trans c6⟩
            have hwi : IntKind.i64.wrap ((s.size : Int) / 64) = (s.size : Int) / 64 := by simp only [IntKind.wrap, IntKind.bits, IntKind.signed]; simp; omega
            have hwx : IntKind.i64.wrap (r + IntKind.i64.wrap ((s.size : Int) / 64)) = r + (s.size : Int) / 64 := by rw [hwi]; simp only [IntKind.wrap, IntKind.bits, IntKind.signed]; simp; omega
            have HCall := HIc.out wr.drew (r + (s.size : Int) / 64) HMc.out hns hxb
            rw [← hwx] at HCall
            simp only [Wt] at HCall
            have HWx := hide hwx
            replace HCall := hide HCall
            clear hwi hwx
            clear HIc HMc hxb
            go_wp2
            go_region_held3 (fun W => W.cell? ⟨b, 6, none⟩ = some (.slice (some ⟨b', o', none⟩) f.list.length fc) ∧ W.cell? ⟨b', o' + j * 8, none⟩ = some (.string s) ∧ W.cell? ⟨b', o' + j * 8 + 1, none⟩ = some (.int .u8 ck) ∧ W.cell? ⟨b', o' + j * 8 + 2, none⟩ = some (.bool cbo) ∧ W.cell? ⟨b', o' + j * 8 + 3, none⟩ = some (.int .i64 cn) ∧ W.cell? ⟨b', o' + j * 8 + 4, none⟩ = some (.string ct) ∧ W.cell? ⟨b', o' + j * 8 + 5, none⟩ = some (.slice cya cy.length cyc) ∧ W.cell? ⟨b', o' + j * 8 + 6, none⟩ = some (.slice cla cl.list.length clc) ∧ W.cell? ⟨b', o' + j * 8 + 7, none⟩ = some (.slice cfa cf.list.length cfc)) ((refine ⟨?_, ?_, ?_, ?_, ?_, ?_, ?_, ?_, ?_⟩ <;> assumption)) ((first | (go_at_call 18; refine HCall.out.mono ?_; intro e' V hh; obtain ⟨⟨⟨r3, rfl, hq0, hq1, hq2⟩, hb3⟩, -⟩ := hh; have HB3 := hide (HBd.out.below hb3); have HF3 := hide (HFd.out.on hb3); have HQ2 := hide hq2; obtain ⟨z0, z1, z2, z3, z4, z5, z6, z7, z8⟩ := HZ.out _ hb3; clear hb3 hq2)))
            clear c0 c1 c2 c3 c4 c5 c6 cs z0 z1 z2 z3 z4 z5 z6 z7 z8
            go_wp2
            go_roundw
            case rel => exact ⟨r3, j + 1, by go_num, by go_num, by omega, hq0, hq1, (fun h => by have h1 := HQ2.out h; rw [HWx.out] at h1; have h2 := HRe.out hr2; have h3 := HCw.out; omega), HF3.out, HB3.out⟩
            case measure => simp [intOf]; omega
          · go_wp2
            go_ret
            exact ⟨⟨r, rfl, hr0, hr1, fun h => by omega⟩, by rw [HBW.out]; exact HFr.out.below⟩
        · have hjl : f.list.take j = f.list := List.take_of_length_le (by omega)
          rw [hjl, ← FL.wt_is] at HRe
          clear hjl
          go_wp2
          go_ret
          exact ⟨⟨r, rfl, hr0, hr1, fun h => by have h1 := HRe.out h; have h2 := HW1.out; omega⟩, by rw [HBW.out]; exact HFr.out.below⟩

theorem weight_gen (n₀ : Nat) : ∀ (N : Nat) (v : T), v.sz ≤ N → v.Szd → ∀ (w : World) (x : Int), v.Mem n₀ w → n₀ ≤ w.heap.size → 0 ≤ x ∧ x ≤ 288230376151711744 → Calls Try.prog 18 #[v.val, .int .i64 x] w fun e w' => Wt v x w e w' ∧ True := by
  intro N
  induction N with
  | zero => intro v hv; cases v; simp [T.sz] at hv
  | succ N ih =>
    intro v hv hs w x hm hn hx
    refine (weight_step n₀ v x w hm hs hn hx ?_).mono (fun e w' h => ⟨h, trivial⟩)
    intro c hc hcs W y h1 h2 h3
    have := T.kid_sz v c hc
    exact ih c (by omega) hcs W y h1 h2 h3
end Go.Proofs.Ytegoeaofjnpehaa
