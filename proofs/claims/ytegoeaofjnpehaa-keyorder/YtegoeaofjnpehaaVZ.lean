/- Whether values are more than is looked at; the document's order of two tuples. -/
import Derived.Test.YtegoeaofjnpehaaVY
import Derived.Test.YtegoeaofjnpehaaVN
namespace Go.Proofs.Ytegoeaofjnpehaa
open Go.RowKit
set_option linter.unusedVariables false

theorem RowN.wider {n₀ n₁ : Nat} {W : World} {a : Option Addr} {zs : List Int} (h : n₀ ≤ n₁) (k : RowN n₀ W a zs) : RowN n₁ W a zs := by
  rcases k with k | ⟨b, o, rfl, hlt, hc⟩
  · exact .inl k
  · exact .inr ⟨b, o, rfl, by omega, hc⟩
mutual
theorem T.Mem.wider {n₀ n₁ : Nat} {W : World} (h : n₀ ≤ n₁) : ∀ {v : T}, v.Mem n₀ W → v.Mem n₁ W
  | .mk k bo n t ya yc y la lc l fa fc f, ⟨h1, h2, h3, h4, h5, h6, h7, h8, h9, h10⟩ => ⟨h1.wider h, h2, h3, h4, TL.Mem.wider h h5, h6, h7, FL.Mem.wider h h8, h9, h10⟩
theorem TL.Mem.wider {n₀ n₁ : Nat} {W : World} (h : n₀ ≤ n₁) {a : Option Addr} : ∀ {i : Nat} {l : TL}, l.Mem n₀ W a i → l.Mem n₁ W a i
  | _, .nil, _ => trivial
  | i, .cons v r, ⟨⟨b, o, h1, h2, h3⟩, h4, h5⟩ => ⟨⟨b, o, h1, Nat.lt_of_lt_of_le h2 h, h3⟩, T.Mem.wider h h4, TL.Mem.wider h h5⟩
theorem FL.Mem.wider {n₀ n₁ : Nat} {W : World} (h : n₀ ≤ n₁) {a : Option Addr} : ∀ {i : Nat} {l : FL}, l.Mem n₀ W a i → l.Mem n₁ W a i
  | _, .nil, _ => trivial
  | i, .cons s v r, ⟨⟨b, o, h1, h2, h6, h3⟩, h4, h5⟩ => ⟨⟨b, o, h1, Nat.lt_of_lt_of_le h2 h, h6, h3⟩, T.Mem.wider h h4, FL.Mem.wider h h5⟩
end
set_option maxHeartbeats 3200000 in
set_option maxRecDepth 1000000 in
theorem much_gen (n₀ : Nat) (la : Option Addr) (lc : Nat) (l : TL) (w : World) (hm : l.Mem n₀ w la 0) (hs : l.Szd) (hlen : l.list.length ≤ 9223372036854775807) (hn : n₀ ≤ w.heap.size) :
    Calls Try.prog 6 #[.slice la l.list.length lc] w fun e w' => (∃ β, e = .returned (.bool β) ∧ (β = false → l.list.length + l.wt ≤ 20000)) ∧ Below w.heap.size w w' := by
  have HM := hide hm
  have HSz := hide hs
  clear hm hs
  go_enter Try.func6, Try.ntmps6
  go_wp2
  go_loopw [3, 4] (fun s i wr => ∃ (r : Int) (j : Nat), s = .int .i64 r ∧ i = .int .i64 (j : Int) ∧ j ≤ l.list.length ∧ 0 ≤ r ∧ r ≤ 9223372036854775807 ∧ (r ≤ 20000 → r = (l.list.length : Int) + (sumL (l.list.take j) : Int)) ∧ Fr w.heap.size w wr) (fun s i _ => l.list.length - (intOf i).toNat)
  case atStart => exact ⟨_, 0, rfl, rfl, by omega, by omega, by omega, fun _ => by simp [sumL], Fr.refl w⟩
  case round =>
    obtain ⟨r, j, rfl, rfl, hj, hr0, hr1, hre, hfr⟩ := hrel
    have HRe := hide hre
    have HFr := hide hfr
    clear hre hfr
    by_cases hlt : j < l.list.length
    · by_cases hr2 : r ≤ 20000
      · obtain ⟨c, hc⟩ : ∃ c, l.list[j]? = some c := ⟨_, List.getElem?_eq_getElem hlt⟩
        have HTk := hide (take_next l.list j c hc)
        have hmem : c ∈ l.list := List.mem_of_getElem? hc
        have HMw := hide (HM.out.on (HFr.out.below.mono hn))
        have HMc := hide (TL.Mem.at l 0 HMw.out j c hc).2
        have hns : n₀ ≤ wr.heap.size := by have := HFr.out.size; omega
        have HIc := hide (fun W x => weight_gen n₀ c.sz c (Nat.le_refl _) (TL.Szd.at l HSz.out c hmem) W x)
        have HCw : Hid (((sumL (l.list.take (j + 1)) : Nat) : Int) = (sumL (l.list.take j) : Int) + (c.wt : Int)) := by rw [Hid, HTk.out, sumL_snoc]; simp
        clear hmem
        simp only [Wt] at HIc
        generalize c.wt = cw at *
        cases c with
        | mk ck cbo cn ct cya cyc cy cla clc cl cfa cfc cf =>
        obtain ⟨b', o', rfl, hb', c0, c1, c2, c3, c4, c5, c6⟩ := HMw.out.cells hc
        clear hc
        simp only [T.val] at HIc
        go_wp2_with fail
        refine (HIc.out wr r HMc.out hns (by omega)).mono ?_
        rintro e V ⟨⟨⟨r3, rfl, hq0, hq1, hq2⟩, hb3⟩, -⟩
        have HF3 := hide (HFr.out.on hb3)
        have HQ2 := hide hq2
        clear hb3 hq2 c0 c1 c2 c3 c4 c5 c6
        go_wp2
        go_roundw
        case rel => exact ⟨r3, j + 1, by go_num, by go_num, by omega, hq0, by omega, (fun h => by have h1 := HQ2.out h; have h2 := HRe.out hr2; have h3 := HCw.out; omega), HF3.out⟩
        case measure => simp [intOf]; omega
      · have hd : decide ((20000 : Int) < r) = true := by simp; omega
        go_wp2
        go_ret
        exact ⟨.inr rfl, HFr.out.below⟩
    · have hjl : l.list.take j = l.list := List.take_of_length_le (by omega)
      rw [hjl, ← TL.wt_is] at HRe
      clear hjl
      by_cases hr2 : r ≤ 20000
      · have hd : decide ((20000 : Int) < r) = false := by simp; omega
        go_wp2
        go_ret
        exact ⟨⟨false, by simp, fun _ => by have := HRe.out hr2; omega⟩, HFr.out.below⟩
      · have hd : decide ((20000 : Int) < r) = true := by simp; omega
        go_wp2
        go_ret
        exact ⟨.inr rfl, HFr.out.below⟩

set_option maxHeartbeats 800000 in
theorem falls_ref (n₀ : Nat) (a : Option Addr) (cap i : Nat) (ds : List Bool) (w : World) (hd : Bl n₀ w a ds) (hl : ds.length ≤ 9223372036854775807) :
    Calls Try.prog 21 #[.slice a ds.length cap, .int .i64 (i : Int)] w fun e w' => e = .returned (.bool (ds.getD i false)) ∧ w' = w := by
  by_cases hi : i < ds.length
  · rcases hd with h0 | ⟨b, o, rfl, _, hc⟩
    · subst h0; simp at hi
    · have g := hc i hi
      clear hc
      generalize ds.getD i false = x at *
      have hdd : decide ((i : Int) < (ds.length : Int)) = true := by simp; omega
      go_enter Try.func21, Try.ntmps21
      go_wp2
      go_ret
      exact ⟨rfl, rfl⟩
  · have e : ds.getD i false = false := by simp [List.getD_eq_getElem?_getD, List.getElem?_eq_none (Nat.le_of_not_lt hi)]
    rw [e]
    have hdd : decide ((i : Int) < (ds.length : Int)) = false := by simp; omega
    clear hd e
    go_enter Try.func21, Try.ntmps21
    go_wp2
    go_ret
    exact ⟨rfl, rfl⟩
set_option maxHeartbeats 3200000 in
set_option maxRecDepth 1000000 in
theorem tcmp_gen (n₀ : Nat) (la la' da : Option Addr) (lc lc' dc : Nat) (l l' : TL) (ds : List Bool) (w : World) (hm : l.Mem n₀ w la 0) (hm' : l'.Mem n₀ w la' 0) (hll : l.list.length ≤ 9223372036854775807) (hll' : l'.list.length ≤ 9223372036854775807) (hd : Bl n₀ w da ds) (hdl : ds.length ≤ 9223372036854775807) (hn : n₀ ≤ w.heap.size) (ok : ∀ c ∈ l.list, c.ok ∧ c.Szd) (ok' : ∀ c ∈ l'.list, c.ok ∧ c.Szd) (r : Int) (hr : tcmp ds 0 l.list l'.list = r) :
    Calls Try.prog 10 #[.slice la l.list.length lc, .slice la' l'.list.length lc', .slice da ds.length dc] w fun e w' => e = .returned (.int .i64 r) ∧ Below w.heap.size w w' := by
  have HM := hide hm
  have HM' := hide hm'
  have HR := hide hr
  have HFa := hide (fun W j (h : Below n₀ w W) => falls_ref n₀ da dc j ds W (hd.on h) hdl)
  have HI : Hid (∀ c ∈ l.list, ∀ c' ∈ l'.list, ∀ W, c.Mem n₀ W → c'.Mem n₀ W → n₀ ≤ W.heap.size → Calls Try.prog 20 #[c.val, c'.val] W fun e w' => e = .returned (.int .i64 (c.cmp c')) ∧ Below W.heap.size W w') :=
    fun c hc c' hc' W m1 m2 hW => cmp_gen n₀ c.sz c c' (Nat.le_refl _) (ok c hc).1 (ok' c' hc').1 (ok c hc).2 (ok' c' hc').2 W m1 m2 hW
  have HF0 := hide (Fr.refl w)
  clear hm hm' hr hd ok ok'
  generalize hbw : w.heap.size = b at *
  have HBW := hide hbw
  clear hbw
  go_enter Try.func10, Try.ntmps10
  go_wp2
  go_loopw [7] (fun i wr => ∃ (j : Nat), i = .int .i64 (j : Int) ∧ j ≤ l.list.length ∧ j ≤ l'.list.length ∧ tcmp ds j (l.list.drop j) (l'.list.drop j) = r ∧ Fr b w wr) (fun i _ => l.list.length - (intOf i).toNat)
  case atStart => exact ⟨0, rfl, by omega, by omega, HR.out, HF0.out⟩
  case round =>
    obtain ⟨j, rfl, hj, hj', hre, hfr⟩ := hrel
    have HRe := hide hre
    have HFr := hide hfr
    clear hre hfr HF0 HR
    by_cases h1 : j < l.list.length
    · by_cases h2 : j < l'.list.length
      · obtain ⟨c, hc⟩ : ∃ c, l.list[j]? = some c := ⟨_, List.getElem?_eq_getElem h1⟩
        obtain ⟨c', hc'⟩ : ∃ c, l'.list[j]? = some c := ⟨_, List.getElem?_eq_getElem h2⟩
        have HNx := hide (tcmp_next ds l.list l'.list j c c' hc hc')
        rw [HRe.out] at HNx
        have hB0 : Below n₀ w wr := HFr.out.below.mono hn
        have HMw := hide (HM.out.on hB0)
        have HMw' := hide (HM'.out.on hB0)
        have HIc := hide (HI.out c (List.mem_of_getElem? hc) c' (List.mem_of_getElem? hc') wr.drew ((TL.Mem.at l 0 HMw.out j c hc).2.on ((Below.refl n₀ wr).drew)) ((TL.Mem.at l' 0 HMw'.out j c' hc').2.on ((Below.refl n₀ wr).drew)) (by have h9 := HFr.out.size; have h8 : wr.drew.heap.size = wr.heap.size := rfl; omega))
        have HZb := hide (T.cmp_bd c c')
        generalize c.cmp c' = z at *
        have HFd := hide HFr.out.drew
        have HFc := hide (fun W (h : Below n₀ w W) => HFa.out W j h)
        generalize ds.getD j false = dj at *
        clear hB0
        cases c with
        | mk ck cbo cn ct cya cyc cy cla clc cl cfa cfc cf =>
        cases c' with
        | mk ck' cbo' cn' ct' cya' cyc' cy' cla' clc' cl' cfa' cfc' cf' =>
        obtain ⟨b1, o1, rfl, hb1, c0, c1, c2, c3, c4, c5, c6⟩ := HMw.out.cells hc
        obtain ⟨b2, o2, rfl, hb2, d0, d1, d2, d3, d4, d5, d6⟩ := HMw'.out.cells hc'
        clear hc hc'
        simp only [T.val] at HIc
        have hq3 : b1 < wr.drew.heap.size := by have h9 := HFr.out.size; have h8 : wr.drew.heap.size = wr.heap.size := rfl; omega
        have hq4 : b2 < wr.drew.heap.size := by have h9 := HFr.out.size; have h8 : wr.drew.heap.size = wr.heap.size := rfl; omega
        have HZ : Hid (∀ V, Below wr.drew.heap.size wr.drew V → V.cell? ⟨b1, o1 + j * 7, none⟩ = some (.int .u8 ck) ∧ V.cell? ⟨b1, o1 + j * 7 + 1, none⟩ = some (.bool cbo) ∧ V.cell? ⟨b1, o1 + j * 7 + 2, none⟩ = some (.int .i64 cn) ∧ V.cell? ⟨b1, o1 + j * 7 + 3, none⟩ = some (.string ct) ∧ V.cell? ⟨b1, o1 + j * 7 + 4, none⟩ = some (.slice cya cy.length cyc) ∧ V.cell? ⟨b1, o1 + j * 7 + 5, none⟩ = some (.slice cla cl.list.length clc) ∧ V.cell? ⟨b1, o1 + j * 7 + 6, none⟩ = some (.slice cfa cf.list.length cfc) ∧ V.cell? ⟨b2, o2 + j * 7, none⟩ = some (.int .u8 ck') ∧ V.cell? ⟨b2, o2 + j * 7 + 1, none⟩ = some (.bool cbo') ∧ V.cell? ⟨b2, o2 + j * 7 + 2, none⟩ = some (.int .i64 cn') ∧ V.cell? ⟨b2, o2 + j * 7 + 3, none⟩ = some (.string ct') ∧ V.cell? ⟨b2, o2 + j * 7 + 4, none⟩ = some (.slice cya' cy'.length cyc') ∧ V.cell? ⟨b2, o2 + j * 7 + 5, none⟩ = some (.slice cla' cl'.list.length clc') ∧ V.cell? ⟨b2, o2 + j * 7 + 6, none⟩ = some (.slice cfa' cf'.list.length cfc')) := fun V hv => ⟨(hv.cell (p := ⟨b1, o1 + j * 7, none⟩) hq3).trans c0, (hv.cell (p := ⟨b1, o1 + j * 7 + 1, none⟩) hq3).trans c1, (hv.cell (p := ⟨b1, o1 + j * 7 + 2, none⟩) hq3).trans c2, (hv.cell (p := ⟨b1, o1 + j * 7 + 3, none⟩) hq3).trans c3, (hv.cell (p := ⟨b1, o1 + j * 7 + 4, none⟩) hq3).trans c4, (hv.cell (p := ⟨b1, o1 + j * 7 + 5, none⟩) hq3).trans c5, (hv.cell (p := ⟨b1, o1 + j * 7 + 6, none⟩) hq3).trans c6, (hv.cell (p := ⟨b2, o2 + j * 7, none⟩) hq4).trans d0, (hv.cell (p := ⟨b2, o2 + j * 7 + 1, none⟩) hq4).trans d1, (hv.cell (p := ⟨b2, o2 + j * 7 + 2, none⟩) hq4).trans d2, (hv.cell (p := ⟨b2, o2 + j * 7 + 3, none⟩) hq4).trans d3, (hv.cell (p := ⟨b2, o2 + j * 7 + 4, none⟩) hq4).trans d4, (hv.cell (p := ⟨b2, o2 + j * 7 + 5, none⟩) hq4).trans d5, (hv.cell (p := ⟨b2, o2 + j * 7 + 6, none⟩) hq4).trans d6⟩
        go_wp2
        go_region_held3 (fun W => W.cell? ⟨b1, o1 + j * 7, none⟩ = some (.int .u8 ck) ∧ W.cell? ⟨b1, o1 + j * 7 + 1, none⟩ = some (.bool cbo) ∧ W.cell? ⟨b1, o1 + j * 7 + 2, none⟩ = some (.int .i64 cn) ∧ W.cell? ⟨b1, o1 + j * 7 + 3, none⟩ = some (.string ct) ∧ W.cell? ⟨b1, o1 + j * 7 + 4, none⟩ = some (.slice cya cy.length cyc) ∧ W.cell? ⟨b1, o1 + j * 7 + 5, none⟩ = some (.slice cla cl.list.length clc) ∧ W.cell? ⟨b1, o1 + j * 7 + 6, none⟩ = some (.slice cfa cf.list.length cfc) ∧ W.cell? ⟨b2, o2 + j * 7, none⟩ = some (.int .u8 ck') ∧ W.cell? ⟨b2, o2 + j * 7 + 1, none⟩ = some (.bool cbo') ∧ W.cell? ⟨b2, o2 + j * 7 + 2, none⟩ = some (.int .i64 cn') ∧ W.cell? ⟨b2, o2 + j * 7 + 3, none⟩ = some (.string ct') ∧ W.cell? ⟨b2, o2 + j * 7 + 4, none⟩ = some (.slice cya' cy'.length cyc') ∧ W.cell? ⟨b2, o2 + j * 7 + 5, none⟩ = some (.slice cla' cl'.list.length clc') ∧ W.cell? ⟨b2, o2 + j * 7 + 6, none⟩ = some (.slice cfa' cf'.list.length cfc')) ((refine ⟨?_, ?_, ?_, ?_, ?_, ?_, ?_, ?_, ?_, ?_, ?_, ?_, ?_, ?_⟩ <;> assumption)) ((first | (go_at_call 20; refine HIc.out.mono ?_; intro e' V hh; obtain ⟨rfl, hb3⟩ := hh; obtain ⟨z0, z1, z2, z3, z4, z5, z6, z7, z8, z9, z10, z11, z12, z13⟩ := HZ.out _ hb3)))
        have HF3 := hide (HFd.out.on hb3)
        have HC3 := hide (HFc.out _ (HF3.out.below.mono hn))
        clear hb3 z0 z1 z2 z3 z4 z5 z6 z7 z8 z9 z10 z11 z12 z13 c0 c1 c2 c3 c4 c5 c6 d0 d1 d2 d3 d4 d5 d6 hq3 hq4
        by_cases hz : z = 0
        · subst hz
          rw [if_pos rfl] at HNx
          go_wp2
          go_roundw
          case rel => exact ⟨j + 1, by go_num, by omega, by omega, HNx.out.symm, HF3.out⟩
          case measure => simp [intOf]; omega
        · rw [if_neg hz] at HNx
          have hzd : (z == 0) = false := by simp [hz]
          have hzb := HZb.out
          clear hz
          have hzn : (z != 0) = true := by simp [bne, hzd]
          cases dj
          · rw [if_neg (by simp)] at HNx
            go_wp2_with (go_at_call 21; refine HC3.out.mono ?_; intro e V2 hh; obtain ⟨rfl, rfl⟩ := hh)
            go_ret
            exact ⟨by rw [HNx.out]; rfl, HF3.out.below⟩
          · rw [if_pos rfl] at HNx
            have hng : IntKind.i64.wrap (-z) = -z := by simp only [IntKind.wrap, IntKind.bits, IntKind.signed]; simp; omega
            go_wp2_with (go_at_call 21; refine HC3.out.mono ?_; intro e V2 hh; obtain ⟨rfl, rfl⟩ := hh)
            go_ret
            exact ⟨by rw [HNx.out]; rfl, HF3.out.below⟩
      · have HE := hide (tcmp_end ds l.list l'.list j hj hj' (by omega))
        rw [HRe.out] at HE
        have HV : Hid (r = 1) := by rw [Hid, HE.out, num, if_neg (by omega), if_pos (by omega)]
        have hd1 : decide ((l.list.length : Int) < (l'.list.length : Int)) = false := by simp; omega
        have hd2 : decide ((l'.list.length : Int) < (l.list.length : Int)) = true := by simp; omega
        go_wp2
        go_ret
        exact ⟨by rw [HV.out]; rfl, HFr.out.below⟩
    · have HE := hide (tcmp_end ds l.list l'.list j hj hj' (by omega))
      rw [HRe.out] at HE
      by_cases h2 : j < l'.list.length
      · have HV : Hid (r = -1) := by rw [Hid, HE.out, num, if_pos (by omega)]
        have hd1 : decide ((l.list.length : Int) < (l'.list.length : Int)) = true := by simp; omega
        go_wp2
        go_ret
        exact ⟨by rw [HV.out]; rfl, HFr.out.below⟩
      · have HV : Hid (r = 0) := by rw [Hid, HE.out, num, if_neg (by omega), if_neg (by omega)]
        have hd1 : decide ((l.list.length : Int) < (l'.list.length : Int)) = false := by simp; omega
        have hd2 : decide ((l'.list.length : Int) < (l.list.length : Int)) = false := by simp; omega
        go_wp2
        go_ret
        exact ⟨by rw [HV.out]; rfl, HFr.out.below⟩
end Go.Proofs.Ytegoeaofjnpehaa
