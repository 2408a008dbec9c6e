/- Whether two values are more than is looked at. -/
import Derived.Test.YtegoeaofjnpehabVP
namespace Go.Proofs.Ytegoeaofjnpehab
open Go.RowKit
set_option linter.unusedVariables false

theorem RowN.wider {n₀ n₁ : Nat} {W : World} {a : Option Addr} {zs : List Int} (h : n₀ ≤ n₁) (k : RowN n₀ W a zs) : RowN n₁ W a zs := by
  rcases k with k | ⟨b, o, rfl, hlt, hc⟩
  · exact .inl k
  · exact .inr ⟨b, o, rfl, by omega, hc⟩
mutual
theorem T.Mem.wider {n₀ n₁ : Nat} {W : World} (h : n₀ ≤ n₁) : ∀ {v : T}, v.Mem n₀ W → v.Mem n₁ W
  | .mk k bo n t ya yc y la lc l fa fc f, ⟨h1, h2, h3, h4, h5, h6, h7, h8, h9, h10⟩ => ⟨h1.wider h, h2, h3, h4, TL.Mem.wider h h5, h6, h7, FL.Mem.wider h h8, h9, h10⟩
theorem TL.Mem.wider {n₀ n₁ : Nat} {W : World} (h : n₀ ≤ n₁) {a : Option Addr} : ∀ {i : Nat} {l : TL}, l.Mem n₀ W a i → l.Mem n₁ W a i
  | _, .nil, _ => trivial
  | i, .cons v r, ⟨⟨b, o, h1, h2, h3⟩, h4, h5⟩ => ⟨⟨b, o, h1, Nat.lt_of_lt_of_le h2 h, h3⟩, T.Mem.wider h h4, TL.Mem.wider h h5⟩
theorem FL.Mem.wider {n₀ n₁ : Nat} {W : World} (h : n₀ ≤ n₁) {a : Option Addr} : ∀ {i : Nat} {l : FL}, l.Mem n₀ W a i → l.Mem n₁ W a i
  | _, .nil, _ => trivial
  | i, .cons s v r, ⟨⟨b, o, h1, h2, h6, h3⟩, h4, h5⟩ => ⟨⟨b, o, h1, Nat.lt_of_lt_of_le h2 h, h6, h3⟩, T.Mem.wider h h4, FL.Mem.wider h h5⟩
end
set_option maxHeartbeats 3200000 in
set_option maxRecDepth 1000000 in
theorem much_gen (n₀ : Nat) (la : Option Addr) (lc : Nat) (l : TL) (w : World) (hm : l.Mem n₀ w la 0) (hs : l.Szd) (hlen : l.list.length ≤ 9223372036854775807) (hn : n₀ ≤ w.heap.size) :
    Calls Try.prog 14 #[.slice la l.list.length lc] w fun e w' => (∃ β, e = .returned (.bool β) ∧ (β = false → l.list.length + l.wt ≤ 20000)) ∧ Below w.heap.size w w' := by
  have HM := hide hm
  have HSz := hide hs
  clear hm hs
  go_enter Try.func14, Try.ntmps14
  go_wp2
  go_loopw [3, 4] (fun s i wr => ∃ (r : Int) (j : Nat), s = .int .i64 r ∧ i = .int .i64 (j : Int) ∧ j ≤ l.list.length ∧ 0 ≤ r ∧ r ≤ 9223372036854775807 ∧ (r ≤ 20000 → r = (l.list.length : Int) + (sumL (l.list.take j) : Int)) ∧ Fr w.heap.size w wr) (fun s i _ => l.list.length - (intOf i).toNat)
  case atStart => exact ⟨_, 0, rfl, rfl, by omega, by omega, by omega, fun _ => by simp [sumL], Fr.refl w⟩
  case round =>
    obtain ⟨r, j, rfl, rfl, hj, hr0, hr1, hre, hfr⟩ := hrel
    have HRe := hide hre
    have HFr := hide hfr
    clear hre hfr
    by_cases hlt : j < l.list.length
    · by_cases hr2 : r ≤ 20000
      · obtain ⟨c, hc⟩ : ∃ c, l.list[j]? = some c := ⟨_, List.getElem?_eq_getElem hlt⟩
        have HTk := hide (take_next l.list j c hc)
        have hmem : c ∈ l.list := List.mem_of_getElem? hc
        have HMw := hide (HM.out.on (HFr.out.below.mono hn))
        have HMc := hide (TL.Mem.at l 0 HMw.out j c hc).2
        have hns : n₀ ≤ wr.heap.size := by have := HFr.out.size; omega
        have HIc := hide (fun W x => weight_gen n₀ c.sz c (Nat.le_refl _) (TL.Szd.at l HSz.out c hmem) W x)
        have HCw : Hid (((sumL (l.list.take (j + 1)) : Nat) : Int) = (sumL (l.list.take j) : Int) + (c.wt : Int)) := by rw [Hid, HTk.out, sumL_snoc]; simp
        clear hmem
        simp only [Wt] at HIc
        generalize c.wt = cw at *
        cases c with
        | mk ck cbo cn ct cya cyc cy cla clc cl cfa cfc cf =>
        obtain ⟨b', o', rfl, hb', c0, c1, c2, c3, c4, c5, c6⟩ := HMw.out.cells hc
        clear hc
        simp only [T.val] at HIc
        go_wp2_with fail
        refine (HIc.out wr r HMc.out hns (by omega)).mono ?_
        rintro e V ⟨⟨⟨r3, rfl, hq0, hq1, hq2⟩, hb3⟩, -⟩
        have HF3 := hide (HFr.out.on hb3)
        have HQ2 := hide hq2
        clear hb3 hq2 c0 c1 c2 c3 c4 c5 c6
        go_wp2
        go_roundw
        case rel => exact ⟨r3, j + 1, by go_num, by go_num, by omega, hq0, by omega, (fun h => by have h1 := HQ2.out h; have h2 := HRe.out hr2; have h3 := HCw.out; omega), HF3.out⟩
        case measure => simp [intOf]; omega
      · have hd : decide ((20000 : Int) < r) = true := by simp; omega
        go_wp2
        go_ret
        exact ⟨.inr rfl, HFr.out.below⟩
    · have hjl : l.list.take j = l.list := List.take_of_length_le (by omega)
      rw [hjl, ← TL.wt_is] at HRe
      clear hjl
      by_cases hr2 : r ≤ 20000
      · have hd : decide ((20000 : Int) < r) = false := by simp; omega
        go_wp2
        go_ret
        exact ⟨⟨false, by simp, fun _ => by have := HRe.out hr2; omega⟩, HFr.out.below⟩
      · have hd : decide ((20000 : Int) < r) = true := by simp; omega
        go_wp2
        go_ret
        exact ⟨.inr rfl, HFr.out.below⟩
end Go.Proofs.Ytegoeaofjnpehab
