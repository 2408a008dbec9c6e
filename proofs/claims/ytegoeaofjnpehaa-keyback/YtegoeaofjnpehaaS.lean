/- Contract of After. -/
import Derived.Test.YtegoeaofjnpehaaQ
namespace Go.Proofs.Ytegoeaofjnpehaa
open Go.RowKit
set_option linter.unusedVariables false

/-- what an append to nothing keeps: all that was there. -/
theorem kept_cell {w1 : World} {a : Addr} {u : Value} {W : World} (hg : W.grownBy w1 (Value.slice none 0 0).ownBlock) (h : W.cell? a = some u) : w1.cell? a = some u :=
  (World.cell?_of_block (hg.block a.block (World.block_lt_of_cell? _ _ h) (by simp [Value.ownBlock]))).trans h
theorem kept_cell2 {X w2 : World} {v : Value} {a : Addr} {u : Value} {N : Nat} (hg : X.grownBy w2 v.ownBlock) (h : X.cell? a = some u) (hf : ∀ k, v.ownBlock = some k → N ≤ k) (hb : a.block < N) : w2.cell? a = some u :=
  (World.cell?_of_block (hg.block a.block (World.block_lt_of_cell? _ _ h) (fun e => by have := hf _ e.symm; omega))).trans h
theorem kept_alloc {X : World} {a : Addr} {u : Value} {o : Obj} (h : X.cell? a = some u) : (X.alloc o).cell? a = some u := (World.cell?_alloc_some X a o (by rw [h]; rfl)).trans h
theorem src_cell (w : World) (b : Nat) (x : Int) (h : w.cell? ⟨b, 0, none⟩ = some (.int .u8 x)) : Src Try.prog 1 25 (.slice (some ⟨b, 0, none⟩) 1 1) 1 ([x].map (Value.int .u8)) w :=
  Src.ofSlice _ Try.underlying25 ⟨b, 0, none⟩ 1 1 [.int .u8 x] rfl (by intro j u hj; match j, hj with | 0, hj => simp at hj; subst hj; simpa [Addr.add] using h) (by intro u hu; simp at hu; subst hu; rfl)
set_option maxHeartbeats 3200000 in
set_option maxRecDepth 1000000 in
theorem after_at (a : Option Addr) (len cap : Nat) (bs : List Int) (p : Nat) (w : World) (hl : bs.length = len) (hbig : len ≤ 1000000) (hcap : len ≤ cap) (hr : Row w a bs) (hy : Byts bs) (hp : p < len) (h1 : bs.getD p 0 < 255) (h2 : ∀ i, p < i → i < len → bs.getD i 0 = 255) :
    Calls Try.prog 17 #[.slice a len cap] w fun e w' => ∃ v, e = .returned (.tuple #[v, .bool true]) ∧ OwnB w.heap.size w' v (bs.take p ++ [bs.getD p 0 + 1]) ∧ Below w.heap.size w w' := by
  obtain ⟨i0, hi, hz0, hz1, hz2⟩ := info_parts Try.info5
  have hpl : p < bs.length := by omega
  have hb0 := hy.at p
  obtain ⟨b, o, rfl, hlt, hc⟩ : ∃ b o, a = some ⟨b, o, none⟩ ∧ b < w.heap.size ∧ ∀ i, i < bs.length → w.cell? ⟨b, o + i, none⟩ = some (.int .u8 (bs.getD i 0)) := by
    rcases hr with h0 | ⟨b, o, rfl, hlt, hc⟩
    · subst h0; simp at hpl
    · exact ⟨b, o, rfl, hlt, hc⟩
  have HR := hide hr
  have HL := hide hl
  have HC := hide hc
  have H2 := hide h2
  clear hr hl hc h2 hy
  go_enter Try.func17, Try.ntmps17
  go_wp2
  go_loop [4] (fun i => ∃ k : Nat, p ≤ k ∧ k < len ∧ i = .int .i64 (k : Int)) (fun i => (intOf i).toNat)
  case atStart => exact ⟨len - 1, by omega, by omega, by congr 1; omega⟩
  case round =>
    obtain ⟨k, hpk, hkl, rfl⟩ := hrel
    have g := HC.out k (by have := HL.out; omega)
    by_cases hk : k = p
    · subst hk
      have hcell := hide g
      have HSr : Hid (∀ X, Below w.heap.size w X → Src Try.prog 1 25 (.slice (some ⟨b, o, none⟩) k cap) k ((bs.take k).map (Value.int .u8)) X) := fun X hX => src_row X _ k cap _ (by simp; omega) (fun e => by cases e) (by
        rcases HR.out.below hX with h0 | ⟨b', o', e, hlt', hc'⟩
        · subst h0; simp at hpl
        · cases e
          exact .inr ⟨b, o, rfl, hlt', fun i hi' => by
            rw [List.length_take] at hi'
            rw [hc' i (by omega)]
            simp [List.getD_eq_getElem?_getD, show i < k by omega]⟩)
      have hd : decide (bs.getD k 0 < 255) = true := by simpa using h1
      have hkc : (k : Int) ≤ (cap : Int) := by omega
      have hkn : k ≤ cap := by omega
      generalize hgc : bs.getD k 0 = c at *
      have gd : w.drew.cell? ⟨b, o + k, none⟩ = some (.int .u8 c) := g
      have HGc := hide hgc
      have hwr : IntKind.u8.wrap (c + 1) = c + 1 := by simp [IntKind.wrap, IntKind.bits, IntKind.signed]; omega
      have gda : (w.alloc (.cells #[.int .u8 (c + 1)] 5)).drew.cell? ⟨b, o + k, none⟩ = some (.int .u8 c) := kept_alloc (X := w) g
      have gnew : (w.alloc (.cells #[.int .u8 (c + 1)] 5)).drew.cell? ⟨w.heap.size, 0, none⟩ = some (.int .u8 (c + 1)) := by simp
      clear hgc
      go_wp2
      go_region_held3 (fun W => W.cell? ⟨b, o + k, none⟩ = some (.int .u8 c)) ((first | assumption | go_keep)) ((first | (refine step_append_src (by rfl) (.const (.slice none 0 0)) (.tmp 19) 25 25 (by rfl) i0 Try.underlying25 hi hz0 hz1 hz2 (.slice none 0 0) [] (by rfl) (Own.nil _) (.slice (some ⟨b, o, none⟩) k cap) k (bs.take k) (by rfl) (HSr.out _ (Below.refl _ _).drew) (by simp; omega) ?_; intro v1 w1 hown1 hg1 hf1; obtain ⟨a1, n1, c1, rfl, HN1⟩ := hown1.shape2; have HO1 := hide hown1; have HG1 := hide hg1; have HF1 : Hid (∀ k, (Value.slice a1 n1 c1).ownBlock = some k → w.heap.size ≤ k) := fun k hk => (hf1 k hk).elim (fun e => by simp [Value.ownBlock] at e) (fun hs => by simp at hs; omega); have HFr1 := hide ((Fr.refl w).drew.grown hg1 (fun k e => by simp [Value.ownBlock] at e)); have gw := kept_cell hg1 gd;  clear hown1 hg1 hf1) | (refine step_append_src (by rfl) (.const (.slice none 0 0)) (.tmp 19) 25 25 (by rfl) i0 Try.underlying25 hi hz0 hz1 hz2 (.slice none 0 0) [] (by rfl) (Own.nil _) (.slice (some ⟨b, o, none⟩) k cap) k (bs.take k) (by rfl) (HSr.out _ (below_alloc _ _).drew) (by simp; omega) ?_; intro v1 w1 hown1 hg1 hf1; obtain ⟨a1, n1, c1, rfl, HN1⟩ := hown1.shape2; have HO1 := hide hown1; have HG1 := hide hg1; have HF1 : Hid (∀ k, (Value.slice a1 n1 c1).ownBlock = some k → w.heap.size ≤ k) := fun k hk => (hf1 k hk).elim (fun e => by simp [Value.ownBlock] at e) (fun hs => by simp at hs; omega); have HFr1 := hide (((Fr.refl w).alloc _).drew.grown hg1 (fun k e => by simp [Value.ownBlock] at e)); have gw := kept_cell hg1 gda; have gn := kept_cell hg1 gnew; clear hown1 hg1 hf1) | (refine step_append_src (by rfl) (.tmp 20) (.tmp 26) 25 25 (by rfl) i0 Try.underlying25 hi hz0 hz1 hz2 (.slice a1 n1 c1) ([] ++ bs.take k) (by rfl) (HO1.out.alloc _) _ 1 [c + 1] (by rfl) (src_one _ _) (by simp; omega) ?_; intro v2 w2 hown2 hg2 hf2; obtain ⟨a2, n2, c2, rfl, HN2⟩ := hown2.shape2; have HO2 := hide hown2; have HF2 := hide hf2; have HFr2 := hide ((HFr1.out.alloc _).grown hg2 HF1.out); have gx := kept_cell2 hg2 (kept_alloc gw) HF1.out hlt; clear hown2 hg2 hf2) | (refine step_append_src (by rfl) (.tmp 20) (.tmp 26) 25 25 (by rfl) i0 Try.underlying25 hi hz0 hz1 hz2 (.slice a1 n1 c1) ([] ++ bs.take k) (by rfl) HO1.out _ 1 [c + 1] (by rfl) (src_cell _ _ _ gn) (by simp; omega) ?_; intro v2 w2 hown2 hg2 hf2; obtain ⟨a2, n2, c2, rfl, HN2⟩ := hown2.shape2; have HO2 := hide hown2; have HF2 := hide hf2; have HFr2 := hide (HFr1.out.grown hg2 HF1.out); have gx := kept_cell2 hg2 gw HF1.out hlt; clear hown2 hg2 hf2)))
      all_goals
        clear gd gda gnew g gw gx
        go_wp2
        go_ret2
        refine ⟨.slice a2 n2 c2, rfl, ⟨?_, fun x hx => (HF2.out x hx).elim (HF1.out x) (fun hs => Nat.le_trans (by first | exact (HFr1.out.alloc _).size | exact HFr1.out.size) hs)⟩, HFr2.out.below⟩
        rw [HGc.out]
        exact HO2.out
    · have h255 := H2.out k (by omega) hkl
      rw [h255] at g
      go_wp2
      go_round
      case rel => exact ⟨k - 1, by omega, by omega, by congr 1; omega⟩
      case measure => simp [intOf]; omega
set_option maxHeartbeats 1600000 in
set_option maxRecDepth 1000000 in
theorem after_all (a : Option Addr) (len cap : Nat) (bs : List Int) (w : World) (hl : bs.length = len) (hbig : len ≤ 1000000) (hr : Row w a bs) (h2 : ∀ i, i < len → bs.getD i 0 = 255) :
    Calls Try.prog 17 #[.slice a len cap] w fun e w' => e = .returned (.tuple #[.slice none 0 0, .bool false]) ∧ w' = w := by
  have HR := hide hr
  have HL := hide hl
  have H2 := hide h2
  clear hr hl h2
  go_enter Try.func17, Try.ntmps17
  go_wp2
  go_loop [4] (fun i => ∃ k : Nat, k ≤ len ∧ i = .int .i64 ((k : Int) - 1)) (fun i => (intOf i + 1).toNat)
  case atStart => exact ⟨len, by omega, rfl⟩
  case round =>
    obtain ⟨k, hkl, rfl⟩ := hrel
    by_cases hk : k = 0
    · subst hk
      go_wp2
      go_ret2
      exact ⟨rfl, rfl⟩
    · obtain ⟨j, rfl⟩ : ∃ j, k = j + 1 := ⟨k - 1, by omega⟩
      have hjl : j < bs.length := by have := HL.out; omega
      rw [show ((j + 1 : Nat) : Int) - 1 = (j : Int) by omega]
      rcases HR.out with h0 | ⟨b, o, rfl, hlt, hc⟩
      · subst h0; simp at hjl
      have g := hc j hjl
      rw [H2.out j (by omega)] at g
      clear hc
      go_wp2
      go_round
      case rel => exact ⟨j, by omega, rfl⟩
      case measure => simp [intOf]
end Go.Proofs.Ytegoeaofjnpehaa
