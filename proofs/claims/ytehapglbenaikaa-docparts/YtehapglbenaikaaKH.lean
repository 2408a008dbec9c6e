/- Contracts of written, Encode and Size, of any value. -/
import Derived.Test.YtehapglbenaikaaKG
namespace Go.Proofs.Ytehapglbenaikaa
open Go.RowKit
set_option linter.unusedVariables false

@[go_sem] theorem store_fn (P : Program) (w : World) (a : Addr) (m : Mode) (fn : Fn) (first cap : Array Value) : (store a (.func fn first cap) m).run P w = stored P w a (.func fn first cap) m := run_store P w a _ m rfl
/-- the cells that written makes. -/
def wcells (X : World) : World := (((X.alloc (.cells #[.slice none 0 0] 63)).alloc (.cells #[.pointer (some ⟨X.heap.size, 0, none⟩)] 43)).alloc (.cells #[.func (.func 23) #[] #[.pointer (some ⟨X.heap.size + 1, 0, none⟩), .pointer (some ⟨X.heap.size + 1 + 1, 0, none⟩)]] 60))
theorem wcells_is (X : World) : (wcells X).heap[X.heap.size]? = some (.cells #[.slice none 0 0] 63 (0, 0)) ∧ (wcells X).heap[X.heap.size + 1]? = some (.cells #[.pointer (some ⟨X.heap.size, 0, none⟩)] 43 (0, 0)) ∧ (wcells X).heap[X.heap.size + 1 + 1]? = some (.cells #[.func (.func 23) #[] #[.pointer (some ⟨X.heap.size + 1, 0, none⟩), .pointer (some ⟨X.heap.size + 1 + 1, 0, none⟩)]] 60 (0, 0)) ∧ Below X.heap.size X (wcells X) := by
  have e1 := heap_alloc_new X (.cells #[.slice none 0 0] 63)
  have s1 : (X.alloc (.cells #[.slice none 0 0] 63)).heap.size = X.heap.size + 1 := by simp
  have e2 := heap_alloc_new (X.alloc (.cells #[.slice none 0 0] 63)) (.cells #[.pointer (some ⟨X.heap.size, 0, none⟩)] 43)
  have e3 := heap_alloc_new ((X.alloc (.cells #[.slice none 0 0] 63)).alloc (.cells #[.pointer (some ⟨X.heap.size, 0, none⟩)] 43)) (.cells #[.func (.func 23) #[] #[.pointer (some ⟨X.heap.size + 1, 0, none⟩), .pointer (some ⟨X.heap.size + 1 + 1, 0, none⟩)]] 60)
  have s2 : ((X.alloc (.cells #[.slice none 0 0] 63)).alloc (.cells #[.pointer (some ⟨X.heap.size, 0, none⟩)] 43)).heap.size = X.heap.size + 1 + 1 := by simp
  rw [s1] at e2
  rw [s2] at e3
  have b1 := Below.heap_alloc (X.alloc (.cells #[.slice none 0 0] 63)) (.cells #[.pointer (some ⟨X.heap.size, 0, none⟩)] 43)
  have b2 := Below.heap_alloc ((X.alloc (.cells #[.slice none 0 0] 63)).alloc (.cells #[.pointer (some ⟨X.heap.size, 0, none⟩)] 43)) (.cells #[.func (.func 23) #[] #[.pointer (some ⟨X.heap.size + 1, 0, none⟩), .pointer (some ⟨X.heap.size + 1 + 1, 0, none⟩)]] 60)
  unfold wcells
  refine ⟨?_, ?_, e3, ?_⟩
  · rw [b2 _ (by omega), b1 _ (by omega)]
    exact e1
  · rw [b2 _ (by omega)]
    exact e2
  · exact (((Below.refl _ _).alloc (Nat.le_refl _) _).alloc (by simp) _).alloc (by simp; omega) _
theorem wcells_ok (X : World) : Wr (wcells X) X.heap.size [] ∧ DS (wcells X) X.heap.size (X.heap.size + 1) (X.heap.size + 1 + 1) ∧ (∀ k, foot (wcells X) X.heap.size k → k = X.heap.size) := by
  obtain ⟨h1, h2, h3, h4⟩ := wcells_is X
  have hf : ∀ k, foot (wcells X) X.heap.size k → k = X.heap.size := by
    intro k hk
    rcases hk with hk | ⟨v, hv, ho⟩
    · exact hk
    · rw [h1] at hv
      have e : v = .slice none 0 0 := by simpa using hv.symm
      subst e
      simp [Value.ownBlock] at ho
  refine ⟨⟨_, h1, Own.nil _, by simp [Value.ownBlock]⟩, ⟨h2, h3, fun h => by have := hf _ h; omega, fun h => by have := hf _ h; omega⟩, hf⟩
set_option maxHeartbeats 3200000 in
set_option maxRecDepth 1000000 in
theorem written_gen (n₀ : Nat) (v : T) (w : World) (hm : v.Mem n₀ w) (hn : n₀ ≤ w.heap.size) (hw : v.Wd) (hb : v.denc.length ≤ 100000000) :
    Calls Try.prog 14 #[v.val] w fun e w' => (∃ p, e = .returned (.pointer (some ⟨p, 0, none⟩)) ∧ Wr w' p v.denc ∧ New w.heap.size w' p) ∧ Below w.heap.size w w' := by
  have HX := hide (below_alloc w (.cells v.cells.toArray 27))
  have hsx : (w.alloc (.cells v.cells.toArray 27)).heap.size = w.heap.size + 1 := by simp
  have hk := wcells_is (w.alloc (.cells v.cells.toArray 27))
  obtain ⟨ho1, ho2, ho3⟩ := wcells_ok (w.alloc (.cells v.cells.toArray 27))
  have hB : Below w.heap.size w (wcells (w.alloc (.cells v.cells.toArray 27))) := HX.out.trans (hk.2.2.2.mono (by omega))
  have HP := hide (part_of n₀ _ _ _ v (write_gen n₀ _ _ _ v.sz v (Nat.le_refl _) hw) (wcells (w.alloc (.cells v.cells.toArray 27))) [] ho1 ho2 (hm.on (hB.mono hn)) (fun k hk => by rw [ho3 k hk]; omega) (Nat.le_trans hn hB.size) (by simpa using hb))
  have HB := hide hB
  have HFt := hide ho3
  have HK := hide hk
  rw [hsx] at HP HFt HK
  simp only [List.nil_append] at HP
  generalize v.denc = ys at *
  have hZ : wcells (w.alloc (.cells v.cells.toArray 27)) = ((((w.alloc (.cells v.cells.toArray 27)).alloc (.cells #[.slice none 0 0] 63)).alloc (.cells #[.pointer (some ⟨w.heap.size + 1, 0, none⟩)] 43)).alloc (.cells #[.func (.func 23) #[] #[.pointer (some ⟨w.heap.size + 1 + 1, 0, none⟩), .pointer (some ⟨w.heap.size + 1 + 1 + 1, 0, none⟩)]] 60)) := by
    unfold wcells
    rw [hsx]
  have HBo : Hid ((wcells (w.alloc (.cells v.cells.toArray 27))).heap[w.heap.size]? = some (.cells v.cells.toArray 27 (0, 0))) := by
    rw [Hid, hk.2.2.2.block w.heap.size (by omega)]
    exact heap_alloc_new w _
  rw [hZ] at HP HB HFt HK HBo
  clear hm hw hk ho1 ho2 ho3 hB HX hsx hZ
  cases v with
  | mk k bo n t ya yc y la lc l fa fc f =>
  simp only [T.val, T.cells] at *
  have kb := Box7.cells HBo.out
  have kf := cell_of_one HK.out.2.2.1
  obtain ⟨k0, k1, k2, k3, k4, k5, k6⟩ := kb
  go_enter Try.func14, Try.ntmps14
  go_wp2_with fail
  refine (new_any _).mono ?_
  rintro e W1 ⟨rfl, rfl⟩
  go_wp2_with fail
  refine HP.out.mono ?_
  rintro e W2 ⟨rfl, hw2, ho2⟩
  have HW2 := hide hw2
  have HNn : Hid (New w.heap.size W2 (w.heap.size + 1)) := fun k hk => (ho2.foot k hk).elim (fun h => by rw [HFt.out k h]; omega) (fun h => Nat.le_trans HB.out.size h)
  have HBB : Hid (Below w.heap.size w W2) := HB.out.trans (ho2.below (fun k hk => by rw [HFt.out k hk]; omega) HB.out.size)
  have kp : W2.cell? ⟨w.heap.size + 1 + 1, 0, none⟩ = some (.pointer (some ⟨w.heap.size + 1, 0, none⟩)) := cell_of_one ((ho2.block _ (lt_of_block HK.out.2.1) (fun h => by have := HFt.out _ h; omega)).trans HK.out.2.1)
  clear hw2 ho2 k0 k1 k2 k3 k4 k5 k6 kf
  go_wp2
  go_ret
  exact ⟨⟨_, rfl, HW2.out, HNn.out⟩, HBB.out⟩
end Go.Proofs.Ytehapglbenaikaa
