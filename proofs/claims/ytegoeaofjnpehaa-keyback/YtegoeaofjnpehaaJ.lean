/- Contracts of One: a text, a number, rising or falling. -/
import Derived.Test.YtegoeaofjnpehaaI
namespace Go.Proofs.Ytegoeaofjnpehaa
open Go.RowKit
set_option linter.unusedVariables false

theorem new_wr (w : World) : Wr (w.alloc (.cells #[.slice none 0 0] 25)) w.heap.size [] :=
  ⟨.slice none 0 0, heap_alloc_new w _, Own.nil _, by simp [Value.ownBlock]⟩
theorem new_foot (w : World) (k : Nat) (h : foot (w.alloc (.cells #[.slice none 0 0] 25)) w.heap.size k) : k = w.heap.size := by
  rcases h with h | ⟨v, h1, h2⟩
  · exact h
  · rw [heap_alloc_new] at h1
    have e : v = .slice none 0 0 := by simpa using h1.symm
    rw [e] at h2
    simp [Value.ownBlock] at h2
theorem start_foot (w : World) (m : Int) (k : Nat) (h : foot (((w.alloc (.cells #[.slice none 0 0] 25)).alloc (.cells #[.int .u8 m] 5)).alloc (.cells #[.func (.func 36) #[] #[.pointer (some ⟨w.heap.size + 1, 0, none⟩)]] 57)) w.heap.size k) : k = w.heap.size := by
  have hb : Below (w.alloc (.cells #[.slice none 0 0] 25)).heap.size (w.alloc (.cells #[.slice none 0 0] 25)) (((w.alloc (.cells #[.slice none 0 0] 25)).alloc (.cells #[.int .u8 m] 5)).alloc (.cells #[.func (.func 36) #[] #[.pointer (some ⟨w.heap.size + 1, 0, none⟩)]] 57)) :=
    ((Below.refl _ _).alloc (Nat.le_refl _) _).alloc (by simp) _
  exact new_foot w k ((foot_same (hb.block _ (by simp))).1 h)
/-- a new place to put to. -/
theorem PutS.start (w : World) (m : Int) (hm : 0 ≤ m ∧ m ≤ 255) : PutS (((w.alloc (.cells #[.slice none 0 0] 25)).alloc (.cells #[.int .u8 m] 5)).alloc (.cells #[.func (.func 36) #[] #[.pointer (some ⟨w.heap.size + 1, 0, none⟩)]] 57)) w.heap.size (w.heap.size + 1 + 1) (w.heap.size + 1) m [] := by
  have hb : Below (w.alloc (.cells #[.slice none 0 0] 25)).heap.size (w.alloc (.cells #[.slice none 0 0] 25)) (((w.alloc (.cells #[.slice none 0 0] 25)).alloc (.cells #[.int .u8 m] 5)).alloc (.cells #[.func (.func 36) #[] #[.pointer (some ⟨w.heap.size + 1, 0, none⟩)]] 57)) :=
    ((Below.refl _ _).alloc (Nat.le_refl _) _).alloc (by simp) _
  have hf := start_foot w m
  refine ⟨(new_wr w).below hb, ?_, ?_, fun h => ?_, fun h => ?_, hm⟩
  · have := heap_alloc_new ((w.alloc (.cells #[.slice none 0 0] 25)).alloc (.cells #[.int .u8 m] 5)) (.cells #[.func (.func 36) #[] #[.pointer (some ⟨w.heap.size + 1, 0, none⟩)]] 57)
    simpa using this
  · have := heap_alloc_new (w.alloc (.cells #[.slice none 0 0] 25)) (.cells #[.int .u8 m] 5)
    rw [World.size_alloc] at this
    exact (Below.heap_alloc _ _ _ (by simp)).trans this
  · have := hf _ h; omega
  · have := hf _ h; omega

@[go_sem] theorem store_fn (P : Program) (w : World) (a : Addr) (m : Mode) (fn : Fn) (first cap : Array Value) : (store a (.func fn first cap) m).run P w = stored P w a (.func fn first cap) m := run_store P w a _ m rfl
set_option maxHeartbeats 1600000 in
set_option maxRecDepth 1000000 in
theorem one_leaf (d : Bool) (m k n : Int) (t : ByteArray) (ys : List Int) (w : World) (hm : 0 ≤ m ∧ m ≤ 255) (hy : ys.length ≤ 160)
    (HT : Hid (∀ W, Calls Try.prog 25 #[.bool d] W fun e w' => e = .returned (.func (.func 36) #[] #[.pointer (some ⟨W.heap.size, 0, none⟩)]) ∧ w' = W.alloc (.cells #[.int .u8 m] 5)))
    (HC : Hid (∀ W, Calls Try.prog 23 #[.agg #[.int .u8 k, .bool false, .int .i64 n, .string t, .slice none 0 0, .slice none 0 0, .slice none 0 0]] W fun e w' => e = .returned (.int .u16 0) ∧ Below W.heap.size W w'))
    (HD : Hid (∀ W, Calls Try.prog 24 #[.agg #[.int .u8 k, .bool false, .int .i64 n, .string t, .slice none 0 0, .slice none 0 0, .slice none 0 0]] W fun e w' => e = .returned (.bool false) ∧ Below W.heap.size W w'))
    (HW : Hid (∀ W po pt q, PutS W po pt q m [] → Calls Try.prog 26 #[.agg #[.int .u8 k, .bool false, .int .i64 n, .string t, .slice none 0 0, .slice none 0 0, .slice none 0 0], .func (.func 27) #[] #[.pointer (some ⟨po, 0, none⟩), .pointer (some ⟨pt, 0, none⟩)]] W fun e W' => e = .returned (.tuple #[]) ∧ PutS W' po pt q m (ys.map (tn m)) ∧ Wrote po W W')) :
    Calls Try.prog 13 #[.agg #[.int .u8 k, .bool false, .int .i64 n, .string t, .slice none 0 0, .slice none 0 0, .slice none 0 0], .bool d] w fun e w' => ∃ a c, e = .returned (.tuple #[.slice a ys.length c, .int .u16 0]) ∧ Row w' a (ys.map (tn m)) ∧ (a = none → ys.length = 0 ∧ c = 0) ∧ Below w.heap.size w w' := by
  have HB0 := hide (Box7.new w (.int .u8 k) (.bool false) (.int .i64 n) (.string t) (.slice none 0 0) (.slice none 0 0) (.slice none 0 0))
  have HF0 := hide ((Fr.refl w).alloc (.cells #[.int .u8 k, .bool false, .int .i64 n, .string t, .slice none 0 0, .slice none 0 0, .slice none 0 0] 41))
  go_enter Try.func13, Try.ntmps13
  go_wp2_with fail
  refine (HC.out _).mono ?_
  rintro e W1 ⟨rfl, hb⟩
  have HB1 := hide (HB0.out.below hb)
  have HF1 := hide (HF0.out.on hb)
  clear hb HB0 HF0
  generalize hbw : w.heap.size = b at *
  have HBW := hide hbw
  clear hbw
  obtain ⟨k0, k1, k2, k3, k4, k5, k6⟩ := HB1.out.cells
  go_wp2_with fail
  refine (HD.out _).mono ?_
  rintro e W2 ⟨rfl, hb⟩
  have HB2 := hide (HB1.out.below hb)
  have HF2 := hide (HF1.out.on hb)
  clear hb HB1 HF1 k0 k1 k2 k3 k4 k5 k6
  go_wp2_with fail
  refine (HT.out _).mono ?_
  rintro e W3 ⟨rfl, rfl⟩
  have HS := hide (PutS.start W2 m hm)
  have HF3 := hide (((HF2.out.alloc (.cells #[.slice none 0 0] 25)).alloc (.cells #[.int .u8 m] 5)).alloc (.cells #[.func (.func 36) #[] #[.pointer (some ⟨W2.heap.size + 1, 0, none⟩)]] 57))
  have HB3 := hide (((HB2.out.below (below_alloc _ (.cells #[.slice none 0 0] 25))).below (below_alloc _ (.cells #[.int .u8 m] 5))).below (below_alloc _ (.cells #[.func (.func 36) #[] #[.pointer (some ⟨W2.heap.size + 1, 0, none⟩)]] 57)))
  obtain ⟨k0, k1, k2, k3, k4, k5, k6⟩ := HB3.out.cells
  go_wp2_with fail
  refine (HW.out _ _ _ _ HS.out).mono ?_
  rintro e W4 ⟨rfl, hp, ho⟩
  have HF4 : Hid (Fr b w W4) := ⟨HF3.out.below.trans (ho.below (fun k hk => by have := start_foot W2 m k hk; have := HF2.out.size; omega) HF3.out.size), Nat.le_trans HF3.out.size ho.size⟩
  obtain ⟨va, hcell, hown, hap⟩ := hp.wr
  obtain ⟨a1, c1, rfl, hle, hmx, hnn, hrow, _⟩ := hown.shape
  have g0 := cell_of_one hcell
  have HRw := hide hrow
  have HNn := hide hnn
  rw [List.length_map] at g0 HNn
  have hlen : decide ((160 : Int) < (ys.length : Int)) = false := by simp; omega
  clear hcell hown hap hp ho hrow hnn k0 k1 k2 k3 k4 k5 k6
  go_wp2
  go_ret2
  exact ⟨a1, c1, rfl, HRw.out, HNn.out, by rw [HBW.out]; exact HF4.out.below⟩
/-- what a text and a number are written as. -/
def bT (t : ByteArray) : List Int := 64 :: (esc (sb t) ++ [0, 1])
def bI (n : Int) : List Int := 48 :: nbs (nX n) 8
theorem oneT_up (w : World) : Calls Try.prog 13 #[vT ⟨#[97]⟩, .bool false] w fun e w' => ∃ a c, e = .returned (.tuple #[.slice a (bT ⟨#[97]⟩).length c, .int .u16 0]) ∧ Row w' a ((bT ⟨#[97]⟩).map (tn 0)) ∧ (a = none → (bT ⟨#[97]⟩).length = 0 ∧ c = 0) ∧ Below w.heap.size w w' :=
  one_leaf false 0 4 0 ⟨#[97]⟩ (bT ⟨#[97]⟩) w (by omega) (by decide) (fun W => turning_up W) (fun W => checkT W) (fun W => hasdoc_leaf 4 _ _ _ _ _ W (by decide)) (fun W po pt q h => writeT W po pt q 0 ⟨#[97]⟩ [] h (by simp) (by decide))
theorem oneI_down (n : Int) (w : World) : Calls Try.prog 13 #[vI n, .bool true] w fun e w' => ∃ a c, e = .returned (.tuple #[.slice a (bI n).length c, .int .u16 0]) ∧ Row w' a ((bI n).map (tn 255)) ∧ (a = none → (bI n).length = 0 ∧ c = 0) ∧ Below w.heap.size w w' :=
  one_leaf true 255 3 n ⟨#[]⟩ (bI n) w (by omega) (by simp [bI, nbs_len]) (fun W => turning_down W) (fun W => checkI n W) (fun W => hasdoc_leaf 3 _ _ _ _ _ W (by decide)) (fun W po pt q h => writeI W po pt q 255 n [] h (by simp))
end Go.Proofs.Ytegoeaofjnpehaa
