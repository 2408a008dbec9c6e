/- Where a key stands in a list: the function that is handed over, slices.BinarySearchFunc. -/
import Derived.Test.YtfcebpenjdhgbaaHA
namespace Go.Proofs.Ytfcebpenjdhgbaa
open Go.RowKit
set_option linter.unusedVariables false

/-- is the key k at or above that key? -/
def pge (key k : List Int) : Bool := decide (0 ≤ ordI k key)
/-- the place that a search comes to. -/
def At (p : List Int → Bool) (xs : List En) (i : Nat) : Prop := i ≤ xs.length ∧ (∀ x, 0 < i → xs[i - 1]? = some x → p x.e.key = false) ∧ ∀ x, xs[i]? = some x → p x.e.key = true
/-- does the entry at i have that key? -/
def ther (xs : List En) (i : Nat) (key : List Int) : Bool := match xs[i]? with
  | some x => decide (x.e.key = key)
  | none => false
theorem box3_hid (w : World) (x : En) : Hid (Below w.heap.size w (w.alloc (.cells #[.slice x.ka x.e.key.length x.kc, .slice x.va x.e.val.length x.vc, .bool x.e.del] 36))) := hide (below_alloc w _)
set_option maxHeartbeats 1600000 in
set_option maxRecDepth 1000000 in
theorem find1_any (x : En) (ka : Option Addr) (kn kc : Nat) (key : List Int) (w : World) (hx : x.Ok w) (hk : Inn w ka kn kc key) :
    Calls Try.prog 51 #[.agg #[.slice x.ka x.e.key.length x.kc, .slice x.va x.e.val.length x.vc, .bool x.e.del], .slice ka kn kc] w fun e w' => e = .returned (.int .i64 (ordI x.e.key key)) ∧ Below w.heap.size w w' := by
  have HB := box3_hid w x
  obtain ⟨b0, b1, b2⟩ := box3 w (.slice x.ka x.e.key.length x.kc) (.slice x.va x.e.val.length x.vc) (.bool x.e.del) 36
  have HC := hide (fun W (hW : Below w.heap.size w W) => compare_any (hx.key.below hW) (hk.below hW))
  clear hx hk
  go_enter Try.func51, Try.ntmps51
  go_wp2_with (go_at_call 52; refine (HC.out _ HB.out).mono ?_; rintro r' w3 ⟨rfl, rfl⟩)
  go_ret
  exact ⟨rfl, HB.out⟩
theorem bool_ret {v : Value} {b c : Bool} (h : b = c) : Ending.returned (Value.tuple #[v, Value.bool b]) = Ending.returned (Value.tuple #[v, Value.bool c]) := by rw [h]
set_option maxHeartbeats 3200000 in
set_option maxRecDepth 1000000 in
theorem search_any (ka : Option Addr) (kn kc : Nat) (key : List Int) (a : Option Addr) (n c : Nat) (xs : List En) (w : World) (hk : Inn w ka kn kc key) (h : Ens w a n c xs) (hn : n ≤ 1000000) :
    Calls Try.prog 50 #[.slice a n c, .slice ka kn kc, .func (.func 51) #[] #[]] w fun e w' => ∃ i : Nat, e = .returned (.tuple #[.int .i64 (i : Int), .bool (ther xs i key)]) ∧ At (pge key) xs i ∧ Below w.heap.size w w' := by
  have HE := hide h
  have HK := hide hk
  have HL := hide h.len
  have hcap := h.cap
  have hmax := h.max
  clear h hk
  go_enter Try.func50, Try.ntmps50
  go_wp2
  go_loopw [9, 10] (fun vi vj wr => ∃ (i j : Nat), i ≤ j ∧ j ≤ n ∧ vi = .int .i64 (i : Int) ∧ vj = .int .i64 (j : Int) ∧ (∀ x, 0 < i → xs[i - 1]? = some x → pge key x.e.key = false) ∧ (∀ x, xs[j]? = some x → pge key x.e.key = true) ∧ Below w.heap.size w wr) (fun vi vj _ => (intOf vj).toNat - (intOf vi).toNat)
  case atStart => exact ⟨0, n, Nat.zero_le _, Nat.le_refl _, rfl, rfl, fun x h => by omega, fun x hx => by have := (List.getElem?_eq_some_iff.1 hx).1; have := HL.out; omega, Below.refl _ _⟩
  case round =>
    obtain ⟨i, j, hij, hjn, rfl, rfl, hlo, hhi, hbl⟩ := hrel
    have HLo := hide hlo
    have HHi := hide hhi
    have HBl := hide hbl
    clear hlo hhi
    by_cases hlt : i < j
    · have hm : (i + j) / 2 < n := by omega
      obtain ⟨x, hx, hok⟩ := (HE.out.below hbl).at hm
      obtain ⟨b, off, rfl, hbs, c0, c1, c2⟩ := (HE.out.below hbl).cells hx
      have HF := hide (find1_any x ka kn kc key wr hok (HK.out.below hbl))
      have HX := hide hx
      clear hok hx hbl
      have e1 : ((((i + j) / 2 : Nat)) : Int) = ((i : Int) + (j : Int)) / 2 := by omega
      have d0 : (i : Int) < (j : Int) := by omega
      by_cases hp : ordI x.e.key key < 0
      · have HP := hide hp
        have HPf : Hid (pge key x.e.key = false) := by rw [Hid, pge, decide_eq_false (by omega)]
        have hmj : (i + j) / 2 < j := by omega
        go_wp2_with (go_at_call 51; refine HF.out.mono ?_; rintro e w2 ⟨rfl, hb2⟩)
        refine ⟨⟨(i + j) / 2 + 1, j, by omega, by omega, by rw [Int.natCast_add, e1]; rfl, rfl, fun y _ hy => by rw [Nat.add_sub_cancel, HX.out] at hy; cases hy; exact HPf.out, HHi.out, HBl.out.trans (hb2.mono HBl.out.size)⟩, ?_⟩
        simp [intOf]; omega
      · have HP := hide hp
        have HPf : Hid (pge key x.e.key = true) := by rw [Hid, pge, decide_eq_true (by omega)]
        have hmj : (i + j) / 2 < j := by omega
        go_wp2_with (go_at_call 51; refine HF.out.mono ?_; rintro e w2 ⟨rfl, hb2⟩)
        refine ⟨⟨i, (i + j) / 2, by omega, by omega, rfl, by rw [e1], HLo.out, fun y hy => by rw [HX.out] at hy; cases hy; exact HPf.out, HBl.out.trans (hb2.mono HBl.out.size)⟩, ?_⟩
        simp [intOf]; omega
    · obtain rfl : i = j := by omega
      by_cases hin : i < n
      · obtain ⟨x, hx, hok⟩ := (HE.out.below hbl).at hin
        obtain ⟨b, off, rfl, hbs, c0, c1, c2⟩ := (HE.out.below hbl).cells hx
        have HF := hide (find1_any x ka kn kc key wr hok (HK.out.below hbl))
        have d1 : (i : Int) < (n : Int) := by omega
        have HX := hide hx
        clear hok hx hbl
        by_cases hp : ordI x.e.key key = 0
        · have HT : Hid (ther xs i key = true) := by rw [Hid, ther, HX.out]; exact decide_eq_true (ordI_zero _ _ hp)
          rw [hp] at HF
          clear hp
          go_wp2_with (go_at_call 51; refine HF.out.mono ?_; rintro e w2 ⟨rfl, hb2⟩)
          go_ret2
          exact ⟨i, by rw [HT.out]; rfl, ⟨by rw [HL.out]; omega, HLo.out, HHi.out⟩, HBl.out.trans (hb2.mono HBl.out.size)⟩
        · have HT : Hid (ther xs i key = false) := by rw [Hid, ther, HX.out]; exact decide_eq_false (fun e => hp (by rw [e]; exact ordI_self _))
          generalize ordI x.e.key key = O at *
          go_wp2_with (go_at_call 51; refine HF.out.mono ?_; rintro e w2 ⟨rfl, hb2⟩)
          go_ret2
          exact ⟨i, (by rw [HT.out]; exact bool_ret (by simpa using hp)), ⟨by rw [HL.out]; omega, HLo.out, HHi.out⟩, HBl.out.trans (hb2.mono HBl.out.size)⟩
      · have HT : Hid (ther xs i key = false) := by
          have : xs[i]? = none := List.getElem?_eq_none (by have := HL.out; omega)
          rw [Hid, ther, this]
        have d1 : ¬ (i : Int) < (n : Int) := by omega
        go_wp2
        go_ret2
        exact ⟨i, by rw [HT.out]; rfl, ⟨by rw [HL.out]; omega, HLo.out, HHi.out⟩, HBl.out⟩
end Go.Proofs.Ytfcebpenjdhgbaa
