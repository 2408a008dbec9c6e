/- What the chapter's examples fix. -/
import Derived.Test.YtlahkeapfcfbbaaDoorNC
import Derived.Test.YtlahkeapfcfbbaaDoorLG
import Derived.Lib.ConvBytes
import Derived.Laws.BytesString
namespace Go.Proofs.YtlahkeapfcfbbaaDoor
open Go.RowKit Go.Maps
set_option linter.unusedVariables false
variable {w w' : World}
/-- bytes as a text. -/
def bk (ys : List Int) : ByteArray := ⟨(ys.map fun z => UInt8.ofNat z.toNat).toArray⟩
theorem run_text (w : World) (a : Option Addr) (n c : Nat) (ys : List Int) (hl : ys.length = n) (hn : a = none → n = 0 ∧ c = 0) (hr : Row w a ys) (hb : Byts ys) : (convert 81 9 (.slice a n c)).run Tryd.prog w = .ok (.string (bk ys)) w := by
  cases a with
  | none =>
    obtain ⟨rfl, rfl⟩ := hn rfl
    have e : ys = [] := List.eq_nil_of_length_eq_zero hl
    subst e
    rw [run_convert_bytes_string w 81 9 5 none 0 0 Tryd.underlying81 Tryd.underlying5 Tryd.underlying9]
    rfl
  | some ad =>
    have h := run_convert_bytes_back (P := Tryd.prog) w 81 9 5 ad c (ys.map fun z => UInt8.ofNat z.toNat) Tryd.underlying81 Tryd.underlying5 Tryd.underlying9 (by
      intro j hj
      rw [List.length_map] at hj
      rcases hr with rfl | ⟨b, off, e, _, hc⟩
      · simp at hj
      · obtain rfl := Option.some.inj e
        have h1 := hc j hj
        have := hb (ys[j]) (List.getElem_mem hj)
        rw [Addr.add_lit, h1]
        simp [hj]
        omega)
    rw [List.length_map, hl] at h
    exact h
theorem rw_two (w : World) (x y : Nat) : Rw (w.alloc (.cells #[.int .u32 (x : Int), .int .u32 (y : Int)] 56)) (some ⟨w.heap.size, 0, none⟩) [x, y] := by
  refine .inr ⟨_, 0, rfl, lt_of_block (heap_alloc_new w _), fun i hi => ?_⟩
  have hi' : i = 0 ∨ i = 1 := by simp at hi; omega
  rcases hi' with rfl | rfl
  · rw [cell_of_row _ _ _ _ _ _ (heap_alloc_new w _)]; rfl
  · rw [cell_of_row _ _ _ _ _ _ (heap_alloc_new w _)]; rfl
theorem rw_one (w : World) (x : Nat) : Rw (w.alloc (.cells #[.int .u32 (x : Int)] 56)) (some ⟨w.heap.size, 0, none⟩) [x] := by
  refine .inr ⟨_, 0, rfl, lt_of_block (heap_alloc_new w _), fun i hi => ?_⟩
  obtain rfl : i = 0 := by simp at hi; omega
  rw [cell_of_row _ _ _ _ _ _ (heap_alloc_new w _)]; rfl
set_option maxHeartbeats 3200000 in
set_option maxRecDepth 1000000 in
theorem known_any (w : World) : Calls Tryd.prog 5 #[] w fun e w' => e = .returned (.bool true) ∧ Below w.heap.size w w' := by
  have HN := hide (new_fl w)
  have HA0 : Hid (∀ W l, Fl w W l [] → Calls Tryd.prog 6 #[.pointer (some ⟨l, 0, none⟩), .int .u32 5, .int .u64 3] W fun e w' => e = .returned (.int .u16 0) ∧ Fl w w' l [((5:Int),(3:Int))]) := fun W l h => add_fl h 5 (by decide) 3 (by decide)
  have HA1 : Hid (∀ W l, Fl w W l [((5:Int),(3:Int))] → Calls Tryd.prog 6 #[.pointer (some ⟨l, 0, none⟩), .int .u32 4, .int .u64 7] W fun e w' => e = .returned (.int .u16 0) ∧ Fl w w' l [((4:Int),(7:Int)), (5, 3)]) := fun W l h => add_fl h 4 (by decide) 7 (by decide)
  have HA2 : Hid (∀ W l, Fl w W l [((4:Int),(7:Int)), (5, 3)] → Calls Tryd.prog 6 #[.pointer (some ⟨l, 0, none⟩), .int .u32 9, .int .u64 3] W fun e w' => e = .returned (.int .u16 0) ∧ Fl w w' l [((9:Int),(3:Int)), (4, 7), (5, 3)]) := fun W l h => add_fl h 9 (by decide) 3 (by decide)
  have HA3 : Hid (∀ W l, Fl w W l [((9:Int),(3:Int)), (4, 7), (5, 3)] → Calls Tryd.prog 6 #[.pointer (some ⟨l, 0, none⟩), .int .u32 9, .int .u64 1] W fun e w' => e = .returned (.int .u16 110) ∧ Fl w w' l [((9:Int),(3:Int)), (4, 7), (5, 3)]) := fun W l h => add_fl h 9 (by decide) 1 (by decide)
  have HT0 : Hid (∀ W l, Fl w W l [((9:Int),(3:Int)), (4, 7), (5, 3)] → Calls Tryd.prog 8 #[.pointer (some ⟨l, 0, none⟩), .int .u64 2] W fun e w' => e = .returned (.tuple #[.int .u32 0, .bool false]) ∧ Fl w w' l [((9:Int),(3:Int)), (4, 7), (5, 3)]) := fun W l h => take_fl_none h 2 (by decide) (by decide)
  have HT1 : Hid (∀ W l, Fl w W l [((9:Int),(3:Int)), (4, 7), (5, 3)] → Calls Tryd.prog 8 #[.pointer (some ⟨l, 0, none⟩), .int .u64 3] W fun e w' => e = .returned (.tuple #[.int .u32 5, .bool true]) ∧ Fl w w' l [((9:Int),(3:Int)), (4, 7)]) := fun W l h => take_fl_at h 3 (5, 3) _ (by decide) (by decide) (by decide) (by decide)
  have HT2 : Hid (∀ W l, Fl w W l [((9:Int),(3:Int)), (4, 7)] → Calls Tryd.prog 8 #[.pointer (some ⟨l, 0, none⟩), .int .u64 9] W fun e w' => e = .returned (.tuple #[.int .u32 4, .bool true]) ∧ Fl w w' l [((9:Int),(3:Int))]) := fun W l h => take_fl_at h 9 (4, 7) _ (by decide) (by decide) (by decide) (by decide)
  have HLn : Hid (∀ W l, Fl w W l [((9:Int),(3:Int))] → Calls Tryd.prog 18 #[.pointer (some ⟨l, 0, none⟩)] W fun e w' => e = .returned (.int .i64 1) ∧ Same W w') := fun W l h => by
    obtain ⟨O, h1, h2, h3⟩ := h
    exact len_any h1 (by decide)
  have HEn : Hid (∀ W : World, Calls Tryd.prog 22 #[.slice (some ⟨W.heap.size, 0, none⟩) 2 2, .slice (some ⟨W.heap.size + 1, 0, none⟩) 1 1] ((W.alloc (.cells #[.int .u32 3, .int .u32 8] 56)).alloc (.cells #[.int .u32 20] 56)) fun e w' => ∃ g vs, e = .returned (.tuple #[.slice (some ⟨g, 0, none⟩) 1 1, .int .u16 0]) ∧ vs.length = 1 ∧ W.heap.size ≤ g ∧ Ro w' g (W.heap.size + 2) vs 1 (pay [3, 8] [20]) ∧ Below W.heap.size W w') := by
    intro W
    have hr : Rw ((W.alloc (.cells #[.int .u32 3, .int .u32 8] 56)).alloc (.cells #[.int .u32 20] 56)) (some ⟨W.heap.size, 0, none⟩) [3, 8] := (rw_two W 3 8).below (below_alloc _ (.cells #[.int .u32 20] 56))
    have hr' : Rw ((W.alloc (.cells #[.int .u32 3, .int .u32 8] 56)).alloc (.cells #[.int .u32 20] 56)) (some ⟨(W.alloc (.cells #[.int .u32 3, .int .u32 8] 56)).heap.size, 0, none⟩) [20] := rw_one _ 20
    rw [show (W.alloc (.cells #[.int .u32 3, .int .u32 8] 56)).heap.size = W.heap.size + 1 by simp] at hr'
    refine (encode_ok _ _ _ 2 2 1 1 [3, 8] [20] rfl (by omega) (by omega) hr (by unfold W32; decide) rfl (by omega) hr' (by unfold W32; decide) (by decide) (by decide) (by decide)).mono ?_
    rintro e w' ⟨g, vs, rfl, h1, h2, h3, h4⟩
    have hs : ((W.alloc (.cells #[.int .u32 3, .int .u32 8] 56)).alloc (.cells #[.int .u32 20] 56)).heap.size = W.heap.size + 2 := by simp
    have hb : Below W.heap.size W ((W.alloc (.cells #[.int .u32 3, .int .u32 8] 56)).alloc (.cells #[.int .u32 20] 56)) := (below_alloc W _).trans ((below_alloc _ _).mono (by simp))
    rw [hs] at h2 h3 h4
    exact ⟨g, vs, rfl, h1, by omega, h3, hb.trans (h4.mono (by omega))⟩
  have M0 : True := trivial
  have M1 : True := trivial
  have M2 : True := trivial
  have M3 : True := trivial
  have M4 : True := trivial
  have M5 : True := trivial
  have M6 : True := trivial
  have M7 : True := trivial
  have N1 : True := trivial
  have HX : Hid (∀ W W' g B vs, Ro W g B vs 1 (pay [3, 8] [20]) → vs.length = 1 → Same W W' → ∃ a0 c0, W'.cell? ⟨g, 0, none⟩ = some (.slice a0 12 c0) ∧ (convert 81 9 (.slice a0 12 c0)).run Tryd.prog W' = .ok (.string ⟨#[0, 0, 0, 0, 3, 0, 0, 0, 8, 0, 0, 0]⟩) W' ∧ True) := by
    intro W W' g B vs h1 h2 h3
    have ho := Own.of_block (h1.own 0 (by omega)) (fun k _ => by rw [h3.heap] : ∀ k, (vs.getD 0 (.slice none 0 0)).ownBlock = some k → W'.heap[k]? = W.heap[k]?)
    obtain ⟨a0, c0, e, -, -, hn, hr, -⟩ := ho.shape
    have e2 : pay [3, 8] [20] 0 = [0, 0, 0, 0, 3, 0, 0, 0, 8, 0, 0, 0] := by decide
    rw [e2] at e hn hr
    refine ⟨a0, c0, ?_, ?_, trivial⟩
    · have hb : W'.heap[g]? = some (.cells vs.toArray 81 (0, 0)) := by rw [h3.heap]; exact h1.blk
      rw [cell_of_row W' g 0 _ _ _ hb, List.getElem?_toArray]
      rw [List.getD_eq_getElem?_getD, List.getElem?_eq_getElem (by omega)] at e
      rw [List.getElem?_eq_getElem (by omega)]
      exact congrArg some e
    · exact run_text W' a0 12 c0 _ rfl (fun h => by have := (hn h).1; simp at this) hr (by unfold Byts; decide)
  go_enter Tryd.func5, Tryd.ntmps5
  go_wp2_with (first
    | (go_at_call 4; refine HN.out.mono ?_; rintro e w1 ⟨l, rfl, h1⟩; have H0 := hide h1; clear h1)
    | (clear M0; go_at_call 6; refine (HA0.out _ _ H0.out).mono ?_; rintro e w2 ⟨rfl, h1⟩; have H1 := hide h1; clear h1)
    | (clear M1; go_at_call 6; refine (HA1.out _ _ H1.out).mono ?_; rintro e w3 ⟨rfl, h1⟩; have H2 := hide h1; clear h1)
    | (clear M2; go_at_call 6; refine (HA2.out _ _ H2.out).mono ?_; rintro e w4 ⟨rfl, h1⟩; have H3 := hide h1; clear h1)
    | (clear M3; go_at_call 6; refine (HA3.out _ _ H3.out).mono ?_; rintro e w5 ⟨rfl, h1⟩; have H4 := hide h1; clear h1)
    | (clear M4; go_at_call 8; refine (HT0.out _ _ H4.out).mono ?_; rintro e w6 ⟨rfl, h1⟩; have H5 := hide h1; clear h1)
    | (clear M5; go_at_call 8; refine (HT1.out _ _ H5.out).mono ?_; rintro e w7 ⟨rfl, h1⟩; have H6 := hide h1; clear h1)
    | (clear M6; go_at_call 8; refine (HT2.out _ _ H6.out).mono ?_; rintro e w8 ⟨rfl, h1⟩; have H7 := hide h1; clear h1)
    | (go_at_call 22; refine (HEn.out _).mono ?_; rintro e w9 ⟨g, vs, rfl, e1, e2, e3, e4⟩; have H8 := hide (H7.out.on e4); have E1 := hide e1; have E2 := hide e2; have E3 := hide e3; clear e1 e2 e3 e4)
    | (go_at_call 18; refine (HLn.out _ _ H8.out).mono ?_; rintro e w10 ⟨rfl, hs10⟩; obtain ⟨a0, c0, x1, x2, x3⟩ := HX.out _ _ _ _ _ E3.out E1.out hs10; have H10 := hide (H8.out.on hs10.below); clear hs10)
    | (clear N1; go_at_call 23; refine (need_any _ 251 (by decide)).mono ?_; rintro e w11 ⟨rfl, hw⟩; rw [hw]; clear hw)
    | (go_at_call 23; refine (need_any _ 252 (by decide)).mono ?_; rintro e w11 ⟨rfl, hw⟩; rw [hw]; clear hw))
  go_ret
  exact ⟨rfl, H10.out.bel⟩
end Go.Proofs.YtlahkeapfcfbbaaDoor
