/- Where a key stands: the search. -/
import Derived.Test.YtjojpohnmfkanaaX
namespace Go.Proofs.Ytjojpohnmfkanaa
open Go.RowKit
set_option linter.unusedVariables false

theorem one_below {w W : World} {q : Nat} {v : Value} (hq : w.cell? ⟨q, 0, none⟩ = some v) (hb : Below w.heap.size w W) : W.cell? ⟨q, 0, none⟩ = some v := (hb.cell (p := ⟨q, 0, none⟩) (World.block_lt_of_cell? w _ hq)).trans hq
/-- has the key reached what is looked for? -/
def pge (key k : List Int) : Bool := decide (0 ≤ ordI k key)
def pgt (key k : List Int) : Bool := decide (0 < ordI k key)
/-- the place that a search comes to. -/
def At (p : List Int → Bool) (xs : List En) (i : Nat) : Prop := i ≤ xs.length ∧ (∀ x, 0 < i → xs[i - 1]? = some x → p x.e.key = false) ∧ ∀ x, xs[i]? = some x → p x.e.key = true
set_option maxHeartbeats 1600000 in
set_option maxRecDepth 1000000 in
theorem place1_any (q : Nat) (ka : Option Addr) (kn kc : Nat) (key : List Int) (a : Option Addr) (n c : Nat) (ks : List Int) (w : World) (hq : w.cell? ⟨q, 0, none⟩ = some (.slice ka kn kc)) (hk : Inn w ka kn kc key) (h : Inn w a n c ks) :
    Calls Try.prog 77 #[.slice a n c, .pointer (some ⟨q, 0, none⟩)] w fun e w' => e = .returned (.bool (pge key ks)) ∧ Below w.heap.size w w' := by
  have HC := hide (compare_any h hk)
  have HD : Hid (pge key ks = decide (0 ≤ ordI ks key)) := hide rfl
  clear h hk
  generalize ordI ks key = O at *
  generalize pge key ks = B at *
  go_enter Try.func77, Try.ntmps77
  go_wp2_with (go_at_call 68; refine HC.out.mono ?_; rintro e w2 ⟨rfl, rfl⟩)
  go_ret
  exact ⟨by rw [HD.out]; rfl, Below.refl _ _⟩
set_option maxHeartbeats 1600000 in
set_option maxRecDepth 1000000 in
theorem place1_first1 (q q1 q2 : Nat) (ka : Option Addr) (kn kc : Nat) (key : List Int) (a : Option Addr) (n c : Nat) (xs : List En) (j : Nat) (x : En) (w : World) (hq : w.cell? ⟨q, 0, none⟩ = some (.slice ka kn kc)) (hk : Inn w ka kn kc key) (h : Ens w a n c xs)
    (hq1 : w.cell? ⟨q1, 0, none⟩ = some (.func (.func 77) #[] #[.pointer (some ⟨q, 0, none⟩)])) (hq2 : w.cell? ⟨q2, 0, none⟩ = some (.slice a n c)) (hx : xs[j]? = some x) (hj : j < n) :
    Calls Try.prog 80 #[.int .i64 (j : Int), .pointer (some ⟨q1, 0, none⟩), .pointer (some ⟨q2, 0, none⟩)] w fun e w' => e = .returned (.bool (pge key x.e.key)) ∧ Below w.heap.size w w' := by
  obtain ⟨b, off, rfl, hbs, c0, c1, c2, c3⟩ := h.cells hx
  have hok := h.each x (List.mem_of_getElem? hx)
  have hcap := h.cap
  have hmax := h.max
  have HG := hide (place1_any q ka kn kc key x.ka x.e.key.length x.kc x.e.key w.drew hq (hk.below (Below.refl _ _).drew) (hok.key.below (Below.refl _ _).drew))
  have HQ1 := hide hq1
  have HQ2 := hide hq2
  have HC0 := hide c0
  clear h hk hok hx
  generalize pge key x.e.key = B at *
  go_enter Try.func80, Try.ntmps80
  go_wp2
  go_region_held3 (fun W => W.cell? ⟨q1, 0, none⟩ = some (.func (.func 77) #[] #[.pointer (some ⟨q, 0, none⟩)]) ∧ W.cell? ⟨q2, 0, none⟩ = some (.slice (some ⟨b, off, none⟩) n c) ∧ W.cell? ⟨b, off + j * 4, none⟩ = some (.slice x.ka x.e.key.length x.kc)) ((refine ⟨?_, ?_, ?_⟩ <;> assumption)) ((first | (go_at_call 77; refine HG.out.mono ?_; intro r' w2 hh; obtain ⟨rfl, hb2⟩ := hh; have HB2 := hide hb2; clear hb2 hq1 hq2 c0 c1 c2 c3 hq; have hq1 := (HB2.out.cell (p := ⟨q1, 0, none⟩) (World.block_lt_of_cell? w _ HQ1.out)).trans HQ1.out; have hq2 := (HB2.out.cell (p := ⟨q2, 0, none⟩) (World.block_lt_of_cell? w _ HQ2.out)).trans HQ2.out; have c0 := (HB2.out.cell (p := ⟨b, off + j * 4, none⟩) (World.block_lt_of_cell? w _ HC0.out)).trans HC0.out)))
  go_wp2
  go_ret
  exact ⟨rfl, (Below.refl _ _).drew.trans HB2.out⟩
set_option maxHeartbeats 3200000 in
set_option maxRecDepth 1000000 in
theorem place1_search (q q1 q2 : Nat) (ka : Option Addr) (kn kc : Nat) (key : List Int) (a : Option Addr) (n c : Nat) (xs : List En) (w : World) (hq : w.cell? ⟨q, 0, none⟩ = some (.slice ka kn kc)) (hk : Inn w ka kn kc key) (h : Ens w a n c xs) (hn : n ≤ 1000000)
    (hq1 : w.cell? ⟨q1, 0, none⟩ = some (.func (.func 77) #[] #[.pointer (some ⟨q, 0, none⟩)])) (hq2 : w.cell? ⟨q2, 0, none⟩ = some (.slice a n c)) :
    Calls Try.prog 79 #[.int .i64 (n : Int), .func (.func 80) #[] #[.pointer (some ⟨q1, 0, none⟩), .pointer (some ⟨q2, 0, none⟩)]] w fun e w' => ∃ i : Nat, e = .returned (.int .i64 (i : Int)) ∧ At (pge key) xs i ∧ Below w.heap.size w w' := by
  have HE := hide h
  have HK := hide hk
  have HQ := hide hq
  have HQ1 := hide hq1
  have HQ2 := hide hq2
  have HL := hide h.len
  clear h hk hq hq1 hq2
  go_enter Try.func79, Try.ntmps79
  go_wp2
  go_loopw [5, 6] (fun vi vj wr => ∃ (i j : Nat), i ≤ j ∧ j ≤ n ∧ vi = .int .i64 (i : Int) ∧ vj = .int .i64 (j : Int) ∧ (∀ x, 0 < i → xs[i - 1]? = some x → pge key x.e.key = false) ∧ (∀ x, xs[j]? = some x → pge key x.e.key = true) ∧ Below w.heap.size w wr) (fun vi vj _ => (intOf vj).toNat - (intOf vi).toNat)
  case atStart => exact ⟨0, n, Nat.zero_le _, Nat.le_refl _, rfl, rfl, fun x h => by omega, fun x hx => by have := (List.getElem?_eq_some_iff.1 hx).1; have := HL.out; omega, Below.refl _ _⟩
  case round =>
    obtain ⟨i, j, hij, hjn, rfl, rfl, hlo, hhi, hbl⟩ := hrel
    have HLo := hide hlo
    have HHi := hide hhi
    have HBl := hide hbl
    clear hlo hhi
    by_cases hlt : i < j
    · have hm : (i + j) / 2 < n := by omega
      obtain ⟨x, hx, hok⟩ := (HE.out.below hbl).at hm
      have HF := hide (place1_first1 q q1 q2 ka kn kc key a n c xs ((i + j) / 2) x wr (one_below HQ.out hbl) (HK.out.below hbl) (HE.out.below hbl) (one_below HQ1.out hbl) (one_below HQ2.out hbl) hx hm)
      have HX := hide hx
      clear hok hx hbl
      have e1 : ((((i + j) / 2 : Nat)) : Int) = ((i : Int) + (j : Int)) / 2 := by omega
      rw [e1] at HF
      have d0 : (i : Int) < (j : Int) := by omega
      rcases Bool.eq_false_or_eq_true (pge key x.e.key) with hp | hp
      · rw [hp] at HF
        have HP := hide hp
        clear hp
        have hmj : (i + j) / 2 < j := by omega
        go_wp2_with (go_at_call 80; refine HF.out.mono ?_; rintro e w2 ⟨rfl, hb2⟩)
        go_roundw
        case rel => exact ⟨i, (i + j) / 2, by omega, by omega, by go_num, by rw [e1], HLo.out, fun y hy => by rw [HX.out] at hy; cases hy; exact HP.out, HBl.out.trans (hb2.mono HBl.out.size)⟩
        case measure => simp [intOf]; omega
      · rw [hp] at HF
        have HP := hide hp
        clear hp
        have hmj : (i + j) / 2 < j := by omega
        go_wp2_with (go_at_call 80; refine HF.out.mono ?_; rintro e w2 ⟨rfl, hb2⟩)
        go_roundw
        case rel => exact ⟨(i + j) / 2 + 1, j, by omega, by omega, by rw [Int.natCast_add, e1]; rfl, rfl, fun y _ hy => by rw [Nat.add_sub_cancel, HX.out] at hy; cases hy; exact HP.out, HHi.out, HBl.out.trans (hb2.mono HBl.out.size)⟩
        case measure => simp [intOf]; omega
    · obtain rfl : i = j := by omega
      go_wp2
      go_ret
      exact ⟨i, rfl, ⟨by rw [HL.out]; exact hjn, HLo.out, HHi.out⟩, HBl.out⟩
set_option maxHeartbeats 1600000 in
set_option maxRecDepth 1000000 in
theorem Find1_any (q : Nat) (ka : Option Addr) (kn kc : Nat) (key : List Int) (a : Option Addr) (n c : Nat) (ks : List Int) (w : World) (hq : w.cell? ⟨q, 0, none⟩ = some (.slice ka kn kc)) (hk : Inn w ka kn kc key) (h : Inn w a n c ks) :
    Calls Try.prog 67 #[.slice a n c, .pointer (some ⟨q, 0, none⟩)] w fun e w' => e = .returned (.bool (pgt key ks)) ∧ Below w.heap.size w w' := by
  have HC := hide (compare_any h hk)
  have HD : Hid (pgt key ks = decide (0 < ordI ks key)) := hide rfl
  clear h hk
  generalize ordI ks key = O at *
  generalize pgt key ks = B at *
  go_enter Try.func67, Try.ntmps67
  go_wp2_with (go_at_call 68; refine HC.out.mono ?_; rintro e w2 ⟨rfl, rfl⟩)
  go_ret
  exact ⟨by rw [HD.out]; rfl, Below.refl _ _⟩
set_option maxHeartbeats 1600000 in
set_option maxRecDepth 1000000 in
theorem Find1_first1 (q q1 q2 : Nat) (ka : Option Addr) (kn kc : Nat) (key : List Int) (a : Option Addr) (n c : Nat) (xs : List En) (j : Nat) (x : En) (w : World) (hq : w.cell? ⟨q, 0, none⟩ = some (.slice ka kn kc)) (hk : Inn w ka kn kc key) (h : Ens w a n c xs)
    (hq1 : w.cell? ⟨q1, 0, none⟩ = some (.func (.func 67) #[] #[.pointer (some ⟨q, 0, none⟩)])) (hq2 : w.cell? ⟨q2, 0, none⟩ = some (.slice a n c)) (hx : xs[j]? = some x) (hj : j < n) :
    Calls Try.prog 80 #[.int .i64 (j : Int), .pointer (some ⟨q1, 0, none⟩), .pointer (some ⟨q2, 0, none⟩)] w fun e w' => e = .returned (.bool (pgt key x.e.key)) ∧ Below w.heap.size w w' := by
  obtain ⟨b, off, rfl, hbs, c0, c1, c2, c3⟩ := h.cells hx
  have hok := h.each x (List.mem_of_getElem? hx)
  have hcap := h.cap
  have hmax := h.max
  have HG := hide (Find1_any q ka kn kc key x.ka x.e.key.length x.kc x.e.key w.drew hq (hk.below (Below.refl _ _).drew) (hok.key.below (Below.refl _ _).drew))
  have HQ1 := hide hq1
  have HQ2 := hide hq2
  have HC0 := hide c0
  clear h hk hok hx
  generalize pgt key x.e.key = B at *
  go_enter Try.func80, Try.ntmps80
  go_wp2
  go_region_held3 (fun W => W.cell? ⟨q1, 0, none⟩ = some (.func (.func 67) #[] #[.pointer (some ⟨q, 0, none⟩)]) ∧ W.cell? ⟨q2, 0, none⟩ = some (.slice (some ⟨b, off, none⟩) n c) ∧ W.cell? ⟨b, off + j * 4, none⟩ = some (.slice x.ka x.e.key.length x.kc)) ((refine ⟨?_, ?_, ?_⟩ <;> assumption)) ((first | (go_at_call 67; refine HG.out.mono ?_; intro r' w2 hh; obtain ⟨rfl, hb2⟩ := hh; have HB2 := hide hb2; clear hb2 hq1 hq2 c0 c1 c2 c3 hq; have hq1 := (HB2.out.cell (p := ⟨q1, 0, none⟩) (World.block_lt_of_cell? w _ HQ1.out)).trans HQ1.out; have hq2 := (HB2.out.cell (p := ⟨q2, 0, none⟩) (World.block_lt_of_cell? w _ HQ2.out)).trans HQ2.out; have c0 := (HB2.out.cell (p := ⟨b, off + j * 4, none⟩) (World.block_lt_of_cell? w _ HC0.out)).trans HC0.out)))
  go_wp2
  go_ret
  exact ⟨rfl, (Below.refl _ _).drew.trans HB2.out⟩
set_option maxHeartbeats 3200000 in
set_option maxRecDepth 1000000 in
theorem Find1_search (q q1 q2 : Nat) (ka : Option Addr) (kn kc : Nat) (key : List Int) (a : Option Addr) (n c : Nat) (xs : List En) (w : World) (hq : w.cell? ⟨q, 0, none⟩ = some (.slice ka kn kc)) (hk : Inn w ka kn kc key) (h : Ens w a n c xs) (hn : n ≤ 1000000)
    (hq1 : w.cell? ⟨q1, 0, none⟩ = some (.func (.func 67) #[] #[.pointer (some ⟨q, 0, none⟩)])) (hq2 : w.cell? ⟨q2, 0, none⟩ = some (.slice a n c)) :
    Calls Try.prog 79 #[.int .i64 (n : Int), .func (.func 80) #[] #[.pointer (some ⟨q1, 0, none⟩), .pointer (some ⟨q2, 0, none⟩)]] w fun e w' => ∃ i : Nat, e = .returned (.int .i64 (i : Int)) ∧ At (pgt key) xs i ∧ Below w.heap.size w w' := by
  have HE := hide h
  have HK := hide hk
  have HQ := hide hq
  have HQ1 := hide hq1
  have HQ2 := hide hq2
  have HL := hide h.len
  clear h hk hq hq1 hq2
  go_enter Try.func79, Try.ntmps79
  go_wp2
  go_loopw [5, 6] (fun vi vj wr => ∃ (i j : Nat), i ≤ j ∧ j ≤ n ∧ vi = .int .i64 (i : Int) ∧ vj = .int .i64 (j : Int) ∧ (∀ x, 0 < i → xs[i - 1]? = some x → pgt key x.e.key = false) ∧ (∀ x, xs[j]? = some x → pgt key x.e.key = true) ∧ Below w.heap.size w wr) (fun vi vj _ => (intOf vj).toNat - (intOf vi).toNat)
  case atStart => exact ⟨0, n, Nat.zero_le _, Nat.le_refl _, rfl, rfl, fun x h => by omega, fun x hx => by have := (List.getElem?_eq_some_iff.1 hx).1; have := HL.out; omega, Below.refl _ _⟩
  case round =>
    obtain ⟨i, j, hij, hjn, rfl, rfl, hlo, hhi, hbl⟩ := hrel
    have HLo := hide hlo
    have HHi := hide hhi
    have HBl := hide hbl
    clear hlo hhi
    by_cases hlt : i < j
    · have hm : (i + j) / 2 < n := by omega
      obtain ⟨x, hx, hok⟩ := (HE.out.below hbl).at hm
      have HF := hide (Find1_first1 q q1 q2 ka kn kc key a n c xs ((i + j) / 2) x wr (one_below HQ.out hbl) (HK.out.below hbl) (HE.out.below hbl) (one_below HQ1.out hbl) (one_below HQ2.out hbl) hx hm)
      have HX := hide hx
      clear hok hx hbl
      have e1 : ((((i + j) / 2 : Nat)) : Int) = ((i : Int) + (j : Int)) / 2 := by omega
      rw [e1] at HF
      have d0 : (i : Int) < (j : Int) := by omega
      rcases Bool.eq_false_or_eq_true (pgt key x.e.key) with hp | hp
      · rw [hp] at HF
        have HP := hide hp
        clear hp
        have hmj : (i + j) / 2 < j := by omega
        go_wp2_with (go_at_call 80; refine HF.out.mono ?_; rintro e w2 ⟨rfl, hb2⟩)
        go_roundw
        case rel => exact ⟨i, (i + j) / 2, by omega, by omega, by go_num, by rw [e1], HLo.out, fun y hy => by rw [HX.out] at hy; cases hy; exact HP.out, HBl.out.trans (hb2.mono HBl.out.size)⟩
        case measure => simp [intOf]; omega
      · rw [hp] at HF
        have HP := hide hp
        clear hp
        have hmj : (i + j) / 2 < j := by omega
        go_wp2_with (go_at_call 80; refine HF.out.mono ?_; rintro e w2 ⟨rfl, hb2⟩)
        go_roundw
        case rel => exact ⟨(i + j) / 2 + 1, j, by omega, by omega, by rw [Int.natCast_add, e1]; rfl, rfl, fun y _ hy => by rw [Nat.add_sub_cancel, HX.out] at hy; cases hy; exact HP.out, HHi.out, HBl.out.trans (hb2.mono HBl.out.size)⟩
        case measure => simp [intOf]; omega
    · obtain rfl : i = j := by omega
      go_wp2
      go_ret
      exact ⟨i, rfl, ⟨by rw [HL.out]; exact hjn, HLo.out, HHi.out⟩, HBl.out⟩
end Go.Proofs.Ytjojpohnmfkanaa
/- Where a key stands: first, place, Find. -/
namespace Go.Proofs.Ytjojpohnmfkanaa
open Go.RowKit
set_option linter.unusedVariables false

set_option maxHeartbeats 800000 in
set_option maxRecDepth 1000000 in
theorem equal_any {w : World} {a b : Option Addr} {n c m d : Nat} {xs ys : List Int} (h : Inn w a n c xs) (k : Inn w b m d ys) :
    Calls Try.prog 78 #[.slice a n c, .slice b m d] w fun e w' => e = .returned (.bool (decide (xs = ys))) ∧ w' = w := by
  have t1 := text_inn h
  have t2 := text_inn k
  have HE := hide (text_eq xs ys h.byts k.byts)
  have he := HE.out
  clear h k
  generalize decide (xs = ys) = B at *
  go_enter Try.func78, Try.ntmps78
  go_wp2
  go_ret
  exact ⟨by rw [← HE.out]; rfl, rfl⟩
theorem two_alloc {w : World} (o1 o2 : Obj) : Below w.heap.size w ((w.alloc o1).alloc o2) := ((Below.refl _ _).alloc (Nat.le_refl _) _).alloc (by simp) _
set_option maxHeartbeats 1600000 in
set_option maxRecDepth 1000000 in
theorem place1_first (q : Nat) (ka : Option Addr) (kn kc : Nat) (key : List Int) (a : Option Addr) (n c : Nat) (xs : List En) (w : World) (hq : w.cell? ⟨q, 0, none⟩ = some (.slice ka kn kc)) (hk : Inn w ka kn kc key) (h : Ens w a n c xs) (hn : n ≤ 1000000) :
    Calls Try.prog 66 #[.slice a n c, .func (.func 77) #[] #[.pointer (some ⟨q, 0, none⟩)]] w fun e w' => ∃ i : Nat, e = .returned (.int .i64 (i : Int)) ∧ At (pge key) xs i ∧ Below w.heap.size w w' := by
  have hmf : ∀ (fn : Fn) (first cap : Array Value) (w : World), (Instr.makeFunc fn first cap).run Try.prog w = .ok (.func fn first cap) w := fun _ _ _ _ => rfl
  have hB := two_alloc (w := w) (.cells #[.slice a n c] 23) (.cells #[.func (.func 77) #[] #[.pointer (some ⟨q, 0, none⟩)]] 130)
  have h1 : ((w.alloc (.cells #[.slice a n c] 23)).alloc (.cells #[.func (.func 77) #[] #[.pointer (some ⟨q, 0, none⟩)]] 130)).cell? ⟨w.heap.size, 0, none⟩ = some (.slice a n c) := one_below (cell_of_one (heap_alloc_new w _)) (below_alloc _ _)
  have h2 : ((w.alloc (.cells #[.slice a n c] 23)).alloc (.cells #[.func (.func 77) #[] #[.pointer (some ⟨q, 0, none⟩)]] 130)).cell? ⟨w.heap.size + 1, 0, none⟩ = some (.func (.func 77) #[] #[.pointer (some ⟨q, 0, none⟩)]) := by
    have := cell_of_one (heap_alloc_new (w.alloc (.cells #[.slice a n c] 23)) (.cells #[.func (.func 77) #[] #[.pointer (some ⟨q, 0, none⟩)]] 130))
    rwa [World.size_alloc] at this
  have HB := hide hB
  have HS := hide (place1_search q (w.heap.size + 1) w.heap.size ka kn kc key a n c xs _ (one_below hq hB) (hk.below hB) (h.below hB) hn h2 h1)
  clear h hk hq hB h1 h2
  go_enter Try.func66, Try.ntmps66
  go_wp2_with fail
  refine HS.out.mono ?_
  rintro e w2 ⟨i, rfl, hat, hb2⟩
  have HAt := hide hat
  clear hat
  go_wp2
  go_ret
  exact ⟨i, rfl, HAt.out, HB.out.trans (hb2.mono HB.out.size)⟩
set_option maxHeartbeats 1600000 in
set_option maxRecDepth 1000000 in
theorem Find1_first (q : Nat) (ka : Option Addr) (kn kc : Nat) (key : List Int) (a : Option Addr) (n c : Nat) (xs : List En) (w : World) (hq : w.cell? ⟨q, 0, none⟩ = some (.slice ka kn kc)) (hk : Inn w ka kn kc key) (h : Ens w a n c xs) (hn : n ≤ 1000000) :
    Calls Try.prog 66 #[.slice a n c, .func (.func 67) #[] #[.pointer (some ⟨q, 0, none⟩)]] w fun e w' => ∃ i : Nat, e = .returned (.int .i64 (i : Int)) ∧ At (pgt key) xs i ∧ Below w.heap.size w w' := by
  have hmf : ∀ (fn : Fn) (first cap : Array Value) (w : World), (Instr.makeFunc fn first cap).run Try.prog w = .ok (.func fn first cap) w := fun _ _ _ _ => rfl
  have hB := two_alloc (w := w) (.cells #[.slice a n c] 23) (.cells #[.func (.func 67) #[] #[.pointer (some ⟨q, 0, none⟩)]] 130)
  have h1 : ((w.alloc (.cells #[.slice a n c] 23)).alloc (.cells #[.func (.func 67) #[] #[.pointer (some ⟨q, 0, none⟩)]] 130)).cell? ⟨w.heap.size, 0, none⟩ = some (.slice a n c) := one_below (cell_of_one (heap_alloc_new w _)) (below_alloc _ _)
  have h2 : ((w.alloc (.cells #[.slice a n c] 23)).alloc (.cells #[.func (.func 67) #[] #[.pointer (some ⟨q, 0, none⟩)]] 130)).cell? ⟨w.heap.size + 1, 0, none⟩ = some (.func (.func 67) #[] #[.pointer (some ⟨q, 0, none⟩)]) := by
    have := cell_of_one (heap_alloc_new (w.alloc (.cells #[.slice a n c] 23)) (.cells #[.func (.func 67) #[] #[.pointer (some ⟨q, 0, none⟩)]] 130))
    rwa [World.size_alloc] at this
  have HB := hide hB
  have HS := hide (Find1_search q (w.heap.size + 1) w.heap.size ka kn kc key a n c xs _ (one_below hq hB) (hk.below hB) (h.below hB) hn h2 h1)
  clear h hk hq hB h1 h2
  go_enter Try.func66, Try.ntmps66
  go_wp2_with fail
  refine HS.out.mono ?_
  rintro e w2 ⟨i, rfl, hat, hb2⟩
  have HAt := hide hat
  clear hat
  go_wp2
  go_ret
  exact ⟨i, rfl, HAt.out, HB.out.trans (hb2.mono HB.out.size)⟩
/-- does the entry at i have that key? -/
def ther (xs : List En) (i : Nat) (key : List Int) : Bool := match xs[i]? with
  | some x => decide (x.e.key = key)
  | none => false
set_option maxHeartbeats 1600000 in
set_option maxRecDepth 1000000 in
theorem place_any (ka : Option Addr) (kn kc : Nat) (key : List Int) (a : Option Addr) (n c : Nat) (xs : List En) (w : World) (hk : Inn w ka kn kc key) (h : Ens w a n c xs) (hn : n ≤ 1000000) :
    Calls Try.prog 65 #[.slice a n c, .slice ka kn kc] w fun e w' => ∃ i : Nat, e = .returned (.tuple #[.int .i64 (i : Int), .bool (ther xs i key)]) ∧ At (pge key) xs i ∧ Below w.heap.size w w' := by
  have hmf : ∀ (fn : Fn) (first cap : Array Value) (w : World), (Instr.makeFunc fn first cap).run Try.prog w = .ok (.func fn first cap) w := fun _ _ _ _ => rfl
  have hB := below_alloc w (.cells #[.slice ka kn kc] 22)
  have h1 := cell_of_one (heap_alloc_new w (.cells #[.slice ka kn kc] 22))
  have HB := hide hB
  have HS := hide (place1_first w.heap.size ka kn kc key a n c xs _ h1 (hk.below hB) (h.below hB) hn)
  have HQ := hide h1
  have HK := hide (hk.below hB)
  have HE := hide (h.below hB)
  have hl := h.len
  clear h hk hB h1
  go_enter Try.func65, Try.ntmps65
  go_wp2_with fail
  refine HS.out.mono ?_
  rintro e w2 ⟨i, rfl, hat, hb2⟩
  have HAt := hide hat
  have HB2 := hide (HB.out.trans (hb2.mono HB.out.size))
  have hq2 := one_below HQ.out hb2
  by_cases hi : i < n
  · obtain ⟨x, hx, hok⟩ := (HE.out.below hb2).at hi
    obtain ⟨b, off, rfl, hbs, c0, c1, c2, c3⟩ := (HE.out.below hb2).cells hx
    have HT : Hid (ther xs i key = decide (x.e.key = key)) := by rw [Hid, ther, hx]
    have HEq := hide (equal_any (hok.key.below (Below.refl _ _).drew) ((HK.out.below hb2).below (Below.refl _ _).drew))
    have d1 : (i : Int) < (n : Int) := by omega
    clear hat hb2 hok hx
    generalize decide (x.e.key = key) = B at *
    have HQ2 := hide hq2
    have HC0 := hide c0
    go_wp2
    go_region_held3 (fun W => W.cell? ⟨w.heap.size, 0, none⟩ = some (.slice ka kn kc) ∧ W.cell? ⟨b, off + i * 4, none⟩ = some (.slice x.ka x.e.key.length x.kc)) ((refine ⟨?_, ?_⟩ <;> assumption)) ((first | (go_at_call 78; refine HEq.out.mono ?_; intro r' w3 hh; obtain ⟨rfl, rfl⟩ := hh)))
    go_wp2
    go_ret2
    exact ⟨i, by rw [HT.out]; rfl, HAt.out, below_drewN HB2.out 1⟩
  · have HT : Hid (ther xs i key = false) := by
      have : xs[i]? = none := List.getElem?_eq_none (by omega)
      rw [Hid, ther, this]
    have d1 : ¬ (i : Int) < (n : Int) := by omega
    clear hat hb2
    go_wp2
    go_quiet (fail)
    go_wp2
    go_ret2
    exact ⟨i, by rw [HT.out]; rfl, HAt.out, below_drewN HB2.out _⟩
end Go.Proofs.Ytjojpohnmfkanaa
