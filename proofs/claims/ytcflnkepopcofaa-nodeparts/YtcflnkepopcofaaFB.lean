/- Where a key stands: first, place, Find. -/
import Derived.Test.YtcflnkepopcofaaFA
namespace Go.Proofs.Ytcflnkepopcofaa
open Go.RowKit
set_option linter.unusedVariables false

set_option maxHeartbeats 800000 in
set_option maxRecDepth 1000000 in
theorem equal_any {w : World} {a b : Option Addr} {n c m d : Nat} {xs ys : List Int} (h : Inn w a n c xs) (k : Inn w b m d ys) :
    Calls Try.prog 46 #[.slice a n c, .slice b m d] w fun e w' => e = .returned (.bool (decide (xs = ys))) ∧ w' = w := by
  have t1 := text_inn h
  have t2 := text_inn k
  have HE := hide (text_eq xs ys h.byts k.byts)
  have he := HE.out
  clear h k
  generalize decide (xs = ys) = B at *
  go_enter Try.func46, Try.ntmps46
  go_wp2
  go_ret
  exact ⟨by rw [← HE.out]; rfl, rfl⟩
theorem two_alloc {w : World} (o1 o2 : Obj) : Below w.heap.size w ((w.alloc o1).alloc o2) := ((Below.refl _ _).alloc (Nat.le_refl _) _).alloc (by simp) _
set_option maxHeartbeats 1600000 in
set_option maxRecDepth 1000000 in
theorem place1_first (q : Nat) (ka : Option Addr) (kn kc : Nat) (key : List Int) (a : Option Addr) (n c : Nat) (xs : List En) (w : World) (hq : w.cell? ⟨q, 0, none⟩ = some (.slice ka kn kc)) (hk : Inn w ka kn kc key) (h : Ens w a n c xs) (hn : n ≤ 1000000) :
    Calls Try.prog 25 #[.slice a n c, .func (.func 45) #[] #[.pointer (some ⟨q, 0, none⟩)]] w fun e w' => ∃ i : Nat, e = .returned (.int .i64 (i : Int)) ∧ At (pge key) xs i ∧ Below w.heap.size w w' := by
  have hmf : ∀ (fn : Fn) (first cap : Array Value) (w : World), (Instr.makeFunc fn first cap).run Try.prog w = .ok (.func fn first cap) w := fun _ _ _ _ => rfl
  have hB := two_alloc (w := w) (.cells #[.slice a n c] 22) (.cells #[.func (.func 45) #[] #[.pointer (some ⟨q, 0, none⟩)]] 56)
  have h1 : ((w.alloc (.cells #[.slice a n c] 22)).alloc (.cells #[.func (.func 45) #[] #[.pointer (some ⟨q, 0, none⟩)]] 56)).cell? ⟨w.heap.size, 0, none⟩ = some (.slice a n c) := one_below (cell_of_one (heap_alloc_new w _)) (below_alloc _ _)
  have h2 : ((w.alloc (.cells #[.slice a n c] 22)).alloc (.cells #[.func (.func 45) #[] #[.pointer (some ⟨q, 0, none⟩)]] 56)).cell? ⟨w.heap.size + 1, 0, none⟩ = some (.func (.func 45) #[] #[.pointer (some ⟨q, 0, none⟩)]) := by
    have := cell_of_one (heap_alloc_new (w.alloc (.cells #[.slice a n c] 22)) (.cells #[.func (.func 45) #[] #[.pointer (some ⟨q, 0, none⟩)]] 56))
    rwa [World.size_alloc] at this
  have HB := hide hB
  have HS := hide (place1_search q (w.heap.size + 1) w.heap.size ka kn kc key a n c xs _ (one_below hq hB) (hk.below hB) (h.below hB) hn h2 h1)
  clear h hk hq hB h1 h2
  go_enter Try.func25, Try.ntmps25
  go_wp2_with fail
  refine HS.out.mono ?_
  rintro e w2 ⟨i, rfl, hat, hb2⟩
  have HAt := hide hat
  clear hat
  go_wp2
  go_ret
  exact ⟨i, rfl, HAt.out, HB.out.trans (hb2.mono HB.out.size)⟩
set_option maxHeartbeats 1600000 in
set_option maxRecDepth 1000000 in
theorem Find1_first (q : Nat) (ka : Option Addr) (kn kc : Nat) (key : List Int) (a : Option Addr) (n c : Nat) (xs : List En) (w : World) (hq : w.cell? ⟨q, 0, none⟩ = some (.slice ka kn kc)) (hk : Inn w ka kn kc key) (h : Ens w a n c xs) (hn : n ≤ 1000000) :
    Calls Try.prog 25 #[.slice a n c, .func (.func 26) #[] #[.pointer (some ⟨q, 0, none⟩)]] w fun e w' => ∃ i : Nat, e = .returned (.int .i64 (i : Int)) ∧ At (pgt key) xs i ∧ Below w.heap.size w w' := by
  have hmf : ∀ (fn : Fn) (first cap : Array Value) (w : World), (Instr.makeFunc fn first cap).run Try.prog w = .ok (.func fn first cap) w := fun _ _ _ _ => rfl
  have hB := two_alloc (w := w) (.cells #[.slice a n c] 22) (.cells #[.func (.func 26) #[] #[.pointer (some ⟨q, 0, none⟩)]] 56)
  have h1 : ((w.alloc (.cells #[.slice a n c] 22)).alloc (.cells #[.func (.func 26) #[] #[.pointer (some ⟨q, 0, none⟩)]] 56)).cell? ⟨w.heap.size, 0, none⟩ = some (.slice a n c) := one_below (cell_of_one (heap_alloc_new w _)) (below_alloc _ _)
  have h2 : ((w.alloc (.cells #[.slice a n c] 22)).alloc (.cells #[.func (.func 26) #[] #[.pointer (some ⟨q, 0, none⟩)]] 56)).cell? ⟨w.heap.size + 1, 0, none⟩ = some (.func (.func 26) #[] #[.pointer (some ⟨q, 0, none⟩)]) := by
    have := cell_of_one (heap_alloc_new (w.alloc (.cells #[.slice a n c] 22)) (.cells #[.func (.func 26) #[] #[.pointer (some ⟨q, 0, none⟩)]] 56))
    rwa [World.size_alloc] at this
  have HB := hide hB
  have HS := hide (Find1_search q (w.heap.size + 1) w.heap.size ka kn kc key a n c xs _ (one_below hq hB) (hk.below hB) (h.below hB) hn h2 h1)
  clear h hk hq hB h1 h2
  go_enter Try.func25, Try.ntmps25
  go_wp2_with fail
  refine HS.out.mono ?_
  rintro e w2 ⟨i, rfl, hat, hb2⟩
  have HAt := hide hat
  clear hat
  go_wp2
  go_ret
  exact ⟨i, rfl, HAt.out, HB.out.trans (hb2.mono HB.out.size)⟩
/-- does the entry at i have that key? -/
def ther (xs : List En) (i : Nat) (key : List Int) : Bool := match xs[i]? with
  | some x => decide (x.e.key = key)
  | none => false
set_option maxHeartbeats 1600000 in
set_option maxRecDepth 1000000 in
theorem place_any (ka : Option Addr) (kn kc : Nat) (key : List Int) (a : Option Addr) (n c : Nat) (xs : List En) (w : World) (hk : Inn w ka kn kc key) (h : Ens w a n c xs) (hn : n ≤ 1000000) :
    Calls Try.prog 20 #[.slice a n c, .slice ka kn kc] w fun e w' => ∃ i : Nat, e = .returned (.tuple #[.int .i64 (i : Int), .bool (ther xs i key)]) ∧ At (pge key) xs i ∧ Below w.heap.size w w' := by
  have hmf : ∀ (fn : Fn) (first cap : Array Value) (w : World), (Instr.makeFunc fn first cap).run Try.prog w = .ok (.func fn first cap) w := fun _ _ _ _ => rfl
  have hB := below_alloc w (.cells #[.slice ka kn kc] 25)
  have h1 := cell_of_one (heap_alloc_new w (.cells #[.slice ka kn kc] 25))
  have HB := hide hB
  have HS := hide (place1_first w.heap.size ka kn kc key a n c xs _ h1 (hk.below hB) (h.below hB) hn)
  have HQ := hide h1
  have HK := hide (hk.below hB)
  have HE := hide (h.below hB)
  have hl := h.len
  clear h hk hB h1
  go_enter Try.func20, Try.ntmps20
  go_wp2_with fail
  refine HS.out.mono ?_
  rintro e w2 ⟨i, rfl, hat, hb2⟩
  have HAt := hide hat
  have HB2 := hide (HB.out.trans (hb2.mono HB.out.size))
  have hq2 := one_below HQ.out hb2
  by_cases hi : i < n
  · obtain ⟨x, hx, hok⟩ := (HE.out.below hb2).at hi
    obtain ⟨b, off, rfl, hbs, c0, c1, c2, c3⟩ := (HE.out.below hb2).cells hx
    have HT : Hid (ther xs i key = decide (x.e.key = key)) := by rw [Hid, ther, hx]
    have HEq := hide (equal_any (hok.key.below (Below.refl _ _).drew) ((HK.out.below hb2).below (Below.refl _ _).drew))
    have d1 : (i : Int) < (n : Int) := by omega
    clear hat hb2 hok hx
    generalize decide (x.e.key = key) = B at *
    have HQ2 := hide hq2
    have HC0 := hide c0
    go_wp2
    go_region_held3 (fun W => W.cell? ⟨w.heap.size, 0, none⟩ = some (.slice ka kn kc) ∧ W.cell? ⟨b, off + i * 4, none⟩ = some (.slice x.ka x.e.key.length x.kc)) ((refine ⟨?_, ?_⟩ <;> assumption)) ((first | (go_at_call 46; refine HEq.out.mono ?_; intro r' w3 hh; obtain ⟨rfl, rfl⟩ := hh)))
    go_wp2
    go_ret2
    exact ⟨i, by rw [HT.out]; rfl, HAt.out, below_drewN HB2.out 1⟩
  · have HT : Hid (ther xs i key = false) := by
      have : xs[i]? = none := List.getElem?_eq_none (by omega)
      rw [Hid, ther, this]
    have d1 : ¬ (i : Int) < (n : Int) := by omega
    clear hat hb2
    go_wp2
    go_quiet (fail)
    go_wp2
    go_ret2
    exact ⟨i, by rw [HT.out]; rfl, HAt.out, below_drewN HB2.out _⟩
end Go.Proofs.Ytcflnkepopcofaa
