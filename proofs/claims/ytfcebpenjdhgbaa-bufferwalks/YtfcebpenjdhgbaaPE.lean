/- What comes first behind a place, of the pairs that lie below. -/
import Derived.Test.YtfcebpenjdhgbaaPD
namespace Go.Proofs.Ytfcebpenjdhgbaa
open Go.RowKit Go.Maps
set_option linter.unusedVariables false

/-- a pair that lies elsewhere. -/
def SharedOut (w : World) (o : Option Ee) (r : Ending) (w' : World) : Prop := ∃ y : En, r = .returned (.tuple #[.agg #[.slice y.ka y.e.key.length y.kc, .slice y.va y.e.val.length y.vc], .bool o.isSome]) ∧ y.e.key = (o.getD zeE).key ∧ y.e.val = (o.getD zeE).val ∧ y.Ok w' ∧ Below w.heap.size w w'

set_option maxHeartbeats 3200000 in
set_option maxRecDepth 1000000 in
theorem after_any (a fa : Option Addr) (n c fn fc : Nat) (us : List En) (frm : List Int) (inn : Bool) (w : World) (h : Prs w a n c us) (hf : Inn w fa fn fc frm) (hn : n ≤ 1000000) (o : Option Ee) (ho : o = (ers us).find? (fun e => bhU e.key frm inn)) :
    Calls Try.prog 30 #[.slice a n c, .slice fa fn fc, .bool inn] w (SharedOut w o) := by
  obtain ⟨w1, hw1⟩ : ∃ w1, w1 = w.alloc (.cells #[.slice none 0 0, .slice none 0 0] 40) := ⟨_, rfl⟩
  have hB1 : Below w.heap.size w w1 := by rw [hw1]; exact below_alloc _ _
  have hz1 : w1.heap[w.heap.size]? = some (.cells #[.slice none 0 0, .slice none 0 0] 40 (0, 0)) := by rw [hw1]; exact heap_alloc_new w _
  have HE := hide (h.below hB1)
  have HEw := hide h
  have HF := hide (hf.below hB1)
  have HB1 := hide hB1
  have Hz1 := hide hz1
  have HO := hide ho
  obtain ⟨z0, z1, zf⟩ := cells_two hz1
  have zf1 : w1.frozen? ⟨w.heap.size, 1, none⟩ = false := by simp [World.frozen?, hz1]
  have hcap := h.cap
  have hmax := h.max
  clear h hf hB1 hz1 ho
  subst hw1
  go_enter Try.func30, Try.ntmps30
  go_wp2
  go_loopw [8] (fun vi wr => ∃ (k : Nat), k ≤ n ∧ vi = .int .i64 (k : Int) ∧ o = ((ers us).drop k).find? (fun e => bhU e.key frm inn) ∧ wr = w.alloc (.cells #[.slice none 0 0, .slice none 0 0] 40)) (fun vi _ => n - (intOf vi).toNat)
  case atStart => exact ⟨0, Nat.zero_le _, rfl, HO.out, rfl⟩
  case round =>
    obtain ⟨k, hk, rfl, hoo, rfl⟩ := hrel
    have HOO := hide hoo
    clear hoo
    by_cases hlt : k < n
    · obtain ⟨x, b, off, hx, rfl, hbs, c0, c1, hok⟩ := HE.out.at hlt
      have d1 : (k : Int) < (n : Int) := by omega
      have d0 : (0 : Int) ≤ (k : Int) := by omega
      have hrem : (ers us).drop k = x.e :: (ers us).drop (k + 1) := drop_at (ers_at hx)
      rw [hrem] at HOO
      have HR := hide (rabove_any x.ka fa x.e.key.length x.kc fn fc x.e.key frm inn _ hok.key HF.out)
      have HOK := hide (HEw.out.each x (List.mem_of_getElem? hx))
      clear hok hrem hx
      rcases Bool.eq_false_or_eq_true (bhU x.e.key frm inn) with hp | hp
      · have hoo : o = some x.e := by rw [HOO.out, List.find?_cons, hp]
        subst hoo
        rw [hp] at HR
        clear hp
        go_wp2_with (go_at_call 42; refine HR.out.mono ?_; rintro e w2 ⟨rfl, rfl⟩)
        refine bodyPost_ret (v := .tuple #[.agg #[.slice x.ka x.e.key.length x.kc, .slice x.va x.e.val.length x.vc], .bool true]) ?_ rfl ?_
        · simp [results, Try.results30, go_sem]
        · exact ⟨x, rfl, rfl, rfl, HOK.out.below (below_alloc w _), below_alloc w _⟩
      · have hoo : o = ((ers us).drop (k + 1)).find? (fun e => bhU e.key frm inn) := by rw [HOO.out, List.find?_cons, hp]
        rw [hp] at HR
        clear hp
        go_wp2_with (go_at_call 42; refine HR.out.mono ?_; rintro e w2 ⟨rfl, rfl⟩)
        refine ⟨⟨k + 1, by omega, by go_num, hoo, trivial⟩, ?_⟩
        simp [intOf]; omega
    · have ek : k = n := by omega
      subst ek
      have hnil : (ers us).drop k = [] := List.drop_of_length_le (by rw [ers_len, HE.out.len]; exact Nat.le_refl _)
      have d1 : ¬ ((k : Int) < (k : Int)) := by omega
      have d0 : (0 : Int) ≤ (k : Int) := by omega
      rw [hnil] at HOO
      have hoo : o = none := HOO.out
      subst hoo
      go_wp2
      refine bodyPost_ret (v := .tuple #[.agg #[.slice none 0 0, .slice none 0 0], .bool false]) ?_ rfl ?_
      · simp [results, Try.results30, go_sem, z0, z1]
      · exact ⟨⟨zeE, none, 0, none, 0⟩, rfl, rfl, rfl, ⟨inn_nil _, inn_nil _⟩, HB1.out⟩

set_option maxHeartbeats 3200000 in
set_option maxRecDepth 1000000 in
theorem before_any (a fa : Option Addr) (n c fn fc : Nat) (us : List En) (frm : List Int) (inn : Bool) (w : World) (h : Prs w a n c us) (hf : Inn w fa fn fc frm) (hn : n ≤ 1000000) (o : Option Ee) (ho : o = (ers us).reverse.find? (fun e => bhD e.key frm inn)) :
    Calls Try.prog 34 #[.slice a n c, .slice fa fn fc, .bool inn] w (SharedOut w o) := by
  obtain ⟨w1, hw1⟩ : ∃ w1, w1 = w.alloc (.cells #[.slice none 0 0, .slice none 0 0] 40) := ⟨_, rfl⟩
  have hB1 : Below w.heap.size w w1 := by rw [hw1]; exact below_alloc _ _
  have hz1 : w1.heap[w.heap.size]? = some (.cells #[.slice none 0 0, .slice none 0 0] 40 (0, 0)) := by rw [hw1]; exact heap_alloc_new w _
  have HE := hide (h.below hB1)
  have HEw := hide h
  have HF := hide (hf.below hB1)
  have HB1 := hide hB1
  have Hz1 := hide hz1
  have HO := hide ho
  obtain ⟨z0, z1, zf⟩ := cells_two hz1
  have zf1 : w1.frozen? ⟨w.heap.size, 1, none⟩ = false := by simp [World.frozen?, hz1]
  have hcap := h.cap
  have hmax := h.max
  clear h hf hB1 hz1 ho
  subst hw1
  go_enter Try.func34, Try.ntmps34
  go_wp2
  go_loopw [8] (fun vi wr => ∃ (k : Nat), k ≤ n ∧ vi = .int .i64 ((k : Int) - 1) ∧ o = (((ers us).take k).reverse).find? (fun e => bhD e.key frm inn) ∧ wr = w.alloc (.cells #[.slice none 0 0, .slice none 0 0] 40)) (fun vi _ => (intOf vi + 1).toNat)
  case atStart => exact ⟨n, Nat.le_refl _, rfl, by rw [List.take_of_length_le (by rw [ers_len, HE.out.len]; exact Nat.le_refl _)]; exact HO.out, rfl⟩
  case round =>
    obtain ⟨k, hk, rfl, hoo, rfl⟩ := hrel
    have HOO := hide hoo
    clear hoo
    by_cases hlt : 0 < k
    · obtain ⟨k, rfl⟩ : ∃ j, k = j + 1 := ⟨k - 1, by omega⟩
      obtain ⟨x, b, off, hx, rfl, hbs, c0, c1, hok⟩ := HE.out.at (k := k) (by omega)
      have ek : (((k + 1 : Nat) : Int) - 1) = (k : Int) := by omega
      rw [ek]
      have d1 : (k : Int) < (n : Int) := by omega
      have d0 : (0 : Int) ≤ (k : Int) := by omega
      have hrem : ((ers us).take (k + 1)).reverse = x.e :: ((ers us).take k).reverse := by rw [take_at (ers_at hx), List.reverse_append]; rfl
      rw [hrem] at HOO
      have HR := hide (rbelow_any x.ka fa x.e.key.length x.kc fn fc x.e.key frm inn _ hok.key HF.out)
      have HOK := hide (HEw.out.each x (List.mem_of_getElem? hx))
      clear hok hrem hx
      rcases Bool.eq_false_or_eq_true (bhD x.e.key frm inn) with hp | hp
      · have hoo : o = some x.e := by rw [HOO.out, List.find?_cons, hp]
        subst hoo
        rw [hp] at HR
        clear hp
        go_wp2_with (go_at_call 44; refine HR.out.mono ?_; rintro e w2 ⟨rfl, rfl⟩)
        refine bodyPost_ret (v := .tuple #[.agg #[.slice x.ka x.e.key.length x.kc, .slice x.va x.e.val.length x.vc], .bool true]) ?_ rfl ?_
        · simp [results, Try.results34, go_sem]
        · exact ⟨x, rfl, rfl, rfl, HOK.out.below (below_alloc w _), below_alloc w _⟩
      · have hoo : o = (((ers us).take k).reverse).find? (fun e => bhD e.key frm inn) := by rw [HOO.out, List.find?_cons, hp]
        rw [hp] at HR
        clear hp
        go_wp2_with (go_at_call 44; refine HR.out.mono ?_; rintro e w2 ⟨rfl, rfl⟩)
        refine ⟨⟨k, by omega, by go_num, hoo, trivial⟩, ?_⟩
        simp [intOf]
    · obtain rfl : k = 0 := by omega
      have hnil : ((ers us).take 0).reverse = [] := rfl
      have d0 : ¬ ((0 : Int) ≤ ((0 : Nat) : Int) - 1) := by omega
      rw [hnil] at HOO
      have hoo : o = none := HOO.out
      subst hoo
      go_wp2
      refine bodyPost_ret (v := .tuple #[.agg #[.slice none 0 0, .slice none 0 0], .bool false]) ?_ rfl ?_
      · simp [results, Try.results34, go_sem, z0, z1]
      · exact ⟨⟨zeE, none, 0, none, 0⟩, rfl, rfl, rfl, ⟨inn_nil _, inn_nil _⟩, HB1.out⟩
end Go.Proofs.Ytfcebpenjdhgbaa
