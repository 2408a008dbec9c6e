/- Pages that differ; which nodes may be; Check. -/
import Derived.Test.YtcflnkepopcofaaCC
namespace Go.Proofs.Ytcflnkepopcofaa
open Go.RowKit
set_option linter.unusedVariables false

def lit32 (p : Nat) : Lit := .int .u32 (p : Int)
theorem same_lit (a b : Nat) : (lit32 a).sameKey (lit32 b) = decide (a = b) := by
  by_cases h : a = b
  · subst h; simp [lit32, Lit.sameKey]
  · have : ¬ (a : Int) = (b : Int) := by omega
    simp [lit32, Lit.sameKey, h, this]
theorem any_lit (x : Nat) (acc : List Nat) : (acc.map lit32).any (fun y => y.sameKey (lit32 x)) = decide (x ∈ acc) := by
  induction acc with
  | nil => simp
  | cons y ys ih =>
    rw [List.map_cons, List.any_cons, ih, same_lit]
    by_cases h : y = x
    · subst h; simp
    · have h' : ¬ x = y := fun e => h e.symm
      simp [h, h']
theorem fold_len (l : List Nat) : ∀ acc : List Nat, ((l.map lit32).foldl Maps.addKey (acc.map lit32)).length ≤ acc.length + l.length ∧ (((l.map lit32).foldl Maps.addKey (acc.map lit32)).length = acc.length + l.length ↔ (l.Nodup ∧ ∀ x ∈ l, x ∉ acc)) := by
  induction l with
  | nil => intro acc; simp
  | cons x l ih =>
    intro acc
    rw [List.map_cons, List.foldl_cons]
    have e : Maps.addKey (acc.map lit32) (lit32 x) = (if x ∈ acc then acc else acc ++ [x]).map lit32 := by
      unfold Maps.addKey
      rw [any_lit]
      by_cases h : x ∈ acc <;> simp [h]
    rw [e]
    by_cases h : x ∈ acc
    · rw [if_pos h]
      obtain ⟨h1, h2⟩ := ih acc
      rw [List.length_cons]
      refine ⟨by omega, ⟨fun he => by omega, fun hn => absurd h (hn.2 x (by simp))⟩⟩
    · rw [if_neg h]
      obtain ⟨h1, h2⟩ := ih (acc ++ [x])
      rw [List.length_append, List.length_singleton] at h1 h2
      rw [List.length_cons]
      refine ⟨by omega, ?_⟩
      rw [show acc.length + (l.length + 1) = acc.length + 1 + l.length by omega, h2]
      constructor
      · rintro ⟨a1, a2⟩
        refine ⟨List.nodup_cons.2 ⟨fun hx => ?_, a1⟩, fun y hy => ?_⟩
        · exact a2 x hx (by simp)
        · rcases List.mem_cons.1 hy with rfl | hy
          · exact h
          · exact fun hya => a2 y hy (by simp [hya])
      · rintro ⟨a1, a2⟩
        obtain ⟨b1, b2⟩ := List.nodup_cons.1 a1
        refine ⟨b2, fun y hy hm => ?_⟩
        rcases List.mem_append.1 hm with hm | hm
        · exact a2 y (by simp [hy]) hm
        · simp at hm; subst hm; exact b1 hy
/-- the pages of the first k entries, as a set. -/
def Sn (xs : List En) (k : Nat) : DataW Unit := Maps.setOf (.agg []) (((ers (xs.take k)).map Ee.page).map lit32)
theorem Sn_zero (xs : List En) : Sn xs 0 = .map [] := by simp [Sn, ers, Maps.setOf]
theorem Sn_succ (xs : List En) (k : Nat) (x : En) (h : xs[k]? = some x) : Sn xs (k + 1) = (Sn xs k).put (lit32 x.e.page) (.agg []) := by
  unfold Sn
  rw [take_at h, ers_app, List.map_append, List.map_append]
  exact Maps.setOf_snoc _ _ _
theorem Sn_size (xs : List En) : decide (((Maps.size (Sn xs xs.length) : Nat) : Int) = (xs.length : Int)) = decide ((ers xs).map Ee.page).Nodup := by
  have h := Maps.size_setOf (H := Unit) (.agg []) (((ers xs).map Ee.page).map lit32) (by
    intro x hx
    obtain ⟨p, _, rfl⟩ := List.mem_map.1 hx
    exact trivial)
  have h2 := (fold_len ((ers xs).map Ee.page) []).2
  simp only [List.map_nil, List.length_nil, Nat.zero_add, List.length_map, ers_len] at h2
  have e : Sn xs xs.length = Maps.setOf (.agg []) (((ers xs).map Ee.page).map lit32) := by unfold Sn; rw [List.take_length]
  rw [e, h]
  by_cases hn : ((ers xs).map Ee.page).Nodup
  · rw [h2.2 ⟨hn, fun x _ => by simp⟩]; simp [hn]
  · have : ¬ ((((ers xs).map Ee.page).map lit32).foldl Maps.addKey []).length = xs.length := fun he => hn (h2.1 he).1
    rw [decide_eq_false hn, decide_eq_false_iff_not]
    intro he
    exact this (by omega)
theorem law32 : Maps.Keyed Try.prog 26 := Maps.int_keyed Try.underlying26
theorem key32 (p : Nat) (hp : p < 4294967296) : keyOf Try.prog 26 (.int .u32 (p : Int)) = some (lit32 p) := Maps.keyOf_int_mk Try.underlying26 (by simp only [Lit.wf]; simp [show IntKind.u32.min = 0 from rfl, show IntKind.u32.max = 4294967295 from rfl]; omega)
set_option maxHeartbeats 1600000 in
set_option maxRecDepth 1000000 in
theorem pages_any (a : Option Addr) (n c : Nat) (xs : List En) (w : World) (h : Ens w a n c xs) (hn : n ≤ 1000000) :
    Calls Try.prog 44 #[.slice a n c] w fun e w' => e = .returned (.bool (decide ((ers xs).map Ee.page).Nodup)) ∧ Below w.heap.size w w' := by
  have hmm := @run_makeMap Try.prog
  have HE := hide h
  have HB1 := hide (below_alloc w (.map #[] 0))
  have HM0 : Hid ((w.alloc (.map #[] 0)).ownsMap Try.prog 26 (unitElem (H := Unit)) w.heap.size 0 (Sn xs 0)) := by rw [Sn_zero]; exact World.ownsMap_made _ _ _ _
  have HSz := hide (Sn_size xs)
  clear h
  go_enter Try.func44, Try.ntmps44
  go_wp2
  go_loopw [9] (fun i wr => ∃ k : Nat, k ≤ n ∧ i = .int .i64 (k : Int) ∧ wr.ownsMap Try.prog 26 (unitElem (H := Unit)) w.heap.size k (Sn xs k) ∧ Below w.heap.size w wr) (fun i _ => n - (intOf i).toNat)
  case atStart => exact ⟨0, Nat.zero_le _, rfl, HM0.out, HB1.out⟩
  case round =>
    obtain ⟨k, hk, rfl, hown, hbl⟩ := hrel
    have HBl := hide hbl
    by_cases hlt : k < n
    · obtain ⟨x, hx, hok⟩ := (HE.out.below hbl).at hlt
      obtain ⟨b, off, rfl, hbs, c0, c1, c2, c3⟩ := (HE.out.below hbl).cells hx
      have hkey := key32 x.e.page hok.page
      have hown2 := hown.alloc (.cells #[.slice x.ka x.e.key.length x.kc, .slice x.va x.e.val.length x.vc, .int .u32 (x.e.page : Int), .int .u32 (x.e.size : Int)] 28)
      have hBn := below_alloc wr (.cells #[.slice x.ka x.e.key.length x.kc, .slice x.va x.e.val.length x.vc, .int .u32 (x.e.page : Int), .int .u32 (x.e.size : Int)] 28)
      have HBn := hide (hbl.trans (hBn.mono hbl.size))
      have HSn := hide (Sn_succ xs k x hx)
      clear hok hbl hBn hx hown
      go_wp2_with (first
        | (at_mapUpdate; refine wpList_mapUpdate_own _ rfl _ _ _ 90 rfl 26 81 law32 Try.underlying90 (unitElem (H := Unit)) w.heap.size k _ rfl hown2 (by unfold maxLen; omega) _ _ _ rfl rfl hkey _ [] unitElem_mk ?_; intro w1 hown1 hgrow1)
        | go_in)
      go_roundw
      case rel => exact ⟨k + 1, by omega, by go_num, by rw [HSn.out]; exact hown1, HBn.out.grown hgrow1 HBn.out.size (fun j hj => by cases hj; exact Nat.le_refl _)⟩
      case measure => simp [intOf]; omega
    · obtain rfl : k = n := by omega
      have hkl := HE.out.len
      have HKl := hide hkl
      go_wp2_with (first
        | (at_len; refine wpList_len_own _ rfl _ 90 rfl 26 81 Try.underlying90 _ w.heap.size k _ rfl hown ?_)
        | go_in)
      go_ret
      exact ⟨by rw [← HSz.out, HKl.out]; rfl, HBl.out⟩
end Go.Proofs.Ytcflnkepopcofaa
