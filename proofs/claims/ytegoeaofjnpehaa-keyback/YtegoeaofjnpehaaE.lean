/- Contract of Check, of a value without lists that fits by itself. -/
import Derived.Test.YtegoeaofjnpehaaD
namespace Go.Proofs.Ytegoeaofjnpehaa
open Go.RowKit Go.Shelf
attribute [local go_sem] Oper.semAt_some
set_option linter.unusedVariables false

/-- Check's own memory: the value, the answer, the count. -/
structure Ck (b : Nat) (w V : World) (c0 c1 c2 c3 c4 : Value) (cnt : Int) : Prop where
  fr : Fr b w V
  box : Box7 V b c0 c1 c2 c3 c4 (.slice none 0 0) (.slice none 0 0)
  res : V.heap[b + 1]? = some (.cells #[.int .u16 0] 27 (0, 0))
  cn : V.heap[b + 1 + 1]? = some (.cells #[.int .i64 cnt] 3 (0, 0))
theorem Ck.on {b B : Nat} {w V V' : World} {c0 c1 c2 c3 c4 : Value} {cnt : Int} (h : Ck b w V c0 c1 c2 c3 c4 cnt) (hb : Below B V V') (hB : b + 1 + 1 < B) : Ck b w V' c0 c1 c2 c3 c4 cnt :=
  ⟨⟨h.fr.below.trans (hb.mono (by omega)), Nat.le_trans h.fr.size hb.size⟩, (hb.block _ (by omega)).trans h.box, (hb.block _ (by omega)).trans h.res, (hb.block _ (by omega)).trans h.cn⟩

theorem Ck.sz {b : Nat} {w V : World} {c0 c1 c2 c3 c4 : Value} {cnt : Int} (h : Ck b w V c0 c1 c2 c3 c4 cnt) : b + 1 + 1 < V.heap.size := lt_of_block h.cn
theorem Ck.start (w : World) (c0 c1 c2 c3 c4 : Value) : Ck w.heap.size w (((w.alloc (.cells #[c0, c1, c2, c3, c4, .slice none 0 0, .slice none 0 0] 41)).alloc (.cells #[.int .u16 0] 27)).alloc (.cells #[.int .i64 0] 3)) c0 c1 c2 c3 c4 0 := by
  refine ⟨(((Fr.refl w).alloc _).alloc _).alloc _, ((Box7.new w _ _ _ _ _ _ _).below (below_alloc _ _)).below (below_alloc _ _), ?_, ?_⟩
  · have := heap_alloc_new (w.alloc (.cells #[c0, c1, c2, c3, c4, .slice none 0 0, .slice none 0 0] 41)) (.cells #[.int .u16 0] 27)
    rw [World.size_alloc] at this
    exact (Below.heap_alloc _ _ _ (by simp)).trans this
  · have := heap_alloc_new ((w.alloc (.cells #[c0, c1, c2, c3, c4, .slice none 0 0, .slice none 0 0] 41)).alloc (.cells #[.int .u16 0] 27)) (.cells #[.int .i64 0] 3)
    rw [World.size_alloc, World.size_alloc] at this
    exact this
theorem Ck.count {b : Nat} {w V : World} {c0 c1 c2 c3 c4 : Value} {cnt : Int} (h : Ck b w V c0 c1 c2 c3 c4 cnt) (n : Int) : Ck b w (V.setCell ⟨b + 1 + 1, 0, none⟩ (.int .i64 n)) c0 c1 c2 c3 c4 n :=
  ⟨h.fr.set (by omega) _, (Below.heap_setCell _ _ _ _ (fun e => by have e' : b = b + 1 + 1 := e; omega)).trans h.box, (Below.heap_setCell _ _ _ _ (fun e => by have e' : b + 1 = b + 1 + 1 := e; omega)).trans h.res, one_setCell h.cn⟩

set_option maxHeartbeats 1600000 in
set_option maxRecDepth 1000000 in
theorem check_leaf (k : Int) (bo : Bool) (n : Int) (t : ByteArray) (a4 : Option Addr) (l4 q4 : Nat) (w : World)
    (HF : Hid (∀ W, Calls Try.prog 34 #[.agg #[(.int .u8 k), (.bool bo), (.int .i64 n), (.string t), (.slice a4 l4 q4), .slice none 0 0, .slice none 0 0]] W fun e w' => e = .returned (.int .u16 0) ∧ Below W.heap.size W w')) :
    Calls Try.prog 23 #[.agg #[(.int .u8 k), (.bool bo), (.int .i64 n), (.string t), (.slice a4 l4 q4), .slice none 0 0, .slice none 0 0]] w fun e w' => e = .returned (.int .u16 0) ∧ Below w.heap.size w w' := by
  refine (callsIn_wide (n := 9)).1 ?_
  refine callsIn_of_wp_marks Try.func23 rfl trivial ?_ rfl
  simp only [Try.ntmps23, List.size_toArray, List.length_cons, List.length_nil, Nat.reduceAdd, Nat.reduceSub, Array.replicate_succ, Array.replicate_zero, List.push_toArray, List.append_toArray, List.nil_append, List.cons_append]
  gi_wp2
  refine ⟨trivial, (callsIn_wide.2 (parts_any _ _ _ _ _ _ _ _)).mono ?_⟩
  rintro e w' ⟨rfl, rfl⟩
  have HC0 := hide (Ck.start w (.int .u8 k) (.bool bo) (.int .i64 n) (.string t) (.slice a4 l4 q4))
  gi_wp2
  generalize hX0 : ((w.alloc (.cells #[(.int .u8 k), (.bool bo), (.int .i64 n), (.string t), (.slice a4 l4 q4), .slice none 0 0, .slice none 0 0] 41)).alloc (.cells #[.int .u16 0] 27)).alloc (.cells #[.int .i64 0] 3) = X0 at *
  have hsx : X0.heap.size = w.heap.size + 1 + 1 + 1 := by rw [← hX0]; simp
  clear hX0
  rw [← hsx]
  have HG := hide (parts_goes X0.heap.size (.int .u8 k) (.bool bo) (.int .i64 n) (.string t) (.slice a4 l4 q4) _ (Box7.new X0 (.int .u8 k) (.bool bo) (.int .i64 n) (.string t) (.slice a4 l4 q4) (.slice none 0 0) (.slice none 0 0)))
  have HC1 := hide (HC0.out.on (below_alloc X0 (.cells #[(.int .u8 k), (.bool bo), (.int .i64 n), (.string t), (.slice a4 l4 q4), .slice none 0 0, .slice none 0 0] 41)) (by omega))
  have hsx1 : X0.heap.size < (X0.alloc (.cells #[(.int .u8 k), (.bool bo), (.int .i64 n), (.string t), (.slice a4 l4 q4), .slice none 0 0, .slice none 0 0] 41)).heap.size := by simp
  generalize X0.alloc (.cells #[(.int .u8 k), (.bool bo), (.int .i64 n), (.string t), (.slice a4 l4 q4), .slice none 0 0, .slice none 0 0] 41) = X1 at *
  rw [hsx] at hsx1 HG ⊢
  clear hsx HC0
  generalize hb : w.heap.size = b at *
  have HBB := hide hb
  clear hb
  refine range_gen (gf := 44) (lb := #[.pointer (some ⟨b + 1 + 1 + 1, 0, none⟩)]) rfl (enters_of Try.func44 (by kernel_rfl) rfl)
    HG.out (fun _ => rfl)
    (fun pre V => Ck b w V (.int .u8 k) (.bool bo) (.int .i64 n) (.string t) (.slice a4 l4 q4) (pre.length : Int) ∧ X1.heap.size ≤ V.heap.size) (fun _ _ => False) (fun _ _ _ h hb => ⟨h.1.on hb (by omega), Nat.le_trans h.2 hb.size⟩) (fun _ _ _ h _ => h) ⟨HC1.out, Nat.le_refl _⟩
    (fun _ a' _ => a' = { tmps := #[.agg #[(.int .u8 k), (.bool bo), (.int .i64 n), (.string t), (.slice a4 l4 q4), .slice none 0 0, .slice none 0 0], .pointer (some ⟨b, 0, none⟩), .pointer (some ⟨b + 1, 0, none⟩), .pointer (some ⟨b + 1 + 1, 0, none⟩), .int .i64 1, undef, undef, undef, .agg #[(.int .u8 k), (.bool bo), (.int .i64 n), (.string t), (.slice a4 l4 q4), .slice none 0 0, .slice none 0 0], .func (.func 44) #[] #[.pointer (some ⟨b + 1 + 1 + 1, 0, none⟩)], .int .i64 1, .agg #[(.int .u8 k), (.bool bo), (.int .i64 n), (.string t), (.slice a4 l4 q4), .slice none 0 0, .slice none 0 0], undef, undef, undef, undef, undef, undef, undef, undef, undef, undef, undef, undef, undef, undef, undef], defers := [] }) (fun _ _ _ _ _ _ h _ => h) ?assign ?body ?done ?stop
  case stop => exact fun _ _ _ _ h => h.elim
  case assign =>
    intro l pre x V K hi hK
    gi_wp2
    exact hK _ _ hi (AB.refl _ _) rfl
  case body =>
    rintro l pre x rest a' V hx ⟨hi, hs⟩ rfl
    have hn : pre.length = 0 := by have := congrArg List.length hx; simp at this; omega
    have g3 := cell_of_one hi.cn
    have f3 := free_of_one hi.cn
    rw [hn] at g3
    have HI := hide hi
    have HN := hide hn
    clear hi hn hx
    gi_wp2
    refine ⟨⟨?_, by simpa [World.setCell] using hs⟩, AB.set _ _ (by omega)⟩
    rw [List.length_append, HN.out]
    exact HI.out.count 1
  case done =>
    rintro D V hD ⟨hi, hs⟩ hK
    have HI := hide hi
    have HK := hide hK
    obtain ⟨k0, k1, k2, k3, k4, k5, k6⟩ := hi.box.cells
    have g3 := cell_of_one hi.cn
    clear hi hK
    gi_wp2
    refine ⟨trivial, (callsIn_wide.2 (parts_any _ _ _ _ _ _ _ _)).mono ?_⟩
    rintro e w' ⟨rfl, rfl⟩
    gi_wp2
    have HG2 := hide (parts_goes V.heap.size (.int .u8 k) (.bool bo) (.int .i64 n) (.string t) (.slice a4 l4 q4) _ (Box7.new V (.int .u8 k) (.bool bo) (.int .i64 n) (.string t) (.slice a4 l4 q4) (.slice none 0 0) (.slice none 0 0)))
    have HI2 := hide (HI.out.on (below_alloc V (.cells #[(.int .u8 k), (.bool bo), (.int .i64 n), (.string t), (.slice a4 l4 q4), .slice none 0 0, .slice none 0 0] 41)) (by omega))
    have HK2 := hide ((Below.heap_alloc V (.cells #[(.int .u8 k), (.bool bo), (.int .i64 n), (.string t), (.slice a4 l4 q4), .slice none 0 0, .slice none 0 0] 41) D (lt_of_block HK.out)).trans HK.out)
    have hDV := lt_of_block HK.out
    have hsx2 : V.heap.size < (V.alloc (.cells #[(.int .u8 k), (.bool bo), (.int .i64 n), (.string t), (.slice a4 l4 q4), .slice none 0 0, .slice none 0 0] 41)).heap.size := by simp
    generalize V.alloc (.cells #[(.int .u8 k), (.bool bo), (.int .i64 n), (.string t), (.slice a4 l4 q4), .slice none 0 0, .slice none 0 0] 41) = X2 at *
    clear k0 k1 k2 k3 k4 k5 k6 g3 HI HK
    refine range_gen (gf := 44) (lb := #[.pointer (some ⟨V.heap.size, 0, none⟩)]) rfl (enters_of Try.func44 (by kernel_rfl) rfl)
      HG2.out (fun _ => rfl)
      (fun pre W => Ck b w W (.int .u8 k) (.bool bo) (.int .i64 n) (.string t) (.slice a4 l4 q4) 1 ∧ X2.heap.size ≤ W.heap.size ∧ W.heap[D]? = some (.deferred (some []))) (fun _ _ => False) (fun _ _ _ h hb => ⟨h.1.on hb (by omega), Nat.le_trans h.2.1 hb.size, (hb.block _ (by omega)).trans h.2.2⟩) (fun _ _ _ h _ => h) ⟨HI2.out, Nat.le_refl _, HK2.out⟩
      (fun _ a' W => ∃ p, Box7 W p (.int .u8 k) (.bool bo) (.int .i64 n) (.string t) (.slice a4 l4 q4) (.slice none 0 0) (.slice none 0 0) ∧ a' = { tmps := #[.agg #[(.int .u8 k), (.bool bo), (.int .i64 n), (.string t), (.slice a4 l4 q4), .slice none 0 0, .slice none 0 0], .pointer (some ⟨b, 0, none⟩), .pointer (some ⟨b + 1, 0, none⟩), .pointer (some ⟨b + 1 + 1, 0, none⟩), undef, undef, .pointer (some ⟨p, 0, none⟩), undef, .agg #[(.int .u8 k), (.bool bo), (.int .i64 n), (.string t), (.slice a4 l4 q4), .slice none 0 0, .slice none 0 0], .func (.func 44) #[] #[.pointer (some ⟨b + 1 + 1 + 1, 0, none⟩)], undef, undef, undef, undef, undef, undef, .int .i64 1, .bool false, .agg #[(.int .u8 k), (.bool bo), (.int .i64 n), (.string t), (.slice a4 l4 q4), .slice none 0 0, .slice none 0 0], .func (.func 44) #[] #[.pointer (some ⟨V.heap.size, 0, none⟩)], .int .i64 1, .agg #[(.int .u8 k), (.bool bo), (.int .i64 n), (.string t), (.slice a4 l4 q4), .slice none 0 0, .slice none 0 0], undef, undef, undef, undef, undef], defers := [] })
      (fun _ _ W l r o h hl => by
        obtain ⟨p, hp, ha⟩ := h
        refine ⟨p, (World.putObj_heap_other (fun e => ?_)).trans hp, ha⟩
        subst e
        unfold Box7 at hp
        rw [hl] at hp
        cases hp) ?assign2 ?body2 ?done2 ?stop2
    case stop2 => exact fun _ _ _ _ h => h.elim
    case assign2 =>
      rintro l pre x W K ⟨h1, h2, h3⟩ hK
      gi_wp2
      have hb := below_alloc W (.cells #[(.int .u8 k), (.bool bo), (.int .i64 n), (.string t), (.slice a4 l4 q4), .slice none 0 0, .slice none 0 0] 41)
      exact hK _ _ ⟨h1.on hb (by omega), Nat.le_trans h2 hb.size, (hb.block _ (by omega)).trans h3⟩ (AB.of_below hb) ⟨_, Box7.new W _ _ _ _ _ _ _, rfl⟩
    case body2 =>
      rintro l pre x rest a' W hx ⟨h1, h2, h3⟩ ⟨p, hp, rfl⟩
      obtain ⟨k0, k1, k2, k3, k4, k5, k6⟩ := hp.cells
      have H1 := hide h1
      have H3 := hide h3
      clear hx h1 h3 hp
      gi_wp2
      refine ⟨trivial, (CallsIn.inRound l (callsIn_wide.2 (HF.out _))).mono ?_⟩
      rintro e W1 ⟨rfl, hb⟩
      have HB := hide hb
      clear hb k0 k1 k2 k3 k4 k5 k6
      gi_wp2
      exact ⟨⟨H1.out.on HB.out (by omega), Nat.le_trans h2 HB.out.size, (HB.out.block _ (lt_of_block H3.out)).trans H3.out⟩, AB.of_below HB.out⟩
    case done2 =>
      rintro D2 W hD2 ⟨h1, h2, h3⟩ hK2
      have g2 := cell_of_one h1.res
      have f2 := free_of_one h1.res
      have H1 := hide h1
      have H3 := hide h3
      have HKK := hide hK2
      clear h1 h3 hK2
      gi_wp2
      have h2' : (W.setCell ⟨b + 1, 0, none⟩ (.int .u16 0)).heap[D2]? = some (.deferred (some [])) := (Below.heap_setCell _ _ _ _ (fun e => by have e' : D2 = b + 1 := e; omega)).trans HKK.out
      have h3' : (W.setCell ⟨b + 1, 0, none⟩ (.int .u16 0)).heap[D]? = some (.deferred (some [])) := (Below.heap_setCell _ _ _ _ (fun e => by have e' : D = b + 1 := e; omega)).trans H3.out
      have h4' : ((W.setCell ⟨b + 1, 0, none⟩ (.int .u16 0)).putObj D2 (.deferred none)).heap[D]? = some (.deferred (some [])) := (World.putObj_heap_other (by omega)).trans h3'
      refine ⟨by simp, .inl ⟨_, _, rfl, run_takeDeferred h2', by simp, .inl ⟨_, _, rfl, run_takeDeferred h4', ?_⟩⟩⟩
      have hc : (((W.setCell ⟨b + 1, 0, none⟩ (.int .u16 0)).putObj D2 (.deferred none)).putObj D (.deferred none)).cell? ⟨b + 1, 0, none⟩ = some (.int .u16 0) :=
        cell_of_one ((World.putObj_heap_other (by omega)).trans ((World.putObj_heap_other (by omega)).trans (one_setCell (u := .int .u16 0) H1.out.res)))
      refine ⟨.int .u16 0, ?_, rfl, ?_⟩
      · simp [results, Try.results23, go_sem, hc]
      · rw [HBB.out]
        refine (H1.out.fr.below.setCell (p := ⟨b + 1, 0, none⟩) (by simp) (.int .u16 0)).trans ?_
        exact (below_put _ _ _ (by omega) (lt_of_block h2')).trans (below_put _ _ _ (by omega) (lt_of_block h4'))
theorem checkT (w : World) : Calls Try.prog 23 #[vT ⟨#[97]⟩] w fun e w' => e = .returned (.int .u16 0) ∧ Below w.heap.size w w' := check_leaf 4 false 0 ⟨#[97]⟩ none 0 0 w (fun W => fitsT W)
theorem checkI (n : Int) (w : World) : Calls Try.prog 23 #[vI n] w fun e w' => e = .returned (.int .u16 0) ∧ Below w.heap.size w w' := check_leaf 3 false n ⟨#[]⟩ none 0 0 w (fun W => fitsI n W)
end Go.Proofs.Ytegoeaofjnpehaa
