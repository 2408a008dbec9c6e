/- Copies of entries. -/
import Derived.Test.YtpoanlbjhhlagaaCA
import Derived.Laws.Cover3
import Derived.Deep.RegionWith
namespace Go.Proofs.Ytpoanlbjhhlagaa
open Go.RowKit
set_option linter.unusedVariables false

theorem Own.drew {w : World} {v : Value} {zs : List Int} (h : Own w v zs) : Own w.drew v zs := h
theorem Own.alloc {w : World} {v : Value} {zs : List Int} (h : Own w v zs) (o : Obj) : Own (w.alloc o) v zs := h.of_block fun k hk => Below.heap_alloc w o k (h.lt hk)
theorem Own.below {w w' : World} {v : Value} {zs : List Int} (h : Own w v zs) (hb : Below w.heap.size w w') : Own w' v zs := h.of_block fun k hk => hb.block k (h.lt hk)
theorem Row.news {w : World} {a : Option Addr} {zs : List Int} (h : Row w a zs) : ∀ ad, a = some ad → ∀ j u, (zs.map (Value.int .u8))[j]? = some u → w.cell? (ad.add j) = some u := by
  intro ad had j u hu
  have hj : j < zs.length := by have := (List.getElem?_eq_some_iff.1 hu).1; simpa using this
  rcases h with rfl | ⟨b, off, rfl, _, hc⟩
  · simp at hj
  · obtain rfl := Option.some.inj had
    rw [Addr.add_lit, hc j hj]
    rw [← hu]; simp [hj]
theorem src_row (w : World) (a : Option Addr) (n c : Nat) (ys : List Int) (hl : ys.length = n) (hn : a = none → n = 0 ∧ c = 0) (hr : Row w a ys) : Src Try.prog 1 33 (.slice a n c) n (ys.map (Value.int .u8)) w := by
  cases a with
  | none =>
    obtain ⟨rfl, rfl⟩ := hn rfl
    have e : ys = [] := List.eq_nil_of_length_eq_zero hl
    subst e
    exact Src.ofNil w Try.underlying33 0
  | some ad => exact Src.ofSlice w Try.underlying33 ad n c _ (by simp [hl]) (hr.news ad rfl) (ints_oneCell _ _)

def Made (w : World) (v : Value) (zs : List Int) (W : World) : Prop := Own W v zs ∧ (∀ k, v.ownBlock = some k → w.heap.size ≤ k) ∧ Below w.heap.size w W
theorem Made.below {w W W' : World} {v : Value} {zs : List Int} (h : Made w v zs W) (hb : Below W.heap.size W W') : Made w v zs W' :=
  ⟨h.1.below hb, h.2.1, h.2.2.trans (hb.mono h.2.2.size)⟩
theorem Made.inn {w W : World} {a : Option Addr} {n c : Nat} {zs : List Int} (h : Made w (.slice a n c) zs W) (h8 : Byts zs) : Inn W a n c zs ∧ Hid (n = zs.length) := by
  obtain ⟨a', c', e, h1, h2, h3, h4, _⟩ := h.1.shape
  cases e
  exact ⟨⟨rfl, h1, by unfold maxLen at h2; omega, h3, h4, h8⟩, hide rfl⟩
theorem one_below {w W : World} {q : Nat} {v : Value} (hq : w.cell? ⟨q, 0, none⟩ = some v) (hb : Below w.heap.size w W) : W.cell? ⟨q, 0, none⟩ = some v := (hb.cell (p := ⟨q, 0, none⟩) (World.block_lt_of_cell? w _ hq)).trans hq
theorem two_alloc {w : World} (o1 o2 : Obj) : Below w.heap.size w ((w.alloc o1).alloc o2) := ((Below.refl _ _).alloc (Nat.le_refl _) _).alloc (by simp) _
theorem sl_nil (a : Option Addr) (n c : Nat) (W : World) : (binOp .eql 33 (.slice a n c) (.slice none 0 0)).run Try.prog W = .ok (.bool a.isNone) W := by
  simp only [binOp]
  simp [run_equal_slice_nil W 33 5 a n c Try.underlying33]
set_option maxHeartbeats 800000 in
set_option maxRecDepth 1000000 in
theorem clone_any (a : Option Addr) (n c : Nat) (ys : List Int) (w : World) (h : Inn w a n c ys) (hb : n ≤ 140737488351232) :
    Calls Try.prog 67 #[.slice a n c] w fun e w' => ∃ v, e = .returned v ∧ Made w v ys w' := by
  have hl := h.len
  have hn := h.bare
  have hr := h.row
  clear h
  obtain ⟨i0, hi, hz0, hz1, hz2⟩ := info_parts Try.info5
  have hq := sl_nil a n c
  cases a with
  | none =>
    obtain ⟨rfl, rfl⟩ := hn rfl
    have e : ys = [] := List.eq_nil_of_length_eq_zero hl
    subst e
    simp only [Option.isNone_none] at hq
    clear hn hr hl
    go_enter Try.func67, Try.ntmps67
    go_wp2
    refine bodyPost_ret (results_tmp rfl _ _ _) rfl ?_
    exact ⟨_, rfl, Own.nil _, (by intro k hk; simp [Value.ownBlock] at hk), Below.refl _ _⟩
  | some ad =>
    simp only [Option.isNone_some] at hq
    have HL := hide hl
    have HR := hide hr
    clear hl hr hn
    go_enter Try.func67, Try.ntmps67
    have HO : Hid (Own (w.alloc (.cells #[] 5)) (.slice (some ⟨w.heap.size, 0, none⟩) 0 0) []) := ⟨rfl, .inr ⟨w.heap.size, 0, _, rfl, Nat.zero_le _, heap_alloc_new w _, Nat.le_refl _, Nat.zero_le _, rfl, rfl⟩⟩
    have HS : Hid (Src Try.prog 1 33 (.slice (some ad) n c) n (ys.map (Value.int .u8)) (w.alloc (.cells #[] 5))) := hide (src_row _ _ n c ys HL.out (by intro h; cases h) (HR.out.below (below_alloc _ _)))
    have HB : Hid (([] : List Int).length + n ≤ 140737488355328) := by rw [Hid]; simp; omega
    go_wp2_with (at_builtin; refine wpList_append_src (by rfl) (.tmp 5) (.tmp 6) 33 33 (by rfl) i0 Try.underlying33 hi hz0 hz1 hz2 (.slice (some ⟨w.heap.size, 0, none⟩) 0 0) [] (by rfl) HO.out (.slice (some ad) n c) n ys (by rfl) HS.out HB.out ?_; intro v' w1 hown1 hg1 hf1; obtain ⟨a2, n2, c2, rfl, HN2⟩ := hown1.shape2; have HO1 := hide hown1; have HG1 := hide hg1; have HF1 := hide hf1; clear hown1 hg1 hf1)
    go_ret
    refine ⟨_, rfl, HO1.out, fun k hk => ?_, (below_alloc w _).grown HG1.out (by simp) (fun k hk => by simp [Value.ownBlock] at hk; omega)⟩
    rcases HF1.out k hk with h | h
    · simp [Value.ownBlock] at h; omega
    · simp at h; omega
theorem three_set {W : World} {p t : Nat} {a b c u v : Value} (h : W.heap[p]? = some (.cells #[a, b, c] t (0, 0))) : ((W.setCell ⟨p, 0, none⟩ u).setCell ⟨p, 1, none⟩ v).heap[p]? = some (.cells #[u, v, c] t (0, 0)) := by
  have h1 : (W.setCell ⟨p, 0, none⟩ u).heap[p]? = some (.cells #[u, b, c] t (0, 0)) := by rw [heap_setCell_same W p 0 _ t _ h]; rfl
  rw [heap_setCell_same _ p 1 _ t _ h1]; rfl
theorem two_other {W : World} {p q i j : Nat} {u v : Value} (h : q ≠ p) : ((W.setCell ⟨p, i, none⟩ u).setCell ⟨p, j, none⟩ v).heap[q]? = W.heap[q]? := by
  rw [Below.heap_setCell _ _ _ _ h, Below.heap_setCell _ _ _ _ h]
theorem put3 {W : World} {q t : Nat} {a b c x y z : Value} (h : W.heap[q]? = some (.cells #[x, y, z] t (0, 0))) :
    (((W.setCell ⟨q, 0, none⟩ a).setCell ⟨q, 1, none⟩ b).setCell ⟨q, 2, none⟩ c).heap[q]? = some (.cells #[a, b, c] t (0, 0)) := by
  have h1 := three_set (u := a) (v := b) h
  rw [heap_setCell_same _ q 2 _ t _ h1]; rfl
theorem put3_other {W : World} {q p : Nat} {a b c : Value} (h : p ≠ q) :
    (((W.setCell ⟨q, 0, none⟩ a).setCell ⟨q, 1, none⟩ b).setCell ⟨q, 2, none⟩ c).heap[p]? = W.heap[p]? := by
  rw [Below.heap_setCell _ _ _ _ h, two_other h]
theorem put3_below {W w : World} {q B : Nat} {a b c : Value} (hb : Below B w W) (h : B ≤ q) :
    Below B w (((W.setCell ⟨q, 0, none⟩ a).setCell ⟨q, 1, none⟩ b).setCell ⟨q, 2, none⟩ c) :=
  ((hb.setCell (p := ⟨q, 0, none⟩) h _).setCell (p := ⟨q, 1, none⟩) h _).setCell (p := ⟨q, 2, none⟩) h _
/-- an entry whose bytes lie in blocks of its own, from B on. -/
structure En.Own (x : En) (B : Nat) (w : World) : Prop where
  key : Go.Proofs.Ytpoanlbjhhlagaa.Own w (.slice x.ka x.e.key.length x.kc) x.e.key
  val : Go.Proofs.Ytpoanlbjhhlagaa.Own w (.slice x.va x.e.val.length x.vc) x.e.val
  kb : ∀ k, (Value.slice x.ka x.e.key.length x.kc).ownBlock = some k → B ≤ k
  vb : ∀ k, (Value.slice x.va x.e.val.length x.vc).ownBlock = some k → B ≤ k
  ne : ∀ k, (Value.slice x.ka x.e.key.length x.kc).ownBlock = some k → (Value.slice x.va x.e.val.length x.vc).ownBlock ≠ some k
  k8 : Byts x.e.key
  v8 : Byts x.e.val
set_option maxHeartbeats 3200000 in
set_option maxRecDepth 1000000 in
theorem centry_any (x : En) (w : World) (h : x.Ok w) (hk : x.e.key.length ≤ 140737488351232) (hv : x.e.val.length ≤ 140737488351232) :
    Calls Try.prog 39 #[.agg #[.slice x.ka x.e.key.length x.kc, .slice x.va x.e.val.length x.vc, .bool x.e.del]] w fun e w' => ∃ y : En, e = .returned y.v ∧ y.e = x.e ∧ y.Own w.heap.size w' ∧ Below w.heap.size w w' := by
  obtain ⟨w1, hw1⟩ : ∃ w1, w1 = (w.alloc (.cells #[.slice x.ka x.e.key.length x.kc, .slice x.va x.e.val.length x.vc, .bool x.e.del] 65)).alloc (.cells #[.slice none 0 0, .slice none 0 0, .bool false] 65) := ⟨_, rfl⟩
  have hB : Below w.heap.size w w1 := by rw [hw1]; exact two_alloc _ _
  have hb0 : w1.heap[w.heap.size]? = some (.cells #[.slice x.ka x.e.key.length x.kc, .slice x.va x.e.val.length x.vc, .bool x.e.del] 65 (0, 0)) := by rw [hw1]; exact (Below.heap_alloc _ _ _ (by simp)).trans (heap_alloc_new w _)
  have hb1 : w1.heap[w.heap.size + 1]? = some (.cells #[.slice none 0 0, .slice none 0 0, .bool false] 65 (0, 0)) := by
    rw [hw1]
    have := heap_alloc_new (w.alloc (.cells #[.slice x.ka x.e.key.length x.kc, .slice x.va x.e.val.length x.vc, .bool x.e.del] 65)) (.cells #[.slice none 0 0, .slice none 0 0, .bool false] 65)
    rwa [World.size_alloc] at this
  have hs1 : w1.heap.size = w.heap.size + 2 := by rw [hw1]; simp
  obtain ⟨c0, c1, c2, -⟩ := cells_three hb0
  have HK := hide (fun W (hW : Below w1.heap.size w1 W) => clone_any x.ka x.e.key.length x.kc x.e.key W ((h.key.below hB).below hW) hk)
  have HV := hide (fun W (hW : Below w1.heap.size w1 W) => clone_any x.va x.e.val.length x.vc x.e.val W ((h.val.below hB).below hW) hv)
  have HB := hide hB
  have HB0 := hide hb0
  have HB1 := hide hb1
  have HS1 := hide hs1
  have HOk := hide h
  clear h hB hb0 hb1 hs1
  go_enter Try.func39, Try.ntmps39
  go_wp2
  rw [← hw1]
  clear hw1
  go_region_with (first
    | (go_at_call_of 67 (Value.slice x.ka x.e.key.length x.kc); refine (HK.out _ (Below.refl _ _).drew).mono ?_; rintro e wK ⟨vK, rfl, hmK⟩; obtain ⟨aK, nK, cK, rfl, hnK⟩ := hmK.1.shape2; have HBK := hide ((Below.refl w1.heap.size w1).drew.trans hmK.2.2); obtain ⟨d0, d1, d2, -⟩ := cells_three ((HBK.out.block _ (lt_of_block HB0.out)).trans HB0.out); have HMK := hide hmK; have HNK := hide hnK; clear hmK hnK)
    | (go_at_call_of 67 (Value.slice x.va x.e.val.length x.vc); refine (HV.out _ HBK.out).mono ?_; rintro e wV ⟨vV, rfl, hmV⟩; obtain ⟨aV, nV, cV, rfl, hnV⟩ := hmV.1.shape2; have HBV := hide (HBK.out.trans (hmV.2.2.mono HBK.out.size)); have hbz := (HBV.out.block _ (lt_of_block HB0.out)).trans HB0.out; obtain ⟨e0, e1, e2, -⟩ := cells_three hbz; have hbr := (HBV.out.block _ (lt_of_block HB1.out)).trans HB1.out; obtain ⟨r0, r1, r2, rf⟩ := cells_three hbr; have rf0 := rf 0; have rf1 := rf 1; have rf2 := rf 2; have HBR := hide hbr; have HMV := hide hmV; have HNV := hide hnV; clear hmV hnV hbz hbr rf))
  all_goals
    go_wp2
    have hf := put3 (a := .slice aK nK cK) (b := .slice aV nV cV) (c := .bool x.e.del) HBR.out
    obtain ⟨q0, q1, q2, -⟩ := cells_three hf
    have hnk : nK = x.e.key.length := HNK.out
    have hnv : nV = x.e.val.length := HNV.out
    subst hnk hnv
    have hlK : ∀ k, (Value.slice aK x.e.key.length cK).ownBlock = some k → w.heap.size + 2 ≤ k ∧ k < wK.heap.size := fun k hk => ⟨by have := HMK.out.2.1 k hk; have := HS1.out; simp at *; omega, HMK.out.1.lt hk⟩
    have hlV : ∀ k, (Value.slice aV x.e.val.length cV).ownBlock = some k → wK.heap.size ≤ k := fun k hk => HMV.out.2.1 k hk
    have hsK : w.heap.size + 2 ≤ wK.heap.size := by have := HBK.out.size; have := HS1.out; omega
    have hst : ∀ k, w.heap.size + 2 ≤ k → (((wV.setCell ⟨w.heap.size + 1, 0, none⟩ (.slice aK x.e.key.length cK)).setCell ⟨w.heap.size + 1, 1, none⟩ (.slice aV x.e.val.length cV)).setCell ⟨w.heap.size + 1, 2, none⟩ (.bool x.e.del)).heap[k]? = wV.heap[k]? := fun k hk => put3_other (by omega)
    refine bodyPost_ret (v := .agg #[.slice aK x.e.key.length cK, .slice aV x.e.val.length cV, .bool x.e.del]) ?_ rfl ?_
    · simp [results, Try.results39, go_sem, q0, q1, q2]
    · refine ⟨⟨x.e, aK, cK, aV, cV⟩, rfl, rfl, ⟨?_, ?_, fun k hk => by have := hlK k hk; omega, fun k hk => by have := hlV k hk; omega, fun k hk e => ?_, HOk.out.key.byts, HOk.out.val.byts⟩, put3_below (HB.out.trans (HBV.out.mono HB.out.size)) (by omega)⟩
      · refine (HMK.out.1.below HMV.out.2.2).of_block fun k hk => hst k (hlK k hk).1
      · refine HMV.out.1.of_block fun k hk => hst k (by have := hlV k hk; omega)
      · have h1 := hlK k hk
        have h2 := hlV k e
        omega
end Go.Proofs.Ytpoanlbjhhlagaa
