/- The two answers in their boxes. -/
import Derived.Test.YtgohhlngnnmknaaZI
namespace Go.Proofs.Ytgohhlngnnmknaa
open Go.RowKit Go.Maps
set_option linter.unusedVariables false

abbrev zc : Obj := .cells #[.slice none 0 0, .slice none 0 0, .bool false] 85
abbrev yc (y : En) : Obj := .cells #[.slice y.ka y.e.key.length y.kc, .slice y.va y.e.val.length y.vc, .bool y.e.del] 85
abbrev st3 (w : World) (b : Nat) (y : En) : World := ((w.setCell ⟨b, 0, none⟩ (.slice y.ka y.e.key.length y.kc)).setCell ⟨b, 1, none⟩ (.slice y.va y.e.val.length y.vc)).setCell ⟨b, 2, none⟩ (.bool y.e.del)
theorem st3_other {w : World} {b k : Nat} {y : En} (h : k ≠ b) : (st3 w b y).heap[k]? = w.heap[k]? := by
  unfold st3
  rw [set_other _ _ _ _ _ h, set_other _ _ _ _ _ h, set_other _ _ _ _ _ h]
theorem st3_size (w : World) (b : Nat) (y : En) : (st3 w b y).heap.size = w.heap.size := by simp [st3]
theorem find_esm {es : List Ee} {P : Ee → Bool} (h : ∀ x ∈ es, Esm x) : Esm ((es.find? P).getD zeE) := by
  cases hf : es.find? P with
  | none => exact ⟨by simp [zeE], by simp [zeE]⟩
  | some x => exact h x (List.mem_of_find?_eq_some hf)
theorem step14 {w3 wg : World} {y : En} (hb : Below ((w3.alloc zc).alloc zc).heap.size ((w3.alloc zc).alloc zc) wg) (hyo : y.Own ((w3.alloc zc).alloc zc).heap.size wg) :
    wg.heap[w3.heap.size]? = some (.cells #[.slice none 0 0, .slice none 0 0, .bool false] 85 (0, 0)) ∧ Below w3.heap.size w3 (st3 wg w3.heap.size y) ∧ (st3 wg w3.heap.size y).heap[w3.heap.size]? = some (.cells #[.slice y.ka y.e.key.length y.kc, .slice y.va y.e.val.length y.vc, .bool y.e.del] 85 (0, 0)) ∧ (st3 wg w3.heap.size y).heap[w3.heap.size + 1]? = some (.cells #[.slice none 0 0, .slice none 0 0, .bool false] 85 (0, 0)) ∧ y.Own (w3.heap.size + 2) (st3 wg w3.heap.size y) := by
  have n1 : (w3.alloc zc).heap.size = w3.heap.size + 1 := by simp
  have n2 : ((w3.alloc zc).alloc zc).heap.size = w3.heap.size + 2 := by simp
  have b5 : Below w3.heap.size w3 ((w3.alloc zc).alloc zc) := (below_alloc w3 _).trans ((below_alloc _ _).mono (by omega))
  have h14 : ((w3.alloc zc).alloc zc).heap[w3.heap.size]? = some (.cells #[.slice none 0 0, .slice none 0 0, .bool false] 85 (0, 0)) := by rw [Below.heap_alloc _ _ _ (by omega)]; exact heap_alloc_new w3 _
  have h15 : ((w3.alloc zc).alloc zc).heap[w3.heap.size + 1]? = some (.cells #[.slice none 0 0, .slice none 0 0, .bool false] 85 (0, 0)) := by rw [← n1]; exact heap_alloc_new (w3.alloc zc) _
  have g14 := (hb.block _ (by omega)).trans h14
  have g15 := (hb.block (w3.heap.size + 1) (by omega)).trans h15
  rw [n2] at hyo
  refine ⟨g14, b5.trans ((hb.mono (by omega)).trans (put3_below ((Below.refl wg.heap.size wg).mono (by have := hb.size; omega)) (Nat.le_refl _))), put3 g14, (st3_other (by omega)).trans g15, hyo.move fun k hk _ => st3_other (by omega)⟩
theorem step15 {B0 : Nat} {w3 wS wr : World} {y y2 : En} (hbS : Below w3.heap.size w3 wS) (h14 : wS.heap[w3.heap.size]? = some (.cells #[.slice y.ka y.e.key.length y.kc, .slice y.va y.e.val.length y.vc, .bool y.e.del] 85 (0, 0))) (h15 : wS.heap[w3.heap.size + 1]? = some (.cells #[.slice none 0 0, .slice none 0 0, .bool false] 85 (0, 0))) (hyo : y.Own (w3.heap.size + 2) wS) (hb : Below wS.heap.size wS wr) (hyu : EnU B0 y2 wr) (hB : B0 ≤ w3.heap.size) :
    wr.heap[w3.heap.size + 1]? = some (.cells #[.slice none 0 0, .slice none 0 0, .bool false] 85 (0, 0)) ∧ Below w3.heap.size w3 (st3 wr (w3.heap.size + 1) y2) ∧ (st3 wr (w3.heap.size + 1) y2).heap[w3.heap.size]? = some (.cells #[.slice y.ka y.e.key.length y.kc, .slice y.va y.e.val.length y.vc, .bool y.e.del] 85 (0, 0)) ∧ (st3 wr (w3.heap.size + 1) y2).heap[w3.heap.size + 1]? = some (.cells #[.slice y2.ka y2.e.key.length y2.kc, .slice y2.va y2.e.val.length y2.vc, .bool y2.e.del] 85 (0, 0)) ∧ y.Own (w3.heap.size + 2) (st3 wr (w3.heap.size + 1) y2) ∧ EnU B0 y2 (st3 wr (w3.heap.size + 1) y2) := by
  have g14 := (hb.block _ (lt_of_block h14)).trans h14
  have g15 := (hb.block _ (lt_of_block h15)).trans h15
  have hs := hbS.size
  have hs2 := hb.size
  have bT : Below w3.heap.size wr (st3 wr (w3.heap.size + 1) y2) := put3_below ((Below.refl wr.heap.size wr).mono (by omega)) (by omega)
  refine ⟨g15, hbS.trans ((hb.mono hs).trans bT), (st3_other (by omega)).trans g14, put3 g15, (hyo.below hb).move fun k hk _ => st3_other (by omega), hyu.kx ⟨bT.os, bT.tape, bT.output, bT.size, fun k hk hn => st3_other fun e => hn ⟨by omega, fun ⟨cs, t, hc, ht⟩ => ?_⟩⟩⟩
  subst e
  have := two_types hc g15
  subst this
  exact absurd ht (by unfold sfT; decide)
theorem step32 {B0 : Nat} {w3 wT wb : World} {y y2 : En} (h14 : wT.heap[w3.heap.size]? = some (.cells #[.slice y.ka y.e.key.length y.kc, .slice y.va y.e.val.length y.vc, .bool y.e.del] 85 (0, 0))) (h15 : wT.heap[w3.heap.size + 1]? = some (.cells #[.slice y2.ka y2.e.key.length y2.kc, .slice y2.va y2.e.val.length y2.vc, .bool y2.e.del] 85 (0, 0))) (hyo : y.Own (w3.heap.size + 2) wT) (hyu : EnU B0 y2 wT) (hk : Ky B0 (wT.alloc (yc y)) wb) :
    wb.heap[w3.heap.size]? = some (.cells #[.slice y.ka y.e.key.length y.kc, .slice y.va y.e.val.length y.vc, .bool y.e.del] 85 (0, 0)) ∧ wb.heap[w3.heap.size + 1]? = some (.cells #[.slice y2.ka y2.e.key.length y2.kc, .slice y2.va y2.e.val.length y2.vc, .bool y2.e.del] 85 (0, 0)) ∧ y.Ok wb ∧ y2.Ok wb := by
  have ba := below_alloc wT (yc y)
  exact ⟨hk.change ((ba.block _ (lt_of_block h14)).trans h14), hk.change ((ba.block _ (lt_of_block h15)).trans h15), ((hyo.u (B0 := B0)).below ba |>.kx hk.x).ok, ((hyu.below ba).kx hk.x).ok⟩
end Go.Proofs.Ytgohhlngnnmknaa
/- Pairs in boxes of their own, and rows of two. -/
namespace Go.Proofs.Ytgohhlngnnmknaa
open Go.RowKit Go.Maps
set_option linter.unusedVariables false

abbrev zp : Obj := .cells #[.slice none 0 0, .slice none 0 0] 74
abbrev pb (w : World) (y : En) : World := w.alloc (.cells #[.slice y.ka y.e.key.length y.kc, .slice y.va y.e.val.length y.vc] 74)
/-- an answer is laid into a new box: all that lay there stays. -/
theorem stepP (w : World) (y : En) : Below w.heap.size w (pb w y) ∧ (pb w y).heap[w.heap.size]? = some (.cells #[.slice y.ka y.e.key.length y.kc, .slice y.va y.e.val.length y.vc] 74 (0, 0)) ∧ (pb w y).heap.size = w.heap.size + 1 :=
  ⟨below_alloc w _, heap_alloc_new w _, by simp [pb]⟩
/-- two pairs, newly laid as a row, that lie elsewhere. -/
theorem prs2_box {w : World} {y z : En} (hy : y.Ok w) (hz : z.Ok w) : Prs (w.alloc (.cells #[.slice y.ka y.e.key.length y.kc, .slice y.va y.e.val.length y.vc, .slice z.ka z.e.key.length z.kc, .slice z.va z.e.val.length z.vc] 74)) (some ⟨w.heap.size, 0, none⟩) 2 2 [y, z] := by
  refine ⟨rfl, (by intro e; cases e), Nat.le_refl _, by omega, .inr ⟨w.heap.size, 0, rfl, by simp, fun k x hx => ?_⟩, fun x hx => ?_⟩
  · have hk := (List.getElem?_eq_some_iff.1 hx).1
    simp only [List.length_cons, List.length_nil] at hk
    have hk2 : k = 0 ∨ k = 1 := by omega
    rw [World.cell?_alloc_at _ _ _ _ rfl, World.cell?_alloc_at _ _ _ _ rfl]
    rcases hk2 with rfl | rfl <;> simp at hx <;> subst hx <;> simp
  · simp only [List.mem_cons, List.not_mem_nil, or_false] at hx
    rcases hx with rfl | rfl
    · exact hy.below (below_alloc w _)
    · exact hz.below (below_alloc w _)
/-- what is seen, asked of the buffer and of the document's: the same two. -/
theorem same2 {w : World} {y z y2 z2 : En} (hy : y.Ok w) (hz : z.Ok w) (hy2 : y2.Ok w) (hz2 : z2.Ok w) (hk : y.e.key = y2.e.key ∧ y.e.val = y2.e.val) (hk2 : z.e.key = z2.e.key ∧ z.e.val = z2.e.val) :
    Calls Try.prog 38 #[.slice (some ⟨w.heap.size, 0, none⟩) 2 2, .slice (some ⟨w.heap.size + 1, 0, none⟩) 2 2] ((w.alloc (.cells #[.slice y.ka y.e.key.length y.kc, .slice y.va y.e.val.length y.vc, .slice z.ka z.e.key.length z.kc, .slice z.va z.e.val.length z.vc] 74)).alloc (.cells #[.slice y2.ka y2.e.key.length y2.kc, .slice y2.va y2.e.val.length y2.vc, .slice z2.ka z2.e.key.length z2.kc, .slice z2.va z2.e.val.length z2.vc] 74)) fun e w' => e = .returned (.bool true) ∧ Below w.heap.size w w' := by
  have b1 := below_alloc w (.cells #[.slice y.ka y.e.key.length y.kc, .slice y.va y.e.val.length y.vc, .slice z.ka z.e.key.length z.kc, .slice z.va z.e.val.length z.vc] 74)
  have p1 := (prs2_box hy hz).below (below_alloc _ (.cells #[.slice y2.ka y2.e.key.length y2.kc, .slice y2.va y2.e.val.length y2.vc, .slice z2.ka z2.e.key.length z2.kc, .slice z2.va z2.e.val.length z2.vc] 74))
  have p2 := prs2_box (hy2.below b1) (hz2.below b1)
  have n1 : (w.alloc (.cells #[.slice y.ka y.e.key.length y.kc, .slice y.va y.e.val.length y.vc, .slice z.ka z.e.key.length z.kc, .slice z.va z.e.val.length z.vc] 74)).heap.size = w.heap.size + 1 := by simp
  rw [n1] at p2
  refine (samep_yes _ _ 2 2 2 [y, z] [y2, z2] _ p1 p2 ?_ (by omega)).mono ?_
  · simp [ers, cle, hk.1, hk.2, hk2.1, hk2.2]
  · rintro e w' ⟨rfl, hb⟩
    exact ⟨rfl, b1.trans (((below_alloc _ _).mono b1.size).trans (hb.mono (by simp; omega)))⟩
theorem esm_kv {y e : Ee} (hk : y.key = e.key) (hv : y.val = e.val) (h : Esm e) : Esm y := ⟨by rw [hk]; exact h.1, by rw [hv]; exact h.2⟩
theorem esm_two {y z : En} (hy : Esm y.e) (hz : Esm z.e) : ∀ u ∈ [y, z], Esm u.e := fun u hu => by
  simp only [List.mem_cons, List.not_mem_nil, or_false] at hu
  rcases hu with rfl | rfl
  · exact hy
  · exact hz
theorem kv_eq {vs : List En} {l : List Ee} {key : List Int} {inn : Bool} {y y2 : Ee} (h : ers vs = l) (h1 : y.key = ((nxU l key inn).getD zeE).key) (h2 : y.val = ((nxU l key inn).getD zeE).val) (h3 : y2.key = (((ers vs).find? (fun e => bhU e.key key inn)).getD zeE).key) (h4 : y2.val = (((ers vs).find? (fun e => bhU e.key key inn)).getD zeE).val) : y.key = y2.key ∧ y.val = y2.val := by
  subst h
  exact ⟨h1.trans h3.symm, h2.trans h4.symm⟩
theorem kv_eqD {vs : List En} {l : List Ee} {key : List Int} {inn : Bool} {y y2 : Ee} (h : ers vs = l) (h1 : y.key = ((nxD l key inn).getD zeE).key) (h2 : y.val = ((nxD l key inn).getD zeE).val) (h3 : y2.key = (((ers vs).reverse.find? (fun e => bhD e.key key inn)).getD zeE).key) (h4 : y2.val = (((ers vs).reverse.find? (fun e => bhD e.key key inn)).getD zeE).val) : y.key = y2.key ∧ y.val = y2.val := by
  subst h
  exact ⟨h1.trans h3.symm, h2.trans h4.symm⟩
end Go.Proofs.Ytgohhlngnnmknaa
