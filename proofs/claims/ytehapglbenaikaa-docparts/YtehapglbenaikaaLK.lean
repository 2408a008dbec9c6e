/- The reader of documents: a list's values and a document's fields wait. -/
import Derived.Test.YtehapglbenaikaaLJ
namespace Go.Proofs.Ytehapglbenaikaa
open Go.RowKit
set_option linter.unusedVariables false

theorem Try.info27 : (Try.prog.info? 27).map (fun i => (i.zero, i.size, i.bytes)) = some (some (.agg #[.int .u8 0, .bool false, .int .i64 0, .string ⟨#[]⟩, .slice none 0 0, .slice none 0 0, .slice none 0 0]), 7, 104) := by kernel_rfl
theorem Try.info53 : (Try.prog.info? 53).map (fun i => (i.zero, i.size, i.bytes)) = some (some (.agg #[.string ⟨#[]⟩, .int .u8 0, .bool false, .int .i64 0, .string ⟨#[]⟩, .slice none 0 0, .slice none 0 0, .slice none 0 0]), 8, 120) := by kernel_rfl
theorem Try.under24 : Try.prog.underlying 24 = some (.slice 27) := by kernel_rfl
theorem Try.under25 : Try.prog.underlying 25 = some (.slice 53) := by kernel_rfl
theorem made_at (z : Array Value) (n k : Nat) (hk : k < n) : (madeCells z n)[k]? = some (z[k % z.size]!) := by
  simp [madeCells, hk]
theorem make_vals (m : Nat) (hm : m ≤ 512) : ∃ mk : World → World, (∀ W : World, (Instr.makeSlice 24 (.int .i64 (m : Int)) (.int .i64 (m : Int))).run Try.prog W = .ok (.slice (some ⟨W.heap.size, 0, none⟩) m m) (mk W)) ∧ ∀ W : World, Below W.heap.size W (mk W) ∧ (mk W).heap.size = W.heap.size + 1 ∧ (∀ j, j < m → At (mk W) (W.heap.size, j * 7) zeroT) ∧ (∀ u, (mk W).frozen? ⟨W.heap.size, u, none⟩ = false) := by
  obtain ⟨i0, hi, hz0, hz1, hz2⟩ := info_parts Try.info27
  refine ⟨fun W => W.alloc (.cells (madeCells #[.int .u8 0, .bool false, .int .i64 0, .string ⟨#[]⟩, .slice none 0 0, .slice none 0 0, .slice none 0 0] (m * 7)) 27), fun W => ?_, fun W => ⟨below_alloc W _, by simp, fun j hj => ?_, fun u => ?_⟩⟩
  · have := run_make (P := Try.prog) W 24 27 i0 _ Try.under24 hi hz0 .i64 .i64 (m : Int) (m : Int) (by omega) (by omega) (by rw [hz2]; omega) (by omega)
    rw [this, hz1]
    simp [Value.cells]
  · have h1 : (W.alloc (.cells (madeCells #[.int .u8 0, .bool false, .int .i64 0, .string ⟨#[]⟩, .slice none 0 0, .slice none 0 0, .slice none 0 0] (m * 7)) 27)).heap[W.heap.size]? = some (.cells (madeCells #[.int .u8 0, .bool false, .int .i64 0, .string ⟨#[]⟩, .slice none 0 0, .slice none 0 0, .slice none 0 0] (m * 7)) 27 (0, 0)) := heap_alloc_new W _
    intro u x hx
    have hu : u < 7 := by
      have := (List.getElem?_eq_some_iff.1 hx).1
      simpa [zeroT, T.cells] using this
    simp only [World.cell?]
    rw [h1]
    simp only []
    rw [if_neg (by simp), made_at _ _ _ (by omega)]
    have e : (j * 7 + u) % 7 = u := by omega
    simp only [List.size_toArray, List.length_cons, List.length_nil, Nat.zero_add, e]
    match u, hu with
    | 0, _ => exact hx
    | 1, _ => exact hx
    | 2, _ => exact hx
    | 3, _ => exact hx
    | 4, _ => exact hx
    | 5, _ => exact hx
    | 6, _ => exact hx
  · have h1 : (W.alloc (.cells (madeCells #[.int .u8 0, .bool false, .int .i64 0, .string ⟨#[]⟩, .slice none 0 0, .slice none 0 0, .slice none 0 0] (m * 7)) 27)).heap[W.heap.size]? = some (.cells (madeCells #[.int .u8 0, .bool false, .int .i64 0, .string ⟨#[]⟩, .slice none 0 0, .slice none 0 0, .slice none 0 0] (m * 7)) 27 (0, 0)) := heap_alloc_new W _
    simp only [World.frozen?]
    rw [h1]
    simp
theorem make_flds (m : Nat) (hm : m ≤ 512) : ∃ mk : World → World, (∀ W : World, (Instr.makeSlice 25 (.int .i64 (m : Int)) (.int .i64 (m : Int))).run Try.prog W = .ok (.slice (some ⟨W.heap.size, 0, none⟩) m m) (mk W)) ∧ ∀ W : World, Below W.heap.size W (mk W) ∧ (mk W).heap.size = W.heap.size + 1 ∧ (∀ j, j < m → (mk W).cell? ⟨W.heap.size, j * 8, none⟩ = some (.string ⟨#[]⟩) ∧ At (mk W) (W.heap.size, j * 8 + 1) zeroT) ∧ (∀ u, (mk W).frozen? ⟨W.heap.size, u, none⟩ = false) := by
  obtain ⟨i0, hi, hz0, hz1, hz2⟩ := info_parts Try.info53
  refine ⟨fun W => W.alloc (.cells (madeCells #[.string ⟨#[]⟩, .int .u8 0, .bool false, .int .i64 0, .string ⟨#[]⟩, .slice none 0 0, .slice none 0 0, .slice none 0 0] (m * 8)) 53), fun W => ?_, fun W => ⟨below_alloc W _, by simp, fun j hj => ⟨?_, ?_⟩, fun u => ?_⟩⟩
  · have := run_make (P := Try.prog) W 25 53 i0 _ Try.under25 hi hz0 .i64 .i64 (m : Int) (m : Int) (by omega) (by omega) (by rw [hz2]; omega) (by omega)
    rw [this, hz1]
    simp [Value.cells]
  · have h1 : (W.alloc (.cells (madeCells #[.string ⟨#[]⟩, .int .u8 0, .bool false, .int .i64 0, .string ⟨#[]⟩, .slice none 0 0, .slice none 0 0, .slice none 0 0] (m * 8)) 53)).heap[W.heap.size]? = some (.cells (madeCells #[.string ⟨#[]⟩, .int .u8 0, .bool false, .int .i64 0, .string ⟨#[]⟩, .slice none 0 0, .slice none 0 0, .slice none 0 0] (m * 8)) 53 (0, 0)) := heap_alloc_new W _
    simp only [World.cell?]
    rw [h1]
    simp only []
    rw [if_neg (by simp), made_at _ _ _ (by omega)]
    have e : (j * 8) % 8 = 0 := by omega
    simp only [List.size_toArray, List.length_cons, List.length_nil, Nat.zero_add, e]
    rfl
  · have h1 : (W.alloc (.cells (madeCells #[.string ⟨#[]⟩, .int .u8 0, .bool false, .int .i64 0, .string ⟨#[]⟩, .slice none 0 0, .slice none 0 0, .slice none 0 0] (m * 8)) 53)).heap[W.heap.size]? = some (.cells (madeCells #[.string ⟨#[]⟩, .int .u8 0, .bool false, .int .i64 0, .string ⟨#[]⟩, .slice none 0 0, .slice none 0 0, .slice none 0 0] (m * 8)) 53 (0, 0)) := heap_alloc_new W _
    intro u x hx
    have hu : u < 7 := by
      have := (List.getElem?_eq_some_iff.1 hx).1
      simpa [zeroT, T.cells] using this
    simp only [World.cell?]
    rw [h1]
    simp only []
    rw [if_neg (by simp), made_at _ _ _ (by omega)]
    have e : (j * 8 + 1 + u) % 8 = u + 1 := by omega
    simp only [List.size_toArray, List.length_cons, List.length_nil, Nat.zero_add, e]
    match u, hu with
    | 0, _ => exact hx
    | 1, _ => exact hx
    | 2, _ => exact hx
    | 3, _ => exact hx
    | 4, _ => exact hx
    | 5, _ => exact hx
    | 6, _ => exact hx
  · have h1 : (W.alloc (.cells (madeCells #[.string ⟨#[]⟩, .int .u8 0, .bool false, .int .i64 0, .string ⟨#[]⟩, .slice none 0 0, .slice none 0 0, .slice none 0 0] (m * 8)) 53)).heap[W.heap.size]? = some (.cells (madeCells #[.string ⟨#[]⟩, .int .u8 0, .bool false, .int .i64 0, .string ⟨#[]⟩, .slice none 0 0, .slice none 0 0, .slice none 0 0] (m * 8)) 53 (0, 0)) := heap_alloc_new W _
    simp only [World.frozen?]
    rw [h1]
    simp
section
variable {rb n₁ : Nat} {w : World} {q p : Nat} {a : Option Addr} {bs : List Int} {W0 Wf : World} {sn : Option (Nat × Nat)} {sb so : Nat} {st : List Sl} {sa : Option Addr} {sc N i : Nat} {pt : Nat} {y : List Int} {j : Nat}
theorem listL_end (h : Tg rb n₁ q p a bs pt W0 (sn, (sb, so)) st sa N i y j) (ht : tagAt bs j 0 = 7) (m l er B bx : Nat) (hM : Md rb n₁ w q p a bs W0 (sn, (sb, so)) st sa sc (N + m) (bk y) Wf (tk bs (j + 1) er l).1 (tk bs (j + 1) er l).2.1) (hnm : nm bs (j + 1) 0 = (m, l, er)) (hN : N + m ≤ 512) (hfew : st.length ≤ N)
    (hB : W0.heap.size ≤ B) (hB2 : B < Wf.heap.size) (hB3 : ¬ Prv rb q p a sa B) (hz : ∀ j, j < m → At Wf (B, j * 7) zeroT) (hfr : ∀ u, Wf.frozen? ⟨B, u, none⟩ = false)
    (hat : ∀ t : TL, t.list.length = m → At Wf (sb, so) (.mk 6 false 0 ⟨#[]⟩ none 0 [] (some ⟨B, 0, none⟩) m t none 0 .nil)) (hbx : Wf.cell? ⟨bx, 0, none⟩ = some (.pointer (some ⟨sb, so, none⟩))) (hbp : ¬ Prv rb q p a sa bx) :
    Calls Try.prog 32 #[.pointer (some ⟨q, 0, none⟩), .int .i64 (m : Int), .func (.func 33) #[] #[.pointer (some ⟨bx, 0, none⟩)]] Wf fun e W' => e = .returned (.tuple #[]) ∧ Inv rb n₁ w q p a bs pt W' ∧ stands W' p = (tk bs (j + 1) er l).1 := by
  have hn1 := hM.sta.n1
  have hs0 := hM.rng _ _ (SC.val (sn, (sb, so)) 0 (by omega))
  simp only [] at hs0
  have hbl := cell_lt hbx
  have hnotq : ∀ k, ¬ Prv rb q p a sa k → k ≠ q ∧ ∀ x, sa = some x → x.block ≠ k := fun k hk => ⟨fun e => hk (.inl e), fun x hx e => hk (.inr (.inr (.inr (.inl ⟨x, hx, e⟩))))⟩
  have hcell5 : Wf.cell? ⟨sb, so + 5, none⟩ = some (.slice (some ⟨B, 0, none⟩) m m) := by
    have := hat (TL.ofL (List.replicate m zeroT)) (by rw [TL.ofL_list, List.length_replicate])
    have := this 5 _ rfl
    simpa [TL.ofL_list] using this
  refine (awaitL bx (fun _ => none) (fun j => ⟨B, 0 + j * 7, none⟩) q p m n₁ st.length sc (N + m) sa (scells st.reverse) Wf (by omega) hM.sta.dr hM.sta.own (fun x hx => (hM.sta.sq x hx).1) hn1 (by omega) (fun W i hi hsz hfrm => ?_)).mono ?_
  · have e1 := hfrm bx hbl (hnotq bx hbp).1 (hnotq bx hbp).2
    have e2 := hfrm sb (by have := hM.size; omega) (hnotq sb hs0.2.2.1).1 (hnotq sb hs0.2.2.1).2
    refine slotL bx sb so B 0 m m i W hi (by omega) ?_ ?_ (by omega) (by have := hM.size; omega)
    · simp only [World.cell?] at hbx ⊢; rw [e1]; exact hbx
    · simp only [World.cell?] at hcell5 ⊢; rw [e2]; exact hcell5
  · rintro e W' ⟨rfl, hA⟩
    have hnz : ∀ x ∈ (List.range m).map (fun j => ((none, (B, j * 7)) : Sl)), ∀ k u, SC x k u → k = B := by
      intro x hx k u hk
      obtain ⟨v, _, rfl⟩ := List.mem_map.1 hx
      rcases hk with hk | ⟨hk, _⟩
      · simp at hk
      · exact hk
    obtain ⟨sa', sc', hS', hPP, hag, hsz⟩ := hM.sta.await (f := fun j => (none, (B, j * 7))) (n := m) (B := B) (fun j => by simp [sc1, ad]) hA rfl (by omega) hB2 hB3
      (fun j k u hj hk => by rcases hk with hk | ⟨hk, _⟩; simp at hk; exact hk)
      (fun t ht' k u hk e => by have := hM.low t ht' k u hk; omega)
      (fun i' j' hij hj k u h1 h2 => by
        rcases h1 with h1 | ⟨_, h1, h1'⟩
        · simp at h1
        · rcases h2 with h2 | ⟨_, h2, h2'⟩
          · simp at h2
          · simp only [] at h1 h1' h2 h2'; omega)
      (fun j hj => hz j hj) (fun j hj z hz' => by simp at hz') (fun j hj z hz' => by simp at hz') hfr (by have := h.few; omega)
    have hPP0 : ∀ k, k < W0.heap.size → Prv rb q p a sa' k → Prv rb q p a sa k := fun k hk => hPP k (Nat.lt_of_lt_of_le hk hM.size)
    have hag2 : Agr n₁ (Prv rb q p a sa) (SC (sn, (sb, so))) Wf W' := fun k u h1 h2 h3 => ⟨fun _ => (hag k u h1 h2 h3).1 (fun h => h), (hag k u h1 h2 h3).2⟩
    have hkeep : ∀ k u, SC (sn, (sb, so)) k u → W'.cell? ⟨k, u, none⟩ = Wf.cell? ⟨k, u, none⟩ := fun k u hk => by
      obtain ⟨g1, g2, g3, _⟩ := hM.rng k u hk
      exact (hag k u g1 (Nat.lt_of_lt_of_le g2 hM.size) g3).1 (fun h => h)
    refine ⟨rfl, ⟨_, sa', sc', N + m, _, _, hS', ?_⟩, stands_is hS'.rd⟩
    exact mode_list h ht (fun k u hk => ⟨(hM.rng k u hk).1, (hM.rng k u hk).2.1, (hM.rng k u hk).2.2.1⟩) hM.apart hPP0 (Nat.le_trans hM.size hsz) (hM.agr.trans hag2 hM.size) (fun z hz' => (hkeep _ _ (.inl hz')).trans (hM.name z hz')) m l er B hnm hN hB (by omega) (fun t ht' => (hat t ht').on (fun u hu => hkeep _ _ (SC.val (sn, (sb, so)) u hu)))
theorem docF_end (h : Tg rb n₁ q p a bs pt W0 (sn, (sb, so)) st sa N i y j) (ht : tagAt bs j 0 = 8) (m l er B bx : Nat) (hM : Md rb n₁ w q p a bs W0 (sn, (sb, so)) st sa sc (N + m) (bk y) Wf (tk bs (j + 1) er l).1 (tk bs (j + 1) er l).2.1) (hnm : nm bs (j + 1) 0 = (m, l, er)) (hN : N + m ≤ 512) (hfew : st.length ≤ N)
    (hB : W0.heap.size ≤ B) (hB2 : B < Wf.heap.size) (hB3 : ¬ Prv rb q p a sa B) (hz : ∀ j, j < m → Wf.cell? ⟨B, j * 8, none⟩ = some (.string ⟨#[]⟩) ∧ At Wf (B, j * 8 + 1) zeroT) (hfr : ∀ u, Wf.frozen? ⟨B, u, none⟩ = false)
    (hat : ∀ t : FL, t.list.length = m → At Wf (sb, so) (.mk 7 false 0 ⟨#[]⟩ none 0 [] none 0 .nil (some ⟨B, 0, none⟩) m t)) (hbx : Wf.cell? ⟨bx, 0, none⟩ = some (.pointer (some ⟨sb, so, none⟩))) (hbp : ¬ Prv rb q p a sa bx) :
    Calls Try.prog 32 #[.pointer (some ⟨q, 0, none⟩), .int .i64 (m : Int), .func (.func 34) #[] #[.pointer (some ⟨bx, 0, none⟩)]] Wf fun e W' => e = .returned (.tuple #[]) ∧ Inv rb n₁ w q p a bs pt W' ∧ stands W' p = (tk bs (j + 1) er l).1 := by
  have hn1 := hM.sta.n1
  have hs0 := hM.rng _ _ (SC.val (sn, (sb, so)) 0 (by omega))
  simp only [] at hs0
  have hbl := cell_lt hbx
  have hnotq : ∀ k, ¬ Prv rb q p a sa k → k ≠ q ∧ ∀ x, sa = some x → x.block ≠ k := fun k hk => ⟨fun e => hk (.inl e), fun x hx e => hk (.inr (.inr (.inr (.inl ⟨x, hx, e⟩))))⟩
  have hcell6 : Wf.cell? ⟨sb, so + 6, none⟩ = some (.slice (some ⟨B, 0, none⟩) m m) := by
    have := hat (FL.ofL (List.replicate m (⟨#[]⟩, zeroT))) (by rw [FL.ofL_list, List.length_replicate])
    have := this 6 _ rfl
    simpa [FL.ofL_list] using this
  refine (awaitF bx (fun j => some ⟨B, 0 + j * 8, none⟩) (fun j => ⟨B, 0 + j * 8 + 1, none⟩) q p m n₁ st.length sc (N + m) sa (scells st.reverse) Wf (by omega) hM.sta.dr hM.sta.own (fun x hx => (hM.sta.sq x hx).1) hn1 (by omega) (fun W i hi hsz hfrm => ?_)).mono ?_
  · have e1 := hfrm bx hbl (hnotq bx hbp).1 (hnotq bx hbp).2
    have e2 := hfrm sb (by have := hM.size; omega) (hnotq sb hs0.2.2.1).1 (hnotq sb hs0.2.2.1).2
    refine slotF bx sb so B 0 m m i W hi (by omega) ?_ ?_ (by omega) (by have := hM.size; omega)
    · simp only [World.cell?] at hbx ⊢; rw [e1]; exact hbx
    · simp only [World.cell?] at hcell6 ⊢; rw [e2]; exact hcell6
  · rintro e W' ⟨rfl, hA⟩
    obtain ⟨sa', sc', hS', hPP, hag, hsz⟩ := hM.sta.await (f := fun j => (some (B, j * 8), (B, j * 8 + 1))) (n := m) (B := B) (fun j => by simp [sc1, ad]) hA rfl (by omega) hB2 hB3
      (fun j k u hj hk => by rcases hk with hk | ⟨hk, _⟩; simp at hk; exact hk.1.symm; exact hk)
      (fun t ht' k u hk e => by have := hM.low t ht' k u hk; omega)
      (fun i' j' hij hj k u h1 h2 => by
        rcases h1 with h1 | ⟨_, h1, h1'⟩
        · simp at h1
          rcases h2 with h2 | ⟨_, h2, h2'⟩
          · simp at h2; omega
          · simp only [] at h2 h2'; omega
        · rcases h2 with h2 | ⟨_, h2, h2'⟩
          · simp at h2; simp only [] at h1 h1'; omega
          · simp only [] at h1 h1' h2 h2'; omega)
      (fun j hj => (hz j hj).2) (fun j hj z hz' => by simp at hz'; subst hz'; exact ⟨_, (hz j hj).1⟩) (fun j hj z hz' => by simp at hz'; subst hz'; simp; omega) hfr (by have := h.few; omega)
    have hPP0 : ∀ k, k < W0.heap.size → Prv rb q p a sa' k → Prv rb q p a sa k := fun k hk => hPP k (Nat.lt_of_lt_of_le hk hM.size)
    have hag2 : Agr n₁ (Prv rb q p a sa) (SC (sn, (sb, so))) Wf W' := fun k u h1 h2 h3 => ⟨fun _ => (hag k u h1 h2 h3).1 (fun h => h), (hag k u h1 h2 h3).2⟩
    have hkeep : ∀ k u, SC (sn, (sb, so)) k u → W'.cell? ⟨k, u, none⟩ = Wf.cell? ⟨k, u, none⟩ := fun k u hk => by
      obtain ⟨g1, g2, g3, _⟩ := hM.rng k u hk
      exact (hag k u g1 (Nat.lt_of_lt_of_le g2 hM.size) g3).1 (fun h => h)
    refine ⟨rfl, ⟨_, sa', sc', N + m, _, _, hS', ?_⟩, stands_is hS'.rd⟩
    exact mode_doc h ht (fun k u hk => ⟨(hM.rng k u hk).1, (hM.rng k u hk).2.1, (hM.rng k u hk).2.2.1⟩) hM.apart hPP0 (Nat.le_trans hM.size hsz) (hM.agr.trans hag2 hM.size) (fun z hz' => (hkeep _ _ (.inl hz')).trans (hM.name z hz')) m l er B hnm hN hB (by omega) (fun t ht' => (hat t ht').on (fun u hu => hkeep _ _ (SC.val (sn, (sb, so)) u hu)))
end
end Go.Proofs.Ytehapglbenaikaa
