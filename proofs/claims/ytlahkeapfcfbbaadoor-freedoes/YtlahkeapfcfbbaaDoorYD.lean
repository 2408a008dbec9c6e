/- The document's own list: Clone, Add, Take. -/
import Derived.Test.YtlahkeapfcfbbaaDoorYB
namespace Go.Proofs.YtlahkeapfcfbbaaDoor
open Go.RowKit Go.Maps
set_option linter.unusedVariables false
variable {w w' : World} {r : Nat} {v : Value} {L : List Pg}
theorem uRp : Tryd.prog.underlying 27 = some (.slice 89) := by kernel_rfl
theorem src_whole {a : Option Addr} {c : Nat} (h : Rl w r (.slice a L.length c) L) : Src Tryd.prog 2 27 (.slice a L.length c) L.length (pflat L) w := by
  rcases h.row.2 with ⟨e, h0⟩ | ⟨g, cap, cur, e, _, hg, hn, hm, _⟩
  · have hL : L = [] := List.eq_nil_of_length_eq_zero h0
    subst hL
    cases e
    exact Src.ofNil _ uRp 0
  · cases e
    have := src_part h 0 L.length (Nat.zero_le _) (Nat.le_refl _) (some ⟨g, 0, none⟩) c (fun hl => ⟨g, rfl, by simp⟩) (fun e => by cases e) uRp
    simpa using this
theorem own_slice2 {V : World} {t s : Nat} {v : Value} {n : Nat} {xs : List Value} (h : V.ownsRow 0 t s v n xs) : ∃ a c, v = .slice a n c := by
  rcases h.2 with ⟨rfl, h0⟩ | ⟨g, cap, cur, rfl, _⟩
  · exact ⟨_, _, by rw [h0]⟩
  · exact ⟨_, _, rfl⟩
theorem set_cell1 {w : World} {b t : Nat} {x u : Value} (h : w.heap[b]? = some (.cells #[x] t (0, 0))) : (w.setCell ⟨b, 0, none⟩ u).heap[b]? = some (.cells #[u] t (0, 0)) := by
  rw [heap_setCell_same _ b 0 _ t u h]
  rfl
theorem rclone_end {w W0 w1 : World} {N : Nat} {L : List Pg} {xa : Option Addr} {xc : Nat} (hb : Below w.heap.size w W0) (hx : w1.heap[w.heap.size]? = some (.cells #[.slice none 0 0] 29 (0, 0))) (hN : L.length = N) (g1 : w1.ownsRow 0 89 2 (.slice xa (0 + N) xc) (0 + N) ([] ++ pflat L)) (g2 : W0.drew.grownBy w1 (Value.slice none 0 0).ownBlock) (g3 : ∀ k, (Value.slice xa (0 + N) xc).ownBlock = some k → (Value.slice none 0 0).ownBlock = some k ∨ W0.drew.heap.size ≤ k) :
    ∃ v2, Ending.returned (.pointer (some ⟨w.heap.size, 0, none⟩)) = .returned (.pointer (some ⟨w.heap.size, 0, none⟩)) ∧ Rl (w1.setCell ⟨w.heap.size, 0, none⟩ (.slice xa (0 + N) xc)) w.heap.size v2 L ∧ Below w.heap.size w (w1.setCell ⟨w.heap.size, 0, none⟩ (.slice xa (0 + N) xc)) ∧ ∀ k, v2.ownBlock = some k → w.heap.size ≤ k := by
  have hl : ∀ k, (Value.slice xa (0 + N) xc).ownBlock = some k → W0.heap.size ≤ k := fun k hk => by
    rcases g3 k hk with h | h
    · cases h
    · exact h
  have hs0 : w.heap.size ≤ W0.heap.size := hb.size
  have hne : ∀ k, (Value.slice xa (0 + N) xc).ownBlock = some k → k ≠ w.heap.size := fun k hk e => by
    rcases g1.2 with ⟨e1, _⟩ | ⟨g, cap, cur, e1, _, hg, _⟩
    · rw [e1] at hk; cases hk
    · have eg : g = w.heap.size := by rw [e1, e] at hk; simpa [Value.ownBlock] using hk
      rw [eg, hx] at hg
      simp at hg
  refine ⟨_, rfl, ⟨set_cell1 hx, ?_⟩, ?_, fun k hk => Nat.le_trans hs0 (hl k hk)⟩
  · have h2 := g1
    rw [Nat.zero_add, List.nil_append] at h2
    rw [Nat.zero_add, hN]
    refine ⟨h2.1, ?_⟩
    rcases h2.2 with h3 | ⟨g, cap, cur, e, hg, hh, rr⟩
    · exact .inl h3
    · refine .inr ⟨g, cap, cur, e, hg, ?_, rr⟩
      rw [Below.heap_setCell _ _ _ _ (hne g (by rw [Nat.zero_add, e]; rfl))]
      exact hh
  · have h1 : Below w.heap.size w w1 := ⟨g2.os.trans hb.os, g2.tape.trans hb.tape, g2.output.trans hb.output, Nat.le_trans hs0 g2.size, fun k hk => (g2.block k (Nat.lt_of_lt_of_le hk hs0) (fun e => by cases e)).trans (hb.block k hk)⟩
    exact h1.setCell (p := ⟨w.heap.size, 0, none⟩) (Nat.le_refl _) _
set_option maxHeartbeats 1600000 in
set_option maxRecDepth 1000000 in
theorem rclone_any (h : Rl w r v L) (hf : L.length ≤ 900000) : Calls Tryd.prog 17 #[.pointer (some ⟨r, 0, none⟩)] w fun e w' => ∃ v2, e = .returned (.pointer (some ⟨w.heap.size, 0, none⟩)) ∧ Rl w' w.heap.size v2 L ∧ Below w.heap.size w w' ∧ ∀ k, v2.ownBlock = some k → w.heap.size ≤ k := by
  obtain ⟨i0, hi, hz0, hz1, hz2⟩ := info_parts infoRp
  obtain ⟨a, c, rfl⟩ := own_slice2 h.row
  have hb := below_alloc w (.cells #[.slice none 0 0] 29)
  have hx := heap_alloc_new w (.cells #[.slice none 0 0] 29)
  have h1 := h.below hb
  have c0 := h1.c
  have c1 := cell_of_one hx
  have HS := hide (src_whole (h1.keep (w' := (w.alloc (.cells #[.slice none 0 0] 29)).drew) rfl (fun _ _ => rfl)))
  have HX := hide hx
  have HB := hide hb
  obtain ⟨N, hN⟩ : ∃ N, L.length = N := ⟨_, rfl⟩
  rw [hN] at HS c0 hf
  have HN := hide hN
  have HSz : Hid ((0 + N) * i0.bytes ≤ 140737488355328) := by rw [Hid, hz2]; omega
  have HSz2 : Hid (0 + N ≤ 140737488355328) := by rw [Hid]; omega
  clear h h1 hb hx hN
  go_enter Tryd.func17, Tryd.ntmps17
  go_wp2
  refine wp_region_any (by kernel_rfl) ?_
  change wpAny _ _ _ _ _ _ _ (World.drew _)
  refine wpAny_take (i := 0) (oi := { dst := some 6, op := Op.move (Operand.tmp 3), type := 26, pos := "ref.go:71", after := #[], guard := none }) (v := ?v0x1) rfl (by kernel_rfl) (by kernel_rfl) (by kernel_rfl) (fun _ _ _ h => h) (Or.inl ⟨by rfl, ?hy0x1⟩) ?rest0x1
  case hy0x1 => (intro w; (first | (go_simp; with_reducible rfl) | go_simp))
  try simp only [Act.put, List.setIfInBounds_toArray, List.set_cons_zero, List.set_cons_succ]
  refine wpAny_take (i := 1) (oi := { dst := some 7, op := Op.move (Operand.tmp 3), type := 26, pos := "ref.go:71", after := #[], guard := none }) (v := ?v1x2) rfl (by kernel_rfl) (by kernel_rfl) (by kernel_rfl) (fun _ _ _ h => h) (Or.inl ⟨by rfl, ?hy1x2⟩) ?rest1x2
  case hy1x2 => (intro w; (first | (go_simp; with_reducible rfl) | go_simp))
  try simp only [Act.put, List.setIfInBounds_toArray, List.set_cons_zero, List.set_cons_succ]
  refine wpAny_take (i := 2) (oi := { dst := some 8, op := Op.nilCheck (Operand.tmp 7), type := 0, pos := "ref.go:71", after := #[{ on := 1, ground := Ground.data }], guard := none }) (v := ?v2x3) rfl (by kernel_rfl) (by kernel_rfl) (by kernel_rfl) (fun _ _ _ h => h) (Or.inl ⟨by rfl, ?hy2x3⟩) ?rest2x3
  case hy2x3 => (intro w; (first | (go_simp; with_reducible rfl) | go_simp))
  try simp only [Act.put, List.setIfInBounds_toArray, List.set_cons_zero, List.set_cons_succ]
  refine wpAny_take (i := 3) (oi := { dst := some 9, op := Op.fieldAddr 29 (Operand.tmp 8) 0, type := 0, pos := "ref.go:71", after := #[{ on := 2, ground := Ground.data }], guard := none }) (v := ?v3x4) rfl (by kernel_rfl) (by kernel_rfl) (by kernel_rfl) (fun _ _ _ h => h) (Or.inl ⟨by rfl, ?hy3x4⟩) ?rest3x4
  case hy3x4 => (intro w; (first | (go_simp; with_reducible rfl) | go_simp))
  try simp only [Act.put, List.setIfInBounds_toArray, List.set_cons_zero, List.set_cons_succ]
  refine wpAny_take (i := 5) (oi := { dst := some 11, op := Op.move (Operand.tmp 0), type := 26, pos := "ref.go:71", after := #[], guard := none }) (v := ?v5x5) rfl (by kernel_rfl) (by kernel_rfl) (by kernel_rfl) (fun _ _ _ h => h) (Or.inl ⟨by rfl, ?hy5x5⟩) ?rest5x5
  case hy5x5 => (intro w; (first | (go_simp; with_reducible rfl) | go_simp))
  try simp only [Act.put, List.setIfInBounds_toArray, List.set_cons_zero, List.set_cons_succ]
  refine wpAny_take (i := 6) (oi := { dst := some 12, op := Op.nilCheck (Operand.tmp 11), type := 0, pos := "ref.go:71", after := #[{ on := 5, ground := Ground.data }], guard := none }) (v := ?v6x6) rfl (by kernel_rfl) (by kernel_rfl) (by kernel_rfl) (fun _ _ _ h => h) (Or.inl ⟨by rfl, ?hy6x6⟩) ?rest6x6
  case hy6x6 => (intro w; (first | (go_simp; with_reducible rfl) | go_simp))
  try simp only [Act.put, List.setIfInBounds_toArray, List.set_cons_zero, List.set_cons_succ]
  refine wpAny_take (i := 7) (oi := { dst := some 13, op := Op.fieldAddr 29 (Operand.tmp 12) 0, type := 0, pos := "ref.go:71", after := #[{ on := 6, ground := Ground.data }], guard := none }) (v := ?v7x7) rfl (by kernel_rfl) (by kernel_rfl) (by kernel_rfl) (fun _ _ _ h => h) (Or.inl ⟨by rfl, ?hy7x7⟩) ?rest7x7
  case hy7x7 => (intro w; (first | (go_simp; with_reducible rfl) | go_simp))
  try simp only [Act.put, List.setIfInBounds_toArray, List.set_cons_zero, List.set_cons_succ]
  refine wpAny_ready (rs := [4, 8]) (by kernel_rfl) (by simp) ?_
  refine AllReady.cons (o := { dst := some 10, op := Op.load 27 (Operand.tmp 9), type := 27, pos := "ref.go:71", after := #[{ on := 3, ground := Ground.data }], guard := none }) rfl (fun K hK => ?_) (AllReady.cons (o := { dst := some 14, op := Op.load 27 (Operand.tmp 13), type := 27, pos := "ref.go:71", after := #[{ on := 7, ground := Ground.data }], guard := none }) rfl (fun K hK => ?_) AllReady.nil)
  · go_simp
    refine hK _ _ ?_
    clear hK K
    try simp only [Act.put, List.setIfInBounds_toArray, List.set_cons_zero, List.set_cons_succ]
    refine wpAny_ready (rs := [8]) (by kernel_rfl) (by simp) ?_
    refine AllReady.cons (o := { dst := some 14, op := Op.load 27 (Operand.tmp 13), type := 27, pos := "ref.go:71", after := #[{ on := 7, ground := Ground.data }], guard := none }) rfl (fun K hK => ?_) AllReady.nil
    go_simp
    refine hK _ _ ?_
    clear hK K
    try simp only [Act.put, List.setIfInBounds_toArray, List.set_cons_zero, List.set_cons_succ]
    refine wpAny_ready (rs := [9]) (by kernel_rfl) (by simp) ?_
    refine AllReady.cons (o := { dst := some 15, op := Op.call { callee := Callee.builtin Builtin.append, args := #[Operand.tmp 10, Operand.tmp 14], argTypes := #[27, 27] }, type := 27, pos := "ref.go:71", after := #[{ on := 4, ground := Ground.data }, { on := 8, ground := Ground.data }], guard := none }) rfl (fun K hK => ?_) AllReady.nil
    refine step_of rfl ?_
    refine wp_append_two (.tmp 10) (.tmp 14) 27 27 89 rfl i0 _ uRp hi hz0 hz1 rfl (.slice none 0 0) 0 [] rfl (World.ownsRow_nil _ _ _ _) _ N _ rfl HS.out HSz.out HSz2.out ?_
    intro v' w1 g1 g2 g3
    obtain ⟨xa, xc, rfl⟩ := own_slice2 g1
    have G1 := hide g1
    have G2 := hide g2
    have G3 := hide g3
    have hx1 := (g2.block w.heap.size (lt_of_block HX.out) (fun e => by cases e)).trans HX.out
    have HX1 := hide hx1
    have c2 := cell_of_one hx1
    have f2 : w1.frozen? ⟨w.heap.size, 0, none⟩ = false := by simp [World.frozen?, hx1]
    clear g1 g2 g3 hx1
    refine hK _ _ ?_
    clear hK K
    try simp only [Act.put, List.setIfInBounds_toArray, List.set_cons_zero, List.set_cons_succ]
    refine wpAny_take (i := 10) (oi := { dst := some 16, op := Op.nilCheck (Operand.tmp 6), type := 0, pos := "ref.go:71", after := #[{ on := 0, ground := Ground.data }, { on := 0, ground := Ground.phase }, { on := 1, ground := Ground.phase }, { on := 2, ground := Ground.phase }, { on := 3, ground := Ground.phase }, { on := 4, ground := Ground.phase }, { on := 5, ground := Ground.phase }, { on := 6, ground := Ground.phase }, { on := 7, ground := Ground.phase }, { on := 8, ground := Ground.phase }, { on := 9, ground := Ground.phase }], guard := none }) (v := ?v10x8) rfl (by kernel_rfl) (by kernel_rfl) (by kernel_rfl) (fun _ _ _ h => h) (Or.inl ⟨by rfl, ?hy10x8⟩) ?rest10x8
    case hy10x8 => (intro w; (first | (go_simp; with_reducible rfl) | go_simp))
    try simp only [Act.put, List.setIfInBounds_toArray, List.set_cons_zero, List.set_cons_succ]
    refine wpAny_take (i := 11) (oi := { dst := some 17, op := Op.fieldAddr 29 (Operand.tmp 16) 0, type := 0, pos := "ref.go:71", after := #[{ on := 10, ground := Ground.data }, { on := 0, ground := Ground.phase }, { on := 1, ground := Ground.phase }, { on := 2, ground := Ground.phase }, { on := 3, ground := Ground.phase }, { on := 4, ground := Ground.phase }, { on := 5, ground := Ground.phase }, { on := 6, ground := Ground.phase }, { on := 7, ground := Ground.phase }, { on := 8, ground := Ground.phase }, { on := 9, ground := Ground.phase }], guard := none }) (v := ?v11x9) rfl (by kernel_rfl) (by kernel_rfl) (by kernel_rfl) (fun _ _ _ h => h) (Or.inl ⟨by rfl, ?hy11x9⟩) ?rest11x9
    case hy11x9 => (intro w; (first | (go_simp; with_reducible rfl) | go_simp))
    try simp only [Act.put, List.setIfInBounds_toArray, List.set_cons_zero, List.set_cons_succ]
    refine wpAny_ready (rs := [12]) (by kernel_rfl) (by simp) ?_
    refine AllReady.cons (o := { dst := none, op := Op.store 27 (Operand.tmp 17) (Operand.tmp 15), type := 0, pos := "ref.go:71", after := #[{ on := 11, ground := Ground.data }, { on := 9, ground := Ground.data }, { on := 9, ground := Ground.chain }, { on := 0, ground := Ground.phase }, { on := 1, ground := Ground.phase }, { on := 2, ground := Ground.phase }, { on := 3, ground := Ground.phase }, { on := 4, ground := Ground.phase }, { on := 5, ground := Ground.phase }, { on := 6, ground := Ground.phase }, { on := 7, ground := Ground.phase }, { on := 8, ground := Ground.phase }, { on := 9, ground := Ground.phase }], guard := none }) rfl (fun K hK => ?_) AllReady.nil
    go_simp
    refine hK _ _ ?_
    clear hK K
    try simp only [Act.put, List.setIfInBounds_toArray, List.set_cons_zero, List.set_cons_succ]
    refine wpAny_done (by kernel_rfl) ?_ _
    go_wp2
    go_ret
    have hh := rclone_end HB.out HX1.out HN.out G1.out G2.out G3.out
    simp only [Nat.zero_add] at hh
    obtain ⟨v2, -, h2, h3, h4⟩ := hh
    exact ⟨v2, rfl, h2, h3, h4⟩
  · go_simp
    refine hK _ _ ?_
    clear hK K
    try simp only [Act.put, List.setIfInBounds_toArray, List.set_cons_zero, List.set_cons_succ]
    refine wpAny_ready (rs := [4]) (by kernel_rfl) (by simp) ?_
    refine AllReady.cons (o := { dst := some 10, op := Op.load 27 (Operand.tmp 9), type := 27, pos := "ref.go:71", after := #[{ on := 3, ground := Ground.data }], guard := none }) rfl (fun K hK => ?_) AllReady.nil
    go_simp
    refine hK _ _ ?_
    clear hK K
    try simp only [Act.put, List.setIfInBounds_toArray, List.set_cons_zero, List.set_cons_succ]
    refine wpAny_ready (rs := [9]) (by kernel_rfl) (by simp) ?_
    refine AllReady.cons (o := { dst := some 15, op := Op.call { callee := Callee.builtin Builtin.append, args := #[Operand.tmp 10, Operand.tmp 14], argTypes := #[27, 27] }, type := 27, pos := "ref.go:71", after := #[{ on := 4, ground := Ground.data }, { on := 8, ground := Ground.data }], guard := none }) rfl (fun K hK => ?_) AllReady.nil
    refine step_of rfl ?_
    refine wp_append_two (.tmp 10) (.tmp 14) 27 27 89 rfl i0 _ uRp hi hz0 hz1 rfl (.slice none 0 0) 0 [] rfl (World.ownsRow_nil _ _ _ _) _ N _ rfl HS.out HSz.out HSz2.out ?_
    intro v' w1 g1 g2 g3
    obtain ⟨xa, xc, rfl⟩ := own_slice2 g1
    have G1 := hide g1
    have G2 := hide g2
    have G3 := hide g3
    have hx1 := (g2.block w.heap.size (lt_of_block HX.out) (fun e => by cases e)).trans HX.out
    have HX1 := hide hx1
    have c2 := cell_of_one hx1
    have f2 : w1.frozen? ⟨w.heap.size, 0, none⟩ = false := by simp [World.frozen?, hx1]
    clear g1 g2 g3 hx1
    refine hK _ _ ?_
    clear hK K
    try simp only [Act.put, List.setIfInBounds_toArray, List.set_cons_zero, List.set_cons_succ]
    refine wpAny_take (i := 10) (oi := { dst := some 16, op := Op.nilCheck (Operand.tmp 6), type := 0, pos := "ref.go:71", after := #[{ on := 0, ground := Ground.data }, { on := 0, ground := Ground.phase }, { on := 1, ground := Ground.phase }, { on := 2, ground := Ground.phase }, { on := 3, ground := Ground.phase }, { on := 4, ground := Ground.phase }, { on := 5, ground := Ground.phase }, { on := 6, ground := Ground.phase }, { on := 7, ground := Ground.phase }, { on := 8, ground := Ground.phase }, { on := 9, ground := Ground.phase }], guard := none }) (v := ?v10x10) rfl (by kernel_rfl) (by kernel_rfl) (by kernel_rfl) (fun _ _ _ h => h) (Or.inl ⟨by rfl, ?hy10x10⟩) ?rest10x10
    case hy10x10 => (intro w; (first | (go_simp; with_reducible rfl) | go_simp))
    try simp only [Act.put, List.setIfInBounds_toArray, List.set_cons_zero, List.set_cons_succ]
    refine wpAny_take (i := 11) (oi := { dst := some 17, op := Op.fieldAddr 29 (Operand.tmp 16) 0, type := 0, pos := "ref.go:71", after := #[{ on := 10, ground := Ground.data }, { on := 0, ground := Ground.phase }, { on := 1, ground := Ground.phase }, { on := 2, ground := Ground.phase }, { on := 3, ground := Ground.phase }, { on := 4, ground := Ground.phase }, { on := 5, ground := Ground.phase }, { on := 6, ground := Ground.phase }, { on := 7, ground := Ground.phase }, { on := 8, ground := Ground.phase }, { on := 9, ground := Ground.phase }], guard := none }) (v := ?v11x11) rfl (by kernel_rfl) (by kernel_rfl) (by kernel_rfl) (fun _ _ _ h => h) (Or.inl ⟨by rfl, ?hy11x11⟩) ?rest11x11
    case hy11x11 => (intro w; (first | (go_simp; with_reducible rfl) | go_simp))
    try simp only [Act.put, List.setIfInBounds_toArray, List.set_cons_zero, List.set_cons_succ]
    refine wpAny_ready (rs := [12]) (by kernel_rfl) (by simp) ?_
    refine AllReady.cons (o := { dst := none, op := Op.store 27 (Operand.tmp 17) (Operand.tmp 15), type := 0, pos := "ref.go:71", after := #[{ on := 11, ground := Ground.data }, { on := 9, ground := Ground.data }, { on := 9, ground := Ground.chain }, { on := 0, ground := Ground.phase }, { on := 1, ground := Ground.phase }, { on := 2, ground := Ground.phase }, { on := 3, ground := Ground.phase }, { on := 4, ground := Ground.phase }, { on := 5, ground := Ground.phase }, { on := 6, ground := Ground.phase }, { on := 7, ground := Ground.phase }, { on := 8, ground := Ground.phase }, { on := 9, ground := Ground.phase }], guard := none }) rfl (fun K hK => ?_) AllReady.nil
    go_simp
    refine hK _ _ ?_
    clear hK K
    try simp only [Act.put, List.setIfInBounds_toArray, List.set_cons_zero, List.set_cons_succ]
    refine wpAny_done (by kernel_rfl) ?_ _
    go_wp2
    go_ret
    have hh := rclone_end HB.out HX1.out HN.out G1.out G2.out G3.out
    simp only [Nat.zero_add] at hh
    obtain ⟨v2, -, h2, h3, h4⟩ := hh
    exact ⟨v2, rfl, h2, h3, h4⟩
end Go.Proofs.YtlahkeapfcfbbaaDoor
