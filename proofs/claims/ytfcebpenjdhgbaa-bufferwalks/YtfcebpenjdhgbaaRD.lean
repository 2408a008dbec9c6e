/- The document's own buffer: Delete. -/
import Derived.Test.YtfcebpenjdhgbaaRA
namespace Go.Proofs.Ytfcebpenjdhgbaa
open Go.RowKit Go.Maps
set_option linter.unusedVariables false

/-- a copy, the row that is to grow, and what comes behind. -/
theorem rdel_end {w wK : World} {p B : Nat} {v : Value} {ys : List En} {a : Option Addr} {c : Nat} {key : List Int} (h : Rb w p B v ys) (hB : B ≤ w.heap.size) (hK : Made w.drew (.slice a key.length c) key wK) (k8 : Byts key) (hBK : Below w.heap.size w wK) :
    (wK.alloc (.cells #[.slice a key.length c, .slice none 0 0, .bool true] 36)).ownsRow B 36 3 v ys.length (rowc ys) ∧
    (∀ j u, ([.slice a key.length c, .slice none 0 0, .bool true] : List Value)[j]? = some u → (wK.alloc (.cells #[.slice a key.length c, .slice none 0 0, .bool true] 36)).cell? ((⟨wK.heap.size, 0, none⟩ : Addr).add j) = some u) ∧
    (∀ u ∈ ([.slice a key.length c, .slice none 0 0, .bool true] : List Value), u.oneCell' = true) ∧
    B ≤ (wK.alloc (.cells #[.slice a key.length c, .slice none 0 0, .bool true] 36)).heap.size ∧
    (∀ w6, (wK.alloc (.cells #[.slice a key.length c, .slice none 0 0, .bool true] 36)).grownBy w6 v.ownBlock → w6.heap[p]? = some (.cells #[v] 32 (0, 0))) ∧
    (∀ v6 w6, w6.ownsRow B 36 3 v6 (ys.length + 1) (rowc ys ++ [.slice a key.length c, .slice none 0 0, .bool true]) → (wK.alloc (.cells #[.slice a key.length c, .slice none 0 0, .bool true] 36)).grownBy w6 v.ownBlock → (v6.ownBlock = v.ownBlock ∨ v6.ownBlock = some (wK.alloc (.cells #[.slice a key.length c, .slice none 0 0, .bool true] 36)).heap.size) → RbOut w p B v ys ⟨key, [], true⟩ (.returned (.tuple #[])) (w6.setCell ⟨p, 0, none⟩ v6)) := by
  have hBA : Below w.heap.size w (wK.alloc (.cells #[.slice a key.length c, .slice none 0 0, .bool true] 36)) := hBK.trans ((below_alloc wK _).mono hBK.size)
  have hp := lt_of_block h.blk
  have hp1 := (hBA.block p hp).trans h.blk
  have hy : (⟨⟨key, [], true⟩, a, c, none, 0⟩ : En).Own w.heap.size (wK.alloc (.cells #[.slice a key.length c, .slice none 0 0, .bool true] 36)) :=
    ⟨hK.1.below (below_alloc wK _), Own.nil _, fun k hk => hK.2.1 k hk, fun k hk => by simp [Value.ownBlock] at hk, fun k hk e => by simp [Value.ownBlock] at e, k8, by intro c hc; simp at hc⟩
  refine ⟨(h.cl.below hBA).row, fun j u hu => ?_, fun u hu => ?_, by have := hBA.size; omega, fun w6 hg => ?_, fun v6 w6 ho hg hl => ?_⟩
  · exact box_news wK (⟨⟨key, [], true⟩, a, c, none, 0⟩ : En) j u hu
  · exact cells_one (⟨⟨key, [], true⟩, a, c, none, 0⟩ : En) u hu
  · exact (hg.block p (lt_of_block hp1) (fun e => h.type_ne e.symm)).trans hp1
  · exact Rb.snoc (y := ⟨⟨key, [], true⟩, a, c, none, 0⟩) h hB hBA hy hg ho (fun k hk => hl.elim (fun e => .inl (by rw [← e]; exact hk)) (fun e => .inr (by rw [e] at hk; cases hk; exact Nat.le_refl _)))
set_option maxHeartbeats 3200000 in
set_option maxRecDepth 1000000 in
theorem rdelete_any {w : World} {p B : Nat} {v : Value} {ys : List En} (h : Rb w p B v ys) (hB : B ≤ w.heap.size) (ka : Option Addr) (kn kc : Nat) (key : List Int) (hk : Inn w ka kn kc key) (hkn : kn ≤ 140737488351232) (hn : ys.length ≤ 900000) :
    Calls Try.prog 10 #[.pointer (some ⟨p, 0, none⟩), .slice ka kn kc] w (RbOut w p B v ys ⟨key, [], true⟩) := by
  obtain ⟨i0, hi, hz0, hz1, hz2⟩ := info_parts infoE2
  have k8 := hk.byts
  have HK := hide (fun W (hW : Below w.heap.size w W) => copied_any ka kn kc key W (hk.below hW) hkn)
  have c0 := cell_of_one h.blk
  have f0 := free_of_one h.blk
  have H := hide h
  have HK8 := hide k8
  clear h hk k8
  go_enter Try.func10, Try.ntmps10
  go_wp2
  refine wp_region_noPanic ?_
  refine wp_region_held_drew (S := (fun W => True)) (by kernel_rfl) trivial (fun _hS => ?_)
  refine wpAnyH_take (i := 0) (oi := { dst := some 4, op := Op.move (Operand.tmp 0), type := 29, pos := "ref.go:28", after := #[], guard := none }) (v := ?v0x101) rfl (by kernel_rfl) (by kernel_rfl) (by kernel_rfl) (fun _ _ _ h => h) (Or.inl ⟨by rfl, ?hy0x101⟩) (by assumption) ?rest0x101
  case hy0x101 => (intro w hSw; (try dsimp only at hSw); (first | (go_simp; with_reducible rfl) | go_simp))
  try simp only [Act.put, List.setIfInBounds_toArray, List.set_cons_zero, List.set_cons_succ]
  refine wpAnyH_take (i := 1) (oi := { dst := some 5, op := Op.move (Operand.tmp 0), type := 29, pos := "ref.go:28", after := #[], guard := none }) (v := ?v1x102) rfl (by kernel_rfl) (by kernel_rfl) (by kernel_rfl) (fun _ _ _ h => h) (Or.inl ⟨by rfl, ?hy1x102⟩) (by assumption) ?rest1x102
  case hy1x102 => (intro w hSw; (try dsimp only at hSw); (first | (go_simp; with_reducible rfl) | go_simp))
  try simp only [Act.put, List.setIfInBounds_toArray, List.set_cons_zero, List.set_cons_succ]
  refine wpAnyH_take (i := 2) (oi := { dst := some 6, op := Op.nilCheck (Operand.tmp 5), type := 0, pos := "ref.go:28", after := #[{ on := 1, ground := Ground.data }], guard := none }) (v := ?v2x103) rfl (by kernel_rfl) (by kernel_rfl) (by kernel_rfl) (fun _ _ _ h => h) (Or.inl ⟨by rfl, ?hy2x103⟩) (by assumption) ?rest2x103
  case hy2x103 => (intro w hSw; (try dsimp only at hSw); (first | (go_simp; with_reducible rfl) | go_simp))
  try simp only [Act.put, List.setIfInBounds_toArray, List.set_cons_zero, List.set_cons_succ]
  refine wpAnyH_take (i := 3) (oi := { dst := some 7, op := Op.fieldAddr 32 (Operand.tmp 6) 0, type := 0, pos := "ref.go:28", after := #[{ on := 2, ground := Ground.data }], guard := none }) (v := ?v3x104) rfl (by kernel_rfl) (by kernel_rfl) (by kernel_rfl) (fun _ _ _ h => h) (Or.inl ⟨by rfl, ?hy3x104⟩) (by assumption) ?rest3x104
  case hy3x104 => (intro w hSw; (try dsimp only at hSw); (first | (go_simp; with_reducible rfl) | go_simp))
  try simp only [Act.put, List.setIfInBounds_toArray, List.set_cons_zero, List.set_cons_succ]
  refine wpAnyH_take (i := 5) (oi := { dst := some 9, op := Op.move (Operand.tmp 1), type := 34, pos := "ref.go:28", after := #[], guard := none }) (v := ?v5x105) rfl (by kernel_rfl) (by kernel_rfl) (by kernel_rfl) (fun _ _ _ h => h) (Or.inl ⟨by rfl, ?hy5x105⟩) (by assumption) ?rest5x105
  case hy5x105 => (intro w hSw; (try dsimp only at hSw); (first | (go_simp; with_reducible rfl) | go_simp))
  try simp only [Act.put, List.setIfInBounds_toArray, List.set_cons_zero, List.set_cons_succ]
  refine wpAnyH_ready (rs := [4, 6]) (by kernel_rfl) (by simp) ?_
  refine AllReadyH.cons (o := { dst := some 8, op := Op.load 30 (Operand.tmp 7), type := 30, pos := "ref.go:28", after := #[{ on := 3, ground := Ground.data }], guard := none }) rfl (fun K hK => ?_) (AllReadyH.cons (o := { dst := some 10, op := Op.call { callee := Callee.value (Operand.func 25), args := #[Operand.tmp 9], argTypes := #[34] }, type := 34, pos := "ref.go:28", after := #[{ on := 5, ground := Ground.data }], guard := none }) rfl (fun K hK => ?_) (AllReadyH.nil))
  · go_simp
    refine hK.out _ _ ?_ (fun _hS => ?_)
    · exact trivial
    clear hK K
    try simp only [Act.put, List.setIfInBounds_toArray, List.set_cons_zero, List.set_cons_succ]
    refine wpAnyH_ready (rs := [6]) (by kernel_rfl) (by simp) ?_
    refine AllReadyH.cons (o := { dst := some 10, op := Op.call { callee := Callee.value (Operand.func 25), args := #[Operand.tmp 9], argTypes := #[34] }, type := 34, pos := "ref.go:28", after := #[{ on := 5, ground := Ground.data }], guard := none }) rfl (fun K hK => ?_) (AllReadyH.nil)
    go_simp
    go_at_call_of 25 (Value.slice ka kn kc)
    refine (HK.out _ (Below.refl _ _).drew).mono ?_
    rintro e wK ⟨vK, rfl, hmK⟩
    obtain ⟨aK, cK, rfl, -⟩ := hmK.1.shape
    have HBK := hide ((Below.refl w.heap.size w).drew.trans hmK.2.2)
    have cK0 := one_below c0 HBK.out
    have cA0 : (wK.alloc (.cells #[.slice aK key.length cK, .slice none 0 0, .bool true] 36)).cell? ⟨p, 0, none⟩ = some v := one_below cK0 (below_alloc wK _)
    have HMK := hide hmK
    clear hmK
    go_simp
    refine hK.out _ _ ?_ (fun _hS => ?_)
    · exact trivial
    clear hK K
    try simp only [Act.put, List.setIfInBounds_toArray, List.set_cons_zero, List.set_cons_succ]
    refine wpAnyH_take (i := 7) (oi := { dst := some 11, op := Op.build 36 #[(0, Operand.tmp 10), (2, Operand.const (Value.bool true))], type := 36, pos := "ref.go:28", after := #[{ on := 6, ground := Ground.data }], guard := none }) (v := ?v7x106) rfl (by kernel_rfl) (by kernel_rfl) (by kernel_rfl) (fun _ _ _ h => h) (Or.inl ⟨by rfl, ?hy7x106⟩) (by assumption) ?rest7x106
    case hy7x106 => (intro w hSw; (try dsimp only at hSw); (first | (go_simp; with_reducible rfl) | go_simp))
    try simp only [Act.put, List.setIfInBounds_toArray, List.set_cons_zero, List.set_cons_succ]
    refine wpAnyH_ready (rs := [8]) (by kernel_rfl) (by simp) ?_
    refine AllReadyH.cons (o := { dst := some 12, op := Op.buildSlice 30 1 #[(0, Operand.tmp 11)], type := 30, pos := "ref.go:28", after := #[{ on := 7, ground := Ground.data }], guard := none }) rfl (fun K hK => ?_) (AllReadyH.nil)
    go_simp
    refine hK.out _ _ ?_ (fun _hS => ?_)
    · exact trivial
    clear hK K
    try simp only [Act.put, List.setIfInBounds_toArray, List.set_cons_zero, List.set_cons_succ]
    have HFin := hide (rdel_end (a := aK) (c := cK) H.out hB HMK.out HK8.out HBK.out)
    refine wpAnyH_ready (rs := [9]) (by kernel_rfl) (by simp) ?_
    refine AllReadyH.cons (o := { dst := some 13, op := Op.call { callee := Callee.builtin Builtin.append, args := #[Operand.tmp 8, Operand.tmp 12], argTypes := #[30, 30] }, type := 30, pos := "ref.go:28", after := #[{ on := 4, ground := Ground.data }, { on := 8, ground := Ground.data }, { on := 6, ground := Ground.chain }], guard := none }) rfl (fun K hK => ?_) (AllReadyH.nil)
    refine step_of rfl ?_
    refine wp_append_at (.tmp 8) (.tmp 12) 30 36 rfl B i0 _ 3 56 Try.underlying30 hi hz0 hz1 hz2 (by rfl) (by omega) v ys.length (rowc ys) rfl HFin.out.1 ⟨wK.heap.size, 0, none⟩ 1 1 [.slice aK key.length cK, .slice none 0 0, .bool true] rfl rfl HFin.out.2.1 HFin.out.2.2.1 (by unfold maxLen; omega) (by omega) HFin.out.2.2.2.1 ?_
    intro v6 w6 hown6 hg6 hloc6
    obtain ⟨a6, c6, rfl, -⟩ := row_shape hown6
    have k3 := HFin.out.2.2.2.2.1 w6 hg6
    have s2 := cell_of_one k3
    have f2 := free_of_one k3
    have HF6 := hide (HFin.out.2.2.2.2.2 _ w6 hown6 hg6 hloc6)
    clear hown6 hg6 hloc6 k3
    go_simp
    refine hK.out _ _ ?_ (fun _hS => ?_)
    · exact trivial
    clear hK K
    try simp only [Act.put, List.setIfInBounds_toArray, List.set_cons_zero, List.set_cons_succ]
    refine wpAnyH_take (i := 10) (oi := { dst := some 14, op := Op.nilCheck (Operand.tmp 4), type := 0, pos := "ref.go:28", after := #[{ on := 0, ground := Ground.data }, { on := 0, ground := Ground.phase }, { on := 1, ground := Ground.phase }, { on := 2, ground := Ground.phase }, { on := 3, ground := Ground.phase }, { on := 4, ground := Ground.phase }, { on := 5, ground := Ground.phase }, { on := 6, ground := Ground.phase }, { on := 7, ground := Ground.phase }, { on := 8, ground := Ground.phase }, { on := 9, ground := Ground.phase }], guard := none }) (v := ?v10x107) rfl (by kernel_rfl) (by kernel_rfl) (by kernel_rfl) (fun _ _ _ h => h) (Or.inl ⟨by rfl, ?hy10x107⟩) (by assumption) ?rest10x107
    case hy10x107 => (intro w hSw; (try dsimp only at hSw); (first | (go_simp; with_reducible rfl) | go_simp))
    try simp only [Act.put, List.setIfInBounds_toArray, List.set_cons_zero, List.set_cons_succ]
    refine wpAnyH_take (i := 11) (oi := { dst := some 15, op := Op.fieldAddr 32 (Operand.tmp 14) 0, type := 0, pos := "ref.go:28", after := #[{ on := 10, ground := Ground.data }, { on := 0, ground := Ground.phase }, { on := 1, ground := Ground.phase }, { on := 2, ground := Ground.phase }, { on := 3, ground := Ground.phase }, { on := 4, ground := Ground.phase }, { on := 5, ground := Ground.phase }, { on := 6, ground := Ground.phase }, { on := 7, ground := Ground.phase }, { on := 8, ground := Ground.phase }, { on := 9, ground := Ground.phase }], guard := none }) (v := ?v11x108) rfl (by kernel_rfl) (by kernel_rfl) (by kernel_rfl) (fun _ _ _ h => h) (Or.inl ⟨by rfl, ?hy11x108⟩) (by assumption) ?rest11x108
    case hy11x108 => (intro w hSw; (try dsimp only at hSw); (first | (go_simp; with_reducible rfl) | go_simp))
    try simp only [Act.put, List.setIfInBounds_toArray, List.set_cons_zero, List.set_cons_succ]
    refine wpAnyH_ready (rs := [12]) (by kernel_rfl) (by simp) ?_
    refine AllReadyH.cons (o := { dst := none, op := Op.store 30 (Operand.tmp 15) (Operand.tmp 13), type := 0, pos := "ref.go:28", after := #[{ on := 11, ground := Ground.data }, { on := 9, ground := Ground.data }, { on := 9, ground := Ground.chain }, { on := 0, ground := Ground.phase }, { on := 1, ground := Ground.phase }, { on := 2, ground := Ground.phase }, { on := 3, ground := Ground.phase }, { on := 4, ground := Ground.phase }, { on := 5, ground := Ground.phase }, { on := 6, ground := Ground.phase }, { on := 7, ground := Ground.phase }, { on := 8, ground := Ground.phase }, { on := 9, ground := Ground.phase }], guard := none }) rfl (fun K hK => ?_) (AllReadyH.nil)
    go_simp
    refine hK.out _ _ ?_ (fun _hS => ?_)
    · exact trivial
    clear hK K
    try simp only [Act.put, List.setIfInBounds_toArray, List.set_cons_zero, List.set_cons_succ]
    refine wpAnyH_done (by kernel_rfl) ?_ _
    refine NoPanic.normal ?_
    go_wp2
    go_end0
    exact HF6.out
  · go_simp
    go_at_call_of 25 (Value.slice ka kn kc)
    refine (HK.out _ (Below.refl _ _).drew).mono ?_
    rintro e wK ⟨vK, rfl, hmK⟩
    obtain ⟨aK, cK, rfl, -⟩ := hmK.1.shape
    have HBK := hide ((Below.refl w.heap.size w).drew.trans hmK.2.2)
    have cK0 := one_below c0 HBK.out
    have cA0 : (wK.alloc (.cells #[.slice aK key.length cK, .slice none 0 0, .bool true] 36)).cell? ⟨p, 0, none⟩ = some v := one_below cK0 (below_alloc wK _)
    have HMK := hide hmK
    clear hmK
    go_simp
    refine hK.out _ _ ?_ (fun _hS => ?_)
    · exact trivial
    clear hK K
    try simp only [Act.put, List.setIfInBounds_toArray, List.set_cons_zero, List.set_cons_succ]
    refine wpAnyH_take (i := 7) (oi := { dst := some 11, op := Op.build 36 #[(0, Operand.tmp 10), (2, Operand.const (Value.bool true))], type := 36, pos := "ref.go:28", after := #[{ on := 6, ground := Ground.data }], guard := none }) (v := ?v7x109) rfl (by kernel_rfl) (by kernel_rfl) (by kernel_rfl) (fun _ _ _ h => h) (Or.inl ⟨by rfl, ?hy7x109⟩) (by assumption) ?rest7x109
    case hy7x109 => (intro w hSw; (try dsimp only at hSw); (first | (go_simp; with_reducible rfl) | go_simp))
    try simp only [Act.put, List.setIfInBounds_toArray, List.set_cons_zero, List.set_cons_succ]
    refine wpAnyH_ready (rs := [4, 8]) (by kernel_rfl) (by simp) ?_
    refine AllReadyH.cons (o := { dst := some 8, op := Op.load 30 (Operand.tmp 7), type := 30, pos := "ref.go:28", after := #[{ on := 3, ground := Ground.data }], guard := none }) rfl (fun K hK => ?_) (AllReadyH.cons (o := { dst := some 12, op := Op.buildSlice 30 1 #[(0, Operand.tmp 11)], type := 30, pos := "ref.go:28", after := #[{ on := 7, ground := Ground.data }], guard := none }) rfl (fun K hK => ?_) (AllReadyH.nil))
    · go_simp
      refine hK.out _ _ ?_ (fun _hS => ?_)
      · exact trivial
      clear hK K
      try simp only [Act.put, List.setIfInBounds_toArray, List.set_cons_zero, List.set_cons_succ]
      refine wpAnyH_ready (rs := [8]) (by kernel_rfl) (by simp) ?_
      refine AllReadyH.cons (o := { dst := some 12, op := Op.buildSlice 30 1 #[(0, Operand.tmp 11)], type := 30, pos := "ref.go:28", after := #[{ on := 7, ground := Ground.data }], guard := none }) rfl (fun K hK => ?_) (AllReadyH.nil)
      go_simp
      refine hK.out _ _ ?_ (fun _hS => ?_)
      · exact trivial
      clear hK K
      try simp only [Act.put, List.setIfInBounds_toArray, List.set_cons_zero, List.set_cons_succ]
      have HFin := hide (rdel_end (a := aK) (c := cK) H.out hB HMK.out HK8.out HBK.out)
      refine wpAnyH_ready (rs := [9]) (by kernel_rfl) (by simp) ?_
      refine AllReadyH.cons (o := { dst := some 13, op := Op.call { callee := Callee.builtin Builtin.append, args := #[Operand.tmp 8, Operand.tmp 12], argTypes := #[30, 30] }, type := 30, pos := "ref.go:28", after := #[{ on := 4, ground := Ground.data }, { on := 8, ground := Ground.data }, { on := 6, ground := Ground.chain }], guard := none }) rfl (fun K hK => ?_) (AllReadyH.nil)
      refine step_of rfl ?_
      refine wp_append_at (.tmp 8) (.tmp 12) 30 36 rfl B i0 _ 3 56 Try.underlying30 hi hz0 hz1 hz2 (by rfl) (by omega) v ys.length (rowc ys) rfl HFin.out.1 ⟨wK.heap.size, 0, none⟩ 1 1 [.slice aK key.length cK, .slice none 0 0, .bool true] rfl rfl HFin.out.2.1 HFin.out.2.2.1 (by unfold maxLen; omega) (by omega) HFin.out.2.2.2.1 ?_
      intro v6 w6 hown6 hg6 hloc6
      obtain ⟨a6, c6, rfl, -⟩ := row_shape hown6
      have k3 := HFin.out.2.2.2.2.1 w6 hg6
      have s2 := cell_of_one k3
      have f2 := free_of_one k3
      have HF6 := hide (HFin.out.2.2.2.2.2 _ w6 hown6 hg6 hloc6)
      clear hown6 hg6 hloc6 k3
      go_simp
      refine hK.out _ _ ?_ (fun _hS => ?_)
      · exact trivial
      clear hK K
      try simp only [Act.put, List.setIfInBounds_toArray, List.set_cons_zero, List.set_cons_succ]
      refine wpAnyH_take (i := 10) (oi := { dst := some 14, op := Op.nilCheck (Operand.tmp 4), type := 0, pos := "ref.go:28", after := #[{ on := 0, ground := Ground.data }, { on := 0, ground := Ground.phase }, { on := 1, ground := Ground.phase }, { on := 2, ground := Ground.phase }, { on := 3, ground := Ground.phase }, { on := 4, ground := Ground.phase }, { on := 5, ground := Ground.phase }, { on := 6, ground := Ground.phase }, { on := 7, ground := Ground.phase }, { on := 8, ground := Ground.phase }, { on := 9, ground := Ground.phase }], guard := none }) (v := ?v10x110) rfl (by kernel_rfl) (by kernel_rfl) (by kernel_rfl) (fun _ _ _ h => h) (Or.inl ⟨by rfl, ?hy10x110⟩) (by assumption) ?rest10x110
      case hy10x110 => (intro w hSw; (try dsimp only at hSw); (first | (go_simp; with_reducible rfl) | go_simp))
      try simp only [Act.put, List.setIfInBounds_toArray, List.set_cons_zero, List.set_cons_succ]
      refine wpAnyH_take (i := 11) (oi := { dst := some 15, op := Op.fieldAddr 32 (Operand.tmp 14) 0, type := 0, pos := "ref.go:28", after := #[{ on := 10, ground := Ground.data }, { on := 0, ground := Ground.phase }, { on := 1, ground := Ground.phase }, { on := 2, ground := Ground.phase }, { on := 3, ground := Ground.phase }, { on := 4, ground := Ground.phase }, { on := 5, ground := Ground.phase }, { on := 6, ground := Ground.phase }, { on := 7, ground := Ground.phase }, { on := 8, ground := Ground.phase }, { on := 9, ground := Ground.phase }], guard := none }) (v := ?v11x111) rfl (by kernel_rfl) (by kernel_rfl) (by kernel_rfl) (fun _ _ _ h => h) (Or.inl ⟨by rfl, ?hy11x111⟩) (by assumption) ?rest11x111
      case hy11x111 => (intro w hSw; (try dsimp only at hSw); (first | (go_simp; with_reducible rfl) | go_simp))
      try simp only [Act.put, List.setIfInBounds_toArray, List.set_cons_zero, List.set_cons_succ]
      refine wpAnyH_ready (rs := [12]) (by kernel_rfl) (by simp) ?_
      refine AllReadyH.cons (o := { dst := none, op := Op.store 30 (Operand.tmp 15) (Operand.tmp 13), type := 0, pos := "ref.go:28", after := #[{ on := 11, ground := Ground.data }, { on := 9, ground := Ground.data }, { on := 9, ground := Ground.chain }, { on := 0, ground := Ground.phase }, { on := 1, ground := Ground.phase }, { on := 2, ground := Ground.phase }, { on := 3, ground := Ground.phase }, { on := 4, ground := Ground.phase }, { on := 5, ground := Ground.phase }, { on := 6, ground := Ground.phase }, { on := 7, ground := Ground.phase }, { on := 8, ground := Ground.phase }, { on := 9, ground := Ground.phase }], guard := none }) rfl (fun K hK => ?_) (AllReadyH.nil)
      go_simp
      refine hK.out _ _ ?_ (fun _hS => ?_)
      · exact trivial
      clear hK K
      try simp only [Act.put, List.setIfInBounds_toArray, List.set_cons_zero, List.set_cons_succ]
      refine wpAnyH_done (by kernel_rfl) ?_ _
      refine NoPanic.normal ?_
      go_wp2
      go_end0
      exact HF6.out
    · go_simp
      refine hK.out _ _ ?_ (fun _hS => ?_)
      · exact trivial
      clear hK K
      try simp only [Act.put, List.setIfInBounds_toArray, List.set_cons_zero, List.set_cons_succ]
      refine wpAnyH_ready (rs := [4]) (by kernel_rfl) (by simp) ?_
      refine AllReadyH.cons (o := { dst := some 8, op := Op.load 30 (Operand.tmp 7), type := 30, pos := "ref.go:28", after := #[{ on := 3, ground := Ground.data }], guard := none }) rfl (fun K hK => ?_) (AllReadyH.nil)
      go_simp
      refine hK.out _ _ ?_ (fun _hS => ?_)
      · exact trivial
      clear hK K
      try simp only [Act.put, List.setIfInBounds_toArray, List.set_cons_zero, List.set_cons_succ]
      have HFin := hide (rdel_end (a := aK) (c := cK) H.out hB HMK.out HK8.out HBK.out)
      refine wpAnyH_ready (rs := [9]) (by kernel_rfl) (by simp) ?_
      refine AllReadyH.cons (o := { dst := some 13, op := Op.call { callee := Callee.builtin Builtin.append, args := #[Operand.tmp 8, Operand.tmp 12], argTypes := #[30, 30] }, type := 30, pos := "ref.go:28", after := #[{ on := 4, ground := Ground.data }, { on := 8, ground := Ground.data }, { on := 6, ground := Ground.chain }], guard := none }) rfl (fun K hK => ?_) (AllReadyH.nil)
      refine step_of rfl ?_
      refine wp_append_at (.tmp 8) (.tmp 12) 30 36 rfl B i0 _ 3 56 Try.underlying30 hi hz0 hz1 hz2 (by rfl) (by omega) v ys.length (rowc ys) rfl HFin.out.1 ⟨wK.heap.size, 0, none⟩ 1 1 [.slice aK key.length cK, .slice none 0 0, .bool true] rfl rfl HFin.out.2.1 HFin.out.2.2.1 (by unfold maxLen; omega) (by omega) HFin.out.2.2.2.1 ?_
      intro v6 w6 hown6 hg6 hloc6
      obtain ⟨a6, c6, rfl, -⟩ := row_shape hown6
      have k3 := HFin.out.2.2.2.2.1 w6 hg6
      have s2 := cell_of_one k3
      have f2 := free_of_one k3
      have HF6 := hide (HFin.out.2.2.2.2.2 _ w6 hown6 hg6 hloc6)
      clear hown6 hg6 hloc6 k3
      go_simp
      refine hK.out _ _ ?_ (fun _hS => ?_)
      · exact trivial
      clear hK K
      try simp only [Act.put, List.setIfInBounds_toArray, List.set_cons_zero, List.set_cons_succ]
      refine wpAnyH_take (i := 10) (oi := { dst := some 14, op := Op.nilCheck (Operand.tmp 4), type := 0, pos := "ref.go:28", after := #[{ on := 0, ground := Ground.data }, { on := 0, ground := Ground.phase }, { on := 1, ground := Ground.phase }, { on := 2, ground := Ground.phase }, { on := 3, ground := Ground.phase }, { on := 4, ground := Ground.phase }, { on := 5, ground := Ground.phase }, { on := 6, ground := Ground.phase }, { on := 7, ground := Ground.phase }, { on := 8, ground := Ground.phase }, { on := 9, ground := Ground.phase }], guard := none }) (v := ?v10x112) rfl (by kernel_rfl) (by kernel_rfl) (by kernel_rfl) (fun _ _ _ h => h) (Or.inl ⟨by rfl, ?hy10x112⟩) (by assumption) ?rest10x112
      case hy10x112 => (intro w hSw; (try dsimp only at hSw); (first | (go_simp; with_reducible rfl) | go_simp))
      try simp only [Act.put, List.setIfInBounds_toArray, List.set_cons_zero, List.set_cons_succ]
      refine wpAnyH_take (i := 11) (oi := { dst := some 15, op := Op.fieldAddr 32 (Operand.tmp 14) 0, type := 0, pos := "ref.go:28", after := #[{ on := 10, ground := Ground.data }, { on := 0, ground := Ground.phase }, { on := 1, ground := Ground.phase }, { on := 2, ground := Ground.phase }, { on := 3, ground := Ground.phase }, { on := 4, ground := Ground.phase }, { on := 5, ground := Ground.phase }, { on := 6, ground := Ground.phase }, { on := 7, ground := Ground.phase }, { on := 8, ground := Ground.phase }, { on := 9, ground := Ground.phase }], guard := none }) (v := ?v11x113) rfl (by kernel_rfl) (by kernel_rfl) (by kernel_rfl) (fun _ _ _ h => h) (Or.inl ⟨by rfl, ?hy11x113⟩) (by assumption) ?rest11x113
      case hy11x113 => (intro w hSw; (try dsimp only at hSw); (first | (go_simp; with_reducible rfl) | go_simp))
      try simp only [Act.put, List.setIfInBounds_toArray, List.set_cons_zero, List.set_cons_succ]
      refine wpAnyH_ready (rs := [12]) (by kernel_rfl) (by simp) ?_
      refine AllReadyH.cons (o := { dst := none, op := Op.store 30 (Operand.tmp 15) (Operand.tmp 13), type := 0, pos := "ref.go:28", after := #[{ on := 11, ground := Ground.data }, { on := 9, ground := Ground.data }, { on := 9, ground := Ground.chain }, { on := 0, ground := Ground.phase }, { on := 1, ground := Ground.phase }, { on := 2, ground := Ground.phase }, { on := 3, ground := Ground.phase }, { on := 4, ground := Ground.phase }, { on := 5, ground := Ground.phase }, { on := 6, ground := Ground.phase }, { on := 7, ground := Ground.phase }, { on := 8, ground := Ground.phase }, { on := 9, ground := Ground.phase }], guard := none }) rfl (fun K hK => ?_) (AllReadyH.nil)
      go_simp
      refine hK.out _ _ ?_ (fun _hS => ?_)
      · exact trivial
      clear hK K
      try simp only [Act.put, List.setIfInBounds_toArray, List.set_cons_zero, List.set_cons_succ]
      refine wpAnyH_done (by kernel_rfl) ?_ _
      refine NoPanic.normal ?_
      go_wp2
      go_end0
      exact HF6.out
end Go.Proofs.Ytfcebpenjdhgbaa
