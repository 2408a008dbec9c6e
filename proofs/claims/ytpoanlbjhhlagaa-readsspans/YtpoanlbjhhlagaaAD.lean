/- A span is added to a set. -/
import Derived.Test.YtpoanlbjhhlagaaHS
namespace Go.Proofs.Ytpoanlbjhhlagaa
open Go.RowKit Go.Maps
set_option linter.unusedVariables false

theorem add_end {w w6 : World} {p B ap : Nat} {sv v6 : Value} {xs : List En} {y : En} {L : List Ee} {O E : Nat → Prop} (h1 : Sm w p B sv xs ap) (h2 : ∀ k, U (ers xs) k ↔ U L k) (h3 : ∀ x ∈ ers xs, okS x) (h4 : ap ≤ xs.length) (h6 : xs.length ≤ L.length) (h7 : ∀ k, O k ↔ So p sv k) (h8 : ∀ k, E k ↔ ∃ x ∈ xs, x.has k) (h9 : ∀ x ∈ xs, x.e.key.length ≤ 40000 ∧ x.e.val.length ≤ 40000)
    (hy : y.Lo B w) (ho : okS y.e) (hl : y.e.key.length ≤ 40000 ∧ y.e.val.length ≤ 40000) (hown : w6.ownsRow B 65 3 v6 (xs ++ [y]).length (rowc (xs ++ [y]))) (hm : Mv (fun k => sv.ownBlock = some k) w w6) (hl6 : ∀ k, v6.ownBlock = some k → sv.ownBlock = some k ∨ w.heap.size ≤ k) :
    ∃ O' E', Sx (w6.setCell ⟨p, 0, none⟩ v6) p B (L ++ [y.e]) O' E' ∧ Go1 O w O' (w6.setCell ⟨p, 0, none⟩ v6) ∧ ∀ k, E' k → E k ∨ y.has k := by
  have hpw := lt_of_block h1.blk
  have hp6 := (hm.block p hpw h1.sne).trans h1.blk
  have other : ∀ k, k ≠ p → ((w6.setCell ⟨p, 0, none⟩ v6).heap[k]? = w6.heap[k]?) := fun k hk => set_other _ _ _ _ _ hk
  have lo : ∀ x : En, x.Lo B w → x.Lo B (w6.setCell ⟨p, 0, none⟩ v6) := fun x h => h.of_block fun k hk => by
    obtain ⟨c, hc⟩ := h.u8 hk
    rw [other k fun e => by subst e; rw [h1.blk] at hc; have := obj_type hc; simp at this]
    exact hm.block k (h.lt hk) fun e => h1.not_u8 hc (.inr e)
  refine ⟨fun k => So p v6 k, fun k => ∃ x ∈ xs ++ [y], x.has k, ⟨v6, xs ++ [y], ap, ⟨?_, row_of_block hown fun k hk => other k ?_, fun x hx => ?_, h1.base⟩, fun k => ?_, fun x hx => ?_, by simp; omega, fun e => by simp at e; omega, by simp; omega, fun k => Iff.rfl, fun k => Iff.rfl, fun x hx => ?_⟩, ⟨?_, fun k hk => ?_⟩, fun k hk => ?_⟩
  · rw [heap_setCell_same w6 p 0 _ 79 _ hp6]; rfl
  · rintro rfl
    rcases hl6 k hk with h | h
    · exact h1.sne h
    · omega
  · rcases List.mem_append.1 hx with hx | hx
    · exact lo x (h1.each x hx)
    · simp at hx; subst hx; exact lo x hy
  · rw [ers_app, U_app, U_app, h2 k]; exact Iff.rfl
  · rw [ers_app] at hx
    rcases List.mem_append.1 hx with hx | hx
    · exact h3 x hx
    · simp [ers] at hx; subst hx; exact ho
  · rcases List.mem_append.1 hx with hx | hx
    · exact h9 x hx
    · simp at hx; subst hx; exact hl
  · exact (hm.mono fun k hk => (h7 k).2 (.inr hk)).setB ((h7 p).2 (.inl rfl)) 0 v6
  · rcases hk with rfl | hk
    · exact .inl ((h7 k).2 (.inl rfl))
    · exact (hl6 k hk).imp (fun h => (h7 k).2 (.inr h)) id
  · obtain ⟨x, hx, hk⟩ := hk
    rcases List.mem_append.1 hx with hx | hx
    · exact .inl ((h8 k).2 ⟨x, hx, hk⟩)
    · simp at hx; subst hx; exact .inr hk
abbrev zad0 : Oper := { dst := some 4, op := Op.move (Operand.tmp 0), type := 26, pos := "reads.go:56", after := #[], guard := none }
abbrev zad1 : Oper := { dst := some 5, op := Op.move (Operand.tmp 0), type := 26, pos := "reads.go:56", after := #[], guard := none }
abbrev zad2 : Oper := { dst := some 6, op := Op.nilCheck (Operand.tmp 5), type := 0, pos := "reads.go:56", after := #[{ on := 1, ground := Ground.data }], guard := none }
abbrev zad3 : Oper := { dst := some 7, op := Op.fieldAddr 79 (Operand.tmp 6) 0, type := 0, pos := "reads.go:56", after := #[{ on := 2, ground := Ground.data }], guard := none }
abbrev zad4 : Oper := { dst := some 8, op := Op.load 23 (Operand.tmp 7), type := 23, pos := "reads.go:56", after := #[{ on := 3, ground := Ground.data }], guard := none }
abbrev zad5 : Oper := { dst := some 9, op := Op.load 65 (Operand.tmp 3), type := 65, pos := "reads.go:56", after := #[], guard := none }
abbrev zad6 : Oper := { dst := some 10, op := Op.buildSlice 23 1 #[(0, Operand.tmp 9)], type := 23, pos := "reads.go:56", after := #[{ on := 5, ground := Ground.data }], guard := none }
abbrev zad7 : Oper := { dst := some 11, op := Op.call { callee := Callee.builtin Builtin.append, args := #[Operand.tmp 8, Operand.tmp 10], argTypes := #[23, 23] }, type := 23, pos := "reads.go:56", after := #[{ on := 4, ground := Ground.data }, { on := 6, ground := Ground.data }], guard := none }
abbrev zad8 : Oper := { dst := some 12, op := Op.nilCheck (Operand.tmp 4), type := 0, pos := "reads.go:56", after := #[{ on := 0, ground := Ground.data }, { on := 0, ground := Ground.phase }, { on := 1, ground := Ground.phase }, { on := 2, ground := Ground.phase }, { on := 3, ground := Ground.phase }, { on := 4, ground := Ground.phase }, { on := 5, ground := Ground.phase }, { on := 6, ground := Ground.phase }, { on := 7, ground := Ground.phase }], guard := none }
abbrev zad9 : Oper := { dst := some 13, op := Op.fieldAddr 79 (Operand.tmp 12) 0, type := 0, pos := "reads.go:56", after := #[{ on := 8, ground := Ground.data }, { on := 0, ground := Ground.phase }, { on := 1, ground := Ground.phase }, { on := 2, ground := Ground.phase }, { on := 3, ground := Ground.phase }, { on := 4, ground := Ground.phase }, { on := 5, ground := Ground.phase }, { on := 6, ground := Ground.phase }, { on := 7, ground := Ground.phase }], guard := none }
abbrev zad10 : Oper := { dst := none, op := Op.store 23 (Operand.tmp 13) (Operand.tmp 11), type := 0, pos := "reads.go:56", after := #[{ on := 9, ground := Ground.data }, { on := 7, ground := Ground.data }, { on := 7, ground := Ground.chain }, { on := 0, ground := Ground.phase }, { on := 1, ground := Ground.phase }, { on := 2, ground := Ground.phase }, { on := 3, ground := Ground.phase }, { on := 4, ground := Ground.phase }, { on := 5, ground := Ground.phase }, { on := 6, ground := Ground.phase }, { on := 7, ground := Ground.phase }], guard := none }
abbrev zae0 : Oper := { dst := some 14, op := Op.move (Operand.tmp 0), type := 26, pos := "reads.go:57", after := #[], guard := none }
abbrev zae1 : Oper := { dst := some 15, op := Op.nilCheck (Operand.tmp 14), type := 0, pos := "reads.go:57", after := #[{ on := 0, ground := Ground.data }], guard := none }
abbrev zae2 : Oper := { dst := some 16, op := Op.fieldAddr 79 (Operand.tmp 15) 0, type := 0, pos := "reads.go:57", after := #[{ on := 1, ground := Ground.data }], guard := none }
abbrev zae3 : Oper := { dst := some 17, op := Op.load 23 (Operand.tmp 16), type := 23, pos := "reads.go:57", after := #[{ on := 2, ground := Ground.data }], guard := none }
abbrev zae4 : Oper := { dst := some 18, op := Op.call { callee := Callee.builtin Builtin.len, args := #[Operand.tmp 17], argTypes := #[23] }, type := 3, pos := "reads.go:57", after := #[{ on := 3, ground := Ground.data }], guard := none }
abbrev zae5 : Oper := { dst := some 19, op := Op.move (Operand.tmp 0), type := 26, pos := "reads.go:57", after := #[], guard := none }
abbrev zae6 : Oper := { dst := some 20, op := Op.nilCheck (Operand.tmp 19), type := 0, pos := "reads.go:57", after := #[{ on := 5, ground := Ground.data }], guard := none }
abbrev zae7 : Oper := { dst := some 21, op := Op.fieldAddr 79 (Operand.tmp 20) 1, type := 0, pos := "reads.go:57", after := #[{ on := 6, ground := Ground.data }], guard := none }
abbrev zae8 : Oper := { dst := some 22, op := Op.load 3 (Operand.tmp 21), type := 3, pos := "reads.go:57", after := #[{ on := 7, ground := Ground.data }], guard := none }
abbrev zae9 : Oper := { dst := some 23, op := Op.binOp BinOp.mul 3 (Operand.const (Value.int IntKind.i64 2)) (Operand.tmp 22) 3, type := 3, pos := "reads.go:57", after := #[{ on := 8, ground := Ground.data }], guard := none }
abbrev zae10 : Oper := { dst := some 24, op := Op.binOp BinOp.gtr 3 (Operand.tmp 18) (Operand.tmp 23) 3, type := 4, pos := "reads.go:57", after := #[{ on := 4, ground := Ground.data }, { on := 9, ground := Ground.data }], guard := none }
set_option maxHeartbeats 3200000 in
set_option maxRecDepth 1000000 in
theorem add_any {w : World} {p B : Nat} {L : List Ee} {O E : Nat → Prop} (h : Sx w p B L O E) (hn : L.length ≤ 900) (y : En) (hy : y.Lo B w) (ho : okS y.e) (hl : y.e.key.length ≤ 40000 ∧ y.e.val.length ≤ 40000) :
    Calls Try.prog 66 #[.pointer (some ⟨p, 0, none⟩), .agg #[.slice y.ka y.e.key.length y.kc, .slice y.va y.e.val.length y.vc, .bool y.e.del]] w fun e w' => e = .returned (.tuple #[]) ∧ ∃ O' E', Sx w' p B (L ++ [y.e]) O' E' ∧ Go1 O w O' w' ∧ ∀ k, E' k → E k ∨ y.has k := by
  obtain ⟨w1, hw1⟩ : ∃ w1, w1 = w.alloc (.cells #[.slice y.ka y.e.key.length y.kc, .slice y.va y.e.val.length y.vc, .bool y.e.del] 65) := ⟨_, rfl⟩
  have hb1 : Below w.heap.size w w1 := by rw [hw1]; exact below_alloc _ _
  have hq : w1.heap[w.heap.size]? = some (.cells #[.slice y.ka y.e.key.length y.kc, .slice y.va y.e.val.length y.vc, .bool y.e.del] 65 (0, 0)) := by rw [hw1]; exact heap_alloc_new w _
  have hs1 : w1.heap.size = w.heap.size + 1 := by rw [hw1]; simp
  obtain ⟨sv, xs, ap, h1', h2, h3, h4, h5, h6, h7, h8, h9⟩ := h
  have hpw := lt_of_block h1'.blk
  have h1 := h1'.below hb1.drew
  have hy1 := hy.below hb1.drew
  have hNS : ¬ So p sv w.heap.size := fun e => by have := h1'.lt e; omega
  have PW := hide (cells_two h1'.blk).1
  clear h1' hy
  obtain ⟨a, c, rfl, -⟩ := h1.ens
  obtain ⟨n, hnx⟩ : ∃ n, n = xs.length := ⟨_, rfl⟩
  have hB : B ≤ w1.drew.heap.size := Nat.le_trans h1.base (Nat.le_of_lt (lt_of_block h1.blk))
  obtain ⟨v6, w6, run6, hown6, hmv6, hl6, hs6, hk6⟩ := app_row y h1.row hB (Below.refl _ w1.drew) (by omega)
  rw [show w1.drew.heap.size = w.heap.size + 1 from hs1] at run6
  have HFin := hide (add_end h1 h2 h3 h4 h6 h7 h8 h9 hy1 ho hl hown6 hmv6 hl6)
  obtain ⟨s0, s1, -⟩ := cells_two h1.blk
  obtain ⟨q0, q1, q2, -⟩ := cells_three hq
  have hp6 := (hmv6.block p (lt_of_block h1.blk) h1.sne).trans h1.blk
  have hq6 := (hmv6.block w.heap.size (show w.heap.size < w1.heap.size by omega) (fun e => hNS (.inr e))).trans hq
  have hBn := below_alloc w1.drew (.cells #[.slice y.ka y.e.key.length y.kc, .slice y.va y.e.val.length y.vc, .bool y.e.del] 65)
  have hpA := (hBn.block p (lt_of_block h1.blk)).trans h1.blk
  have hqA := (hBn.block w.heap.size (show w.heap.size < w1.heap.size by omega)).trans hq
  obtain ⟨a0, a1, -⟩ := cells_two hpA
  obtain ⟨b0, b1, b2, -⟩ := cells_three hqA
  have P0 := hide a0
  have P1 := hide b0
  have P2 := hide b1
  have P3 := hide b2
  obtain ⟨c0, c1, cf⟩ := cells_two hp6
  obtain ⟨d0, d1, d2, -⟩ := cells_three hq6
  have P4 := hide c0
  have P5 := hide d0
  have P6 := hide d1
  have P7 := hide d2
  have hp7 := heap_setCell_same w6 p 0 _ 79 v6 hp6
  have P8 : Hid ((w6.setCell ⟨p, 0, none⟩ v6).cell? ⟨p, 0, none⟩ = some v6) := hide (by simp [World.cell?, hp7])
  have P9 : Hid ((w6.setCell ⟨p, 0, none⟩ v6).cell? ⟨p, 1, none⟩ = some (.int .i64 (ap : Int))) := hide (by simp [World.cell?, hp7])
  have NQ : Hid (w.heap.size ≠ p) := hide (by omega)
  have hlen6 : ∃ a6 c6, v6 = .slice a6 (n + 1) c6 := by
    obtain ⟨a6, c6, e, -⟩ := row_shape hown6
    exact ⟨a6, c6, by rw [e, hnx]; simp⟩
  have RUN6 := hide run6
  have HB1 := hide hb1
  have hap : ap ≤ n := by omega
  have hn9 : n ≤ 900 := by omega
  rw [← hnx] at s0 P0 P4 RUN6 PW
  clear h1 h2 h3 h4 h5 h6 h7 h8 h9 hy1 run6 hown6 hmv6 hl6 hs6 hk6 hp6 hq6 hBn hpA hqA a0 a1 b0 b1 b2 c0 c1 d0 d1 d2 hp7 hq hb1 hs1 hnx hB hNS
  obtain ⟨a6, c6, rfl⟩ := hlen6
  subst hw1
  go_enter Try.func66, Try.ntmps66
  go_wp2
  refine wp_region_noPanic ?_
  refine wp_region_held_drew (S := (fun W => W.cell? ⟨w.heap.size, 0, none⟩ = some (.slice y.ka y.e.key.length y.kc) ∧ W.cell? ⟨w.heap.size, 1, none⟩ = some (.slice y.va y.e.val.length y.vc) ∧ W.cell? ⟨w.heap.size, 2, none⟩ = some (.bool y.e.del))) (by kernel_rfl) ⟨q0, q1, q2⟩ (fun _hS => ?_)
  refine wtk (i := 0) (oi := zad0) (v := ?v0x1) rfl ⟨by rfl, ?hy0x1⟩ (by assumption) ?_
  case hy0x1 => (intro w s; (try dsimp only at s); first | (go_simp; with_reducible rfl) | go_simp)
  try simp only [Act.put, zps]
  refine wtk (i := 1) (oi := zad1) (v := ?v1x2) rfl ⟨by rfl, ?hy1x2⟩ (by assumption) ?_
  case hy1x2 => (intro w s; (try dsimp only at s); first | (go_simp; with_reducible rfl) | go_simp)
  try simp only [Act.put, zps]
  refine wtk (i := 2) (oi := zad2) (v := ?v2x3) rfl ⟨by rfl, ?hy2x3⟩ (by assumption) ?_
  case hy2x3 => (intro w s; (try dsimp only at s); first | (go_simp; with_reducible rfl) | go_simp)
  try simp only [Act.put, zps]
  refine wtk (i := 3) (oi := zad3) (v := ?v3x4) rfl ⟨by rfl, ?hy3x4⟩ (by assumption) ?_
  case hy3x4 => (intro w s; (try dsimp only at s); first | (go_simp; with_reducible rfl) | go_simp)
  try simp only [Act.put, zps]
  refine wtk (i := 5) (oi := zad5) (v := ?v5x5) rfl ⟨by rfl, ?hy5x5⟩ (by assumption) ?_
  case hy5x5 => (intro w s; (try dsimp only at s); first | (go_simp; with_reducible rfl) | go_simp)
  try simp only [Act.put, zps]
  refine wpAnyH_ready (rs := [4, 6]) (by kernel_rfl) (by simp) ?_
  refine AllReadyH.cons (o := zad4) rfl (fun K hK => ?_) (AllReadyH.cons (o := zad6) rfl (fun K hK => ?_) (AllReadyH.nil))
  · go_simp
    refine hK.out _ _ ?_ (fun _hS => ?_)
    · exact ⟨q0, q1, q2⟩
    clear hK K
    try simp only [Act.put, zps]
    refine wpAnyH_ready (rs := [6]) (by kernel_rfl) (by simp) ?_
    refine AllReadyH.cons (o := zad6) rfl (fun K hK => ?_) (AllReadyH.nil)
    go_simp
    refine hK.out _ _ ?_ (fun _hS => ?_)
    · exact ⟨P1.out, P2.out, P3.out⟩
    clear hK K
    try simp only [Act.put, zps]
    refine wpAnyH_ready (rs := [7]) (by kernel_rfl) (by simp) ?_
    refine AllReadyH.cons (o := zad7) rfl (fun K hK => ?_) (AllReadyH.nil)
    refine step_of rfl ?_
    refine wp_run_append (v := .slice a n c) (u := .slice (some ⟨w.heap.size + 1, 0, none⟩) 1 1) (.tmp 8) (.tmp 10) 23 rfl rfl rfl RUN6.out ?_
    go_simp
    refine hK.out _ _ ?_ (fun _hS => ?_)
    · exact ⟨P5.out, P6.out, P7.out⟩
    clear hK K
    try simp only [Act.put, zps]
    refine wtk (i := 8) (oi := zad8) (v := ?v8x6) rfl ⟨by rfl, ?hy8x6⟩ (by assumption) ?_
    case hy8x6 => (intro w s; (try dsimp only at s); first | (go_simp; with_reducible rfl) | go_simp)
    try simp only [Act.put, zps]
    refine wtk (i := 9) (oi := zad9) (v := ?v9x7) rfl ⟨by rfl, ?hy9x7⟩ (by assumption) ?_
    case hy9x7 => (intro w s; (try dsimp only at s); first | (go_simp; with_reducible rfl) | go_simp)
    try simp only [Act.put, zps]
    refine wpAnyH_ready (rs := [10]) (by kernel_rfl) (by simp) ?_
    refine AllReadyH.cons (o := zad10) rfl (fun K hK => ?_) (AllReadyH.nil)
    have p4 := P4.out
    go_simp
    refine hK.out _ _ ?_ (fun _hS => ?_)
    · exact ⟨(cell_set_ne NQ.out).trans P5.out, (cell_set_ne NQ.out).trans P6.out, (cell_set_ne NQ.out).trans P7.out⟩
    clear hK K
    try simp only [Act.put, zps]
    refine wpAnyH_done (by kernel_rfl) ?_ _
    refine NoPanic.normal ?_
    have e1 : IntKind.i64.wrap (2 * (ap : Int)) = ((2 * ap : Nat) : Int) := by rw [IntKind.wrap_i64] <;> omega
    have p8 := P8.out
    have p9 := P9.out
    have HX := hide HFin.out
    have HDr : Hid (∀ W, Below (w6.setCell ⟨p, 0, none⟩ (.slice a6 (n + 1) c6)).heap.size (w6.setCell ⟨p, 0, none⟩ (.slice a6 (n + 1) c6)) W → ∃ O' E', Sx W p B (L ++ [y.e]) O' E' ∧ Go1 O w O' W ∧ ∀ k, E' k → E k ∨ y.has k) := hide fun W hW => by
      obtain ⟨O', E', g1, g2, g3⟩ := HFin.out
      exact ⟨O', E', g1.below hW, ((Go1.of_below (O := O) HB1.out.drew).trans g2).trans (Go1.of_below hW), g3⟩
    go_wp2
    by_cases hgt : 2 * ap < n + 1
    · have e2 : 2 * (ap : Int) < (n : Int) + 1 := by omega
      have e3 : 2 * ap < n + 1 := hgt
      have HS : Hid (Calls Try.prog 33 #[.pointer (some ⟨p, 0, none⟩)] (w6.setCell ⟨p, 0, none⟩ (.slice a6 (n + 1) c6)).drew fun e w' => e = .returned (.tuple #[]) ∧ ∃ O' E', Sx w' p B (L ++ [y.e]) O' E' ∧ Go1 O w O' w' ∧ ∀ k, E' k → E k ∨ y.has k) := hide (by
        obtain ⟨O', E', g1, g2, g3⟩ := HDr.out _ (Below.refl _ _).drew
        refine (settle_any g1 (by simp; omega)).mono ?_
        rintro e w' ⟨rfl, O2, E2, k1, k2, k3⟩
        exact ⟨rfl, O2, E2, k1.sx, g2.trans k2, fun k hk => g3 k (k3 k hk)⟩)
      refine wp_region_noPanic ?_
      refine wp_region_held_drew (S := (fun W => W.cell? ⟨p, 0, none⟩ = some (.slice a6 (n + 1) c6) ∧ W.cell? ⟨p, 1, none⟩ = some (.int .i64 (ap : Int)))) (by kernel_rfl) ⟨P8.out, P9.out⟩ (fun _hS => ?_)
      refine wtk (i := 0) (oi := zae0) (v := ?v0x501) rfl ⟨by rfl, ?hy0x501⟩ (by assumption) ?_
      case hy0x501 => (intro w s; (try dsimp only at s); first | (go_simp; with_reducible rfl) | go_simp)
      try simp only [Act.put, zps]
      refine wtk (i := 1) (oi := zae1) (v := ?v1x502) rfl ⟨by rfl, ?hy1x502⟩ (by assumption) ?_
      case hy1x502 => (intro w s; (try dsimp only at s); first | (go_simp; with_reducible rfl) | go_simp)
      try simp only [Act.put, zps]
      refine wtk (i := 2) (oi := zae2) (v := ?v2x503) rfl ⟨by rfl, ?hy2x503⟩ (by assumption) ?_
      case hy2x503 => (intro w s; (try dsimp only at s); first | (go_simp; with_reducible rfl) | go_simp)
      try simp only [Act.put, zps]
      refine wtk (i := 3) (oi := zae3) (v := ?v3x504) rfl ⟨by rfl, ?hy3x504⟩ (by assumption) ?_
      case hy3x504 => (intro w s; (try dsimp only at s); first | (go_simp; with_reducible rfl) | go_simp)
      try simp only [Act.put, zps]
      refine wtk (i := 4) (oi := zae4) (v := ?v4x505) rfl ⟨by rfl, ?hy4x505⟩ (by assumption) ?_
      case hy4x505 => (intro w s; (try dsimp only at s); first | (go_simp; with_reducible rfl) | go_simp)
      try simp only [Act.put, zps]
      refine wtk (i := 5) (oi := zae5) (v := ?v5x506) rfl ⟨by rfl, ?hy5x506⟩ (by assumption) ?_
      case hy5x506 => (intro w s; (try dsimp only at s); first | (go_simp; with_reducible rfl) | go_simp)
      try simp only [Act.put, zps]
      refine wtk (i := 6) (oi := zae6) (v := ?v6x507) rfl ⟨by rfl, ?hy6x507⟩ (by assumption) ?_
      case hy6x507 => (intro w s; (try dsimp only at s); first | (go_simp; with_reducible rfl) | go_simp)
      try simp only [Act.put, zps]
      refine wtk (i := 7) (oi := zae7) (v := ?v7x508) rfl ⟨by rfl, ?hy7x508⟩ (by assumption) ?_
      case hy7x508 => (intro w s; (try dsimp only at s); first | (go_simp; with_reducible rfl) | go_simp)
      try simp only [Act.put, zps]
      refine wtk (i := 8) (oi := zae8) (v := ?v8x509) rfl ⟨by rfl, ?hy8x509⟩ (by assumption) ?_
      case hy8x509 => (intro w s; (try dsimp only at s); first | (go_simp; with_reducible rfl) | go_simp)
      try simp only [Act.put, zps]
      refine wtk (i := 9) (oi := zae9) (v := ?v9x510) rfl ⟨by rfl, ?hy9x510⟩ (by assumption) ?_
      case hy9x510 => (intro w s; (try dsimp only at s); first | (go_simp; with_reducible rfl) | go_simp)
      try simp only [Act.put, zps]
      refine wtk (i := 10) (oi := zae10) (v := ?v10x511) rfl ⟨by rfl, ?hy10x511⟩ (by assumption) ?_
      case hy10x511 => (intro w s; (try dsimp only at s); first | (go_simp; with_reducible rfl) | go_simp)
      try simp only [Act.put, zps]
      refine wpAnyH_done (by kernel_rfl) ?_ _
      refine NoPanic.normal ?_
      go_wp2_with fail
      refine HS.out.mono ?_
      rintro e w8 ⟨rfl, h8⟩
      go_wp2
      go_end0
      exact ⟨rfl, h8⟩
    · have e2 : ¬ 2 * (ap : Int) < (n : Int) + 1 := by omega
      refine wp_region_noPanic ?_
      refine wp_region_held_drew (S := (fun W => W.cell? ⟨p, 0, none⟩ = some (.slice a6 (n + 1) c6) ∧ W.cell? ⟨p, 1, none⟩ = some (.int .i64 (ap : Int)))) (by kernel_rfl) ⟨P8.out, P9.out⟩ (fun _hS => ?_)
      refine wtk (i := 0) (oi := zae0) (v := ?v0x512) rfl ⟨by rfl, ?hy0x512⟩ (by assumption) ?_
      case hy0x512 => (intro w s; (try dsimp only at s); first | (go_simp; with_reducible rfl) | go_simp)
      try simp only [Act.put, zps]
      refine wtk (i := 1) (oi := zae1) (v := ?v1x513) rfl ⟨by rfl, ?hy1x513⟩ (by assumption) ?_
      case hy1x513 => (intro w s; (try dsimp only at s); first | (go_simp; with_reducible rfl) | go_simp)
      try simp only [Act.put, zps]
      refine wtk (i := 2) (oi := zae2) (v := ?v2x514) rfl ⟨by rfl, ?hy2x514⟩ (by assumption) ?_
      case hy2x514 => (intro w s; (try dsimp only at s); first | (go_simp; with_reducible rfl) | go_simp)
      try simp only [Act.put, zps]
      refine wtk (i := 3) (oi := zae3) (v := ?v3x515) rfl ⟨by rfl, ?hy3x515⟩ (by assumption) ?_
      case hy3x515 => (intro w s; (try dsimp only at s); first | (go_simp; with_reducible rfl) | go_simp)
      try simp only [Act.put, zps]
      refine wtk (i := 4) (oi := zae4) (v := ?v4x516) rfl ⟨by rfl, ?hy4x516⟩ (by assumption) ?_
      case hy4x516 => (intro w s; (try dsimp only at s); first | (go_simp; with_reducible rfl) | go_simp)
      try simp only [Act.put, zps]
      refine wtk (i := 5) (oi := zae5) (v := ?v5x517) rfl ⟨by rfl, ?hy5x517⟩ (by assumption) ?_
      case hy5x517 => (intro w s; (try dsimp only at s); first | (go_simp; with_reducible rfl) | go_simp)
      try simp only [Act.put, zps]
      refine wtk (i := 6) (oi := zae6) (v := ?v6x518) rfl ⟨by rfl, ?hy6x518⟩ (by assumption) ?_
      case hy6x518 => (intro w s; (try dsimp only at s); first | (go_simp; with_reducible rfl) | go_simp)
      try simp only [Act.put, zps]
      refine wtk (i := 7) (oi := zae7) (v := ?v7x519) rfl ⟨by rfl, ?hy7x519⟩ (by assumption) ?_
      case hy7x519 => (intro w s; (try dsimp only at s); first | (go_simp; with_reducible rfl) | go_simp)
      try simp only [Act.put, zps]
      refine wtk (i := 8) (oi := zae8) (v := ?v8x520) rfl ⟨by rfl, ?hy8x520⟩ (by assumption) ?_
      case hy8x520 => (intro w s; (try dsimp only at s); first | (go_simp; with_reducible rfl) | go_simp)
      try simp only [Act.put, zps]
      refine wtk (i := 9) (oi := zae9) (v := ?v9x521) rfl ⟨by rfl, ?hy9x521⟩ (by assumption) ?_
      case hy9x521 => (intro w s; (try dsimp only at s); first | (go_simp; with_reducible rfl) | go_simp)
      try simp only [Act.put, zps]
      refine wtk (i := 10) (oi := zae10) (v := ?v10x522) rfl ⟨by rfl, ?hy10x522⟩ (by assumption) ?_
      case hy10x522 => (intro w s; (try dsimp only at s); first | (go_simp; with_reducible rfl) | go_simp)
      try simp only [Act.put, zps]
      refine wpAnyH_done (by kernel_rfl) ?_ _
      refine NoPanic.normal ?_
      go_wp2
      go_end0
      exact ⟨rfl, HDr.out _ (Below.refl _ _).drew⟩
  · go_simp
    refine hK.out _ _ ?_ (fun _hS => ?_)
    · exact ⟨P1.out, P2.out, P3.out⟩
    clear hK K
    try simp only [Act.put, zps]
    refine wpAnyH_ready (rs := [4]) (by kernel_rfl) (by simp) ?_
    refine AllReadyH.cons (o := zad4) rfl (fun K hK => ?_) (AllReadyH.nil)
    have pw := PW.out
    go_simp
    refine hK.out _ _ ?_ (fun _hS => ?_)
    · exact ⟨P1.out, P2.out, P3.out⟩
    clear hK K
    try simp only [Act.put, zps]
    refine wpAnyH_ready (rs := [7]) (by kernel_rfl) (by simp) ?_
    refine AllReadyH.cons (o := zad7) rfl (fun K hK => ?_) (AllReadyH.nil)
    refine step_of rfl ?_
    refine wp_run_append (v := .slice a n c) (u := .slice (some ⟨w.heap.size + 1, 0, none⟩) 1 1) (.tmp 8) (.tmp 10) 23 rfl rfl rfl RUN6.out ?_
    go_simp
    refine hK.out _ _ ?_ (fun _hS => ?_)
    · exact ⟨P5.out, P6.out, P7.out⟩
    clear hK K
    try simp only [Act.put, zps]
    refine wtk (i := 8) (oi := zad8) (v := ?v8x8) rfl ⟨by rfl, ?hy8x8⟩ (by assumption) ?_
    case hy8x8 => (intro w s; (try dsimp only at s); first | (go_simp; with_reducible rfl) | go_simp)
    try simp only [Act.put, zps]
    refine wtk (i := 9) (oi := zad9) (v := ?v9x9) rfl ⟨by rfl, ?hy9x9⟩ (by assumption) ?_
    case hy9x9 => (intro w s; (try dsimp only at s); first | (go_simp; with_reducible rfl) | go_simp)
    try simp only [Act.put, zps]
    refine wpAnyH_ready (rs := [10]) (by kernel_rfl) (by simp) ?_
    refine AllReadyH.cons (o := zad10) rfl (fun K hK => ?_) (AllReadyH.nil)
    have p4 := P4.out
    go_simp
    refine hK.out _ _ ?_ (fun _hS => ?_)
    · exact ⟨(cell_set_ne NQ.out).trans P5.out, (cell_set_ne NQ.out).trans P6.out, (cell_set_ne NQ.out).trans P7.out⟩
    clear hK K
    try simp only [Act.put, zps]
    refine wpAnyH_done (by kernel_rfl) ?_ _
    refine NoPanic.normal ?_
    have e1 : IntKind.i64.wrap (2 * (ap : Int)) = ((2 * ap : Nat) : Int) := by rw [IntKind.wrap_i64] <;> omega
    have p8 := P8.out
    have p9 := P9.out
    have HX := hide HFin.out
    have HDr : Hid (∀ W, Below (w6.setCell ⟨p, 0, none⟩ (.slice a6 (n + 1) c6)).heap.size (w6.setCell ⟨p, 0, none⟩ (.slice a6 (n + 1) c6)) W → ∃ O' E', Sx W p B (L ++ [y.e]) O' E' ∧ Go1 O w O' W ∧ ∀ k, E' k → E k ∨ y.has k) := hide fun W hW => by
      obtain ⟨O', E', g1, g2, g3⟩ := HFin.out
      exact ⟨O', E', g1.below hW, ((Go1.of_below (O := O) HB1.out.drew).trans g2).trans (Go1.of_below hW), g3⟩
    go_wp2
    by_cases hgt : 2 * ap < n + 1
    · have e2 : 2 * (ap : Int) < (n : Int) + 1 := by omega
      have e3 : 2 * ap < n + 1 := hgt
      have HS : Hid (Calls Try.prog 33 #[.pointer (some ⟨p, 0, none⟩)] (w6.setCell ⟨p, 0, none⟩ (.slice a6 (n + 1) c6)).drew fun e w' => e = .returned (.tuple #[]) ∧ ∃ O' E', Sx w' p B (L ++ [y.e]) O' E' ∧ Go1 O w O' w' ∧ ∀ k, E' k → E k ∨ y.has k) := hide (by
        obtain ⟨O', E', g1, g2, g3⟩ := HDr.out _ (Below.refl _ _).drew
        refine (settle_any g1 (by simp; omega)).mono ?_
        rintro e w' ⟨rfl, O2, E2, k1, k2, k3⟩
        exact ⟨rfl, O2, E2, k1.sx, g2.trans k2, fun k hk => g3 k (k3 k hk)⟩)
      refine wp_region_noPanic ?_
      refine wp_region_held_drew (S := (fun W => W.cell? ⟨p, 0, none⟩ = some (.slice a6 (n + 1) c6) ∧ W.cell? ⟨p, 1, none⟩ = some (.int .i64 (ap : Int)))) (by kernel_rfl) ⟨P8.out, P9.out⟩ (fun _hS => ?_)
      refine wtk (i := 0) (oi := zae0) (v := ?v0x523) rfl ⟨by rfl, ?hy0x523⟩ (by assumption) ?_
      case hy0x523 => (intro w s; (try dsimp only at s); first | (go_simp; with_reducible rfl) | go_simp)
      try simp only [Act.put, zps]
      refine wtk (i := 1) (oi := zae1) (v := ?v1x524) rfl ⟨by rfl, ?hy1x524⟩ (by assumption) ?_
      case hy1x524 => (intro w s; (try dsimp only at s); first | (go_simp; with_reducible rfl) | go_simp)
      try simp only [Act.put, zps]
      refine wtk (i := 2) (oi := zae2) (v := ?v2x525) rfl ⟨by rfl, ?hy2x525⟩ (by assumption) ?_
      case hy2x525 => (intro w s; (try dsimp only at s); first | (go_simp; with_reducible rfl) | go_simp)
      try simp only [Act.put, zps]
      refine wtk (i := 3) (oi := zae3) (v := ?v3x526) rfl ⟨by rfl, ?hy3x526⟩ (by assumption) ?_
      case hy3x526 => (intro w s; (try dsimp only at s); first | (go_simp; with_reducible rfl) | go_simp)
      try simp only [Act.put, zps]
      refine wtk (i := 4) (oi := zae4) (v := ?v4x527) rfl ⟨by rfl, ?hy4x527⟩ (by assumption) ?_
      case hy4x527 => (intro w s; (try dsimp only at s); first | (go_simp; with_reducible rfl) | go_simp)
      try simp only [Act.put, zps]
      refine wtk (i := 5) (oi := zae5) (v := ?v5x528) rfl ⟨by rfl, ?hy5x528⟩ (by assumption) ?_
      case hy5x528 => (intro w s; (try dsimp only at s); first | (go_simp; with_reducible rfl) | go_simp)
      try simp only [Act.put, zps]
      refine wtk (i := 6) (oi := zae6) (v := ?v6x529) rfl ⟨by rfl, ?hy6x529⟩ (by assumption) ?_
      case hy6x529 => (intro w s; (try dsimp only at s); first | (go_simp; with_reducible rfl) | go_simp)
      try simp only [Act.put, zps]
      refine wtk (i := 7) (oi := zae7) (v := ?v7x530) rfl ⟨by rfl, ?hy7x530⟩ (by assumption) ?_
      case hy7x530 => (intro w s; (try dsimp only at s); first | (go_simp; with_reducible rfl) | go_simp)
      try simp only [Act.put, zps]
      refine wtk (i := 8) (oi := zae8) (v := ?v8x531) rfl ⟨by rfl, ?hy8x531⟩ (by assumption) ?_
      case hy8x531 => (intro w s; (try dsimp only at s); first | (go_simp; with_reducible rfl) | go_simp)
      try simp only [Act.put, zps]
      refine wtk (i := 9) (oi := zae9) (v := ?v9x532) rfl ⟨by rfl, ?hy9x532⟩ (by assumption) ?_
      case hy9x532 => (intro w s; (try dsimp only at s); first | (go_simp; with_reducible rfl) | go_simp)
      try simp only [Act.put, zps]
      refine wtk (i := 10) (oi := zae10) (v := ?v10x533) rfl ⟨by rfl, ?hy10x533⟩ (by assumption) ?_
      case hy10x533 => (intro w s; (try dsimp only at s); first | (go_simp; with_reducible rfl) | go_simp)
      try simp only [Act.put, zps]
      refine wpAnyH_done (by kernel_rfl) ?_ _
      refine NoPanic.normal ?_
      go_wp2_with fail
      refine HS.out.mono ?_
      rintro e w8 ⟨rfl, h8⟩
      go_wp2
      go_end0
      exact ⟨rfl, h8⟩
    · have e2 : ¬ 2 * (ap : Int) < (n : Int) + 1 := by omega
      refine wp_region_noPanic ?_
      refine wp_region_held_drew (S := (fun W => W.cell? ⟨p, 0, none⟩ = some (.slice a6 (n + 1) c6) ∧ W.cell? ⟨p, 1, none⟩ = some (.int .i64 (ap : Int)))) (by kernel_rfl) ⟨P8.out, P9.out⟩ (fun _hS => ?_)
      refine wtk (i := 0) (oi := zae0) (v := ?v0x534) rfl ⟨by rfl, ?hy0x534⟩ (by assumption) ?_
      case hy0x534 => (intro w s; (try dsimp only at s); first | (go_simp; with_reducible rfl) | go_simp)
      try simp only [Act.put, zps]
      refine wtk (i := 1) (oi := zae1) (v := ?v1x535) rfl ⟨by rfl, ?hy1x535⟩ (by assumption) ?_
      case hy1x535 => (intro w s; (try dsimp only at s); first | (go_simp; with_reducible rfl) | go_simp)
      try simp only [Act.put, zps]
      refine wtk (i := 2) (oi := zae2) (v := ?v2x536) rfl ⟨by rfl, ?hy2x536⟩ (by assumption) ?_
      case hy2x536 => (intro w s; (try dsimp only at s); first | (go_simp; with_reducible rfl) | go_simp)
      try simp only [Act.put, zps]
      refine wtk (i := 3) (oi := zae3) (v := ?v3x537) rfl ⟨by rfl, ?hy3x537⟩ (by assumption) ?_
      case hy3x537 => (intro w s; (try dsimp only at s); first | (go_simp; with_reducible rfl) | go_simp)
      try simp only [Act.put, zps]
      refine wtk (i := 4) (oi := zae4) (v := ?v4x538) rfl ⟨by rfl, ?hy4x538⟩ (by assumption) ?_
      case hy4x538 => (intro w s; (try dsimp only at s); first | (go_simp; with_reducible rfl) | go_simp)
      try simp only [Act.put, zps]
      refine wtk (i := 5) (oi := zae5) (v := ?v5x539) rfl ⟨by rfl, ?hy5x539⟩ (by assumption) ?_
      case hy5x539 => (intro w s; (try dsimp only at s); first | (go_simp; with_reducible rfl) | go_simp)
      try simp only [Act.put, zps]
      refine wtk (i := 6) (oi := zae6) (v := ?v6x540) rfl ⟨by rfl, ?hy6x540⟩ (by assumption) ?_
      case hy6x540 => (intro w s; (try dsimp only at s); first | (go_simp; with_reducible rfl) | go_simp)
      try simp only [Act.put, zps]
      refine wtk (i := 7) (oi := zae7) (v := ?v7x541) rfl ⟨by rfl, ?hy7x541⟩ (by assumption) ?_
      case hy7x541 => (intro w s; (try dsimp only at s); first | (go_simp; with_reducible rfl) | go_simp)
      try simp only [Act.put, zps]
      refine wtk (i := 8) (oi := zae8) (v := ?v8x542) rfl ⟨by rfl, ?hy8x542⟩ (by assumption) ?_
      case hy8x542 => (intro w s; (try dsimp only at s); first | (go_simp; with_reducible rfl) | go_simp)
      try simp only [Act.put, zps]
      refine wtk (i := 9) (oi := zae9) (v := ?v9x543) rfl ⟨by rfl, ?hy9x543⟩ (by assumption) ?_
      case hy9x543 => (intro w s; (try dsimp only at s); first | (go_simp; with_reducible rfl) | go_simp)
      try simp only [Act.put, zps]
      refine wtk (i := 10) (oi := zae10) (v := ?v10x544) rfl ⟨by rfl, ?hy10x544⟩ (by assumption) ?_
      case hy10x544 => (intro w s; (try dsimp only at s); first | (go_simp; with_reducible rfl) | go_simp)
      try simp only [Act.put, zps]
      refine wpAnyH_done (by kernel_rfl) ?_ _
      refine NoPanic.normal ?_
      go_wp2
      go_end0
      exact ⟨rfl, HDr.out _ (Below.refl _ _).drew⟩
end Go.Proofs.Ytpoanlbjhhlagaa
