/- The document's own buffer in memory: what is copied, Put. -/
import Derived.Test.YtfcebpenjdhgbaaRV
import Derived.Test.YtfcebpenjdhgbaaTC
namespace Go.Proofs.Ytfcebpenjdhgbaa
open Go.RowKit Go.Maps
set_option linter.unusedVariables false

set_option maxHeartbeats 800000 in
set_option maxRecDepth 1000000 in
theorem copied_any (a : Option Addr) (n c : Nat) (ys : List Int) (w : World) (h : Inn w a n c ys) (hb : n ≤ 140737488351232) :
    Calls Try.prog 25 #[.slice a n c] w fun e w' => ∃ v, e = .returned v ∧ Made w v ys w' := by
  have HS : Hid (Src Try.prog 1 34 (.slice a n c) n (ys.map (Value.int .u8)) w) := hide (src_row _ _ n c ys h.len h.bare h.row)
  have HB : Hid (([] : List Int).length + n ≤ 140737488355328) := by rw [Hid]; simp; omega
  obtain ⟨i0, hi, hz0, hz1, hz2⟩ := info_parts Try.info5
  clear h
  go_enter Try.func25, Try.ntmps25
  go_wp2_with (at_builtin; refine wpList_append_src (by rfl) (.tmp 4) (.tmp 5) 34 34 (by rfl) i0 Try.underlying34 hi hz0 hz1 hz2 (.slice none 0 0) [] (by rfl) (Own.nil _) (.slice a n c) n ys (by rfl) HS.out HB.out ?_; intro v' w1 hown1 hg1 hf1; obtain ⟨a2, n2, c2, rfl, HN2⟩ := hown1.shape2; have HO1 := hide hown1; have HG1 := hide hg1; have HF1 := hide hf1; clear hown1 hg1 hf1)
  go_ret
  refine ⟨_, rfl, HO1.out, fun k hk => ?_, (Below.refl _ w).grown HG1.out (Nat.le_refl _) (fun k hk => by simp [Value.ownBlock] at hk)⟩
  rcases HF1.out k hk with h | h
  · simp [Value.ownBlock] at h
  · exact h
/-- the document's buffer at p: all that was said, in order. -/
structure Rb (w : World) (p B : Nat) (v : Value) (ys : List En) : Prop where
  blk : w.heap[p]? = some (.cells #[v] 32 (0, 0))
  ge : B ≤ p
  cl : Cl B w v ys
theorem Rb.below {w w' : World} {p B : Nat} {v : Value} {ys : List En} (h : Rb w p B v ys) (hb : Below w.heap.size w w') : Rb w' p B v ys :=
  ⟨(hb.block _ (lt_of_block h.blk)).trans h.blk, h.ge, h.cl.below hb⟩
theorem infoE2 : (Try.prog.info? 36).map (fun i => (i.zero, i.size, i.bytes)) = some (some (.agg #[.slice none 0 0, .slice none 0 0, .bool false]), 3, 56) := by kernel_rfl
/-- what a call of it leaves: all but it stays. -/
def RbOut (w : World) (p B : Nat) (v : Value) (ys : List En) (e : Ee) (r : Ending) (w' : World) : Prop := r = .returned (.tuple #[]) ∧ ∃ v' y, y.e = e ∧ Rb w' p B v' (ys ++ [y]) ∧ Mv (fun k => k = p ∨ v.ownBlock = some k) w w' ∧ (∀ k, v'.ownBlock = some k → v.ownBlock = some k ∨ w.heap.size ≤ k)
theorem Rb.type_ne {w : World} {p B : Nat} {v : Value} {ys : List En} (h : Rb w p B v ys) : v.ownBlock ≠ some p := fun e => by
  obtain ⟨_, _, cur, h1⟩ := h.cl.block e
  rw [h.blk] at h1
  have := congrArg (fun o : Option Obj => match o with | some (.cells _ t _) => t | _ => 0) h1
  simp at this
theorem Rb.type_ne2 {w : World} {p B : Nat} {v : Value} {ys : List En} (h : Rb w p B v ys) {y : En} (hy : y ∈ ys) {k : Nat} (hk : y.has k) : k ≠ p := fun e => by
  subst e
  obtain ⟨cur, h1⟩ := (h.cl.each y hy).u8 hk
  rw [h.blk] at h1
  have := congrArg (fun o : Option Obj => match o with | some (.cells _ t _) => t | _ => 0) h1
  simp at this
/-- one more is said. -/
theorem Rb.snoc {w w1 w2 : World} {p B : Nat} {v v' : Value} {ys : List En} {y : En} (h : Rb w p B v ys) (hB : B ≤ w.heap.size) (hb : Below w.heap.size w w1) (hy : y.Own w.heap.size w1) (hg : w1.grownBy w2 v.ownBlock) (hr : w2.ownsRow B 36 3 v' (ys.length + 1) (rowc ys ++ y.cells)) (hf : ∀ k, v'.ownBlock = some k → v.ownBlock = some k ∨ w1.heap.size ≤ k) :
    RbOut w p B v ys y.e (.returned (.tuple #[])) (w2.setCell ⟨p, 0, none⟩ v') := by
  have hc := h.cl.snoc hB hb hy hg hr
  have hp := lt_of_block h.blk
  have hp1 : w1.heap[p]? = some (.cells #[v] 32 (0, 0)) := (hb.block p hp).trans h.blk
  have hp2 : w2.heap[p]? = some (.cells #[v] 32 (0, 0)) := (hg.block p (lt_of_block hp1) (fun e => h.type_ne e.symm)).trans hp1
  have hstay : ∀ k, k ≠ p → (w2.setCell ⟨p, 0, none⟩ v').heap[k]? = w2.heap[k]? := fun k hk => set_other _ _ _ _ _ hk
  refine ⟨rfl, v', y, rfl, ⟨?_, h.ge, hc.of_block (fun k hk => hstay k ?_) (fun z hz k hk => hstay k ?_)⟩, ?_, fun k hk => ?_⟩
  · rw [heap_setCell_same w2 p 0 _ 32 _ hp2]; rfl
  · rintro rfl
    rcases hf k hk with h1 | h1
    · exact h.type_ne h1
    · have := hb.size; omega
  · rintro rfl
    obtain ⟨cur, h1⟩ := (hc.each z hz).u8 hk
    rw [hp2] at h1
    have := congrArg (fun o : Option Obj => match o with | some (.cells _ t _) => t | _ => 0) h1
    simp at this
  · exact ((Mv.of_below hb).grown hg fun k hk => .inl (.inr hk)).setB (.inl rfl) 0 v'
  · exact (hf k hk).imp id fun h1 => by have := hb.size; omega
/-- two copies, the row that is to grow, and what comes behind. -/
theorem rput_end {w wK wV : World} {p B : Nat} {v : Value} {ys : List En} {a b : Option Addr} {c d : Nat} {key val : List Int} (h : Rb w p B v ys) (hB : B ≤ w.heap.size) (hK : Made w.drew (.slice a key.length c) key wK) (hV : Made wK (.slice b val.length d) val wV) (k8 : Byts key) (v8 : Byts val) (hBK : Below w.heap.size w wK) (hBV : Below w.heap.size w wV) :
    (wV.alloc (.cells #[.slice a key.length c, .slice b val.length d, .bool false] 36)).ownsRow B 36 3 v ys.length (rowc ys) ∧
    (∀ j u, ([.slice a key.length c, .slice b val.length d, .bool false] : List Value)[j]? = some u → (wV.alloc (.cells #[.slice a key.length c, .slice b val.length d, .bool false] 36)).cell? ((⟨wV.heap.size, 0, none⟩ : Addr).add j) = some u) ∧
    (∀ u ∈ ([.slice a key.length c, .slice b val.length d, .bool false] : List Value), u.oneCell' = true) ∧
    B ≤ (wV.alloc (.cells #[.slice a key.length c, .slice b val.length d, .bool false] 36)).heap.size ∧
    (∀ w6, (wV.alloc (.cells #[.slice a key.length c, .slice b val.length d, .bool false] 36)).grownBy w6 v.ownBlock → w6.heap[p]? = some (.cells #[v] 32 (0, 0))) ∧
    (∀ v6 w6, w6.ownsRow B 36 3 v6 (ys.length + 1) (rowc ys ++ [.slice a key.length c, .slice b val.length d, .bool false]) → (wV.alloc (.cells #[.slice a key.length c, .slice b val.length d, .bool false] 36)).grownBy w6 v.ownBlock → (v6.ownBlock = v.ownBlock ∨ v6.ownBlock = some (wV.alloc (.cells #[.slice a key.length c, .slice b val.length d, .bool false] 36)).heap.size) → RbOut w p B v ys ⟨key, val, false⟩ (.returned (.tuple #[])) (w6.setCell ⟨p, 0, none⟩ v6)) := by
  have hBA : Below w.heap.size w (wV.alloc (.cells #[.slice a key.length c, .slice b val.length d, .bool false] 36)) := hBV.trans ((below_alloc wV _).mono hBV.size)
  have hp := lt_of_block h.blk
  have hp1 := (hBA.block p hp).trans h.blk
  have hy : (⟨⟨key, val, false⟩, a, c, b, d⟩ : En).Own w.heap.size (wV.alloc (.cells #[.slice a key.length c, .slice b val.length d, .bool false] 36)) := by
    have b1 : Below wK.heap.size wK (wV.alloc (.cells #[.slice a key.length c, .slice b val.length d, .bool false] 36)) := hV.2.2.trans ((below_alloc wV _).mono hV.2.2.size)
    refine ⟨hK.1.below b1, hV.1.below (below_alloc wV _), fun k hk => hK.2.1 k hk, fun k hk => Nat.le_trans hBK.size (hV.2.1 k hk), fun k hk e => ?_, k8, v8⟩
    have h1 := hK.1.lt hk
    have h2 := hV.2.1 k e
    omega
  refine ⟨(h.cl.below hBA).row, fun j u hu => ?_, fun u hu => ?_, by have := hBA.size; omega, fun w6 hg => ?_, fun v6 w6 ho hg hl => ?_⟩
  · exact box_news wV (⟨⟨key, val, false⟩, a, c, b, d⟩ : En) j u hu
  · exact cells_one (⟨⟨key, val, false⟩, a, c, b, d⟩ : En) u hu
  · exact (hg.block p (lt_of_block hp1) (fun e => h.type_ne e.symm)).trans hp1
  · exact Rb.snoc (y := ⟨⟨key, val, false⟩, a, c, b, d⟩) h hB hBA hy hg ho (fun k hk => hl.elim (fun e => .inl (by rw [← e]; exact hk)) (fun e => .inr (by rw [e] at hk; cases hk; exact Nat.le_refl _)))
set_option maxHeartbeats 3200000 in
set_option maxRecDepth 1000000 in
theorem rput_any {w : World} {p B : Nat} {v : Value} {ys : List En} (h : Rb w p B v ys) (hB : B ≤ w.heap.size) (ka va : Option Addr) (kn kc vn vc : Nat) (key val : List Int) (hk : Inn w ka kn kc key) (hv : Inn w va vn vc val) (hkn : kn ≤ 140737488351232) (hvn : vn ≤ 140737488351232) (hn : ys.length ≤ 900000) :
    Calls Try.prog 11 #[.pointer (some ⟨p, 0, none⟩), .slice ka kn kc, .slice va vn vc] w (RbOut w p B v ys ⟨key, val, false⟩) := by
  obtain ⟨i0, hi, hz0, hz1, hz2⟩ := info_parts infoE2
  have k8 := hk.byts
  have v8 := hv.byts
  have HK := hide (fun W (hW : Below w.heap.size w W) => copied_any ka kn kc key W (hk.below hW) hkn)
  have HV := hide (fun W (hW : Below w.heap.size w W) => copied_any va vn vc val W (hv.below hW) hvn)
  have c0 := cell_of_one h.blk
  have f0 := free_of_one h.blk
  have H := hide h
  have HK8 := hide k8
  have HV8 := hide v8
  clear h hk hv k8 v8
  go_enter Try.func11, Try.ntmps11
  go_wp2
  refine wp_region_noPanic ?_
  refine wp_region_held_drew (S := (fun W => True)) (by kernel_rfl) trivial (fun _hS => ?_)
  refine wpAnyH_take (i := 0) (oi := { dst := some 6, op := Op.move (Operand.tmp 0), type := 29, pos := "ref.go:24", after := #[], guard := none }) (v := ?v0x101) rfl (by kernel_rfl) (by kernel_rfl) (by kernel_rfl) (fun _ _ _ h => h) (Or.inl ⟨by rfl, ?hy0x101⟩) (by assumption) ?rest0x101
  case hy0x101 => (intro w hSw; (try dsimp only at hSw); (first | (go_simp; with_reducible rfl) | go_simp))
  try simp only [Act.put, List.setIfInBounds_toArray, List.set_cons_zero, List.set_cons_succ]
  refine wpAnyH_take (i := 1) (oi := { dst := some 7, op := Op.move (Operand.tmp 0), type := 29, pos := "ref.go:24", after := #[], guard := none }) (v := ?v1x102) rfl (by kernel_rfl) (by kernel_rfl) (by kernel_rfl) (fun _ _ _ h => h) (Or.inl ⟨by rfl, ?hy1x102⟩) (by assumption) ?rest1x102
  case hy1x102 => (intro w hSw; (try dsimp only at hSw); (first | (go_simp; with_reducible rfl) | go_simp))
  try simp only [Act.put, List.setIfInBounds_toArray, List.set_cons_zero, List.set_cons_succ]
  refine wpAnyH_take (i := 2) (oi := { dst := some 8, op := Op.nilCheck (Operand.tmp 7), type := 0, pos := "ref.go:24", after := #[{ on := 1, ground := Ground.data }], guard := none }) (v := ?v2x103) rfl (by kernel_rfl) (by kernel_rfl) (by kernel_rfl) (fun _ _ _ h => h) (Or.inl ⟨by rfl, ?hy2x103⟩) (by assumption) ?rest2x103
  case hy2x103 => (intro w hSw; (try dsimp only at hSw); (first | (go_simp; with_reducible rfl) | go_simp))
  try simp only [Act.put, List.setIfInBounds_toArray, List.set_cons_zero, List.set_cons_succ]
  refine wpAnyH_take (i := 3) (oi := { dst := some 9, op := Op.fieldAddr 32 (Operand.tmp 8) 0, type := 0, pos := "ref.go:24", after := #[{ on := 2, ground := Ground.data }], guard := none }) (v := ?v3x104) rfl (by kernel_rfl) (by kernel_rfl) (by kernel_rfl) (fun _ _ _ h => h) (Or.inl ⟨by rfl, ?hy3x104⟩) (by assumption) ?rest3x104
  case hy3x104 => (intro w hSw; (try dsimp only at hSw); (first | (go_simp; with_reducible rfl) | go_simp))
  try simp only [Act.put, List.setIfInBounds_toArray, List.set_cons_zero, List.set_cons_succ]
  refine wpAnyH_take (i := 5) (oi := { dst := some 11, op := Op.move (Operand.tmp 1), type := 34, pos := "ref.go:24", after := #[], guard := none }) (v := ?v5x105) rfl (by kernel_rfl) (by kernel_rfl) (by kernel_rfl) (fun _ _ _ h => h) (Or.inl ⟨by rfl, ?hy5x105⟩) (by assumption) ?rest5x105
  case hy5x105 => (intro w hSw; (try dsimp only at hSw); (first | (go_simp; with_reducible rfl) | go_simp))
  try simp only [Act.put, List.setIfInBounds_toArray, List.set_cons_zero, List.set_cons_succ]
  refine wpAnyH_take (i := 7) (oi := { dst := some 13, op := Op.move (Operand.tmp 2), type := 34, pos := "ref.go:24", after := #[], guard := none }) (v := ?v7x106) rfl (by kernel_rfl) (by kernel_rfl) (by kernel_rfl) (fun _ _ _ h => h) (Or.inl ⟨by rfl, ?hy7x106⟩) (by assumption) ?rest7x106
  case hy7x106 => (intro w hSw; (try dsimp only at hSw); (first | (go_simp; with_reducible rfl) | go_simp))
  try simp only [Act.put, List.setIfInBounds_toArray, List.set_cons_zero, List.set_cons_succ]
  refine wpAnyH_ready (rs := [4, 6]) (by kernel_rfl) (by simp) ?_
  refine AllReadyH.cons (o := { dst := some 10, op := Op.load 30 (Operand.tmp 9), type := 30, pos := "ref.go:24", after := #[{ on := 3, ground := Ground.data }], guard := none }) rfl (fun K hK => ?_) (AllReadyH.cons (o := { dst := some 12, op := Op.call { callee := Callee.value (Operand.func 25), args := #[Operand.tmp 11], argTypes := #[34] }, type := 34, pos := "ref.go:24", after := #[{ on := 5, ground := Ground.data }], guard := none }) rfl (fun K hK => ?_) (AllReadyH.nil))
  · go_simp
    refine hK.out _ _ ?_ (fun _hS => ?_)
    · exact trivial
    clear hK K
    try simp only [Act.put, List.setIfInBounds_toArray, List.set_cons_zero, List.set_cons_succ]
    refine wpAnyH_ready (rs := [6]) (by kernel_rfl) (by simp) ?_
    refine AllReadyH.cons (o := { dst := some 12, op := Op.call { callee := Callee.value (Operand.func 25), args := #[Operand.tmp 11], argTypes := #[34] }, type := 34, pos := "ref.go:24", after := #[{ on := 5, ground := Ground.data }], guard := none }) rfl (fun K hK => ?_) (AllReadyH.nil)
    go_simp
    go_at_call_of 25 (Value.slice ka kn kc)
    refine (HK.out _ (Below.refl _ _).drew).mono ?_
    rintro e wK ⟨vK, rfl, hmK⟩
    obtain ⟨aK, cK, rfl, -⟩ := hmK.1.shape
    have HBK := hide ((Below.refl w.heap.size w).drew.trans hmK.2.2)
    have cK0 := one_below c0 HBK.out
    have HMK := hide hmK
    clear hmK
    go_simp
    refine hK.out _ _ ?_ (fun _hS => ?_)
    · exact trivial
    clear hK K
    try simp only [Act.put, List.setIfInBounds_toArray, List.set_cons_zero, List.set_cons_succ]
    refine wpAnyH_ready (rs := [8]) (by kernel_rfl) (by simp) ?_
    refine AllReadyH.cons (o := { dst := some 14, op := Op.call { callee := Callee.value (Operand.func 25), args := #[Operand.tmp 13], argTypes := #[34] }, type := 34, pos := "ref.go:24", after := #[{ on := 7, ground := Ground.data }, { on := 6, ground := Ground.chain }], guard := none }) rfl (fun K hK => ?_) (AllReadyH.nil)
    go_simp
    go_at_call_of 25 (Value.slice va vn vc)
    refine (HV.out _ HBK.out).mono ?_
    rintro e wV ⟨vV, rfl, hmV⟩
    obtain ⟨aV, cV, rfl, -⟩ := hmV.1.shape
    have HBV := hide (HBK.out.trans (hmV.2.2.mono HBK.out.size))
    have cV0 := one_below c0 HBV.out
    have cA0 : (wV.alloc (.cells #[.slice aK key.length cK, .slice aV val.length cV, .bool false] 36)).cell? ⟨p, 0, none⟩ = some v := one_below cV0 (below_alloc wV _)
    have HMV := hide hmV
    clear hmV
    go_simp
    refine hK.out _ _ ?_ (fun _hS => ?_)
    · exact trivial
    clear hK K
    try simp only [Act.put, List.setIfInBounds_toArray, List.set_cons_zero, List.set_cons_succ]
    refine wpAnyH_take (i := 9) (oi := { dst := some 15, op := Op.build 36 #[(0, Operand.tmp 12), (1, Operand.tmp 14)], type := 36, pos := "ref.go:24", after := #[{ on := 6, ground := Ground.data }, { on := 8, ground := Ground.data }], guard := none }) (v := ?v9x107) rfl (by kernel_rfl) (by kernel_rfl) (by kernel_rfl) (fun _ _ _ h => h) (Or.inl ⟨by rfl, ?hy9x107⟩) (by assumption) ?rest9x107
    case hy9x107 => (intro w hSw; (try dsimp only at hSw); (first | (go_simp; with_reducible rfl) | go_simp))
    try simp only [Act.put, List.setIfInBounds_toArray, List.set_cons_zero, List.set_cons_succ]
    refine wpAnyH_ready (rs := [10]) (by kernel_rfl) (by simp) ?_
    refine AllReadyH.cons (o := { dst := some 16, op := Op.buildSlice 30 1 #[(0, Operand.tmp 15)], type := 30, pos := "ref.go:24", after := #[{ on := 9, ground := Ground.data }], guard := none }) rfl (fun K hK => ?_) (AllReadyH.nil)
    go_simp
    refine hK.out _ _ ?_ (fun _hS => ?_)
    · exact trivial
    clear hK K
    try simp only [Act.put, List.setIfInBounds_toArray, List.set_cons_zero, List.set_cons_succ]
    have HFin := hide (rput_end (a := aK) (b := aV) (c := cK) (d := cV) H.out hB HMK.out HMV.out HK8.out HV8.out HBK.out HBV.out)
    refine wpAnyH_ready (rs := [11]) (by kernel_rfl) (by simp) ?_
    refine AllReadyH.cons (o := { dst := some 17, op := Op.call { callee := Callee.builtin Builtin.append, args := #[Operand.tmp 10, Operand.tmp 16], argTypes := #[30, 30] }, type := 30, pos := "ref.go:24", after := #[{ on := 4, ground := Ground.data }, { on := 10, ground := Ground.data }, { on := 8, ground := Ground.chain }], guard := none }) rfl (fun K hK => ?_) (AllReadyH.nil)
    refine step_of rfl ?_
    refine wp_append_at (.tmp 10) (.tmp 16) 30 36 rfl B i0 _ 3 56 Try.underlying30 hi hz0 hz1 hz2 (by rfl) (by omega) v ys.length (rowc ys) rfl HFin.out.1 ⟨wV.heap.size, 0, none⟩ 1 1 [.slice aK key.length cK, .slice aV val.length cV, .bool false] rfl rfl HFin.out.2.1 HFin.out.2.2.1 (by unfold maxLen; omega) (by omega) HFin.out.2.2.2.1 ?_
    intro v6 w6 hown6 hg6 hloc6
    obtain ⟨a6, c6, rfl, -⟩ := row_shape hown6
    have k3 := HFin.out.2.2.2.2.1 w6 hg6
    have s2 := cell_of_one k3
    have f2 := free_of_one k3
    have HF6 := hide (HFin.out.2.2.2.2.2 _ w6 hown6 hg6 hloc6)
    clear hown6 hg6 hloc6 k3
    go_simp
    refine hK.out _ _ ?_ (fun _hS => ?_)
    · exact trivial
    clear hK K
    try simp only [Act.put, List.setIfInBounds_toArray, List.set_cons_zero, List.set_cons_succ]
    refine wpAnyH_take (i := 12) (oi := { dst := some 18, op := Op.nilCheck (Operand.tmp 6), type := 0, pos := "ref.go:24", after := #[{ on := 0, ground := Ground.data }, { on := 0, ground := Ground.phase }, { on := 1, ground := Ground.phase }, { on := 2, ground := Ground.phase }, { on := 3, ground := Ground.phase }, { on := 4, ground := Ground.phase }, { on := 5, ground := Ground.phase }, { on := 6, ground := Ground.phase }, { on := 7, ground := Ground.phase }, { on := 8, ground := Ground.phase }, { on := 9, ground := Ground.phase }, { on := 10, ground := Ground.phase }, { on := 11, ground := Ground.phase }], guard := none }) (v := ?v12x108) rfl (by kernel_rfl) (by kernel_rfl) (by kernel_rfl) (fun _ _ _ h => h) (Or.inl ⟨by rfl, ?hy12x108⟩) (by assumption) ?rest12x108
    case hy12x108 => (intro w hSw; (try dsimp only at hSw); (first | (go_simp; with_reducible rfl) | go_simp))
    try simp only [Act.put, List.setIfInBounds_toArray, List.set_cons_zero, List.set_cons_succ]
    refine wpAnyH_take (i := 13) (oi := { dst := some 19, op := Op.fieldAddr 32 (Operand.tmp 18) 0, type := 0, pos := "ref.go:24", after := #[{ on := 12, ground := Ground.data }, { on := 0, ground := Ground.phase }, { on := 1, ground := Ground.phase }, { on := 2, ground := Ground.phase }, { on := 3, ground := Ground.phase }, { on := 4, ground := Ground.phase }, { on := 5, ground := Ground.phase }, { on := 6, ground := Ground.phase }, { on := 7, ground := Ground.phase }, { on := 8, ground := Ground.phase }, { on := 9, ground := Ground.phase }, { on := 10, ground := Ground.phase }, { on := 11, ground := Ground.phase }], guard := none }) (v := ?v13x109) rfl (by kernel_rfl) (by kernel_rfl) (by kernel_rfl) (fun _ _ _ h => h) (Or.inl ⟨by rfl, ?hy13x109⟩) (by assumption) ?rest13x109
    case hy13x109 => (intro w hSw; (try dsimp only at hSw); (first | (go_simp; with_reducible rfl) | go_simp))
    try simp only [Act.put, List.setIfInBounds_toArray, List.set_cons_zero, List.set_cons_succ]
    refine wpAnyH_ready (rs := [14]) (by kernel_rfl) (by simp) ?_
    refine AllReadyH.cons (o := { dst := none, op := Op.store 30 (Operand.tmp 19) (Operand.tmp 17), type := 0, pos := "ref.go:24", after := #[{ on := 13, ground := Ground.data }, { on := 11, ground := Ground.data }, { on := 11, ground := Ground.chain }, { on := 0, ground := Ground.phase }, { on := 1, ground := Ground.phase }, { on := 2, ground := Ground.phase }, { on := 3, ground := Ground.phase }, { on := 4, ground := Ground.phase }, { on := 5, ground := Ground.phase }, { on := 6, ground := Ground.phase }, { on := 7, ground := Ground.phase }, { on := 8, ground := Ground.phase }, { on := 9, ground := Ground.phase }, { on := 10, ground := Ground.phase }, { on := 11, ground := Ground.phase }], guard := none }) rfl (fun K hK => ?_) (AllReadyH.nil)
    go_simp
    refine hK.out _ _ ?_ (fun _hS => ?_)
    · exact trivial
    clear hK K
    try simp only [Act.put, List.setIfInBounds_toArray, List.set_cons_zero, List.set_cons_succ]
    refine wpAnyH_done (by kernel_rfl) ?_ _
    refine NoPanic.normal ?_
    go_wp2
    go_end0
    exact HF6.out
  · go_simp
    go_at_call_of 25 (Value.slice ka kn kc)
    refine (HK.out _ (Below.refl _ _).drew).mono ?_
    rintro e wK ⟨vK, rfl, hmK⟩
    obtain ⟨aK, cK, rfl, -⟩ := hmK.1.shape
    have HBK := hide ((Below.refl w.heap.size w).drew.trans hmK.2.2)
    have cK0 := one_below c0 HBK.out
    have HMK := hide hmK
    clear hmK
    go_simp
    refine hK.out _ _ ?_ (fun _hS => ?_)
    · exact trivial
    clear hK K
    try simp only [Act.put, List.setIfInBounds_toArray, List.set_cons_zero, List.set_cons_succ]
    refine wpAnyH_ready (rs := [4, 8]) (by kernel_rfl) (by simp) ?_
    refine AllReadyH.cons (o := { dst := some 10, op := Op.load 30 (Operand.tmp 9), type := 30, pos := "ref.go:24", after := #[{ on := 3, ground := Ground.data }], guard := none }) rfl (fun K hK => ?_) (AllReadyH.cons (o := { dst := some 14, op := Op.call { callee := Callee.value (Operand.func 25), args := #[Operand.tmp 13], argTypes := #[34] }, type := 34, pos := "ref.go:24", after := #[{ on := 7, ground := Ground.data }, { on := 6, ground := Ground.chain }], guard := none }) rfl (fun K hK => ?_) (AllReadyH.nil))
    · go_simp
      refine hK.out _ _ ?_ (fun _hS => ?_)
      · exact trivial
      clear hK K
      try simp only [Act.put, List.setIfInBounds_toArray, List.set_cons_zero, List.set_cons_succ]
      refine wpAnyH_ready (rs := [8]) (by kernel_rfl) (by simp) ?_
      refine AllReadyH.cons (o := { dst := some 14, op := Op.call { callee := Callee.value (Operand.func 25), args := #[Operand.tmp 13], argTypes := #[34] }, type := 34, pos := "ref.go:24", after := #[{ on := 7, ground := Ground.data }, { on := 6, ground := Ground.chain }], guard := none }) rfl (fun K hK => ?_) (AllReadyH.nil)
      go_simp
      go_at_call_of 25 (Value.slice va vn vc)
      refine (HV.out _ HBK.out).mono ?_
      rintro e wV ⟨vV, rfl, hmV⟩
      obtain ⟨aV, cV, rfl, -⟩ := hmV.1.shape
      have HBV := hide (HBK.out.trans (hmV.2.2.mono HBK.out.size))
      have cV0 := one_below c0 HBV.out
      have cA0 : (wV.alloc (.cells #[.slice aK key.length cK, .slice aV val.length cV, .bool false] 36)).cell? ⟨p, 0, none⟩ = some v := one_below cV0 (below_alloc wV _)
      have HMV := hide hmV
      clear hmV
      go_simp
      refine hK.out _ _ ?_ (fun _hS => ?_)
      · exact trivial
      clear hK K
      try simp only [Act.put, List.setIfInBounds_toArray, List.set_cons_zero, List.set_cons_succ]
      refine wpAnyH_take (i := 9) (oi := { dst := some 15, op := Op.build 36 #[(0, Operand.tmp 12), (1, Operand.tmp 14)], type := 36, pos := "ref.go:24", after := #[{ on := 6, ground := Ground.data }, { on := 8, ground := Ground.data }], guard := none }) (v := ?v9x110) rfl (by kernel_rfl) (by kernel_rfl) (by kernel_rfl) (fun _ _ _ h => h) (Or.inl ⟨by rfl, ?hy9x110⟩) (by assumption) ?rest9x110
      case hy9x110 => (intro w hSw; (try dsimp only at hSw); (first | (go_simp; with_reducible rfl) | go_simp))
      try simp only [Act.put, List.setIfInBounds_toArray, List.set_cons_zero, List.set_cons_succ]
      refine wpAnyH_ready (rs := [10]) (by kernel_rfl) (by simp) ?_
      refine AllReadyH.cons (o := { dst := some 16, op := Op.buildSlice 30 1 #[(0, Operand.tmp 15)], type := 30, pos := "ref.go:24", after := #[{ on := 9, ground := Ground.data }], guard := none }) rfl (fun K hK => ?_) (AllReadyH.nil)
      go_simp
      refine hK.out _ _ ?_ (fun _hS => ?_)
      · exact trivial
      clear hK K
      try simp only [Act.put, List.setIfInBounds_toArray, List.set_cons_zero, List.set_cons_succ]
      have HFin := hide (rput_end (a := aK) (b := aV) (c := cK) (d := cV) H.out hB HMK.out HMV.out HK8.out HV8.out HBK.out HBV.out)
      refine wpAnyH_ready (rs := [11]) (by kernel_rfl) (by simp) ?_
      refine AllReadyH.cons (o := { dst := some 17, op := Op.call { callee := Callee.builtin Builtin.append, args := #[Operand.tmp 10, Operand.tmp 16], argTypes := #[30, 30] }, type := 30, pos := "ref.go:24", after := #[{ on := 4, ground := Ground.data }, { on := 10, ground := Ground.data }, { on := 8, ground := Ground.chain }], guard := none }) rfl (fun K hK => ?_) (AllReadyH.nil)
      refine step_of rfl ?_
      refine wp_append_at (.tmp 10) (.tmp 16) 30 36 rfl B i0 _ 3 56 Try.underlying30 hi hz0 hz1 hz2 (by rfl) (by omega) v ys.length (rowc ys) rfl HFin.out.1 ⟨wV.heap.size, 0, none⟩ 1 1 [.slice aK key.length cK, .slice aV val.length cV, .bool false] rfl rfl HFin.out.2.1 HFin.out.2.2.1 (by unfold maxLen; omega) (by omega) HFin.out.2.2.2.1 ?_
      intro v6 w6 hown6 hg6 hloc6
      obtain ⟨a6, c6, rfl, -⟩ := row_shape hown6
      have k3 := HFin.out.2.2.2.2.1 w6 hg6
      have s2 := cell_of_one k3
      have f2 := free_of_one k3
      have HF6 := hide (HFin.out.2.2.2.2.2 _ w6 hown6 hg6 hloc6)
      clear hown6 hg6 hloc6 k3
      go_simp
      refine hK.out _ _ ?_ (fun _hS => ?_)
      · exact trivial
      clear hK K
      try simp only [Act.put, List.setIfInBounds_toArray, List.set_cons_zero, List.set_cons_succ]
      refine wpAnyH_take (i := 12) (oi := { dst := some 18, op := Op.nilCheck (Operand.tmp 6), type := 0, pos := "ref.go:24", after := #[{ on := 0, ground := Ground.data }, { on := 0, ground := Ground.phase }, { on := 1, ground := Ground.phase }, { on := 2, ground := Ground.phase }, { on := 3, ground := Ground.phase }, { on := 4, ground := Ground.phase }, { on := 5, ground := Ground.phase }, { on := 6, ground := Ground.phase }, { on := 7, ground := Ground.phase }, { on := 8, ground := Ground.phase }, { on := 9, ground := Ground.phase }, { on := 10, ground := Ground.phase }, { on := 11, ground := Ground.phase }], guard := none }) (v := ?v12x111) rfl (by kernel_rfl) (by kernel_rfl) (by kernel_rfl) (fun _ _ _ h => h) (Or.inl ⟨by rfl, ?hy12x111⟩) (by assumption) ?rest12x111
      case hy12x111 => (intro w hSw; (try dsimp only at hSw); (first | (go_simp; with_reducible rfl) | go_simp))
      try simp only [Act.put, List.setIfInBounds_toArray, List.set_cons_zero, List.set_cons_succ]
      refine wpAnyH_take (i := 13) (oi := { dst := some 19, op := Op.fieldAddr 32 (Operand.tmp 18) 0, type := 0, pos := "ref.go:24", after := #[{ on := 12, ground := Ground.data }, { on := 0, ground := Ground.phase }, { on := 1, ground := Ground.phase }, { on := 2, ground := Ground.phase }, { on := 3, ground := Ground.phase }, { on := 4, ground := Ground.phase }, { on := 5, ground := Ground.phase }, { on := 6, ground := Ground.phase }, { on := 7, ground := Ground.phase }, { on := 8, ground := Ground.phase }, { on := 9, ground := Ground.phase }, { on := 10, ground := Ground.phase }, { on := 11, ground := Ground.phase }], guard := none }) (v := ?v13x112) rfl (by kernel_rfl) (by kernel_rfl) (by kernel_rfl) (fun _ _ _ h => h) (Or.inl ⟨by rfl, ?hy13x112⟩) (by assumption) ?rest13x112
      case hy13x112 => (intro w hSw; (try dsimp only at hSw); (first | (go_simp; with_reducible rfl) | go_simp))
      try simp only [Act.put, List.setIfInBounds_toArray, List.set_cons_zero, List.set_cons_succ]
      refine wpAnyH_ready (rs := [14]) (by kernel_rfl) (by simp) ?_
      refine AllReadyH.cons (o := { dst := none, op := Op.store 30 (Operand.tmp 19) (Operand.tmp 17), type := 0, pos := "ref.go:24", after := #[{ on := 13, ground := Ground.data }, { on := 11, ground := Ground.data }, { on := 11, ground := Ground.chain }, { on := 0, ground := Ground.phase }, { on := 1, ground := Ground.phase }, { on := 2, ground := Ground.phase }, { on := 3, ground := Ground.phase }, { on := 4, ground := Ground.phase }, { on := 5, ground := Ground.phase }, { on := 6, ground := Ground.phase }, { on := 7, ground := Ground.phase }, { on := 8, ground := Ground.phase }, { on := 9, ground := Ground.phase }, { on := 10, ground := Ground.phase }, { on := 11, ground := Ground.phase }], guard := none }) rfl (fun K hK => ?_) (AllReadyH.nil)
      go_simp
      refine hK.out _ _ ?_ (fun _hS => ?_)
      · exact trivial
      clear hK K
      try simp only [Act.put, List.setIfInBounds_toArray, List.set_cons_zero, List.set_cons_succ]
      refine wpAnyH_done (by kernel_rfl) ?_ _
      refine NoPanic.normal ?_
      go_wp2
      go_end0
      exact HF6.out
    · go_simp
      go_at_call_of 25 (Value.slice va vn vc)
      refine (HV.out _ HBK.out).mono ?_
      rintro e wV ⟨vV, rfl, hmV⟩
      obtain ⟨aV, cV, rfl, -⟩ := hmV.1.shape
      have HBV := hide (HBK.out.trans (hmV.2.2.mono HBK.out.size))
      have cV0 := one_below c0 HBV.out
      have cA0 : (wV.alloc (.cells #[.slice aK key.length cK, .slice aV val.length cV, .bool false] 36)).cell? ⟨p, 0, none⟩ = some v := one_below cV0 (below_alloc wV _)
      have HMV := hide hmV
      clear hmV
      go_simp
      refine hK.out _ _ ?_ (fun _hS => ?_)
      · exact trivial
      clear hK K
      try simp only [Act.put, List.setIfInBounds_toArray, List.set_cons_zero, List.set_cons_succ]
      refine wpAnyH_take (i := 9) (oi := { dst := some 15, op := Op.build 36 #[(0, Operand.tmp 12), (1, Operand.tmp 14)], type := 36, pos := "ref.go:24", after := #[{ on := 6, ground := Ground.data }, { on := 8, ground := Ground.data }], guard := none }) (v := ?v9x113) rfl (by kernel_rfl) (by kernel_rfl) (by kernel_rfl) (fun _ _ _ h => h) (Or.inl ⟨by rfl, ?hy9x113⟩) (by assumption) ?rest9x113
      case hy9x113 => (intro w hSw; (try dsimp only at hSw); (first | (go_simp; with_reducible rfl) | go_simp))
      try simp only [Act.put, List.setIfInBounds_toArray, List.set_cons_zero, List.set_cons_succ]
      refine wpAnyH_ready (rs := [4, 10]) (by kernel_rfl) (by simp) ?_
      refine AllReadyH.cons (o := { dst := some 10, op := Op.load 30 (Operand.tmp 9), type := 30, pos := "ref.go:24", after := #[{ on := 3, ground := Ground.data }], guard := none }) rfl (fun K hK => ?_) (AllReadyH.cons (o := { dst := some 16, op := Op.buildSlice 30 1 #[(0, Operand.tmp 15)], type := 30, pos := "ref.go:24", after := #[{ on := 9, ground := Ground.data }], guard := none }) rfl (fun K hK => ?_) (AllReadyH.nil))
      · go_simp
        refine hK.out _ _ ?_ (fun _hS => ?_)
        · exact trivial
        clear hK K
        try simp only [Act.put, List.setIfInBounds_toArray, List.set_cons_zero, List.set_cons_succ]
        refine wpAnyH_ready (rs := [10]) (by kernel_rfl) (by simp) ?_
        refine AllReadyH.cons (o := { dst := some 16, op := Op.buildSlice 30 1 #[(0, Operand.tmp 15)], type := 30, pos := "ref.go:24", after := #[{ on := 9, ground := Ground.data }], guard := none }) rfl (fun K hK => ?_) (AllReadyH.nil)
        go_simp
        refine hK.out _ _ ?_ (fun _hS => ?_)
        · exact trivial
        clear hK K
        try simp only [Act.put, List.setIfInBounds_toArray, List.set_cons_zero, List.set_cons_succ]
        have HFin := hide (rput_end (a := aK) (b := aV) (c := cK) (d := cV) H.out hB HMK.out HMV.out HK8.out HV8.out HBK.out HBV.out)
        refine wpAnyH_ready (rs := [11]) (by kernel_rfl) (by simp) ?_
        refine AllReadyH.cons (o := { dst := some 17, op := Op.call { callee := Callee.builtin Builtin.append, args := #[Operand.tmp 10, Operand.tmp 16], argTypes := #[30, 30] }, type := 30, pos := "ref.go:24", after := #[{ on := 4, ground := Ground.data }, { on := 10, ground := Ground.data }, { on := 8, ground := Ground.chain }], guard := none }) rfl (fun K hK => ?_) (AllReadyH.nil)
        refine step_of rfl ?_
        refine wp_append_at (.tmp 10) (.tmp 16) 30 36 rfl B i0 _ 3 56 Try.underlying30 hi hz0 hz1 hz2 (by rfl) (by omega) v ys.length (rowc ys) rfl HFin.out.1 ⟨wV.heap.size, 0, none⟩ 1 1 [.slice aK key.length cK, .slice aV val.length cV, .bool false] rfl rfl HFin.out.2.1 HFin.out.2.2.1 (by unfold maxLen; omega) (by omega) HFin.out.2.2.2.1 ?_
        intro v6 w6 hown6 hg6 hloc6
        obtain ⟨a6, c6, rfl, -⟩ := row_shape hown6
        have k3 := HFin.out.2.2.2.2.1 w6 hg6
        have s2 := cell_of_one k3
        have f2 := free_of_one k3
        have HF6 := hide (HFin.out.2.2.2.2.2 _ w6 hown6 hg6 hloc6)
        clear hown6 hg6 hloc6 k3
        go_simp
        refine hK.out _ _ ?_ (fun _hS => ?_)
        · exact trivial
        clear hK K
        try simp only [Act.put, List.setIfInBounds_toArray, List.set_cons_zero, List.set_cons_succ]
        refine wpAnyH_take (i := 12) (oi := { dst := some 18, op := Op.nilCheck (Operand.tmp 6), type := 0, pos := "ref.go:24", after := #[{ on := 0, ground := Ground.data }, { on := 0, ground := Ground.phase }, { on := 1, ground := Ground.phase }, { on := 2, ground := Ground.phase }, { on := 3, ground := Ground.phase }, { on := 4, ground := Ground.phase }, { on := 5, ground := Ground.phase }, { on := 6, ground := Ground.phase }, { on := 7, ground := Ground.phase }, { on := 8, ground := Ground.phase }, { on := 9, ground := Ground.phase }, { on := 10, ground := Ground.phase }, { on := 11, ground := Ground.phase }], guard := none }) (v := ?v12x114) rfl (by kernel_rfl) (by kernel_rfl) (by kernel_rfl) (fun _ _ _ h => h) (Or.inl ⟨by rfl, ?hy12x114⟩) (by assumption) ?rest12x114
        case hy12x114 => (intro w hSw; (try dsimp only at hSw); (first | (go_simp; with_reducible rfl) | go_simp))
        try simp only [Act.put, List.setIfInBounds_toArray, List.set_cons_zero, List.set_cons_succ]
        refine wpAnyH_take (i := 13) (oi := { dst := some 19, op := Op.fieldAddr 32 (Operand.tmp 18) 0, type := 0, pos := "ref.go:24", after := #[{ on := 12, ground := Ground.data }, { on := 0, ground := Ground.phase }, { on := 1, ground := Ground.phase }, { on := 2, ground := Ground.phase }, { on := 3, ground := Ground.phase }, { on := 4, ground := Ground.phase }, { on := 5, ground := Ground.phase }, { on := 6, ground := Ground.phase }, { on := 7, ground := Ground.phase }, { on := 8, ground := Ground.phase }, { on := 9, ground := Ground.phase }, { on := 10, ground := Ground.phase }, { on := 11, ground := Ground.phase }], guard := none }) (v := ?v13x115) rfl (by kernel_rfl) (by kernel_rfl) (by kernel_rfl) (fun _ _ _ h => h) (Or.inl ⟨by rfl, ?hy13x115⟩) (by assumption) ?rest13x115
        case hy13x115 => (intro w hSw; (try dsimp only at hSw); (first | (go_simp; with_reducible rfl) | go_simp))
        try simp only [Act.put, List.setIfInBounds_toArray, List.set_cons_zero, List.set_cons_succ]
        refine wpAnyH_ready (rs := [14]) (by kernel_rfl) (by simp) ?_
        refine AllReadyH.cons (o := { dst := none, op := Op.store 30 (Operand.tmp 19) (Operand.tmp 17), type := 0, pos := "ref.go:24", after := #[{ on := 13, ground := Ground.data }, { on := 11, ground := Ground.data }, { on := 11, ground := Ground.chain }, { on := 0, ground := Ground.phase }, { on := 1, ground := Ground.phase }, { on := 2, ground := Ground.phase }, { on := 3, ground := Ground.phase }, { on := 4, ground := Ground.phase }, { on := 5, ground := Ground.phase }, { on := 6, ground := Ground.phase }, { on := 7, ground := Ground.phase }, { on := 8, ground := Ground.phase }, { on := 9, ground := Ground.phase }, { on := 10, ground := Ground.phase }, { on := 11, ground := Ground.phase }], guard := none }) rfl (fun K hK => ?_) (AllReadyH.nil)
        go_simp
        refine hK.out _ _ ?_ (fun _hS => ?_)
        · exact trivial
        clear hK K
        try simp only [Act.put, List.setIfInBounds_toArray, List.set_cons_zero, List.set_cons_succ]
        refine wpAnyH_done (by kernel_rfl) ?_ _
        refine NoPanic.normal ?_
        go_wp2
        go_end0
        exact HF6.out
      · go_simp
        refine hK.out _ _ ?_ (fun _hS => ?_)
        · exact trivial
        clear hK K
        try simp only [Act.put, List.setIfInBounds_toArray, List.set_cons_zero, List.set_cons_succ]
        refine wpAnyH_ready (rs := [4]) (by kernel_rfl) (by simp) ?_
        refine AllReadyH.cons (o := { dst := some 10, op := Op.load 30 (Operand.tmp 9), type := 30, pos := "ref.go:24", after := #[{ on := 3, ground := Ground.data }], guard := none }) rfl (fun K hK => ?_) (AllReadyH.nil)
        go_simp
        refine hK.out _ _ ?_ (fun _hS => ?_)
        · exact trivial
        clear hK K
        try simp only [Act.put, List.setIfInBounds_toArray, List.set_cons_zero, List.set_cons_succ]
        have HFin := hide (rput_end (a := aK) (b := aV) (c := cK) (d := cV) H.out hB HMK.out HMV.out HK8.out HV8.out HBK.out HBV.out)
        refine wpAnyH_ready (rs := [11]) (by kernel_rfl) (by simp) ?_
        refine AllReadyH.cons (o := { dst := some 17, op := Op.call { callee := Callee.builtin Builtin.append, args := #[Operand.tmp 10, Operand.tmp 16], argTypes := #[30, 30] }, type := 30, pos := "ref.go:24", after := #[{ on := 4, ground := Ground.data }, { on := 10, ground := Ground.data }, { on := 8, ground := Ground.chain }], guard := none }) rfl (fun K hK => ?_) (AllReadyH.nil)
        refine step_of rfl ?_
        refine wp_append_at (.tmp 10) (.tmp 16) 30 36 rfl B i0 _ 3 56 Try.underlying30 hi hz0 hz1 hz2 (by rfl) (by omega) v ys.length (rowc ys) rfl HFin.out.1 ⟨wV.heap.size, 0, none⟩ 1 1 [.slice aK key.length cK, .slice aV val.length cV, .bool false] rfl rfl HFin.out.2.1 HFin.out.2.2.1 (by unfold maxLen; omega) (by omega) HFin.out.2.2.2.1 ?_
        intro v6 w6 hown6 hg6 hloc6
        obtain ⟨a6, c6, rfl, -⟩ := row_shape hown6
        have k3 := HFin.out.2.2.2.2.1 w6 hg6
        have s2 := cell_of_one k3
        have f2 := free_of_one k3
        have HF6 := hide (HFin.out.2.2.2.2.2 _ w6 hown6 hg6 hloc6)
        clear hown6 hg6 hloc6 k3
        go_simp
        refine hK.out _ _ ?_ (fun _hS => ?_)
        · exact trivial
        clear hK K
        try simp only [Act.put, List.setIfInBounds_toArray, List.set_cons_zero, List.set_cons_succ]
        refine wpAnyH_take (i := 12) (oi := { dst := some 18, op := Op.nilCheck (Operand.tmp 6), type := 0, pos := "ref.go:24", after := #[{ on := 0, ground := Ground.data }, { on := 0, ground := Ground.phase }, { on := 1, ground := Ground.phase }, { on := 2, ground := Ground.phase }, { on := 3, ground := Ground.phase }, { on := 4, ground := Ground.phase }, { on := 5, ground := Ground.phase }, { on := 6, ground := Ground.phase }, { on := 7, ground := Ground.phase }, { on := 8, ground := Ground.phase }, { on := 9, ground := Ground.phase }, { on := 10, ground := Ground.phase }, { on := 11, ground := Ground.phase }], guard := none }) (v := ?v12x116) rfl (by kernel_rfl) (by kernel_rfl) (by kernel_rfl) (fun _ _ _ h => h) (Or.inl ⟨by rfl, ?hy12x116⟩) (by assumption) ?rest12x116
        case hy12x116 => (intro w hSw; (try dsimp only at hSw); (first | (go_simp; with_reducible rfl) | go_simp))
        try simp only [Act.put, List.setIfInBounds_toArray, List.set_cons_zero, List.set_cons_succ]
        refine wpAnyH_take (i := 13) (oi := { dst := some 19, op := Op.fieldAddr 32 (Operand.tmp 18) 0, type := 0, pos := "ref.go:24", after := #[{ on := 12, ground := Ground.data }, { on := 0, ground := Ground.phase }, { on := 1, ground := Ground.phase }, { on := 2, ground := Ground.phase }, { on := 3, ground := Ground.phase }, { on := 4, ground := Ground.phase }, { on := 5, ground := Ground.phase }, { on := 6, ground := Ground.phase }, { on := 7, ground := Ground.phase }, { on := 8, ground := Ground.phase }, { on := 9, ground := Ground.phase }, { on := 10, ground := Ground.phase }, { on := 11, ground := Ground.phase }], guard := none }) (v := ?v13x117) rfl (by kernel_rfl) (by kernel_rfl) (by kernel_rfl) (fun _ _ _ h => h) (Or.inl ⟨by rfl, ?hy13x117⟩) (by assumption) ?rest13x117
        case hy13x117 => (intro w hSw; (try dsimp only at hSw); (first | (go_simp; with_reducible rfl) | go_simp))
        try simp only [Act.put, List.setIfInBounds_toArray, List.set_cons_zero, List.set_cons_succ]
        refine wpAnyH_ready (rs := [14]) (by kernel_rfl) (by simp) ?_
        refine AllReadyH.cons (o := { dst := none, op := Op.store 30 (Operand.tmp 19) (Operand.tmp 17), type := 0, pos := "ref.go:24", after := #[{ on := 13, ground := Ground.data }, { on := 11, ground := Ground.data }, { on := 11, ground := Ground.chain }, { on := 0, ground := Ground.phase }, { on := 1, ground := Ground.phase }, { on := 2, ground := Ground.phase }, { on := 3, ground := Ground.phase }, { on := 4, ground := Ground.phase }, { on := 5, ground := Ground.phase }, { on := 6, ground := Ground.phase }, { on := 7, ground := Ground.phase }, { on := 8, ground := Ground.phase }, { on := 9, ground := Ground.phase }, { on := 10, ground := Ground.phase }, { on := 11, ground := Ground.phase }], guard := none }) rfl (fun K hK => ?_) (AllReadyH.nil)
        go_simp
        refine hK.out _ _ ?_ (fun _hS => ?_)
        · exact trivial
        clear hK K
        try simp only [Act.put, List.setIfInBounds_toArray, List.set_cons_zero, List.set_cons_succ]
        refine wpAnyH_done (by kernel_rfl) ?_ _
        refine NoPanic.normal ?_
        go_wp2
        go_end0
        exact HF6.out
end Go.Proofs.Ytfcebpenjdhgbaa
