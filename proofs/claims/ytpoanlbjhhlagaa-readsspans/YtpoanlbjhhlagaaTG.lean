/- Spans that are sorted, put together. -/
import Derived.Test.YtpoanlbjhhlagaaSB
import Derived.Test.YtpoanlbjhhlagaaFA
import Derived.Test.YtpoanlbjhhlagaaAP
import Derived.Test.YtpoanlbjhhlagaaZT
import Derived.Deep.LoopGhost
import Derived.WalkMore
namespace Go.Proofs.Ytpoanlbjhhlagaa
open Go.RowKit Go.Maps
set_option linter.unusedVariables false

/-- made of the bytes of some of them. -/
def Pc (xs : List En) (y : En) : Prop := (∃ x ∈ xs, y.ka = x.ka ∧ y.kc = x.kc ∧ y.e.key = x.e.key) ∧ ∃ z ∈ xs, y.va = z.va ∧ y.vc = z.vc ∧ y.e.val = z.e.val
theorem Pc.self {xs : List En} {x : En} (h : x ∈ xs) : Pc xs x := ⟨⟨x, h, rfl, rfl, rfl⟩, ⟨x, h, rfl, rfl, rfl⟩⟩
theorem Pc.ok {xs : List En} {y : En} {w : World} (h : Pc xs y) (hx : ∀ x ∈ xs, x.Ok w) : y.Ok w := by
  obtain ⟨⟨x, h1, a1, a2, a3⟩, ⟨z, h2, b1, b2, b3⟩⟩ := h
  refine ⟨?_, ?_⟩
  · rw [a1, a2, a3]; exact (hx x h1).key
  · rw [b1, b2, b3]; exact (hx z h2).val
theorem Pc.lo {xs : List En} {y : En} {w : World} {B : Nat} (h : Pc xs y) (hx : ∀ x ∈ xs, x.Lo B w) : y.Lo B w := by
  obtain ⟨⟨x, h1, a1, a2, a3⟩, ⟨z, h2, b1, b2, b3⟩⟩ := h
  have p := hx x h1
  have q := hx z h2
  refine ⟨?_, ?_, ?_, ?_, ?_, ?_⟩
  · rw [a1, a2, a3]; exact p.key
  · rw [b1, b2, b3]; exact q.val
  · rw [a1, a2, a3]; exact p.kb
  · rw [b1, b2, b3]; exact q.vb
  · rw [a3]; exact p.k8
  · rw [b3]; exact q.v8
theorem Pc.has {xs : List En} {y : En} (h : Pc xs y) {k : Nat} (hk : y.has k) : ∃ x ∈ xs, x.has k := by
  obtain ⟨⟨x, h1, a1, a2, a3⟩, ⟨z, h2, b1, b2, b3⟩⟩ := h
  rcases hk with hk | hk
  · exact ⟨x, h1, .inl (by rw [← a1, ← a2, ← a3]; exact hk)⟩
  · exact ⟨z, h2, .inr (by rw [← b1, ← b2, ← b3]; exact hk)⟩
theorem cell_set_ne {w : World} {p q i j : Nat} {v : Value} (h : q ≠ p) : (w.setCell ⟨p, i, none⟩ v).cell? ⟨q, j, none⟩ = w.cell? ⟨q, j, none⟩ := by
  simp only [World.cell?]
  rw [Below.heap_setCell _ _ _ _ h]
theorem setq12 {W : World} {q t : Nat} {a b c v u : Value} (h : W.heap[q]? = some (.cells #[a, b, c] t (0, 0))) : ((W.setCell ⟨q, 1, none⟩ v).setCell ⟨q, 2, none⟩ u).heap[q]? = some (.cells #[a, v, u] t (0, 0)) := by
  rw [heap_setCell_same _ q 2 _ t _ (heap_setCell_same W q 1 _ t _ h)]; rfl
theorem setq21 {W : World} {q t : Nat} {a b c v u : Value} (h : W.heap[q]? = some (.cells #[a, b, c] t (0, 0))) : ((W.setCell ⟨q, 2, none⟩ u).setCell ⟨q, 1, none⟩ v).heap[q]? = some (.cells #[a, v, u] t (0, 0)) := by
  rw [heap_setCell_same _ q 1 _ t _ (heap_setCell_same W q 2 _ t _ h)]; rfl
theorem tgo_open {x y : Ee} {ys : List Ee} (hd : x.del = true) : tgo x (y :: ys) = tgo x ys := by rw [tgo, if_neg (fun h => by rw [hd] at h; cases h.1), if_neg (fun h => by rw [hd] at h; cases h.1)]
theorem tgo_far {x y : Ee} {ys : List Ee} (hd : x.del = false) (h : 0 < ordI y.key x.val) : tgo x (y :: ys) = x :: tgo y ys := by rw [tgo, if_pos ⟨hd, h⟩]
theorem tgo_more {x y : Ee} {ys : List Ee} (hd : x.del = false) (h1 : ¬ 0 < ordI y.key x.val) (h2 : y.del = true ∨ 0 < ordI y.val x.val) : tgo x (y :: ys) = tgo ⟨x.key, y.val, y.del⟩ ys := by rw [tgo, if_neg (fun h => h1 h.2), if_pos ⟨hd, h2⟩]
theorem tgo_in {x y : Ee} {ys : List Ee} (hd : x.del = false) (h1 : ¬ 0 < ordI y.key x.val) (h2 : ¬ (y.del = true ∨ 0 < ordI y.val x.val)) : tgo x (y :: ys) = tgo x ys := by rw [tgo, if_neg (fun h => h1 h.2), if_neg (fun h => h2 h.2)]
abbrev ztg0 : Oper := { dst := some 32, op := Op.move (Operand.tmp 3), type := 23, pos := "reads.go:82", after := #[], guard := none }
abbrev ztg1 : Oper := { dst := some 33, op := Op.load 65 (Operand.tmp 4), type := 65, pos := "reads.go:82", after := #[], guard := none }
abbrev ztg2 : Oper := { dst := some 34, op := Op.buildSlice 23 1 #[(0, Operand.tmp 33)], type := 23, pos := "reads.go:82", after := #[{ on := 1, ground := Ground.data }], guard := none }
abbrev ztg3 : Oper := { dst := some 35, op := Op.call { callee := Callee.builtin Builtin.append, args := #[Operand.tmp 32, Operand.tmp 34], argTypes := #[23, 23] }, type := 23, pos := "reads.go:82", after := #[{ on := 0, ground := Ground.data }, { on := 2, ground := Ground.data }], guard := none }
abbrev ztg4 : Oper := { dst := some 36, op := Op.move (Operand.tmp 0), type := 23, pos := "reads.go:82", after := #[], guard := none }
abbrev ztg5 : Oper := { dst := some 37, op := Op.move (Operand.tmp 5), type := 3, pos := "reads.go:82", after := #[], guard := none }
abbrev ztg6 : Oper := { dst := some 38, op := Op.binOp BinOp.add 3 (Operand.const (Value.int IntKind.i64 1)) (Operand.tmp 37) 3, type := 3, pos := "reads.go:82", after := #[{ on := 5, ground := Ground.data }], guard := none }
abbrev ztg7 : Oper := { dst := some 39, op := Op.slice 23 (Operand.tmp 36) (some (Operand.tmp 38)) none none, type := 23, pos := "reads.go:82", after := #[{ on := 4, ground := Ground.data }, { on := 6, ground := Ground.data }], guard := none }
abbrev ztg8 : Oper := { dst := some 3, op := Op.assign (Operand.tmp 35), type := 23, pos := "reads.go:82", after := #[{ on := 3, ground := Ground.data }, { on := 3, ground := Ground.chain }, { on := 0, ground := Ground.phase }, { on := 1, ground := Ground.phase }, { on := 2, ground := Ground.phase }, { on := 3, ground := Ground.phase }, { on := 4, ground := Ground.textOnly Departure.lateStores }, { on := 5, ground := Ground.textOnly Departure.lateStores }, { on := 6, ground := Ground.textOnly Departure.lateStores }, { on := 7, ground := Ground.textOnly Departure.lateStoresUnsure }], guard := none }
abbrev ztg9 : Oper := { dst := some 0, op := Op.assign (Operand.tmp 39), type := 23, pos := "reads.go:82", after := #[{ on := 7, ground := Ground.data }, { on := 8, ground := Ground.chain }, { on := 0, ground := Ground.phase }, { on := 1, ground := Ground.phase }, { on := 2, ground := Ground.phase }, { on := 3, ground := Ground.phase }, { on := 4, ground := Ground.phase }, { on := 5, ground := Ground.phase }, { on := 6, ground := Ground.phase }, { on := 7, ground := Ground.phase }, { on := 8, ground := Ground.phase }], guard := none }
abbrev zth0 : Oper := { dst := some 49, op := Op.fieldAddr 65 (Operand.tmp 6) 1, type := 0, pos := "reads.go:86", after := #[], guard := none }
abbrev zth1 : Oper := { dst := some 50, op := Op.load 33 (Operand.tmp 49), type := 33, pos := "reads.go:86", after := #[{ on := 0, ground := Ground.data }], guard := none }
abbrev zth2 : Oper := { dst := some 51, op := Op.fieldAddr 65 (Operand.tmp 6) 2, type := 0, pos := "reads.go:86", after := #[{ on := 5, ground := Ground.gcOnly Departure.lateStores }], guard := none }
abbrev zth3 : Oper := { dst := some 52, op := Op.load 4 (Operand.tmp 51), type := 4, pos := "reads.go:86", after := #[{ on := 2, ground := Ground.data }, { on := 5, ground := Ground.gcOnly Departure.lateStores }], guard := none }
abbrev zth4 : Oper := { dst := some 53, op := Op.fieldAddr 65 (Operand.tmp 4) 1, type := 0, pos := "reads.go:86", after := #[{ on := 0, ground := Ground.phase }, { on := 1, ground := Ground.phase }, { on := 2, ground := Ground.textOnly Departure.lateStores }, { on := 3, ground := Ground.textOnly Departure.lateStores }], guard := none }
abbrev zth5 : Oper := { dst := none, op := Op.store 33 (Operand.tmp 53) (Operand.tmp 50), type := 0, pos := "reads.go:86", after := #[{ on := 4, ground := Ground.data }, { on := 1, ground := Ground.data }, { on := 0, ground := Ground.phase }, { on := 1, ground := Ground.phase }, { on := 2, ground := Ground.textOnly Departure.lateStores }, { on := 3, ground := Ground.textOnly Departure.lateStores }], guard := none }
abbrev zth6 : Oper := { dst := some 54, op := Op.fieldAddr 65 (Operand.tmp 4) 2, type := 0, pos := "reads.go:86", after := #[{ on := 0, ground := Ground.phase }, { on := 1, ground := Ground.phase }, { on := 2, ground := Ground.phase }, { on := 3, ground := Ground.phase }, { on := 4, ground := Ground.phase }, { on := 5, ground := Ground.phase }], guard := none }
abbrev zth7 : Oper := { dst := none, op := Op.store 4 (Operand.tmp 54) (Operand.tmp 52), type := 0, pos := "reads.go:86", after := #[{ on := 6, ground := Ground.data }, { on := 3, ground := Ground.data }, { on := 5, ground := Ground.chain }, { on := 0, ground := Ground.phase }, { on := 1, ground := Ground.phase }, { on := 2, ground := Ground.phase }, { on := 3, ground := Ground.phase }, { on := 4, ground := Ground.phase }, { on := 5, ground := Ground.phase }], guard := none }
set_option maxHeartbeats 12800000 in
set_option maxRecDepth 1000000 in
theorem together_any {w : World} (a : Option Addr) (n c : Nat) (xs : List En) (h : Ens w a n c xs) (hn : n ≤ 1000) :
    Calls Try.prog 70 #[.slice a n c] w fun e w' => ∃ v ys, e = .returned v ∧ w'.ownsRow w.heap.size 65 3 v ys.length (rowc ys) ∧ ers ys = tog (ers xs) ∧ (∀ y ∈ ys, Pc xs y) ∧ Below w.heap.size w w' := by
  have HE := hide h
  have HL := hide h.len
  have hcap := h.cap
  have hmax := h.max
  clear h
  go_enter Try.func70, Try.ntmps70
  go_wp2
  go_step3
  go_wp2
  go_step3
  go_wp2
  go_loopg [0, 3] n (fun g v0 v3 wr => ∃ (i d : Nat) (ys : List En), i + g = n ∧ g ≤ d ∧ d ≤ c ∧ v0 = .slice (a.map (fun q => ⟨q.block, q.off + i * 3, q.spot⟩)) g d ∧ wr.ownsRow w.heap.size 65 3 v3 ys.length (rowc ys) ∧ Hid (ers ys ++ tog ((ers xs).drop i) = tog (ers xs)) ∧ Hid (∀ y ∈ ys, Pc xs y) ∧ ys.length ≤ i ∧ Below w.heap.size w wr)
  case atStart => exact ⟨0, c, [], by omega, hcap, Nat.le_refl _, by cases a <;> simp, ⟨rfl, .inl ⟨rfl, rfl⟩⟩, by simp [Hid, ers], by simp [Hid], Nat.le_refl _, Below.refl _ _⟩
  case round =>
    obtain ⟨i, d, ys, hig, hgd, hdc, rfl, hrow, htog, hpc, hyl, hbl⟩ := hrel
    have HRow := hide hrow
    have HBl := hide hbl
    cases gk with
    | zero =>
      obtain ⟨a3, c3, rfl, -⟩ := row_shape hrow
      clear hrow hbl
      go_wp2
      rw [Exit.noGoto_ret]
      go_ret
      have hdn : (ers xs).drop i = [] := List.drop_eq_nil_of_le (by rw [ers_len, HL.out]; omega)
      have ht := htog.out
      rw [hdn] at ht
      exact ⟨_, ys, rfl, HRow.out, by simpa [tog] using ht, hpc.out, HBl.out⟩
    | succ g =>
      rename World => wo
      have hin : i < n := by omega
      obtain ⟨x, hx, hok⟩ := (HE.out.below hbl).at hin
      obtain ⟨b, off, rfl, hbs, q0, q1, q2⟩ := (HE.out.below hbl).cells hx
      have HX := hide hx
      have HOk := hide hok
      obtain ⟨a3, c3, rfl, -⟩ := row_shape hrow
      have HXs : Hid ((ers xs).drop i = x.e :: (ers xs).drop (i + 1)) := hide (drop_at (ers_at hx))
      have HN : Hid (∀ W, Below wo.heap.size wo W → Below w.heap.size w W) := hide fun W hW => hbl.trans (hW.mono hbl.size)
      have hBq := below_alloc wo (.cells #[.slice x.ka x.e.key.length x.kc, .slice x.va x.e.val.length x.vc, .bool x.e.del] 65)
      have HQ : Hid ((wo.alloc (.cells #[.slice x.ka x.e.key.length x.kc, .slice x.va x.e.val.length x.vc, .bool x.e.del] 65)).heap[wo.heap.size]? = some (.cells #[.slice x.ka x.e.key.length x.kc, .slice x.va x.e.val.length x.vc, .bool x.e.del] 65 (0, 0))) := hide (heap_alloc_new wo _)
      have HBq := hide hBq
      clear hx hok hrow hbl hBq
      have f1 : (0 : Int) < (g : Int) + 1 := by omega
      have f2 : (1 : Int) ≤ (g : Int) + 1 := by omega
      simp only [Option.map_some]
      by_cases hd1 : d = 1
      · have hg0 : g = 0 := by omega
        subst hg0
        subst hd1
        go_wp2_with fail
        go_loopg [0, 3, 16] 0 (fun g2 s0 s3 s16 wx => ∃ (j : Nat) (x1 : En), j + g2 = 0 ∧ s0 = .slice (some ⟨b, off + i * 3, none⟩) (0 + 1) 1 ∧ s3 = .slice a3 ys.length c3 ∧ s16 = .int .i64 (j : Int) ∧ Hid (tgo x1.e ((ers xs).drop (i + 1 + j)) = tgo x.e ((ers xs).drop (i + 1))) ∧ Hid (Pc xs x1) ∧ wx.heap[wo.heap.size]? = some (.cells #[.slice x1.ka x1.e.key.length x1.kc, .slice x1.va x1.e.val.length x1.vc, .bool x1.e.del] 65 (0, 0)) ∧ Below wo.heap.size wo wx)
        case atStart => exact ⟨0, x, by omega, rfl, rfl, rfl, rfl, Pc.self (List.mem_of_getElem? HX.out), HQ.out, HBq.out⟩
        case round =>
          obtain ⟨j, x1, hj, rfl, rfl, rfl, htg, hpx, hq, hbx⟩ := hrel
          rename World => wx
          cases gk with
          | zero =>
            obtain ⟨p0, p1, p2, -⟩ := cells_three hq
            obtain ⟨v6, w6, run6, hown6, hmv6, hl6, hs6, hk6⟩ := app_row x1 HRow.out HBl.out.size hbx (by omega)
            have RUN6 := hide run6
            have HOwn6 := hide hown6
            have HB6 := hide (HBl.out.trans (hmv6.below HBl.out.size fun k hk => (row_at HRow.out hk).1))
            have hdn : (ers xs).drop (i + 1 + j) = [] := List.drop_eq_nil_of_le (by rw [ers_len, HL.out]; omega)
            have HTg : Hid (ers (ys ++ [x1]) = tog (ers xs)) := hide (by rw [← htog.out, HXs.out, ers_app]; have h9 := htg.out; rw [hdn] at h9; show _ = _ ++ tgo x.e _; rw [← h9]; rfl)
            clear run6 hown6 hmv6 hl6 hs6 hk6 hdn hq
            go_wp2_with (at_builtin; refine wpList_run_append (by rfl) (.tmp 56) (.tmp 58) 23 (by rfl) (by rfl) (by rfl) RUN6.out ?_)
            try rw [Exit.noGoto_ret]
            go_ret
            exact ⟨v6, ys ++ [x1], rfl, HOwn6.out, HTg.out, fun y hy => (List.mem_append.1 hy).elim (hpc.out y) (fun h => by simp at h; subst h; exact hpx.out), HB6.out⟩
          | succ g2 => exact absurd hj (by omega)
      · go_wp2_with fail
        go_loopg [0, 3, 16] g (fun g2 s0 s3 s16 wx => ∃ (j : Nat) (x1 : En), j + g2 = g ∧ s0 = .slice (some ⟨b, off + i * 3, none⟩) (g + 1) d ∧ s3 = .slice a3 ys.length c3 ∧ s16 = .int .i64 (j : Int) ∧ Hid (tgo x1.e ((ers xs).drop (i + 1 + j)) = tgo x.e ((ers xs).drop (i + 1))) ∧ Hid (Pc xs x1) ∧ wx.heap[wo.heap.size]? = some (.cells #[.slice x1.ka x1.e.key.length x1.kc, .slice x1.va x1.e.val.length x1.vc, .bool x1.e.del] 65 (0, 0)) ∧ Below wo.heap.size wo wx)
        case atStart => exact ⟨0, x, by omega, rfl, rfl, rfl, rfl, Pc.self (List.mem_of_getElem? HX.out), HQ.out, HBq.out⟩
        case round =>
          obtain ⟨j, x1, hj, rfl, rfl, rfl, htg, hpx, hq, hbx⟩ := hrel
          rename World => wx
          cases gk with
          | zero =>
            obtain ⟨p0, p1, p2, -⟩ := cells_three hq
            obtain ⟨v6, w6, run6, hown6, hmv6, hl6, hs6, hk6⟩ := app_row x1 HRow.out HBl.out.size hbx (by omega)
            have RUN6 := hide run6
            have HOwn6 := hide hown6
            have HB6 := hide (HBl.out.trans (hmv6.below HBl.out.size fun k hk => (row_at HRow.out hk).1))
            have hdn : (ers xs).drop (i + 1 + j) = [] := List.drop_eq_nil_of_le (by rw [ers_len, HL.out]; omega)
            have HTg : Hid (ers (ys ++ [x1]) = tog (ers xs)) := hide (by rw [← htog.out, HXs.out, ers_app]; have h9 := htg.out; rw [hdn] at h9; show _ = _ ++ tgo x.e _; rw [← h9]; rfl)
            clear run6 hown6 hmv6 hl6 hs6 hk6 hdn hq
            go_wp2_with (at_builtin; refine wpList_run_append (by rfl) (.tmp 56) (.tmp 58) 23 (by rfl) (by rfl) (by rfl) RUN6.out ?_)
            try rw [Exit.noGoto_ret]
            go_ret
            exact ⟨v6, ys ++ [x1], rfl, HOwn6.out, HTg.out, fun y hy => (List.mem_append.1 hy).elim (hpc.out y) (fun h => by simp at h; subst h; exact hpx.out), HB6.out⟩
          | succ g2 =>
            obtain ⟨y, hy, hyok⟩ := (HE.out.below (HN.out wx hbx)).at (show i + 1 + j < n by omega)
            obtain ⟨b', off', e', -, y0, y1, y2⟩ := (HE.out.below (HN.out wx hbx)).cells hy
            cases e'
            rw [show off + (i + 1 + j) * 3 = off + i * 3 + 3 + j * 3 by omega] at y0 y1 y2
            have g1 : (j : Int) < (g : Int) := by omega
            have hB5 := below_alloc wx (.cells #[.slice y.ka y.e.key.length y.kc, .slice y.va y.e.val.length y.vc, .bool y.e.del] 65)
            have HX1 := hide (hpx.out.ok (HE.out.below (HN.out wx hbx)).each)
            have HYo := hide hyok
            have HBx := hide hbx
            have HB5 := hide hB5
            have hqs : wo.heap.size < wx.heap.size := lt_of_block hq
            have HQ5 : Hid ((wx.alloc (.cells #[.slice y.ka y.e.key.length y.kc, .slice y.va y.e.val.length y.vc, .bool y.e.del] 65)).heap[wo.heap.size]? = some (.cells #[.slice x1.ka x1.e.key.length x1.kc, .slice x1.va x1.e.val.length x1.vc, .bool x1.e.del] 65 (0, 0))) := hide ((hB5.block _ hqs).trans hq)
            have HY5 : Hid ((wx.alloc (.cells #[.slice y.ka y.e.key.length y.kc, .slice y.va y.e.val.length y.vc, .bool y.e.del] 65)).heap[wx.heap.size]? = some (.cells #[.slice y.ka y.e.key.length y.kc, .slice y.va y.e.val.length y.vc, .bool y.e.del] 65 (0, 0))) := hide (heap_alloc_new wx _)
            have HC := hide (compare_any (hyok.key.below hB5) (HX1.out.val.below hB5))
            have HEn := hide (ends_any y x1.va x1.e.val.length x1.vc x1.e.val (wx.alloc (.cells #[.slice y.ka y.e.key.length y.kc, .slice y.va y.e.val.length y.vc, .bool y.e.del] 65)) (hyok.below hB5) (HX1.out.val.below hB5))
            obtain ⟨p0, p1, p2, -⟩ := cells_three hq
            have HDy : Hid ((ers xs).drop (i + 1 + j) = y.e :: (ers xs).drop (i + 1 + (j + 1))) := hide (drop_at (ers_at hy))
            have HYm := hide (List.mem_of_getElem? hy)
            clear hy hyok hbx hB5
            cases hd : x1.e.del
            · rw [hd] at p2 HQ5
              by_cases h1 : 0 < ordI y.e.key x1.e.val
              · have HTg : Hid (tgo x.e ((ers xs).drop (i + 1)) = x1.e :: tog ((ers xs).drop (i + 1 + j))) := hide (by rw [← htg.out, HDy.out]; exact if_pos ⟨hd, h1⟩)
                obtain ⟨v6, w6, run6, hown6, hmv6, hl6, hs6, hk6⟩ := app_row x1 HRow.out HBl.out.size (HBx.out.trans (HB5.out.drew.mono HBx.out.size)) (by omega)
                rw [hd] at run6
                have h56 : (wx.alloc (.cells #[.slice y.ka y.e.key.length y.kc, .slice y.va y.e.val.length y.vc, .bool y.e.del] 65)).heap.size = wx.heap.size + 1 := by simp
                rw [show (wx.alloc (.cells #[.slice y.ka y.e.key.length y.kc, .slice y.va y.e.val.length y.vc, .bool y.e.del] 65)).drew.heap.size = wx.heap.size + 1 from h56] at run6
                have RUN6 := hide run6
                have HOwn6 := hide hown6
                have HB6 := hide (HBl.out.trans (hmv6.below HBl.out.size fun k hk => (row_at HRow.out hk).1))
                obtain ⟨a6, c6, rfl, -⟩ := row_shape hown6
                have hne : (Value.slice a3 ys.length c3).ownBlock ≠ some wo.heap.size := fun e => by have := (row_at HRow.out e).2.1; omega
                have hq6 := (hk6 wo.heap.size (show wo.heap.size < (wx.alloc (.cells #[.slice y.ka y.e.key.length y.kc, .slice y.va y.e.val.length y.vc, .bool y.e.del] 65)).heap.size by omega) hne).trans HQ5.out
                obtain ⟨r0, r1, r2, -⟩ := cells_three hq6
                have P3 := hide r0
                have P4 := hide r1
                have P5 := hide r2
                have hB7 := (below_alloc (wx.alloc (.cells #[.slice y.ka y.e.key.length y.kc, .slice y.va y.e.val.length y.vc, .bool y.e.del] 65)).drew (.cells #[.slice x1.ka x1.e.key.length x1.kc, .slice x1.va x1.e.val.length x1.vc, .bool false] 65))
                have hq7 := (hB7.block wo.heap.size (show wo.heap.size < (wx.alloc (.cells #[.slice y.ka y.e.key.length y.kc, .slice y.va y.e.val.length y.vc, .bool y.e.del] 65)).heap.size by omega)).trans HQ5.out
                obtain ⟨r0, r1, r2, -⟩ := cells_three hq7
                have P0 := hide r0
                have P1 := hide r1
                have P2 := hide r2
                obtain ⟨z0, z1, z2, -⟩ := cells_three HQ5.out
                obtain ⟨J, hJ⟩ : ∃ J, J = 1 + j := ⟨_, rfl⟩
                have g8 : IntKind.i64.wrap (1 + (j : Int)) = (J : Int) := by rw [IntKind.wrap_i64] <;> omega
                clear run6 hown6 hmv6 hl6 hs6 hk6 hq6 hq7 r0 r1 r2 hB7 h56 hne hq HEn
                have g3 : (0 : Int) ≤ (J : Int) := by omega
                have g4 : (J : Int) ≤ (g : Int) + 1 := by omega
                have g6 : ¬ (d = J) := by omega
                have HJ := hide hJ
                clear hJ
                go_wp2_with (first | (go_at_call 68; refine HC.out.mono ?_; rintro r' w9 ⟨rfl, rfl⟩))
                refine wp_region_noPanic ?_
                refine wp_region_held_drew (S := (fun W => W.cell? ⟨wo.heap.size, 0, none⟩ = some (.slice x1.ka x1.e.key.length x1.kc) ∧ W.cell? ⟨wo.heap.size, 1, none⟩ = some (.slice x1.va x1.e.val.length x1.vc) ∧ W.cell? ⟨wo.heap.size, 2, none⟩ = some (.bool false))) (by kernel_rfl) ⟨z0, z1, z2⟩ (fun _hS => ?_)
                refine wtk (i := 0) (oi := ztg0) (v := ?v0x1) rfl ⟨by rfl, ?hy0x1⟩ (by assumption) ?_
                case hy0x1 => (intro w s; (try dsimp only at s); first | (go_simp; with_reducible rfl) | go_simp)
                try simp only [Act.put, zps]
                refine wtk (i := 1) (oi := ztg1) (v := ?v1x2) rfl ⟨by rfl, ?hy1x2⟩ (by assumption) ?_
                case hy1x2 => (intro w s; (try dsimp only at s); first | (go_simp; with_reducible rfl) | go_simp)
                try simp only [Act.put, zps]
                refine wtk (i := 4) (oi := ztg4) (v := ?v4x3) rfl ⟨by rfl, ?hy4x3⟩ (by assumption) ?_
                case hy4x3 => (intro w s; (try dsimp only at s); first | (go_simp; with_reducible rfl) | go_simp)
                try simp only [Act.put, zps]
                refine wtk (i := 5) (oi := ztg5) (v := ?v5x4) rfl ⟨by rfl, ?hy5x4⟩ (by assumption) ?_
                case hy5x4 => (intro w s; (try dsimp only at s); first | (go_simp; with_reducible rfl) | go_simp)
                try simp only [Act.put, zps]
                refine wtk (i := 6) (oi := ztg6) (v := ?v6x5) rfl ⟨by rfl, ?hy6x5⟩ (by assumption) ?_
                case hy6x5 => (intro w s; (try dsimp only at s); first | (go_simp; with_reducible rfl) | go_simp)
                try simp only [Act.put, zps]
                refine wtk (i := 7) (oi := ztg7) (v := ?v7x6) rfl ⟨by rfl, ?hy7x6⟩ (by assumption) ?_
                case hy7x6 => (intro w s; (try dsimp only at s); first | (go_simp; with_reducible rfl) | go_simp)
                try simp only [Act.put, zps]
                refine wpAnyH_ready (rs := [2]) (by kernel_rfl) (by simp) ?_
                refine AllReadyH.cons (o := ztg2) rfl (fun K hK => ?_) (AllReadyH.nil)
                go_simp
                refine hK.out _ _ ?_ (fun _hS => ?_)
                · exact ⟨P0.out, P1.out, P2.out⟩
                clear hK K
                try simp only [Act.put, zps]
                refine wpAnyH_ready (rs := [3]) (by kernel_rfl) (by simp) ?_
                refine AllReadyH.cons (o := ztg3) rfl (fun K hK => ?_) (AllReadyH.nil)
                refine step_of rfl ?_
                refine wp_run_append (v := .slice a3 ys.length c3) (u := .slice (some ⟨wx.heap.size + 1, 0, none⟩) 1 1) (.tmp 32) (.tmp 34) 23 rfl rfl rfl RUN6.out ?_
                go_simp
                refine hK.out _ _ ?_ (fun _hS => ?_)
                · exact ⟨P3.out, P4.out, P5.out⟩
                clear hK K
                try simp only [Act.put, zps]
                refine wtk (i := 8) (oi := ztg8) (v := ?v8x7) rfl ⟨by rfl, ?hy8x7⟩ (by assumption) ?_
                case hy8x7 => (intro w s; (try dsimp only at s); first | (go_simp; with_reducible rfl) | go_simp)
                try simp only [Act.put, zps]
                refine wtk (i := 9) (oi := ztg9) (v := ?v9x8) rfl ⟨by rfl, ?hy9x8⟩ (by assumption) ?_
                case hy9x8 => (intro w s; (try dsimp only at s); first | (go_simp; with_reducible rfl) | go_simp)
                try simp only [Act.put, zps]
                refine wpAnyH_done (by kernel_rfl) ?_ _
                refine NoPanic.normal ?_
                go_wp2
                go_roundg (g2 + 1)
                case measure => omega
                case rel =>
                  have e1 : off + i * 3 + J * 3 = off + (i + 1 + j) * 3 := by have := HJ.out; omega
                  have e2 : g + 1 - J = g2 + 1 := by have := HJ.out; omega
                  have e3 := HJ.out
                  rw [e1, e2]
                  refine ⟨i + 1 + j, d - J, ys ++ [x1], by omega, by omega, by omega, rfl, by simpa using HOwn6.out, hide ?_, hide fun y hy => (List.mem_append.1 hy).elim (hpc.out y) (fun h => by simp at h; subst h; exact hpx.out), by simp; omega, HB6.out⟩
                  rw [← htog.out, HXs.out, ers_app, List.append_assoc]
                  show _ ++ ([x1.e] ++ _) = _ ++ tgo x.e _
                  rw [HTg.out]; rfl
              · by_cases h2 : y.e.del = true ∨ 0 < ordI y.e.val x1.e.val
                · have hb : (y.e.del || decide (0 < ordI y.e.val x1.e.val)) = true := by rcases h2 with h | h <;> simp [h]
                  have HTg : Hid (tgo (⟨x1.e.key, y.e.val, y.e.del⟩ : Ee) ((ers xs).drop (i + 1 + (j + 1))) = tgo x.e ((ers xs).drop (i + 1))) := hide (by rw [← htg.out, HDy.out, tgo_more hd h1 h2])
                  rw [hb] at HEn
                  clear h2 hb hq
                  go_wp2_with (first | (go_at_call 68; refine HC.out.mono ?_; rintro r' w9 ⟨rfl, rfl⟩) | (go_at_call 36; refine HEn.out.mono ?_; rintro r' w7 ⟨rfl, hb7⟩; have HQ7 := hide ((hb7.block wo.heap.size (by have := hqs; simp; omega)).trans HQ5.out); have HY7 := hide ((hb7.block wx.heap.size (by simp)).trans HY5.out); have HB7 := hide (HBx.out.trans ((HB5.out.trans (hb7.mono HB5.out.size)).mono HBx.out.size)); obtain ⟨s0, s1, s2, sf⟩ := cells_three HQ7.out; have sf1 := sf 1; have sf2 := sf 2; obtain ⟨t0, t1, t2, -⟩ := cells_three HY7.out; clear hb7 sf))
                  refine wp_region_noPanic ?_
                  refine wp_region_held_drew (S := (fun W => W.cell? ⟨wx.heap.size, 1, none⟩ = some (.slice y.va y.e.val.length y.vc) ∧ W.cell? ⟨wx.heap.size, 2, none⟩ = some (.bool y.e.del))) (by kernel_rfl) ⟨t1, t2⟩ (fun _hS => ?_)
                  refine wtk (i := 0) (oi := zth0) (v := ?v0x501) rfl ⟨by rfl, ?hy0x501⟩ (by assumption) ?_
                  case hy0x501 => (intro w s; (try dsimp only at s); first | (go_simp; with_reducible rfl) | go_simp)
                  try simp only [Act.put, zps]
                  refine wtk (i := 1) (oi := zth1) (v := ?v1x502) rfl ⟨by rfl, ?hy1x502⟩ (by assumption) ?_
                  case hy1x502 => (intro w s; (try dsimp only at s); first | (go_simp; with_reducible rfl) | go_simp)
                  try simp only [Act.put, zps]
                  refine wtk (i := 2) (oi := zth2) (v := ?v2x503) rfl ⟨by rfl, ?hy2x503⟩ (by assumption) ?_
                  case hy2x503 => (intro w s; (try dsimp only at s); first | (go_simp; with_reducible rfl) | go_simp)
                  try simp only [Act.put, zps]
                  refine wtk (i := 3) (oi := zth3) (v := ?v3x504) rfl ⟨by rfl, ?hy3x504⟩ (by assumption) ?_
                  case hy3x504 => (intro w s; (try dsimp only at s); first | (go_simp; with_reducible rfl) | go_simp)
                  try simp only [Act.put, zps]
                  refine wtk (i := 4) (oi := zth4) (v := ?v4x505) rfl ⟨by rfl, ?hy4x505⟩ (by assumption) ?_
                  case hy4x505 => (intro w s; (try dsimp only at s); first | (go_simp; with_reducible rfl) | go_simp)
                  try simp only [Act.put, zps]
                  refine wpAnyH_ready (rs := [5]) (by kernel_rfl) (by simp) ?_
                  refine AllReadyH.cons (o := zth5) rfl (fun K hK => ?_) (AllReadyH.nil)
                  go_simp
                  refine hK.out _ _ ?_ (fun _hS => ?_)
                  · exact ⟨(cell_set_ne (by omega)).trans t1, (cell_set_ne (by omega)).trans t2⟩
                  clear hK K
                  try simp only [Act.put, zps]
                  refine wtk (i := 6) (oi := zth6) (v := ?v6x506) rfl ⟨by rfl, ?hy6x506⟩ (by assumption) ?_
                  case hy6x506 => (intro w s; (try dsimp only at s); first | (go_simp; with_reducible rfl) | go_simp)
                  try simp only [Act.put, zps]
                  refine wpAnyH_ready (rs := [7]) (by kernel_rfl) (by simp) ?_
                  refine AllReadyH.cons (o := zth7) rfl (fun K hK => ?_) (AllReadyH.nil)
                  go_simp
                  refine hK.out _ _ ?_ (fun _hS => ?_)
                  · exact ⟨(cell_set_ne (by omega)).trans ((cell_set_ne (by omega)).trans t1), (cell_set_ne (by omega)).trans ((cell_set_ne (by omega)).trans t2)⟩
                  clear hK K
                  try simp only [Act.put, zps]
                  refine wpAnyH_done (by kernel_rfl) ?_ _
                  refine NoPanic.normal ?_
                  go_wp2
                  go_roundg g2
                  case measure => omega
                  case rel => exact ⟨j + 1, ⟨⟨x1.e.key, y.e.val, y.e.del⟩, x1.ka, x1.kc, y.va, y.vc⟩, by omega, rfl, rfl, by go_num, HTg.out, ⟨hpx.out.1, ⟨y, HYm.out, rfl, rfl, rfl⟩⟩, setq12 HQ7.out, ((HB7.out.drew.setCell (Nat.le_refl _) _).setCell (Nat.le_refl _) _)⟩
                · have hb : (y.e.del || decide (0 < ordI y.e.val x1.e.val)) = false := by cases hdy : y.e.del <;> simp_all
                  have HTg : Hid (tgo x1.e ((ers xs).drop (i + 1 + (j + 1))) = tgo x.e ((ers xs).drop (i + 1))) := hide (by rw [← htg.out, HDy.out, tgo_in hd h1 h2])
                  rw [hb] at HEn
                  clear h2 hb hq
                  go_wp2_with (first | (go_at_call 68; refine HC.out.mono ?_; rintro r' w9 ⟨rfl, rfl⟩) | (go_at_call 36; refine HEn.out.mono ?_; rintro r' w7 ⟨rfl, hb7⟩; have HQ7 := hide ((hb7.block wo.heap.size (by have := hqs; simp; omega)).trans HQ5.out); have HY7 := hide ((hb7.block wx.heap.size (by simp)).trans HY5.out); have HB7 := hide (HBx.out.trans ((HB5.out.trans (hb7.mono HB5.out.size)).mono HBx.out.size)); obtain ⟨s0, s1, s2, sf⟩ := cells_three HQ7.out; have sf1 := sf 1; have sf2 := sf 2; obtain ⟨t0, t1, t2, -⟩ := cells_three HY7.out; clear hb7 sf))
                  go_roundg g2
                  case measure => omega
                  case rel => exact ⟨j + 1, x1, by omega, rfl, rfl, by go_num, HTg.out, hpx, (by rw [hd]; exact HQ7.out), HB7.out⟩
            · rw [hd] at p2 HQ5
              have HTg : Hid (tgo x1.e ((ers xs).drop (i + 1 + (j + 1))) = tgo x.e ((ers xs).drop (i + 1))) := hide (by rw [← htg.out, HDy.out, tgo_open hd])
              clear HC HEn
              go_wp2
              go_roundg g2
              case measure => omega
              case rel => exact ⟨j + 1, x1, by omega, rfl, rfl, by go_num, HTg.out, hpx, (by rw [hd]; exact HQ5.out), HBx.out.trans (HB5.out.mono HBx.out.size)⟩
end Go.Proofs.Ytpoanlbjhhlagaa
