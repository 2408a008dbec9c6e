/- The Go function KeyBack answers true for all tuples, all that falls and all bytes behind, and leaves them as they were: a tuple that is written is read as it was, and its first value is split off, whatever stands behind. No condition. -/
import Derived.Test.YtegoeaofjnpehaaVW
import Derived.Test.YtegoeaofjnpehaaXI
import Derived.Deep.RegionHeld3
namespace Go.Proofs.Ytegoeaofjnpehaa.Back
open Go.ChangeShapes Go.WideShapes Go.ChangeAt Go.RowKit
set_option linter.unusedVariables false

theorem own_n {w : World} {a : Option Addr} {n c : Nat} {zs : List Int} (h : Own w (.slice a n c) zs) : zs.length = n ∧ (a = none → n = 0 ∧ c = 0) := by
  obtain ⟨a', c', e, _, _, hn, _⟩ := h.shape
  cases e
  exact ⟨rfl, hn⟩
theorem tup_byts {n₀ : Nat} {W : World} (ds : List Bool) : ∀ (l : List T) (i : Nat), (∀ x ∈ l, x.Mem n₀ W) → Byts (tupB ds i l) := by
  intro l
  induction l with
  | nil => intro i _ c hc; simp [tupB] at hc
  | cons v r ih =>
    intro i h c hc
    simp only [tupB, List.mem_append, List.mem_map] at hc
    rcases hc with ⟨x, hx, rfl⟩ | hc
    · have h1 : 0 ≤ x ∧ x ≤ 255 := by
        unfold outp at hx
        split at hx
        · exact T.enc_byts v (h v (by simp)) x hx
        · simp at hx
      exact tn_bd _ x h1 (by unfold mk; cases ds.getD i false <;> simp)
    · exact ih (i + 1) (fun x hx => h x (by simp [hx])) c hc
theorem encB_byts {n₀ : Nat} {W : World} (ds : List Bool) (l : List T) (h : ∀ x ∈ l, x.Mem n₀ W) : Byts (encB ds l) := by
  unfold encB
  split
  · exact tup_byts ds l 0 h
  · intro c hc; simp at hc
theorem tupE_ok : ∀ (l : List T), tupE l = 0 → ∀ x ∈ l, oneE x = 0
  | [], _, x, h => by simp at h
  | v :: r, h, x, hx => by
    simp only [tupE] at h
    by_cases h0 : oneE v = 0
    · rw [if_pos h0] at h
      rcases List.mem_cons.1 hx with rfl | hx
      · exact h0
      · exact tupE_ok r h x hx
    · rw [if_neg h0] at h
      exact absurd h h0
theorem encE_ok (ds : List Bool) (l : List T) (h : encE ds l = 0) : (∀ x ∈ l, oneE x = 0) ∧ encB ds l = tupB ds 0 l ∧ l.length ≤ 4 := by
  have hb : encB ds l = tupB ds 0 l := by simp [encB, h]
  unfold encE at h
  split at h
  · omega
  · split at h
    · rename_i h4 h0; exact ⟨tupE_ok l h0, hb, by omega⟩
    · contradiction
theorem encB_bad (ds : List Bool) (l : List T) (h : encE ds l ≠ 0) : (encB ds l).length = 0 := by simp [encB, h]
theorem encE_bd (ds : List Bool) (l : List T) : encE ds l ≤ 65535 := by
  have h1 : ∀ v, oneE v ≤ 65535 := by
    intro v
    unfold oneE
    repeat' split
    all_goals omega
  have h2 : ∀ l, tupE l ≤ 65535 := by
    intro l
    induction l with
    | nil => simp [tupE]
    | cons v r ih => simp only [tupE]; split; exact ih; exact h1 v
  unfold encE
  have := h2 l
  repeat' split
  all_goals omega
theorem mem_all {n₀ : Nat} {W : World} {a : Option Addr} (l : TL) (h : l.Mem n₀ W a 0) : ∀ x ∈ l.list, x.Mem n₀ W := by
  intro x hx
  obtain ⟨j, hj, rfl⟩ := List.mem_iff_getElem.1 hx
  exact (TL.Mem.at l 0 h j _ (List.getElem?_eq_getElem hj)).2
theorem own_c {w : World} {a : Option Addr} {n c : Nat} {zs : List Int} (h : Own w (.slice a n c) zs) : zs.length ≤ c := by
  obtain ⟨a', c', e, hle, _, hn, _⟩ := h.shape
  cases e
  exact hle
set_option maxHeartbeats 6400000 in
set_option maxRecDepth 1000000 in
theorem walk (la da ba : Option Addr) (lc dc bc : Nat) (l : TL) (ds : List Bool) (ys : List Int) (w : World) (hl : l.Mem w.heap.size w la 0) (hd : Bl w.heap.size w da ds) (hr : Row w ba ys) (hby : Byts ys) (nb : ba = none → ys.length = 0 ∧ bc = 0) (hll : l.list.length ≤ 9223372036854775807) (hdl : ds.length ≤ 9223372036854775807) (hyl : ys.length ≤ 9223372036854775807) (sl : l.Szd) :
    Calls Try.prog 4 #[.slice la l.list.length lc, .slice da ds.length dc, .slice ba ys.length bc] w fun e w' => e = .returned (.bool true) ∧ Below w.heap.size w w' := by
  obtain ⟨i0, hi, hz0, hz1, hz2⟩ := info_parts Try.info5
  have HF0 := hide (Fr.refl w)
  have HMl := hide (fun W (h : Below w.heap.size w W) (hs : w.heap.size ≤ W.heap.size) => much_gen w.heap.size la lc l W (hl.on h) sl hll hs)
  have HEl := hide (fun W (h : Below w.heap.size w W) (hs : w.heap.size ≤ W.heap.size) (hw : l.list.length + l.wt ≤ 20000) => encode_gen w.heap.size la lc l da dc ds W (hl.on h) (fun c hc => by have := TL.wt_mem l c hc; omega) hll (hd.on h) hdl hs)
  have HFine : Hid (encE ds l.list = 0 → l.list.length + l.wt ≤ 20000 → ∀ c ∈ l.list, FineK c) := fun h hw c hc => fineK_of c ((encE_ok ds _ h).1 c hc) (mem_all l hl c hc) (TL.Szd.at l sl c hc) (by have := TL.wt_mem l c hc; omega)
  have HDe : Hid (encE ds l.list = 0 → l.list.length + l.wt ≤ 20000 → ∀ (W : World) (a : Option Addr) (cap : Nat), Below w.heap.size w W → w.heap.size ≤ W.heap.size → Row W a (encB ds l.list) → (encB ds l.list).length ≤ cap → Calls Try.prog 11 #[.slice a (encB ds l.list).length cap, .slice da ds.length dc] W fun e w' => ∃ V, e = .returned (.tuple #[V, .int .u16 0, .int .i64 0]) ∧ Below W.heap.size W w' ∧ ∀ X, Below w'.heap.size w' X → Calls Try.prog 12 #[.slice la l.list.length lc, V] X fun e w' => e = .returned (.bool true) ∧ Below X.heap.size X w') := by
    intro h hw W a cap hb hs hrow hc
    obtain ⟨_, b1, h4⟩ := encE_ok ds l.list h
    rw [b1] at hrow hc ⊢
    exact decode_back w.heap.size la lc l a cap da dc ds W (hl.on hb) h4 (HFine.out h hw) hrow hc (hd.on hb) hdl hs
  have HEm : Hid (l.list.length = 0 → (encB ds l.list).length = 0) := fun h => by
    have e : l.list = [] := List.eq_nil_of_length_eq_zero h
    unfold encB
    rw [e]
    split <;> simp [tupB]
  have HLm := hide (fun W (h : Below w.heap.size w W) => hl.on h)
  have HDm := hide (fun W (h : Below w.heap.size w W) => hd.on h)
  have HRm : Hid (∀ W, Below w.heap.size w W → Row W ba ys) := fun W h => hr.below h
  have hel := encE_bd ds l.list
  simp only [EncOut] at HEl
  generalize encB ds l.list = xs at *
  generalize encE ds l.list = el at *
  have HBy := hide hby
  clear hl hd sl hr hby
  generalize hbw : w.heap.size = b at *
  have HBW := hide hbw
  clear hbw
  go_enter Try.func4, Try.ntmps4
  go_wp2_with fail
  refine (HMl.out _ HF0.out.below HF0.out.size).mono ?_
  rintro e W1 ⟨⟨β, rfl, hβ⟩, hb⟩
  have HF1 := hide (HF0.out.on hb)
  clear hb HF0 HMl
  cases β
  · have hlw := hβ rfl
    clear hβ
    by_cases hdb : 20000 < ds.length
    · have hdd : decide ((20000 : Int) < (ds.length : Int)) = true := by simp; omega
      go_wp2
      go_ret
      exact ⟨rfl, HF1.out.below⟩
    · have hdd : decide ((20000 : Int) < (ds.length : Int)) = false := by simp; omega
      by_cases hyb : 20000 < ys.length
      · have hyd : decide ((20000 : Int) < (ys.length : Int)) = true := by simp; omega
        go_wp2
        go_ret
        exact ⟨rfl, HF1.out.below⟩
      · have hyd : decide ((20000 : Int) < (ys.length : Int)) = false := by simp; omega
        go_wp2_with fail
        refine (HEl.out _ HF1.out.below HF1.out.size hlw).mono ?_
        rintro e W2 ⟨⟨⟨a1, c1, rfl, ho⟩, hb⟩, -⟩
        have HF2 := hide (HF1.out.on hb)
        have HR2 := hide ho.row
        have HC2 := hide (own_c ho)
        clear hb ho HEl HF1
        go_wp2_with fail
        refine (known_any _).mono ?_
        rintro e W3 ⟨rfl, hb⟩
        have HF3 := hide (HF2.out.on hb)
        have HR3 := hide (HR2.out.below hb)
        clear hb HF2 HR2
        by_cases h1 : el = 0
        · subst h1
          have HDe' := hide (HDe.out rfl hlw)
          have HFi' := hide (HFine.out rfl hlw)
          clear HDe HFine
          go_wp2_with fail
          refine (HDe'.out W3 a1 c1 HF3.out.below HF3.out.size HR3.out HC2.out).mono ?_
          rintro e W4 ⟨V, rfl, hb, hsv⟩
          have HF4 := hide (HF3.out.on hb)
          have HSv := hide hsv
          clear hb hsv HDe' HF3
          go_wp2_with fail
          refine (HSv.out W4 (Below.refl _ _)).mono ?_
          rintro e W5 ⟨rfl, hb⟩
          have HF5 := hide (HF4.out.on hb)
          clear hb HSv HF4
          by_cases h2 : l.list.length = 0
          · have hx0 := HEm.out h2
            rw [h2, hx0]
            go_wp2
            go_ret
            exact ⟨rfl, HF5.out.below⟩
          · obtain ⟨c, hc⟩ : ∃ c, l.list[0]? = some c := ⟨_, List.getElem?_eq_getElem (Nat.pos_of_ne_zero h2)⟩
            have hln : ((l.list.length : Int) == 0) = false := by rw [beq_eq_false_iff_ne]; omega
            have hl0 : 0 < l.list.length := Nat.pos_of_ne_zero h2
            have HFc := hide (HFi'.out c (List.mem_of_getElem? hc))
            have HMc := hide (fun W h => (TL.Mem.at l 0 (HLm.out W h) 0 c hc).2)
            have hen1 : 1 ≤ c.enc.length := by obtain ⟨h1, -⟩ := gk_head c HFc.out.2.1; rw [h1]; simp
            have hen2 := (one_ok c HFc.out.1).2
            have HOne := hide (fun W h hs => one_own (ds.getD 0 false) b c W (HMc.out W h) hs (tame_of c HFc.out.2.2.1) (by omega) HFc.out.1)
            have HSp : Hid (∀ W v', Below b w W → b ≤ W.heap.size → Own W v' (c.enc.map (tn (mk (ds.getD 0 false))) ++ ys) → Calls Try.prog 14 #[v', .bool (ds.getD 0 false)] W fun e w' => ∃ (v : T) (a : Option Addr) (n cp : Nat), e = .returned (.tuple #[v.val, .slice a n cp, .int .u16 0]) ∧ Below W.heap.size W w' ∧ Own w' (.slice a n cp) ys ∧ (∀ k, (Value.slice a n cp).ownBlock = some k → W.heap.size ≤ k) ∧ ∀ X, w'.heap.size ≤ X.heap.size → (∀ k, W.heap.size ≤ k → k < w'.heap.size → X.heap[k]? = w'.heap[k]?) → c.Mem b X → Calls Try.prog 15 #[v.val, c.val] X fun e w' => e = .returned (.bool true) ∧ Below X.heap.size X w') := by
              intro W v' hb hs hown
              obtain ⟨a, cp, rfl, hle, _, _, hrow, _⟩ := hown.shape
              rw [List.length_append, List.length_map] at hle ⊢
              obtain ⟨x, y, rfl⟩ : ∃ x y, a = some ⟨x, y, none⟩ := by
                rcases hrow with h | ⟨x, y, h, -⟩
                · have := congrArg List.length h; simp only [List.length_append, List.length_map, List.length_nil] at this; omega
                · exact ⟨x, y, h⟩
              exact split_back b x y cp ys c _ W (HMc.out W hb) hs HFc.out HBy.out (by omega) hrow hle
            simp only [OneOwn] at HOne
            have HZl : Hid ((c.enc.map (tn (mk (ds.getD 0 false)))).length = c.enc.length) := by simp [Hid]
            generalize hgd : ds.getD 0 false = d at HOne HSp HZl
            generalize c.enc.map (tn (mk d)) = zs at HOne HSp HZl
            generalize c.enc.length = en at *
            clear HFc HFi' HEm
            cases c with
            | mk ck cbo cn ct cya cyc cy cla clc cl cfa cfc cf =>
            obtain ⟨b', o', rfl, hb', c0, c1', c2, c3, c4, c5, c6⟩ := (HLm.out _ HF5.out.below).cells hc
            simp only [Nat.zero_mul, Nat.add_zero] at c0 c1' c2 c3 c4 c5 c6
            simp only [T.val] at HOne HSp
            cases ds with
            | nil =>
              simp only [List.getD_nil] at hgd
              subst hgd
              have hdp : decide ((0 : Int) < (([] : List Bool).length : Int)) = false := by simp
              have HZ : Hid (∀ W, Below b w W → W.cell? ⟨b', o', none⟩ = some (.int .u8 ck) ∧ W.cell? ⟨b', o' + 1, none⟩ = some (.bool cbo) ∧ W.cell? ⟨b', o' + 2, none⟩ = some (.int .i64 cn) ∧ W.cell? ⟨b', o' + 3, none⟩ = some (.string ct) ∧ W.cell? ⟨b', o' + 4, none⟩ = some (.slice cya cy.length cyc) ∧ W.cell? ⟨b', o' + 5, none⟩ = some (.slice cla cl.list.length clc) ∧ W.cell? ⟨b', o' + 6, none⟩ = some (.slice cfa cf.list.length cfc)) := fun W hW => by
                obtain ⟨b'', o'', e1, hb'', c0, c1', c2, c3, c4, c5, c6⟩ := (HLm.out W hW).cells hc
                cases e1
                simp only [Nat.zero_mul, Nat.add_zero] at c0 c1' c2 c3 c4 c5 c6
                exact ⟨c0, c1', c2, c3, c4, c5, c6⟩
              clear c0 c1' c2 c3 c4 c5 c6
              obtain ⟨z0, z1, z2, z3, z4, z5, z6⟩ := HZ.out _ HF5.out.drew.below
              go_wp2
              refine wp_region_noPanic ?_
              refine wp_region_held_drew (S := (fun W => W.cell? ⟨b', o', none⟩ = some (.int .u8 ck) ∧ W.cell? ⟨b', o' + 1, none⟩ = some (.bool cbo) ∧ W.cell? ⟨b', o' + 2, none⟩ = some (.int .i64 cn) ∧ W.cell? ⟨b', o' + 3, none⟩ = some (.string ct) ∧ W.cell? ⟨b', o' + 4, none⟩ = some (.slice cya cy.length cyc) ∧ W.cell? ⟨b', o' + 5, none⟩ = some (.slice cla cl.list.length clc) ∧ W.cell? ⟨b', o' + 6, none⟩ = some (.slice cfa cf.list.length cfc))) (by kernel_rfl) (HZ.out _ HF5.out.drew.below) (fun _hS => ?_)
              refine wpAnyH_take (i := 0) (oi := { dst := some 66, op := Op.move (Operand.tmp 0), type := 22, pos := "law.go:154", after := #[], guard := none }) (v := ?v0x1) rfl (by kernel_rfl) (by kernel_rfl) (by kernel_rfl) (fun _ _ _ h => h) (Or.inl ⟨by rfl, ?hy0x1⟩) (by assumption) ?rest0x1
              case hy0x1 => (intro w hSw; (try dsimp only at hSw); (first | (go_simp; with_reducible rfl) | go_simp))
              try simp only [Act.put, List.setIfInBounds_toArray, List.set_cons_zero, List.set_cons_succ]
              refine wpAnyH_take (i := 1) (oi := { dst := some 67, op := Op.indexAddr 22 (Operand.tmp 66) (Operand.const (Value.int IntKind.i64 0)), type := 0, pos := "law.go:154", after := #[{ on := 0, ground := Ground.data }], guard := none }) (v := ?v1x2) rfl (by kernel_rfl) (by kernel_rfl) (by kernel_rfl) (fun _ _ _ h => h) (Or.inl ⟨by rfl, ?hy1x2⟩) (by assumption) ?rest1x2
              case hy1x2 => (intro w hSw; (try dsimp only at hSw); (first | (go_simp; with_reducible rfl) | go_simp))
              try simp only [Act.put, List.setIfInBounds_toArray, List.set_cons_zero, List.set_cons_succ]
              refine wpAnyH_take (i := 2) (oi := { dst := some 68, op := Op.load 41 (Operand.tmp 67), type := 41, pos := "law.go:154", after := #[{ on := 1, ground := Ground.data }], guard := none }) (v := ?v2x3) rfl (by kernel_rfl) (by kernel_rfl) (by kernel_rfl) (fun _ _ _ h => h) (Or.inl ⟨by rfl, ?hy2x3⟩) (by assumption) ?rest2x3
              case hy2x3 => (intro w hSw; (try dsimp only at hSw); (first | (go_simp; with_reducible rfl) | go_simp))
              try simp only [Act.put, List.setIfInBounds_toArray, List.set_cons_zero, List.set_cons_succ]
              refine wpAnyH_take (i := 3) (oi := { dst := some 69, op := Op.move (Operand.tmp 1), type := 23, pos := "law.go:154", after := #[], guard := none }) (v := ?v3x4) rfl (by kernel_rfl) (by kernel_rfl) (by kernel_rfl) (fun _ _ _ h => h) (Or.inl ⟨by rfl, ?hy3x4⟩) (by assumption) ?rest3x4
              case hy3x4 => (intro w hSw; (try dsimp only at hSw); (first | (go_simp; with_reducible rfl) | go_simp))
              try simp only [Act.put, List.setIfInBounds_toArray, List.set_cons_zero, List.set_cons_succ]
              refine wpAnyH_take (i := 4) (oi := { dst := some 70, op := Op.call { callee := Callee.builtin Builtin.len, args := #[Operand.tmp 69], argTypes := #[23] }, type := 3, pos := "law.go:154", after := #[{ on := 3, ground := Ground.data }], guard := none }) (v := ?v4x5) rfl (by kernel_rfl) (by kernel_rfl) (by kernel_rfl) (fun _ _ _ h => h) (Or.inl ⟨by rfl, ?hy4x5⟩) (by assumption) ?rest4x5
              case hy4x5 => (intro w hSw; (try dsimp only at hSw); (first | (go_simp; with_reducible rfl) | go_simp))
              try simp only [Act.put, List.setIfInBounds_toArray, List.set_cons_zero, List.set_cons_succ]
              refine wpAnyH_take (i := 5) (oi := { dst := some 71, op := Op.binOp BinOp.gtr 3 (Operand.tmp 70) (Operand.const (Value.int IntKind.i64 0)) 3, type := 4, pos := "law.go:154", after := #[{ on := 4, ground := Ground.data }], guard := none }) (v := ?v5x6) rfl (by kernel_rfl) (by kernel_rfl) (by kernel_rfl) (fun _ _ _ h => h) (Or.inl ⟨by rfl, ?hy5x6⟩) (by assumption) ?rest5x6
              case hy5x6 => (intro w hSw; (try dsimp only at hSw); (first | (go_simp; with_reducible rfl) | go_simp))
              try simp only [Act.put, List.setIfInBounds_toArray, List.set_cons_zero, List.set_cons_succ]
              refine wpAnyH_take (i := 6) (oi := { dst := some 72, op := Op.move (Operand.tmp 71), type := 4, pos := "law.go:154", after := #[{ on := 5, ground := Ground.data }], guard := none }) (v := ?v6x7) rfl (by kernel_rfl) (by kernel_rfl) (by kernel_rfl) (fun _ _ _ h => h) (Or.inl ⟨by rfl, ?hy6x7⟩) (by assumption) ?rest6x7
              case hy6x7 => (intro w hSw; (try dsimp only at hSw); (first | (go_simp; with_reducible rfl) | go_simp))
              try simp only [Act.put, List.setIfInBounds_toArray, List.set_cons_zero, List.set_cons_succ]
              refine wpAnyH_take (i := 7) (oi := { dst := some 73, op := Op.move (Operand.tmp 1), type := 23, pos := "law.go:154", after := #[{ on := 6, ground := Ground.guard }], guard := some (6, true) }) (v := undef) rfl (by kernel_rfl) (by kernel_rfl) (by kernel_rfl) (fun _ _ _ h => h) (Or.inr ⟨by rfl, rfl⟩) (by assumption) ?rest7x8
              try simp only [Act.put, List.setIfInBounds_toArray, List.set_cons_zero, List.set_cons_succ]
              refine wpAnyH_take (i := 8) (oi := { dst := some 74, op := Op.indexAddr 23 (Operand.tmp 73) (Operand.const (Value.int IntKind.i64 0)), type := 0, pos := "law.go:154", after := #[{ on := 7, ground := Ground.data }, { on := 6, ground := Ground.guard }], guard := some (6, true) }) (v := undef) rfl (by kernel_rfl) (by kernel_rfl) (by kernel_rfl) (fun _ _ _ h => h) (Or.inr ⟨by rfl, rfl⟩) (by assumption) ?rest8x9
              try simp only [Act.put, List.setIfInBounds_toArray, List.set_cons_zero, List.set_cons_succ]
              refine wpAnyH_take (i := 9) (oi := { dst := some 75, op := Op.load 4 (Operand.tmp 74), type := 4, pos := "law.go:154", after := #[{ on := 8, ground := Ground.data }, { on := 6, ground := Ground.guard }], guard := some (6, true) }) (v := undef) rfl (by kernel_rfl) (by kernel_rfl) (by kernel_rfl) (fun _ _ _ h => h) (Or.inr ⟨by rfl, rfl⟩) (by assumption) ?rest9x10
              try simp only [Act.put, List.setIfInBounds_toArray, List.set_cons_zero, List.set_cons_succ]
              refine wpAnyH_take (i := 10) (oi := { dst := some 76, op := Op.pick (Operand.tmp 72) (Operand.tmp 75) (Operand.const (Value.bool false)), type := 4, pos := "law.go:154", after := #[{ on := 6, ground := Ground.data }, { on := 9, ground := Ground.data }], guard := none }) (v := ?v10x11) rfl (by kernel_rfl) (by kernel_rfl) (by kernel_rfl) (fun _ _ _ h => h) (Or.inl ⟨by rfl, ?hy10x11⟩) (by assumption) ?rest10x11
              case hy10x11 => (intro w hSw; (try dsimp only at hSw); (first | (go_simp; with_reducible rfl) | go_simp))
              try simp only [Act.put, List.setIfInBounds_toArray, List.set_cons_zero, List.set_cons_succ]
              refine wpAnyH_ready (rs := [11]) (by kernel_rfl) (by simp) ?_
              refine AllReadyH.cons (o := { dst := some 77, op := Op.call { callee := Callee.value (Operand.func 13), args := #[Operand.tmp 68, Operand.tmp 76], argTypes := #[41, 4] }, type := 28, pos := "law.go:154", after := #[{ on := 2, ground := Ground.data }, { on := 10, ground := Ground.data }, { on := 6, ground := Ground.chain }], guard := none }) rfl (fun K hK => ?_) (AllReadyH.nil)
              go_simp
              go_at_call 13
              refine (HOne.out _ HF5.out.drew.below HF5.out.drew.size).mono ?_
              intro r' V6 hh
              obtain ⟨⟨⟨a6, q6, rfl, hown6, hnew6⟩, hb6⟩, -⟩ := hh
              have HO6 := hide hown6
              have HN6 : Hid (∀ k, (Value.slice a6 en q6).ownBlock = some k → b ≤ k) := (fun k hk => Nat.le_trans HF5.out.size (hnew6 k hk))
              have HF6 := hide (HF5.out.drew.on hb6)
              clear hown6 hnew6 hb6
              obtain ⟨z0, z1, z2, z3, z4, z5, z6⟩ := HZ.out _ HF6.out.below
              go_simp
              refine hK.out _ _ ?_ (fun _hS => ?_)
              · (first | (refine ⟨?_, ?_, ?_, ?_, ?_, ?_, ?_⟩ <;> assumption) | go_keep)
              clear hK K
              try simp only [Act.put, List.setIfInBounds_toArray, List.set_cons_zero, List.set_cons_succ]
              refine wpAnyH_take (i := 12) (oi := { dst := some 65, op := Op.move (Operand.tmp 77), type := 28, pos := "law.go:154", after := #[{ on := 11, ground := Ground.data }], guard := none }) (v := ?v12x12) rfl (by kernel_rfl) (by kernel_rfl) (by kernel_rfl) (fun _ _ _ h => h) (Or.inl ⟨by rfl, ?hy12x12⟩) (by assumption) ?rest12x12
              case hy12x12 => (intro w hSw; (try dsimp only at hSw); (first | (go_simp; with_reducible rfl) | go_simp))
              try simp only [Act.put, List.setIfInBounds_toArray, List.set_cons_zero, List.set_cons_succ]
              refine wpAnyH_take (i := 13) (oi := { dst := some 78, op := Op.extract (Operand.tmp 65) 0, type := 25, pos := "law.go:154", after := #[{ on := 12, ground := Ground.data }], guard := none }) (v := ?v13x13) rfl (by kernel_rfl) (by kernel_rfl) (by kernel_rfl) (fun _ _ _ h => h) (Or.inl ⟨by rfl, ?hy13x13⟩) (by assumption) ?rest13x13
              case hy13x13 => (intro w hSw; (try dsimp only at hSw); (first | (go_simp; with_reducible rfl) | go_simp))
              try simp only [Act.put, List.setIfInBounds_toArray, List.set_cons_zero, List.set_cons_succ]
              refine wpAnyH_take (i := 14) (oi := { dst := some 79, op := Op.extract (Operand.tmp 65) 1, type := 27, pos := "law.go:154", after := #[{ on := 12, ground := Ground.data }, { on := 15, ground := Ground.gcOnly Departure.lateStores }], guard := none }) (v := ?v14x14) rfl (by kernel_rfl) (by kernel_rfl) (by kernel_rfl) (fun _ _ _ h => h) (Or.inl ⟨by rfl, ?hy14x14⟩) (by assumption) ?rest14x14
              case hy14x14 => (intro w hSw; (try dsimp only at hSw); (first | (go_simp; with_reducible rfl) | go_simp))
              try simp only [Act.put, List.setIfInBounds_toArray, List.set_cons_zero, List.set_cons_succ]
              refine wpAnyH_ready (rs := [15]) (by kernel_rfl) (by simp) ?_
              refine AllReadyH.cons (o := { dst := some 12, op := Op.assign (Operand.tmp 78), type := 25, pos := "law.go:154", after := #[{ on := 13, ground := Ground.data }, { on := 11, ground := Ground.chain }, { on := 0, ground := Ground.phase }, { on := 1, ground := Ground.phase }, { on := 2, ground := Ground.phase }, { on := 3, ground := Ground.phase }, { on := 4, ground := Ground.phase }, { on := 5, ground := Ground.phase }, { on := 6, ground := Ground.phase }, { on := 7, ground := Ground.phase }, { on := 8, ground := Ground.phase }, { on := 9, ground := Ground.phase }, { on := 10, ground := Ground.phase }, { on := 11, ground := Ground.phase }, { on := 12, ground := Ground.phase }, { on := 13, ground := Ground.phase }, { on := 14, ground := Ground.textOnly Departure.lateStores }], guard := none }) rfl (fun K hK => ?_) (AllReadyH.nil)
              go_simp
              refine hK.out _ _ ?_ (fun _hS => ?_)
              · (first | (refine ⟨?_, ?_, ?_, ?_, ?_, ?_, ?_⟩ <;> assumption) | go_keep)
              clear hK K
              try simp only [Act.put, List.setIfInBounds_toArray, List.set_cons_zero, List.set_cons_succ]
              refine wpAnyH_ready (rs := [16]) (by kernel_rfl) (by simp) ?_
              refine AllReadyH.cons (o := { dst := some 13, op := Op.assign (Operand.tmp 79), type := 27, pos := "law.go:154", after := #[{ on := 14, ground := Ground.data }, { on := 15, ground := Ground.chain }, { on := 0, ground := Ground.phase }, { on := 1, ground := Ground.phase }, { on := 2, ground := Ground.phase }, { on := 3, ground := Ground.phase }, { on := 4, ground := Ground.phase }, { on := 5, ground := Ground.phase }, { on := 6, ground := Ground.phase }, { on := 7, ground := Ground.phase }, { on := 8, ground := Ground.phase }, { on := 9, ground := Ground.phase }, { on := 10, ground := Ground.phase }, { on := 11, ground := Ground.phase }, { on := 12, ground := Ground.phase }, { on := 13, ground := Ground.phase }, { on := 14, ground := Ground.phase }, { on := 15, ground := Ground.phase }], guard := none }) rfl (fun K hK => ?_) (AllReadyH.nil)
              go_simp
              refine hK.out _ _ ?_ (fun _hS => ?_)
              · (first | (refine ⟨?_, ?_, ?_, ?_, ?_, ?_, ?_⟩ <;> assumption) | go_keep)
              clear hK K
              try simp only [Act.put, List.setIfInBounds_toArray, List.set_cons_zero, List.set_cons_succ]
              refine wpAnyH_done (by kernel_rfl) ?_ _
              refine NoPanic.normal ?_
              all_goals
                clear z0 z1 z2 z3 z4 z5 z6
                have HSr := hide (src_row V6 ba ys.length bc ys rfl nb (HRm.out V6 HF6.out.below))
                have hzl := HZl.out
                have hzy : zs.length + ys.length ≤ 140737488355328 := by omega
                go_wp2_with (at_builtin; refine wpList_append_src (by rfl) (.tmp 83) (.tmp 84) 25 25 (by rfl) i0 Try.underlying25 hi hz0 hz1 hz2 (.slice a6 en q6) zs (by rfl) HO6.out (.slice ba ys.length bc) ys.length ys (by rfl) HSr.out hzy ?_; intro v7 W7 hown7 hg7 hf7; have HO7 := hide hown7; have HF7 := hide (HF6.out.grown hg7 HN6.out); clear hown7 hg7 hf7)
                refine (HSp.out W7 v7 HF7.out.below HF7.out.size HO7.out).mono ?_
                rintro e W8 ⟨⟨vk, vbo, vn, vt, vya, vyc, vy, vla, vlc, vl, vfa, vfc, vf⟩, a8, n8, c8, rfl, hb8, hown8, hk8, hsv⟩
                have HF8 := hide (HF7.out.on hb8)
                have HO8 := hide hown8
                have HSv := hide hsv
                have H78 := hide hb8
                clear hb8 hown8 hk8 hsv
                have hn8 := (own_n HO8.out).1
                have HR8 := hide HO8.out.row
                have hep : decide (0 < en) = true := by simp; omega
                have HSs : Hid (sameB ys ys = true) := by simp [sameB, Hid]
                have HF9 := hide (HF8.out.alloc (.cells #[.int .u8 vk, .bool vbo, .int .i64 vn, .string vt, .slice vya vy.length vyc, .slice vla vl.list.length vlc, .slice vfa vf.list.length vfc] 41))
                have HB9 := hide (Box7.new W8 (.int .u8 vk) (.bool vbo) (.int .i64 vn) (.string vt) (.slice vya vy.length vyc) (.slice vla vl.list.length vlc) (.slice vfa vf.list.length vfc))
                have H89 := hide (below_alloc W8 (.cells #[.int .u8 vk, .bool vbo, .int .i64 vn, .string vt, .slice vya vy.length vyc, .slice vla vl.list.length vlc, .slice vfa vf.list.length vfc] 41))
                have HMc9 := hide HMc.out
                have s78 := H78.out.size
                go_wp2_with fail
                generalize W8.alloc (.cells #[.int .u8 vk, .bool vbo, .int .i64 vn, .string vt, .slice vya vy.length vyc, .slice vla vl.list.length vlc, .slice vfa vf.list.length vfc] 41) = X9 at HF9 HB9 H89 ⊢
                have HZ9 : Hid (∀ W, Below X9.heap.size X9 W → W.cell? ⟨W8.heap.size, 0, none⟩ = some (.int .u8 vk) ∧ W.cell? ⟨W8.heap.size, 1, none⟩ = some (.bool vbo) ∧ W.cell? ⟨W8.heap.size, 2, none⟩ = some (.int .i64 vn) ∧ W.cell? ⟨W8.heap.size, 3, none⟩ = some (.string vt) ∧ W.cell? ⟨W8.heap.size, 4, none⟩ = some (.slice vya vy.length vyc) ∧ W.cell? ⟨W8.heap.size, 5, none⟩ = some (.slice vla vl.list.length vlc) ∧ W.cell? ⟨W8.heap.size, 6, none⟩ = some (.slice vfa vf.list.length vfc) ∧ W.cell? ⟨b', o', none⟩ = some (.int .u8 ck) ∧ W.cell? ⟨b', o' + 1, none⟩ = some (.bool cbo) ∧ W.cell? ⟨b', o' + 2, none⟩ = some (.int .i64 cn) ∧ W.cell? ⟨b', o' + 3, none⟩ = some (.string ct) ∧ W.cell? ⟨b', o' + 4, none⟩ = some (.slice cya cy.length cyc) ∧ W.cell? ⟨b', o' + 5, none⟩ = some (.slice cla cl.list.length clc) ∧ W.cell? ⟨b', o' + 6, none⟩ = some (.slice cfa cf.list.length cfc)) := fun W hW => by
                  obtain ⟨y0, y1, y2, y3, y4, y5, y6⟩ := (HB9.out.below hW).cells
                  obtain ⟨z0, z1, z2, z3, z4, z5, z6⟩ := HZ.out _ (HF9.out.on hW).below
                  exact ⟨y0, y1, y2, y3, y4, y5, y6, z0, z1, z2, z3, z4, z5, z6⟩
                refine wp_region_noPanic ?_
                refine wp_region_held_drew (S := (fun W => W.cell? ⟨W8.heap.size, 0, none⟩ = some (.int .u8 vk) ∧ W.cell? ⟨W8.heap.size, 1, none⟩ = some (.bool vbo) ∧ W.cell? ⟨W8.heap.size, 2, none⟩ = some (.int .i64 vn) ∧ W.cell? ⟨W8.heap.size, 3, none⟩ = some (.string vt) ∧ W.cell? ⟨W8.heap.size, 4, none⟩ = some (.slice vya vy.length vyc) ∧ W.cell? ⟨W8.heap.size, 5, none⟩ = some (.slice vla vl.list.length vlc) ∧ W.cell? ⟨W8.heap.size, 6, none⟩ = some (.slice vfa vf.list.length vfc) ∧ W.cell? ⟨b', o', none⟩ = some (.int .u8 ck) ∧ W.cell? ⟨b', o' + 1, none⟩ = some (.bool cbo) ∧ W.cell? ⟨b', o' + 2, none⟩ = some (.int .i64 cn) ∧ W.cell? ⟨b', o' + 3, none⟩ = some (.string ct) ∧ W.cell? ⟨b', o' + 4, none⟩ = some (.slice cya cy.length cyc) ∧ W.cell? ⟨b', o' + 5, none⟩ = some (.slice cla cl.list.length clc) ∧ W.cell? ⟨b', o' + 6, none⟩ = some (.slice cfa cf.list.length cfc))) (by kernel_rfl) (HZ9.out _ (Below.refl _ _).drew) (fun _hS => ?_)
                refine wpAnyH_take (i := 0) (oi := { dst := some 98, op := Op.move (Operand.tmp 13), type := 27, pos := "law.go:157", after := #[], guard := none }) (v := ?v0x101) rfl (by kernel_rfl) (by kernel_rfl) (by kernel_rfl) (fun _ _ _ h => h) (Or.inl ⟨by rfl, ?hy0x101⟩) (by assumption) ?rest0x101
                case hy0x101 => (intro w hSw; (try dsimp only at hSw); (first | (go_simp; with_reducible rfl) | go_simp))
                try simp only [Act.put, List.setIfInBounds_toArray, List.set_cons_zero, List.set_cons_succ]
                refine wpAnyH_take (i := 1) (oi := { dst := some 99, op := Op.binOp BinOp.eql 27 (Operand.tmp 98) (Operand.const (Value.int IntKind.u16 0)) 27, type := 4, pos := "law.go:157", after := #[{ on := 0, ground := Ground.data }], guard := none }) (v := ?v1x102) rfl (by kernel_rfl) (by kernel_rfl) (by kernel_rfl) (fun _ _ _ h => h) (Or.inl ⟨by rfl, ?hy1x102⟩) (by assumption) ?rest1x102
                case hy1x102 => (intro w hSw; (try dsimp only at hSw); (first | (go_simp; with_reducible rfl) | go_simp))
                try simp only [Act.put, List.setIfInBounds_toArray, List.set_cons_zero, List.set_cons_succ]
                refine wpAnyH_take (i := 2) (oi := { dst := some 100, op := Op.move (Operand.tmp 99), type := 4, pos := "law.go:157", after := #[{ on := 1, ground := Ground.data }], guard := none }) (v := ?v2x103) rfl (by kernel_rfl) (by kernel_rfl) (by kernel_rfl) (fun _ _ _ h => h) (Or.inl ⟨by rfl, ?hy2x103⟩) (by assumption) ?rest2x103
                case hy2x103 => (intro w hSw; (try dsimp only at hSw); (first | (go_simp; with_reducible rfl) | go_simp))
                try simp only [Act.put, List.setIfInBounds_toArray, List.set_cons_zero, List.set_cons_succ]
                refine wpAnyH_take (i := 3) (oi := { dst := some 101, op := Op.move (Operand.tmp 17), type := 27, pos := "law.go:157", after := #[{ on := 2, ground := Ground.guard }], guard := some (2, true) }) (v := ?v3x104) rfl (by kernel_rfl) (by kernel_rfl) (by kernel_rfl) (fun _ _ _ h => h) (Or.inl ⟨by rfl, ?hy3x104⟩) (by assumption) ?rest3x104
                case hy3x104 => (intro w hSw; (try dsimp only at hSw); (first | (go_simp; with_reducible rfl) | go_simp))
                try simp only [Act.put, List.setIfInBounds_toArray, List.set_cons_zero, List.set_cons_succ]
                refine wpAnyH_take (i := 4) (oi := { dst := some 102, op := Op.binOp BinOp.eql 27 (Operand.tmp 101) (Operand.const (Value.int IntKind.u16 0)) 27, type := 4, pos := "law.go:157", after := #[{ on := 3, ground := Ground.data }, { on := 2, ground := Ground.guard }], guard := some (2, true) }) (v := ?v4x105) rfl (by kernel_rfl) (by kernel_rfl) (by kernel_rfl) (fun _ _ _ h => h) (Or.inl ⟨by rfl, ?hy4x105⟩) (by assumption) ?rest4x105
                case hy4x105 => (intro w hSw; (try dsimp only at hSw); (first | (go_simp; with_reducible rfl) | go_simp))
                try simp only [Act.put, List.setIfInBounds_toArray, List.set_cons_zero, List.set_cons_succ]
                refine wpAnyH_take (i := 5) (oi := { dst := some 103, op := Op.pick (Operand.tmp 100) (Operand.tmp 102) (Operand.const (Value.bool false)), type := 4, pos := "law.go:157", after := #[{ on := 2, ground := Ground.data }, { on := 4, ground := Ground.data }], guard := none }) (v := ?v5x106) rfl (by kernel_rfl) (by kernel_rfl) (by kernel_rfl) (fun _ _ _ h => h) (Or.inl ⟨by rfl, ?hy5x106⟩) (by assumption) ?rest5x106
                case hy5x106 => (intro w hSw; (try dsimp only at hSw); (first | (go_simp; with_reducible rfl) | go_simp))
                try simp only [Act.put, List.setIfInBounds_toArray, List.set_cons_zero, List.set_cons_succ]
                refine wpAnyH_take (i := 6) (oi := { dst := some 104, op := Op.move (Operand.tmp 103), type := 4, pos := "law.go:157", after := #[{ on := 5, ground := Ground.data }, { on := 2, ground := Ground.chain }], guard := none }) (v := ?v6x107) rfl (by kernel_rfl) (by kernel_rfl) (by kernel_rfl) (fun _ _ _ h => h) (Or.inl ⟨by rfl, ?hy6x107⟩) (by assumption) ?rest6x107
                case hy6x107 => (intro w hSw; (try dsimp only at hSw); (first | (go_simp; with_reducible rfl) | go_simp))
                try simp only [Act.put, List.setIfInBounds_toArray, List.set_cons_zero, List.set_cons_succ]
                refine wpAnyH_take (i := 7) (oi := { dst := some 105, op := Op.move (Operand.tmp 14), type := 3, pos := "law.go:157", after := #[{ on := 6, ground := Ground.guard }], guard := some (6, true) }) (v := ?v7x108) rfl (by kernel_rfl) (by kernel_rfl) (by kernel_rfl) (fun _ _ _ h => h) (Or.inl ⟨by rfl, ?hy7x108⟩) (by assumption) ?rest7x108
                case hy7x108 => (intro w hSw; (try dsimp only at hSw); (first | (go_simp; with_reducible rfl) | go_simp))
                try simp only [Act.put, List.setIfInBounds_toArray, List.set_cons_zero, List.set_cons_succ]
                refine wpAnyH_take (i := 8) (oi := { dst := some 106, op := Op.binOp BinOp.gtr 3 (Operand.tmp 105) (Operand.const (Value.int IntKind.i64 0)) 3, type := 4, pos := "law.go:157", after := #[{ on := 7, ground := Ground.data }, { on := 6, ground := Ground.guard }], guard := some (6, true) }) (v := ?v8x109) rfl (by kernel_rfl) (by kernel_rfl) (by kernel_rfl) (fun _ _ _ h => h) (Or.inl ⟨by rfl, ?hy8x109⟩) (by assumption) ?rest8x109
                case hy8x109 => (intro w hSw; (try dsimp only at hSw); (first | (go_simp; with_reducible rfl) | go_simp))
                try simp only [Act.put, List.setIfInBounds_toArray, List.set_cons_zero, List.set_cons_succ]
                refine wpAnyH_take (i := 9) (oi := { dst := some 107, op := Op.pick (Operand.tmp 104) (Operand.tmp 106) (Operand.const (Value.bool false)), type := 4, pos := "law.go:157", after := #[{ on := 6, ground := Ground.data }, { on := 8, ground := Ground.data }], guard := none }) (v := ?v9x110) rfl (by kernel_rfl) (by kernel_rfl) (by kernel_rfl) (fun _ _ _ h => h) (Or.inl ⟨by rfl, ?hy9x110⟩) (by assumption) ?rest9x110
                case hy9x110 => (intro w hSw; (try dsimp only at hSw); (first | (go_simp; with_reducible rfl) | go_simp))
                try simp only [Act.put, List.setIfInBounds_toArray, List.set_cons_zero, List.set_cons_succ]
                refine wpAnyH_take (i := 10) (oi := { dst := some 108, op := Op.move (Operand.tmp 107), type := 4, pos := "law.go:157", after := #[{ on := 9, ground := Ground.data }, { on := 6, ground := Ground.chain }], guard := none }) (v := ?v10x111) rfl (by kernel_rfl) (by kernel_rfl) (by kernel_rfl) (fun _ _ _ h => h) (Or.inl ⟨by rfl, ?hy10x111⟩) (by assumption) ?rest10x111
                case hy10x111 => (intro w hSw; (try dsimp only at hSw); (first | (go_simp; with_reducible rfl) | go_simp))
                try simp only [Act.put, List.setIfInBounds_toArray, List.set_cons_zero, List.set_cons_succ]
                refine wpAnyH_take (i := 11) (oi := { dst := some 109, op := Op.load 41 (Operand.tmp 15), type := 41, pos := "law.go:157", after := #[{ on := 10, ground := Ground.guard }], guard := some (10, true) }) (v := ?v11x112) rfl (by kernel_rfl) (by kernel_rfl) (by kernel_rfl) (fun _ _ _ h => h) (Or.inl ⟨by rfl, ?hy11x112⟩) (by assumption) ?rest11x112
                case hy11x112 => (intro w hSw; (try dsimp only at hSw); (first | (go_simp; with_reducible rfl) | go_simp))
                try simp only [Act.put, List.setIfInBounds_toArray, List.set_cons_zero, List.set_cons_succ]
                refine wpAnyH_take (i := 12) (oi := { dst := some 110, op := Op.move (Operand.tmp 0), type := 22, pos := "law.go:157", after := #[{ on := 10, ground := Ground.guard }], guard := some (10, true) }) (v := ?v12x113) rfl (by kernel_rfl) (by kernel_rfl) (by kernel_rfl) (fun _ _ _ h => h) (Or.inl ⟨by rfl, ?hy12x113⟩) (by assumption) ?rest12x113
                case hy12x113 => (intro w hSw; (try dsimp only at hSw); (first | (go_simp; with_reducible rfl) | go_simp))
                try simp only [Act.put, List.setIfInBounds_toArray, List.set_cons_zero, List.set_cons_succ]
                refine wpAnyH_take (i := 13) (oi := { dst := some 111, op := Op.indexAddr 22 (Operand.tmp 110) (Operand.const (Value.int IntKind.i64 0)), type := 0, pos := "law.go:157", after := #[{ on := 12, ground := Ground.data }, { on := 10, ground := Ground.guard }], guard := some (10, true) }) (v := ?v13x114) rfl (by kernel_rfl) (by kernel_rfl) (by kernel_rfl) (fun _ _ _ h => h) (Or.inl ⟨by rfl, ?hy13x114⟩) (by assumption) ?rest13x114
                case hy13x114 => (intro w hSw; (try dsimp only at hSw); (first | (go_simp; with_reducible rfl) | go_simp))
                try simp only [Act.put, List.setIfInBounds_toArray, List.set_cons_zero, List.set_cons_succ]
                refine wpAnyH_take (i := 14) (oi := { dst := some 112, op := Op.load 41 (Operand.tmp 111), type := 41, pos := "law.go:157", after := #[{ on := 13, ground := Ground.data }, { on := 10, ground := Ground.guard }], guard := some (10, true) }) (v := ?v14x115) rfl (by kernel_rfl) (by kernel_rfl) (by kernel_rfl) (fun _ _ _ h => h) (Or.inl ⟨by rfl, ?hy14x115⟩) (by assumption) ?rest14x115
                case hy14x115 => (intro w hSw; (try dsimp only at hSw); (first | (go_simp; with_reducible rfl) | go_simp))
                try simp only [Act.put, List.setIfInBounds_toArray, List.set_cons_zero, List.set_cons_succ]
                refine wpAnyH_ready (rs := [15]) (by kernel_rfl) (by simp) ?_
                refine AllReadyH.cons (o := { dst := some 113, op := Op.call { callee := Callee.value (Operand.func 15), args := #[Operand.tmp 109, Operand.tmp 112], argTypes := #[41, 41] }, type := 4, pos := "law.go:157", after := #[{ on := 11, ground := Ground.data }, { on := 14, ground := Ground.data }, { on := 10, ground := Ground.chain }, { on := 10, ground := Ground.guard }], guard := some (10, true) }) rfl (fun K hK => ?_) (AllReadyH.nil)
                go_simp
                go_at_call 15
                refine (HSv.out X9.drew H89.out.size (fun k _ k2 => H89.out.block k k2) (HMc9.out _ HF9.out.drew.below)).mono ?_
                intro r' V10 hh
                obtain ⟨rfl, hb10⟩ := hh
                have HX10 : Hid (Below X9.heap.size X9 V10) := (Below.refl _ _).drew.trans hb10
                obtain ⟨y0, y1, y2, y3, y4, y5, y6, z0, z1, z2, z3, z4, z5, z6⟩ := HZ9.out _ HX10.out
                go_simp
                refine hK.out _ _ ?_ (fun _hS => ?_)
                · (first | (refine ⟨?_, ?_, ?_, ?_, ?_, ?_, ?_, ?_, ?_, ?_, ?_, ?_, ?_, ?_⟩ <;> assumption) | go_keep)
                clear hK K
                try simp only [Act.put, List.setIfInBounds_toArray, List.set_cons_zero, List.set_cons_succ]
                refine wpAnyH_take (i := 16) (oi := { dst := some 114, op := Op.pick (Operand.tmp 108) (Operand.tmp 113) (Operand.const (Value.bool false)), type := 4, pos := "law.go:157", after := #[{ on := 10, ground := Ground.data }, { on := 15, ground := Ground.data }], guard := none }) (v := ?v16x116) rfl (by kernel_rfl) (by kernel_rfl) (by kernel_rfl) (fun _ _ _ h => h) (Or.inl ⟨by rfl, ?hy16x116⟩) (by assumption) ?rest16x116
                case hy16x116 => (intro w hSw; (try dsimp only at hSw); (first | (go_simp; with_reducible rfl) | go_simp))
                try simp only [Act.put, List.setIfInBounds_toArray, List.set_cons_zero, List.set_cons_succ]
                refine wpAnyH_take (i := 17) (oi := { dst := some 115, op := Op.move (Operand.tmp 114), type := 4, pos := "law.go:157", after := #[{ on := 16, ground := Ground.data }, { on := 15, ground := Ground.chain }], guard := none }) (v := ?v17x117) rfl (by kernel_rfl) (by kernel_rfl) (by kernel_rfl) (fun _ _ _ h => h) (Or.inl ⟨by rfl, ?hy17x117⟩) (by assumption) ?rest17x117
                case hy17x117 => (intro w hSw; (try dsimp only at hSw); (first | (go_simp; with_reducible rfl) | go_simp))
                try simp only [Act.put, List.setIfInBounds_toArray, List.set_cons_zero, List.set_cons_succ]
                refine wpAnyH_take (i := 18) (oi := { dst := some 116, op := Op.move (Operand.tmp 16), type := 25, pos := "law.go:157", after := #[{ on := 17, ground := Ground.guard }], guard := some (17, true) }) (v := ?v18x118) rfl (by kernel_rfl) (by kernel_rfl) (by kernel_rfl) (fun _ _ _ h => h) (Or.inl ⟨by rfl, ?hy18x118⟩) (by assumption) ?rest18x118
                case hy18x118 => (intro w hSw; (try dsimp only at hSw); (first | (go_simp; with_reducible rfl) | go_simp))
                try simp only [Act.put, List.setIfInBounds_toArray, List.set_cons_zero, List.set_cons_succ]
                refine wpAnyH_take (i := 19) (oi := { dst := some 117, op := Op.move (Operand.tmp 2), type := 25, pos := "law.go:157", after := #[{ on := 17, ground := Ground.guard }], guard := some (17, true) }) (v := ?v19x119) rfl (by kernel_rfl) (by kernel_rfl) (by kernel_rfl) (fun _ _ _ h => h) (Or.inl ⟨by rfl, ?hy19x119⟩) (by assumption) ?rest19x119
                case hy19x119 => (intro w hSw; (try dsimp only at hSw); (first | (go_simp; with_reducible rfl) | go_simp))
                try simp only [Act.put, List.setIfInBounds_toArray, List.set_cons_zero, List.set_cons_succ]
                refine wpAnyH_ready (rs := [20]) (by kernel_rfl) (by simp) ?_
                refine AllReadyH.cons (o := { dst := some 118, op := Op.call { callee := Callee.value (Operand.func 16), args := #[Operand.tmp 116, Operand.tmp 117], argTypes := #[25, 25] }, type := 4, pos := "law.go:157", after := #[{ on := 18, ground := Ground.data }, { on := 19, ground := Ground.data }, { on := 17, ground := Ground.chain }, { on := 17, ground := Ground.guard }], guard := some (17, true) }) rfl (fun K hK => ?_) (AllReadyH.nil)
                go_simp
                go_at_call 16
                refine (sameb_any a8 ba n8 n8 c8 bc ys ys V10 hn8 hn8 (by omega) (by omega) (HR8.out.below (H89.out.trans (HX10.out.mono H89.out.size))) (HRm.out _ (HF9.out.on HX10.out).below)).mono ?_
                intro r' V11 hh
                obtain ⟨rfl, hb11⟩ := hh
                rw [HSs.out]
                have HX11 : Hid (Below X9.heap.size X9 V11) := HX10.out.trans (hb11.mono HX10.out.size)
                obtain ⟨y0, y1, y2, y3, y4, y5, y6, z0, z1, z2, z3, z4, z5, z6⟩ := HZ9.out _ HX11.out
                go_simp
                refine hK.out _ _ ?_ (fun _hS => ?_)
                · (first | (refine ⟨?_, ?_, ?_, ?_, ?_, ?_, ?_, ?_, ?_, ?_, ?_, ?_, ?_, ?_⟩ <;> assumption) | go_keep)
                clear hK K
                try simp only [Act.put, List.setIfInBounds_toArray, List.set_cons_zero, List.set_cons_succ]
                refine wpAnyH_take (i := 21) (oi := { dst := some 119, op := Op.pick (Operand.tmp 115) (Operand.tmp 118) (Operand.const (Value.bool false)), type := 4, pos := "law.go:157", after := #[{ on := 17, ground := Ground.data }, { on := 20, ground := Ground.data }], guard := none }) (v := ?v21x120) rfl (by kernel_rfl) (by kernel_rfl) (by kernel_rfl) (fun _ _ _ h => h) (Or.inl ⟨by rfl, ?hy21x120⟩) (by assumption) ?rest21x120
                case hy21x120 => (intro w hSw; (try dsimp only at hSw); (first | (go_simp; with_reducible rfl) | go_simp))
                try simp only [Act.put, List.setIfInBounds_toArray, List.set_cons_zero, List.set_cons_succ]
                refine wpAnyH_ready (rs := [22]) (by kernel_rfl) (by simp) ?_
                refine AllReadyH.cons (o := { dst := some 6, op := Op.assign (Operand.tmp 119), type := 4, pos := "law.go:157", after := #[{ on := 21, ground := Ground.data }, { on := 20, ground := Ground.chain }, { on := 0, ground := Ground.phase }, { on := 1, ground := Ground.phase }, { on := 2, ground := Ground.phase }, { on := 3, ground := Ground.phase }, { on := 4, ground := Ground.phase }, { on := 5, ground := Ground.phase }, { on := 6, ground := Ground.phase }, { on := 7, ground := Ground.phase }, { on := 8, ground := Ground.phase }, { on := 9, ground := Ground.phase }, { on := 10, ground := Ground.phase }, { on := 11, ground := Ground.phase }, { on := 12, ground := Ground.phase }, { on := 13, ground := Ground.phase }, { on := 14, ground := Ground.phase }, { on := 15, ground := Ground.phase }, { on := 16, ground := Ground.phase }, { on := 17, ground := Ground.phase }, { on := 18, ground := Ground.phase }, { on := 19, ground := Ground.phase }, { on := 20, ground := Ground.phase }, { on := 21, ground := Ground.phase }], guard := none }) rfl (fun K hK => ?_) (AllReadyH.nil)
                go_simp
                refine hK.out _ _ ?_ (fun _hS => ?_)
                · (first | (refine ⟨?_, ?_, ?_, ?_, ?_, ?_, ?_, ?_, ?_, ?_, ?_, ?_, ?_, ?_⟩ <;> assumption) | go_keep)
                clear hK K
                try simp only [Act.put, List.setIfInBounds_toArray, List.set_cons_zero, List.set_cons_succ]
                refine wpAnyH_done (by kernel_rfl) ?_ _
                refine NoPanic.normal ?_
                clear y0 y1 y2 y3 y4 y5 y6 z0 z1 z2 z3 z4 z5 z6
                go_wp2
                go_ret
                exact ⟨rfl, (HF9.out.on HX11.out).below⟩
            | cons d0 dr =>
              simp only [List.getD_cons_zero] at hgd
              subst hgd
              obtain ⟨bd, od, rfl, HCell⟩ : ∃ bd od, da = some ⟨bd, od, none⟩ ∧ Hid (∀ W, Below b w W → W.cell? ⟨bd, od, none⟩ = some (.bool d0)) := by
                rcases HDm.out _ HF5.out.below with h | ⟨bd, od, h1, h2, h3⟩
                · cases h
                · refine ⟨bd, od, h1, fun W hW => ?_⟩
                  rcases HDm.out W hW with h | ⟨bd', od', h1', h2', h3'⟩
                  · cases h
                  · rw [h1] at h1'
                    cases h1'
                    exact h3' 0 (by simp)
              have hdp : decide ((0 : Int) < ((d0 :: dr).length : Int)) = true := by simp
              have g0 := HCell.out _ HF5.out.below
              have HZ : Hid (∀ W, Below b w W → W.cell? ⟨b', o', none⟩ = some (.int .u8 ck) ∧ W.cell? ⟨b', o' + 1, none⟩ = some (.bool cbo) ∧ W.cell? ⟨b', o' + 2, none⟩ = some (.int .i64 cn) ∧ W.cell? ⟨b', o' + 3, none⟩ = some (.string ct) ∧ W.cell? ⟨b', o' + 4, none⟩ = some (.slice cya cy.length cyc) ∧ W.cell? ⟨b', o' + 5, none⟩ = some (.slice cla cl.list.length clc) ∧ W.cell? ⟨b', o' + 6, none⟩ = some (.slice cfa cf.list.length cfc) ∧ W.cell? ⟨bd, od, none⟩ = some (.bool d0)) := fun W hW => by
                obtain ⟨b'', o'', e1, hb'', c0, c1', c2, c3, c4, c5, c6⟩ := (HLm.out W hW).cells hc
                cases e1
                simp only [Nat.zero_mul, Nat.add_zero] at c0 c1' c2 c3 c4 c5 c6
                exact ⟨c0, c1', c2, c3, c4, c5, c6, HCell.out W hW⟩
              clear c0 c1' c2 c3 c4 c5 c6 g0
              obtain ⟨z0, z1, z2, z3, z4, z5, z6, z7⟩ := HZ.out _ HF5.out.drew.below
              go_wp2
              go_region_held3 (fun W => W.cell? ⟨b', o', none⟩ = some (.int .u8 ck) ∧ W.cell? ⟨b', o' + 1, none⟩ = some (.bool cbo) ∧ W.cell? ⟨b', o' + 2, none⟩ = some (.int .i64 cn) ∧ W.cell? ⟨b', o' + 3, none⟩ = some (.string ct) ∧ W.cell? ⟨b', o' + 4, none⟩ = some (.slice cya cy.length cyc) ∧ W.cell? ⟨b', o' + 5, none⟩ = some (.slice cla cl.list.length clc) ∧ W.cell? ⟨b', o' + 6, none⟩ = some (.slice cfa cf.list.length cfc) ∧ W.cell? ⟨bd, od, none⟩ = some (.bool d0)) ((refine ⟨?_, ?_, ?_, ?_, ?_, ?_, ?_, ?_⟩ <;> assumption)) ((first | (go_at_call 13; refine (HOne.out _ HF5.out.drew.below HF5.out.drew.size).mono ?_; intro r' V6 hh; obtain ⟨⟨⟨a6, q6, rfl, hown6, hnew6⟩, hb6⟩, -⟩ := hh; have HO6 := hide hown6; have HN6 : Hid (∀ k, (Value.slice a6 en q6).ownBlock = some k → b ≤ k) := (fun k hk => Nat.le_trans HF5.out.size (hnew6 k hk)); have HF6 := hide (HF5.out.drew.on hb6); clear hown6 hnew6 hb6 z0 z1 z2 z3 z4 z5 z6 z7; obtain ⟨z0, z1, z2, z3, z4, z5, z6, z7⟩ := HZ.out _ HF6.out.below)))
              all_goals
                clear z0 z1 z2 z3 z4 z5 z6 z7
                have HSr := hide (src_row V6 ba ys.length bc ys rfl nb (HRm.out V6 HF6.out.below))
                have hzl := HZl.out
                have hzy : zs.length + ys.length ≤ 140737488355328 := by omega
                go_wp2_with (at_builtin; refine wpList_append_src (by rfl) (.tmp 83) (.tmp 84) 25 25 (by rfl) i0 Try.underlying25 hi hz0 hz1 hz2 (.slice a6 en q6) zs (by rfl) HO6.out (.slice ba ys.length bc) ys.length ys (by rfl) HSr.out hzy ?_; intro v7 W7 hown7 hg7 hf7; have HO7 := hide hown7; have HF7 := hide (HF6.out.grown hg7 HN6.out); clear hown7 hg7 hf7; have g7 := HCell.out W7 HF7.out.below)
                refine (HSp.out W7 v7 HF7.out.below HF7.out.size HO7.out).mono ?_
                rintro e W8 ⟨⟨vk, vbo, vn, vt, vya, vyc, vy, vla, vlc, vl, vfa, vfc, vf⟩, a8, n8, c8, rfl, hb8, hown8, hk8, hsv⟩
                have HF8 := hide (HF7.out.on hb8)
                have HO8 := hide hown8
                have HSv := hide hsv
                have H78 := hide hb8
                clear hb8 hown8 hk8 hsv
                have hn8 := (own_n HO8.out).1
                have HR8 := hide HO8.out.row
                have hep : decide (0 < en) = true := by simp; omega
                have HSs : Hid (sameB ys ys = true) := by simp [sameB, Hid]
                have HF9 := hide (HF8.out.alloc (.cells #[.int .u8 vk, .bool vbo, .int .i64 vn, .string vt, .slice vya vy.length vyc, .slice vla vl.list.length vlc, .slice vfa vf.list.length vfc] 41))
                have HB9 := hide (Box7.new W8 (.int .u8 vk) (.bool vbo) (.int .i64 vn) (.string vt) (.slice vya vy.length vyc) (.slice vla vl.list.length vlc) (.slice vfa vf.list.length vfc))
                have H89 := hide (below_alloc W8 (.cells #[.int .u8 vk, .bool vbo, .int .i64 vn, .string vt, .slice vya vy.length vyc, .slice vla vl.list.length vlc, .slice vfa vf.list.length vfc] 41))
                have HMc9 := hide HMc.out
                have s78 := H78.out.size
                go_wp2_with fail
                generalize W8.alloc (.cells #[.int .u8 vk, .bool vbo, .int .i64 vn, .string vt, .slice vya vy.length vyc, .slice vla vl.list.length vlc, .slice vfa vf.list.length vfc] 41) = X9 at HF9 HB9 H89 ⊢
                have HZ9 : Hid (∀ W, Below X9.heap.size X9 W → W.cell? ⟨W8.heap.size, 0, none⟩ = some (.int .u8 vk) ∧ W.cell? ⟨W8.heap.size, 1, none⟩ = some (.bool vbo) ∧ W.cell? ⟨W8.heap.size, 2, none⟩ = some (.int .i64 vn) ∧ W.cell? ⟨W8.heap.size, 3, none⟩ = some (.string vt) ∧ W.cell? ⟨W8.heap.size, 4, none⟩ = some (.slice vya vy.length vyc) ∧ W.cell? ⟨W8.heap.size, 5, none⟩ = some (.slice vla vl.list.length vlc) ∧ W.cell? ⟨W8.heap.size, 6, none⟩ = some (.slice vfa vf.list.length vfc) ∧ W.cell? ⟨b', o', none⟩ = some (.int .u8 ck) ∧ W.cell? ⟨b', o' + 1, none⟩ = some (.bool cbo) ∧ W.cell? ⟨b', o' + 2, none⟩ = some (.int .i64 cn) ∧ W.cell? ⟨b', o' + 3, none⟩ = some (.string ct) ∧ W.cell? ⟨b', o' + 4, none⟩ = some (.slice cya cy.length cyc) ∧ W.cell? ⟨b', o' + 5, none⟩ = some (.slice cla cl.list.length clc) ∧ W.cell? ⟨b', o' + 6, none⟩ = some (.slice cfa cf.list.length cfc) ∧ W.cell? ⟨bd, od, none⟩ = some (.bool d0)) := fun W hW => by
                  obtain ⟨y0, y1, y2, y3, y4, y5, y6⟩ := (HB9.out.below hW).cells
                  obtain ⟨z0, z1, z2, z3, z4, z5, z6, z7⟩ := HZ.out _ (HF9.out.on hW).below
                  exact ⟨y0, y1, y2, y3, y4, y5, y6, z0, z1, z2, z3, z4, z5, z6, z7⟩
                refine wp_region_noPanic ?_
                refine wp_region_held_drew (S := (fun W => W.cell? ⟨W8.heap.size, 0, none⟩ = some (.int .u8 vk) ∧ W.cell? ⟨W8.heap.size, 1, none⟩ = some (.bool vbo) ∧ W.cell? ⟨W8.heap.size, 2, none⟩ = some (.int .i64 vn) ∧ W.cell? ⟨W8.heap.size, 3, none⟩ = some (.string vt) ∧ W.cell? ⟨W8.heap.size, 4, none⟩ = some (.slice vya vy.length vyc) ∧ W.cell? ⟨W8.heap.size, 5, none⟩ = some (.slice vla vl.list.length vlc) ∧ W.cell? ⟨W8.heap.size, 6, none⟩ = some (.slice vfa vf.list.length vfc) ∧ W.cell? ⟨b', o', none⟩ = some (.int .u8 ck) ∧ W.cell? ⟨b', o' + 1, none⟩ = some (.bool cbo) ∧ W.cell? ⟨b', o' + 2, none⟩ = some (.int .i64 cn) ∧ W.cell? ⟨b', o' + 3, none⟩ = some (.string ct) ∧ W.cell? ⟨b', o' + 4, none⟩ = some (.slice cya cy.length cyc) ∧ W.cell? ⟨b', o' + 5, none⟩ = some (.slice cla cl.list.length clc) ∧ W.cell? ⟨b', o' + 6, none⟩ = some (.slice cfa cf.list.length cfc) ∧ W.cell? ⟨bd, od, none⟩ = some (.bool d0))) (by kernel_rfl) (HZ9.out _ (Below.refl _ _).drew) (fun _hS => ?_)
                refine wpAnyH_take (i := 0) (oi := { dst := some 98, op := Op.move (Operand.tmp 13), type := 27, pos := "law.go:157", after := #[], guard := none }) (v := ?v0x301) rfl (by kernel_rfl) (by kernel_rfl) (by kernel_rfl) (fun _ _ _ h => h) (Or.inl ⟨by rfl, ?hy0x301⟩) (by assumption) ?rest0x301
                case hy0x301 => (intro w hSw; (try dsimp only at hSw); (first | (go_simp; with_reducible rfl) | go_simp))
                try simp only [Act.put, List.setIfInBounds_toArray, List.set_cons_zero, List.set_cons_succ]
                refine wpAnyH_take (i := 1) (oi := { dst := some 99, op := Op.binOp BinOp.eql 27 (Operand.tmp 98) (Operand.const (Value.int IntKind.u16 0)) 27, type := 4, pos := "law.go:157", after := #[{ on := 0, ground := Ground.data }], guard := none }) (v := ?v1x302) rfl (by kernel_rfl) (by kernel_rfl) (by kernel_rfl) (fun _ _ _ h => h) (Or.inl ⟨by rfl, ?hy1x302⟩) (by assumption) ?rest1x302
                case hy1x302 => (intro w hSw; (try dsimp only at hSw); (first | (go_simp; with_reducible rfl) | go_simp))
                try simp only [Act.put, List.setIfInBounds_toArray, List.set_cons_zero, List.set_cons_succ]
                refine wpAnyH_take (i := 2) (oi := { dst := some 100, op := Op.move (Operand.tmp 99), type := 4, pos := "law.go:157", after := #[{ on := 1, ground := Ground.data }], guard := none }) (v := ?v2x303) rfl (by kernel_rfl) (by kernel_rfl) (by kernel_rfl) (fun _ _ _ h => h) (Or.inl ⟨by rfl, ?hy2x303⟩) (by assumption) ?rest2x303
                case hy2x303 => (intro w hSw; (try dsimp only at hSw); (first | (go_simp; with_reducible rfl) | go_simp))
                try simp only [Act.put, List.setIfInBounds_toArray, List.set_cons_zero, List.set_cons_succ]
                refine wpAnyH_take (i := 3) (oi := { dst := some 101, op := Op.move (Operand.tmp 17), type := 27, pos := "law.go:157", after := #[{ on := 2, ground := Ground.guard }], guard := some (2, true) }) (v := ?v3x304) rfl (by kernel_rfl) (by kernel_rfl) (by kernel_rfl) (fun _ _ _ h => h) (Or.inl ⟨by rfl, ?hy3x304⟩) (by assumption) ?rest3x304
                case hy3x304 => (intro w hSw; (try dsimp only at hSw); (first | (go_simp; with_reducible rfl) | go_simp))
                try simp only [Act.put, List.setIfInBounds_toArray, List.set_cons_zero, List.set_cons_succ]
                refine wpAnyH_take (i := 4) (oi := { dst := some 102, op := Op.binOp BinOp.eql 27 (Operand.tmp 101) (Operand.const (Value.int IntKind.u16 0)) 27, type := 4, pos := "law.go:157", after := #[{ on := 3, ground := Ground.data }, { on := 2, ground := Ground.guard }], guard := some (2, true) }) (v := ?v4x305) rfl (by kernel_rfl) (by kernel_rfl) (by kernel_rfl) (fun _ _ _ h => h) (Or.inl ⟨by rfl, ?hy4x305⟩) (by assumption) ?rest4x305
                case hy4x305 => (intro w hSw; (try dsimp only at hSw); (first | (go_simp; with_reducible rfl) | go_simp))
                try simp only [Act.put, List.setIfInBounds_toArray, List.set_cons_zero, List.set_cons_succ]
                refine wpAnyH_take (i := 5) (oi := { dst := some 103, op := Op.pick (Operand.tmp 100) (Operand.tmp 102) (Operand.const (Value.bool false)), type := 4, pos := "law.go:157", after := #[{ on := 2, ground := Ground.data }, { on := 4, ground := Ground.data }], guard := none }) (v := ?v5x306) rfl (by kernel_rfl) (by kernel_rfl) (by kernel_rfl) (fun _ _ _ h => h) (Or.inl ⟨by rfl, ?hy5x306⟩) (by assumption) ?rest5x306
                case hy5x306 => (intro w hSw; (try dsimp only at hSw); (first | (go_simp; with_reducible rfl) | go_simp))
                try simp only [Act.put, List.setIfInBounds_toArray, List.set_cons_zero, List.set_cons_succ]
                refine wpAnyH_take (i := 6) (oi := { dst := some 104, op := Op.move (Operand.tmp 103), type := 4, pos := "law.go:157", after := #[{ on := 5, ground := Ground.data }, { on := 2, ground := Ground.chain }], guard := none }) (v := ?v6x307) rfl (by kernel_rfl) (by kernel_rfl) (by kernel_rfl) (fun _ _ _ h => h) (Or.inl ⟨by rfl, ?hy6x307⟩) (by assumption) ?rest6x307
                case hy6x307 => (intro w hSw; (try dsimp only at hSw); (first | (go_simp; with_reducible rfl) | go_simp))
                try simp only [Act.put, List.setIfInBounds_toArray, List.set_cons_zero, List.set_cons_succ]
                refine wpAnyH_take (i := 7) (oi := { dst := some 105, op := Op.move (Operand.tmp 14), type := 3, pos := "law.go:157", after := #[{ on := 6, ground := Ground.guard }], guard := some (6, true) }) (v := ?v7x308) rfl (by kernel_rfl) (by kernel_rfl) (by kernel_rfl) (fun _ _ _ h => h) (Or.inl ⟨by rfl, ?hy7x308⟩) (by assumption) ?rest7x308
                case hy7x308 => (intro w hSw; (try dsimp only at hSw); (first | (go_simp; with_reducible rfl) | go_simp))
                try simp only [Act.put, List.setIfInBounds_toArray, List.set_cons_zero, List.set_cons_succ]
                refine wpAnyH_take (i := 8) (oi := { dst := some 106, op := Op.binOp BinOp.gtr 3 (Operand.tmp 105) (Operand.const (Value.int IntKind.i64 0)) 3, type := 4, pos := "law.go:157", after := #[{ on := 7, ground := Ground.data }, { on := 6, ground := Ground.guard }], guard := some (6, true) }) (v := ?v8x309) rfl (by kernel_rfl) (by kernel_rfl) (by kernel_rfl) (fun _ _ _ h => h) (Or.inl ⟨by rfl, ?hy8x309⟩) (by assumption) ?rest8x309
                case hy8x309 => (intro w hSw; (try dsimp only at hSw); (first | (go_simp; with_reducible rfl) | go_simp))
                try simp only [Act.put, List.setIfInBounds_toArray, List.set_cons_zero, List.set_cons_succ]
                refine wpAnyH_take (i := 9) (oi := { dst := some 107, op := Op.pick (Operand.tmp 104) (Operand.tmp 106) (Operand.const (Value.bool false)), type := 4, pos := "law.go:157", after := #[{ on := 6, ground := Ground.data }, { on := 8, ground := Ground.data }], guard := none }) (v := ?v9x310) rfl (by kernel_rfl) (by kernel_rfl) (by kernel_rfl) (fun _ _ _ h => h) (Or.inl ⟨by rfl, ?hy9x310⟩) (by assumption) ?rest9x310
                case hy9x310 => (intro w hSw; (try dsimp only at hSw); (first | (go_simp; with_reducible rfl) | go_simp))
                try simp only [Act.put, List.setIfInBounds_toArray, List.set_cons_zero, List.set_cons_succ]
                refine wpAnyH_take (i := 10) (oi := { dst := some 108, op := Op.move (Operand.tmp 107), type := 4, pos := "law.go:157", after := #[{ on := 9, ground := Ground.data }, { on := 6, ground := Ground.chain }], guard := none }) (v := ?v10x311) rfl (by kernel_rfl) (by kernel_rfl) (by kernel_rfl) (fun _ _ _ h => h) (Or.inl ⟨by rfl, ?hy10x311⟩) (by assumption) ?rest10x311
                case hy10x311 => (intro w hSw; (try dsimp only at hSw); (first | (go_simp; with_reducible rfl) | go_simp))
                try simp only [Act.put, List.setIfInBounds_toArray, List.set_cons_zero, List.set_cons_succ]
                refine wpAnyH_take (i := 11) (oi := { dst := some 109, op := Op.load 41 (Operand.tmp 15), type := 41, pos := "law.go:157", after := #[{ on := 10, ground := Ground.guard }], guard := some (10, true) }) (v := ?v11x312) rfl (by kernel_rfl) (by kernel_rfl) (by kernel_rfl) (fun _ _ _ h => h) (Or.inl ⟨by rfl, ?hy11x312⟩) (by assumption) ?rest11x312
                case hy11x312 => (intro w hSw; (try dsimp only at hSw); (first | (go_simp; with_reducible rfl) | go_simp))
                try simp only [Act.put, List.setIfInBounds_toArray, List.set_cons_zero, List.set_cons_succ]
                refine wpAnyH_take (i := 12) (oi := { dst := some 110, op := Op.move (Operand.tmp 0), type := 22, pos := "law.go:157", after := #[{ on := 10, ground := Ground.guard }], guard := some (10, true) }) (v := ?v12x313) rfl (by kernel_rfl) (by kernel_rfl) (by kernel_rfl) (fun _ _ _ h => h) (Or.inl ⟨by rfl, ?hy12x313⟩) (by assumption) ?rest12x313
                case hy12x313 => (intro w hSw; (try dsimp only at hSw); (first | (go_simp; with_reducible rfl) | go_simp))
                try simp only [Act.put, List.setIfInBounds_toArray, List.set_cons_zero, List.set_cons_succ]
                refine wpAnyH_take (i := 13) (oi := { dst := some 111, op := Op.indexAddr 22 (Operand.tmp 110) (Operand.const (Value.int IntKind.i64 0)), type := 0, pos := "law.go:157", after := #[{ on := 12, ground := Ground.data }, { on := 10, ground := Ground.guard }], guard := some (10, true) }) (v := ?v13x314) rfl (by kernel_rfl) (by kernel_rfl) (by kernel_rfl) (fun _ _ _ h => h) (Or.inl ⟨by rfl, ?hy13x314⟩) (by assumption) ?rest13x314
                case hy13x314 => (intro w hSw; (try dsimp only at hSw); (first | (go_simp; with_reducible rfl) | go_simp))
                try simp only [Act.put, List.setIfInBounds_toArray, List.set_cons_zero, List.set_cons_succ]
                refine wpAnyH_take (i := 14) (oi := { dst := some 112, op := Op.load 41 (Operand.tmp 111), type := 41, pos := "law.go:157", after := #[{ on := 13, ground := Ground.data }, { on := 10, ground := Ground.guard }], guard := some (10, true) }) (v := ?v14x315) rfl (by kernel_rfl) (by kernel_rfl) (by kernel_rfl) (fun _ _ _ h => h) (Or.inl ⟨by rfl, ?hy14x315⟩) (by assumption) ?rest14x315
                case hy14x315 => (intro w hSw; (try dsimp only at hSw); (first | (go_simp; with_reducible rfl) | go_simp))
                try simp only [Act.put, List.setIfInBounds_toArray, List.set_cons_zero, List.set_cons_succ]
                refine wpAnyH_ready (rs := [15]) (by kernel_rfl) (by simp) ?_
                refine AllReadyH.cons (o := { dst := some 113, op := Op.call { callee := Callee.value (Operand.func 15), args := #[Operand.tmp 109, Operand.tmp 112], argTypes := #[41, 41] }, type := 4, pos := "law.go:157", after := #[{ on := 11, ground := Ground.data }, { on := 14, ground := Ground.data }, { on := 10, ground := Ground.chain }, { on := 10, ground := Ground.guard }], guard := some (10, true) }) rfl (fun K hK => ?_) (AllReadyH.nil)
                go_simp
                go_at_call 15
                refine (HSv.out X9.drew H89.out.size (fun k _ k2 => H89.out.block k k2) (HMc9.out _ HF9.out.drew.below)).mono ?_
                intro r' V10 hh
                obtain ⟨rfl, hb10⟩ := hh
                have HX10 : Hid (Below X9.heap.size X9 V10) := (Below.refl _ _).drew.trans hb10
                obtain ⟨y0, y1, y2, y3, y4, y5, y6, z0, z1, z2, z3, z4, z5, z6, z7⟩ := HZ9.out _ HX10.out
                go_simp
                refine hK.out _ _ ?_ (fun _hS => ?_)
                · (first | (refine ⟨?_, ?_, ?_, ?_, ?_, ?_, ?_, ?_, ?_, ?_, ?_, ?_, ?_, ?_, ?_⟩ <;> assumption) | go_keep)
                clear hK K
                try simp only [Act.put, List.setIfInBounds_toArray, List.set_cons_zero, List.set_cons_succ]
                refine wpAnyH_take (i := 16) (oi := { dst := some 114, op := Op.pick (Operand.tmp 108) (Operand.tmp 113) (Operand.const (Value.bool false)), type := 4, pos := "law.go:157", after := #[{ on := 10, ground := Ground.data }, { on := 15, ground := Ground.data }], guard := none }) (v := ?v16x316) rfl (by kernel_rfl) (by kernel_rfl) (by kernel_rfl) (fun _ _ _ h => h) (Or.inl ⟨by rfl, ?hy16x316⟩) (by assumption) ?rest16x316
                case hy16x316 => (intro w hSw; (try dsimp only at hSw); (first | (go_simp; with_reducible rfl) | go_simp))
                try simp only [Act.put, List.setIfInBounds_toArray, List.set_cons_zero, List.set_cons_succ]
                refine wpAnyH_take (i := 17) (oi := { dst := some 115, op := Op.move (Operand.tmp 114), type := 4, pos := "law.go:157", after := #[{ on := 16, ground := Ground.data }, { on := 15, ground := Ground.chain }], guard := none }) (v := ?v17x317) rfl (by kernel_rfl) (by kernel_rfl) (by kernel_rfl) (fun _ _ _ h => h) (Or.inl ⟨by rfl, ?hy17x317⟩) (by assumption) ?rest17x317
                case hy17x317 => (intro w hSw; (try dsimp only at hSw); (first | (go_simp; with_reducible rfl) | go_simp))
                try simp only [Act.put, List.setIfInBounds_toArray, List.set_cons_zero, List.set_cons_succ]
                refine wpAnyH_take (i := 18) (oi := { dst := some 116, op := Op.move (Operand.tmp 16), type := 25, pos := "law.go:157", after := #[{ on := 17, ground := Ground.guard }], guard := some (17, true) }) (v := ?v18x318) rfl (by kernel_rfl) (by kernel_rfl) (by kernel_rfl) (fun _ _ _ h => h) (Or.inl ⟨by rfl, ?hy18x318⟩) (by assumption) ?rest18x318
                case hy18x318 => (intro w hSw; (try dsimp only at hSw); (first | (go_simp; with_reducible rfl) | go_simp))
                try simp only [Act.put, List.setIfInBounds_toArray, List.set_cons_zero, List.set_cons_succ]
                refine wpAnyH_take (i := 19) (oi := { dst := some 117, op := Op.move (Operand.tmp 2), type := 25, pos := "law.go:157", after := #[{ on := 17, ground := Ground.guard }], guard := some (17, true) }) (v := ?v19x319) rfl (by kernel_rfl) (by kernel_rfl) (by kernel_rfl) (fun _ _ _ h => h) (Or.inl ⟨by rfl, ?hy19x319⟩) (by assumption) ?rest19x319
                case hy19x319 => (intro w hSw; (try dsimp only at hSw); (first | (go_simp; with_reducible rfl) | go_simp))
                try simp only [Act.put, List.setIfInBounds_toArray, List.set_cons_zero, List.set_cons_succ]
                refine wpAnyH_ready (rs := [20]) (by kernel_rfl) (by simp) ?_
                refine AllReadyH.cons (o := { dst := some 118, op := Op.call { callee := Callee.value (Operand.func 16), args := #[Operand.tmp 116, Operand.tmp 117], argTypes := #[25, 25] }, type := 4, pos := "law.go:157", after := #[{ on := 18, ground := Ground.data }, { on := 19, ground := Ground.data }, { on := 17, ground := Ground.chain }, { on := 17, ground := Ground.guard }], guard := some (17, true) }) rfl (fun K hK => ?_) (AllReadyH.nil)
                go_simp
                go_at_call 16
                refine (sameb_any a8 ba n8 n8 c8 bc ys ys V10 hn8 hn8 (by omega) (by omega) (HR8.out.below (H89.out.trans (HX10.out.mono H89.out.size))) (HRm.out _ (HF9.out.on HX10.out).below)).mono ?_
                intro r' V11 hh
                obtain ⟨rfl, hb11⟩ := hh
                rw [HSs.out]
                have HX11 : Hid (Below X9.heap.size X9 V11) := HX10.out.trans (hb11.mono HX10.out.size)
                obtain ⟨y0, y1, y2, y3, y4, y5, y6, z0, z1, z2, z3, z4, z5, z6, z7⟩ := HZ9.out _ HX11.out
                go_simp
                refine hK.out _ _ ?_ (fun _hS => ?_)
                · (first | (refine ⟨?_, ?_, ?_, ?_, ?_, ?_, ?_, ?_, ?_, ?_, ?_, ?_, ?_, ?_, ?_⟩ <;> assumption) | go_keep)
                clear hK K
                try simp only [Act.put, List.setIfInBounds_toArray, List.set_cons_zero, List.set_cons_succ]
                refine wpAnyH_take (i := 21) (oi := { dst := some 119, op := Op.pick (Operand.tmp 115) (Operand.tmp 118) (Operand.const (Value.bool false)), type := 4, pos := "law.go:157", after := #[{ on := 17, ground := Ground.data }, { on := 20, ground := Ground.data }], guard := none }) (v := ?v21x320) rfl (by kernel_rfl) (by kernel_rfl) (by kernel_rfl) (fun _ _ _ h => h) (Or.inl ⟨by rfl, ?hy21x320⟩) (by assumption) ?rest21x320
                case hy21x320 => (intro w hSw; (try dsimp only at hSw); (first | (go_simp; with_reducible rfl) | go_simp))
                try simp only [Act.put, List.setIfInBounds_toArray, List.set_cons_zero, List.set_cons_succ]
                refine wpAnyH_ready (rs := [22]) (by kernel_rfl) (by simp) ?_
                refine AllReadyH.cons (o := { dst := some 6, op := Op.assign (Operand.tmp 119), type := 4, pos := "law.go:157", after := #[{ on := 21, ground := Ground.data }, { on := 20, ground := Ground.chain }, { on := 0, ground := Ground.phase }, { on := 1, ground := Ground.phase }, { on := 2, ground := Ground.phase }, { on := 3, ground := Ground.phase }, { on := 4, ground := Ground.phase }, { on := 5, ground := Ground.phase }, { on := 6, ground := Ground.phase }, { on := 7, ground := Ground.phase }, { on := 8, ground := Ground.phase }, { on := 9, ground := Ground.phase }, { on := 10, ground := Ground.phase }, { on := 11, ground := Ground.phase }, { on := 12, ground := Ground.phase }, { on := 13, ground := Ground.phase }, { on := 14, ground := Ground.phase }, { on := 15, ground := Ground.phase }, { on := 16, ground := Ground.phase }, { on := 17, ground := Ground.phase }, { on := 18, ground := Ground.phase }, { on := 19, ground := Ground.phase }, { on := 20, ground := Ground.phase }, { on := 21, ground := Ground.phase }], guard := none }) rfl (fun K hK => ?_) (AllReadyH.nil)
                go_simp
                refine hK.out _ _ ?_ (fun _hS => ?_)
                · (first | (refine ⟨?_, ?_, ?_, ?_, ?_, ?_, ?_, ?_, ?_, ?_, ?_, ?_, ?_, ?_, ?_⟩ <;> assumption) | go_keep)
                clear hK K
                try simp only [Act.put, List.setIfInBounds_toArray, List.set_cons_zero, List.set_cons_succ]
                refine wpAnyH_done (by kernel_rfl) ?_ _
                refine NoPanic.normal ?_
                clear y0 y1 y2 y3 y4 y5 y6 z0 z1 z2 z3 z4 z5 z6 z7
                go_wp2
                go_ret
                exact ⟨rfl, (HF9.out.on HX11.out).below⟩
        · have hd1 : ((el : Int) == 0) = false := by simp; omega
          have hd1' : ((el : Int) != 0) = true := by simp; omega
          clear h1
          go_wp2
          go_ret
          exact ⟨rfl, HF3.out.below⟩
  · clear hβ
    go_wp2
    go_ret
    exact ⟨rfl, HF1.out.below⟩
set_option maxHeartbeats 1600000 in
set_option maxRecDepth 100000 in
theorem lifted (os : Os) (started : os.Started) (H : Type) (enc : TypeId × Value → H) :
    ReturnsInHanded {} Try.checked os 4 .any (Rows.keyBackSpec.pre6 enc Try.prog Try.f4 Rows.keyBackRow.domain false) (Rows.keyBackSpec.post enc Try.prog Try.f4 false true false false) := by
  refine returnsInHanded_of_change (C := Try.checked) own started (by kernel_rfl) Try.func4
    (ChangeSpec.witness6 (enc := enc) (C := Try.checked) false ⟨#[], #[.slice none 0 0, .slice none 0 0, .slice none 0 0], []⟩ 8 (by kernel_rfl) (by kernel_rfl) (by kernel_rfl) (by kernel_rfl)) ?_
  intro W base args ds gs before hval0 hW hcnd _
  have hval : ∀ (j : Nat) t v, Try.f4.params[j]? = some t → args[j]? = some v → Value.okWide Try.prog W .any base t v := hval0
  have hW' := hW
  obtain ⟨p, q, hA0, hV, rfl, hfz, hnd⟩ := hW
  have hA : DataW.TrodAll enc Try.prog W 0 (fun _ => true) true Try.f4.params.toList args.toList ds p := hA0
  rw [Try.params4] at hA hval
  obtain ⟨v0, vs0, d0, ds0, p0, q0, hargs, rfl, rfl, h0, r0⟩ := trodAll_cons hA
  obtain ⟨v1, vs1, d1, ds1, p1, q1, rfl, rfl, rfl, h1, r1⟩ := trodAll_cons r0
  obtain ⟨v2, vs2, d2, ds2, p2, q2, rfl, rfl, rfl, h2, r2⟩ := trodAll_cons r1
  obtain ⟨rfl, rfl, rfl⟩ := trodAll_nil r2
  obtain rfl : args = #[v0, v1, v2] := by cases args; simp_all
  obtain ⟨rfl, rfl⟩ := trodVars_none hV
  obtain ⟨a0, len0, cap0, rfl⟩ := okWide_slice Try.underlying22 (hval 0 22 v0 rfl rfl)
  have k0 := h0
  have lt0 : ∀ x ∈ p0, x.block < W.heap.size := by obtain ⟨m, hm⟩ := k0; exact DataW.trod_lt m _ _ _ hm
  obtain ⟨la, lc, l, e0, m0, _, n0, s0, _⟩ : ∃ la lc, ∃ l : TL, Value.slice a0 len0 cap0 = .slice la l.list.length lc ∧ l.Mem W.heap.size W la 0 ∧ (la = none → l.list = [] ∧ lc = 0) ∧ l.list.length ≤ 9223372036854775807 ∧ l.Szd ∧ l.list.length ≤ lc := by
    obtain ⟨fuel, hf⟩ := h0
    exact read_vals fuel _ _ hf
  cases e0
  obtain ⟨a1, len1, cap1, rfl⟩ := okWide_slice Try.underlying23 (hval 1 23 v1 rfl rfl)
  have k1 := h1
  have lt1 : ∀ x ∈ p1, x.block < W.heap.size := by obtain ⟨m, hm⟩ := k1; exact DataW.trod_lt m _ _ _ hm
  obtain ⟨da, dc, dd, e1, m1, n1⟩ : ∃ da dc, ∃ ds : List Bool, Value.slice a1 len1 cap1 = .slice da ds.length dc ∧ Bl W.heap.size W da ds ∧ ds.length ≤ 9223372036854775807 := by
    obtain ⟨fuel, hf⟩ := h1
    exact read_bools fuel _ _ hf
  cases e1
  obtain ⟨a2, len2, cap2, rfl⟩ := okWide_slice Try.underlying25 (hval 2 25 v2 rfl rfl)
  have k2 := h2
  have lt2 : ∀ x ∈ p2, x.block < W.heap.size := by obtain ⟨m, hm⟩ := k2; exact DataW.trod_lt m _ _ _ hm
  obtain ⟨z2, w2⟩ : ∃ zs, IsRow .u8 W a2 len2 cap2 zs := by
    obtain ⟨fuel, hf⟩ := h2
    rcases open_ints Try.underlying25 Try.underlying5 (by kernel_rfl) hf with ⟨hcs, _⟩ | ⟨x, l, c, zs, hcs, _, hl, hm, hz, _, hcell, hwz⟩
    · simp [Value.cells] at hcs
      obtain ⟨rfl, rfl, rfl⟩ := hcs
      exact ⟨[], .inl ⟨rfl, rfl, rfl, rfl⟩⟩
    · simp [Value.cells] at hcs
      obtain ⟨rfl, rfl, rfl⟩ := hcs
      exact ⟨zs, .inr ⟨_, rfl, hl, hm, by simpa using hz, hcell, hwz⟩⟩
  clear hA0 hval0
  obtain ⟨hrow2, hbyt2, hlen2, hlc2, hcm2, hnil2⟩ := isrow_row w2
  have hmx : len2 ≤ 9223372036854775807 := by unfold maxLen at hcm2; omega
  have hwk := walk a0 a1 a2 cap0 cap1 cap2 l dd (z2.take len2) W m0 m1 hrow2 hbyt2 (by rw [hlen2]; exact hnil2) n0 n1 (by rw [hlen2]; exact hmx) s0
  rw [hlen2] at hwk
  refine hwk.mono fun e W' ⟨he, bel⟩ => ?_
  subst he
  exact ⟨_, rfl, _, _, _, [], _, [], hW', trodAll_mk1 (shut_bool Try.underlying4 _), (trodAll_cons_mk (Below.trod laidOut (by kernel_rfl) (of_decide_eq_true (by kernel_rfl)) k0 bel lt0) (trodAll_cons_mk (Below.trod laidOut (by kernel_rfl) (of_decide_eq_true (by kernel_rfl)) k1 bel lt1) (trodAll_cons_mk (Below.trod laidOut (by kernel_rfl) (of_decide_eq_true (by kernel_rfl)) k2 bel lt2) trodAll_mk0))), rfl, bel.frame _, fun h => by cases h⟩

theorem over : Rows.keyBackRow.holds Try.pinned (OpenSpec.ofChange Rows.keyBackSpec) :=
  OpenClaim.holds_of_wide 4 Try.f4 rfl rfl rfl rfl rfl rfl rfl ⟨rfl, rfl, rfl, rfl, rfl⟩ rfl rfl rfl rfl rfl (by kernel_rfl) Try.func4 (by kernel_rfl)
    (of_decide_eq_true (by kernel_rfl)) (by unfold Func.isWrapper; first | (rw [if_pos (by decide +kernel)]; kernel_rfl) | (rw [if_neg (by decide +kernel)]; exact ⟨rfl, rfl⟩))
    (fun os started H enc _ => lifted os started H enc)

end Go.Proofs.Ytegoeaofjnpehaa.Back
namespace Go.Proofs.Ytegoeaofjnpehaa
theorem keyBack_holds : Rows.KeyBackSaid := Back.over
#print axioms keyBack_holds
end Go.Proofs.Ytegoeaofjnpehaa
