/- Encode: a great value as the payloads of its pages, walked. -/
import Derived.Test.YtlmofgfkclfgeaaGreatOD
namespace Go.Proofs.YtlmofgfkclfgeaaGreat
open Go.RowKit Go.Shelf Go.Maps
attribute [local go_sem] Oper.semAt_some wide_fn
set_option linter.unusedVariables false
set_option linter.unusedSimpArgs false
variable {w w' : World}
theorem range_split {m x : Nat} {pre rest : List Nat} (h : List.range m = pre ++ x :: rest) : x = pre.length ∧ x < m := by
  have hl := congrArg List.length h
  simp at hl
  have h1 := congrArg (fun l => l[pre.length]?) h
  simp only [List.getElem?_append_right (Nat.le_refl _), Nat.sub_self, List.getElem?_cons_zero] at h1
  rw [List.getElem?_range (by omega)] at h1
  have := Option.some.inj h1
  omega
theorem news_one (W : World) (v : Value) : ∀ j u, [v][j]? = some u → (W.alloc (.cells #[v] 22)).cell? ((⟨W.heap.size, 0, none⟩ : Addr).add j) = some u := fun j u hu => by
  rw [Addr.add_lit, cell_of_row _ _ (0 + j) _ 22 (0, 0) (heap_alloc_new W _)]
  simpa using hu
theorem row_piece {b0 off : Nat} {zs : List Int} (h : Row w (some ⟨b0, off, none⟩) zs) (k : Nat) : Row w (some ⟨b0, off + 1004 * k, none⟩) ((zs.drop (1004 * k)).take 1004) := by
  refine Row.take ?_ 1004
  rcases h with rfl | ⟨b, o, e, hlt, hc⟩
  · exact .inl (by simp)
  · cases e
    refine .inr ⟨_, _, rfl, hlt, fun i hi => ?_⟩
    rw [List.length_drop] at hi
    rw [Nat.add_assoc, hc (1004 * k + i) (by omega)]
    simp [List.getD_eq_getElem?_getD]
theorem pay_at {ys : List Nat} {k : Nat} : (ys.drop (k + 1)).getD 0 0 = ys.getD (k + 1) 0 := by simp [List.getD_eq_getElem?_getD]
/-- so many rows of nothing. -/
def nils (n : Nat) : Array Value := madeCells #[Value.slice none 0 0] n
theorem makeRows (n : Nat) (hn : n ≤ 1000000) (W : World) : (Instr.makeSlice 44 (.int .i64 0) (.int .i64 (n : Int))).run Tryz.prog W = .ok (.slice (some ⟨W.heap.size, 0, none⟩) 0 n) (W.alloc (.cells (nils n) 22)) := by
  obtain ⟨i0, hi, hz0, hz1, hz2⟩ := info_parts infoBy
  have := run_make (P := Tryz.prog) W 44 22 i0 _ Tryz.underlying44 hi hz0 .i64 .i64 0 (n : Int) (by omega) (by omega) (by rw [hz2]; omega) (by omega)
  rw [hz1] at this
  simp only [Int.toNat_natCast, Int.toNat_zero, Value.cells, Nat.mul_one] at this
  exact this
theorem makeRows_own (n : Nat) (hn : n ≤ 1000000) (W : World) : (W.alloc (.cells (nils n) 22)).ownsRow 0 22 1 (.slice (some ⟨W.heap.size, 0, none⟩) 0 n) 0 [] :=
  ⟨rfl, .inr ⟨W.heap.size, n, _, rfl, Nat.zero_le _, heap_alloc_new W _, Nat.zero_le _, by unfold maxLen; omega, by simp [nils, size_madeCells], by simp⟩⟩
set_option maxHeartbeats 6400000 in
set_option maxRecDepth 1000000 in
theorem encode_ok (w : World) (a' : Option Addr) (b0 off n c m c' : Nat) (zs : List Int) (ys : List Nat) (hl : zs.length = n) (hnc : n ≤ c) (hc : c ≤ 9223372036854775807) (hr : Row w (some ⟨b0, off, none⟩) zs)
    (hl' : ys.length = m) (hm : m = need n) (hm0 : 0 < m) (hmc : m ≤ c') (hr' : Rw w a' ys) (hz' : W32 ys) (hok : ys.all okp = true) :
    Calls Tryz.prog 17 #[.slice (some ⟨b0, off, none⟩) n c, .slice a' m c'] w fun e w' => ∃ v vs, e = .returned (.tuple #[v, .int .u16 0]) ∧ vs.length = m ∧ Ro w' v w.heap.size vs (pay zs ys) ∧ Below w.heap.size w w' := by
  have hm9 := need_le n
  rw [← hm] at hm9
  obtain ⟨hn1, hn2, hn3⟩ := need_pos (n := n) (by omega)
  have HN : Hid (∀ W, Calls Tryz.prog 18 #[.int .i64 (n : Int)] W fun e w' => e = .returned (.int .i64 (m : Int)) ∧ w' = W) := fun W => by rw [hm]; exact need_any W n (by omega)
  have HCn : Hid (∀ W, Below w.heap.size w W → Calls Tryz.prog 50 #[.slice a' m c', .func (.func 51) #[] #[]] W fun e w' => e = .returned (.bool false) ∧ w' = W) := fun W hW => by
    have := contains_any W a' m c' ys hl' (by omega) (hr'.below hW) hz'
    rwa [hok] at this
  have hmN : m = (n + 1003) / 1004 := by omega
  have HMN := hide hmN
  have HL := hide hl
  have HR := hide hr
  have HL' := hide hl'
  have HR' := hide hr'
  have HZ' := hide hz'
  have hq0 : ((m : Int) == 0) = false := by rw [beq_eq_false_iff_ne]; omega
  have hq1 : ((m : Int) != (m : Int)) = false := by simp
  clear hl hr hl' hr' hz' hok hm hn3 hmN
  refine (callsIn_wide (n := 9)).1 ?_
  refine callsIn_of_wp_marks Tryz.func17 rfl trivial ?_ rfl
  simp only [Tryz.ntmps17, List.size_toArray, List.length_cons, List.length_nil, Nat.reduceAdd, Nat.reduceSub, Array.replicate_succ, Array.replicate_zero, List.push_toArray, List.append_toArray, List.nil_append, List.cons_append]
  gi_wp2
  have hB1 : ∀ k, Below w.heap.size w ((w.alloc (.cells #[.slice a' m c'] 39)).drewN k) := fun k => (below_alloc w _).trans (((Same.refl _).drewN k).below.mono (by simp))
  have HB1 := hide hB1
  clear hB1
  gi_big_quiet_th (first | (gi_at_call 18; refine CallsIn.quiet_of_same (callsIn_wide.2 (HN.out _))) | (gi_at_call 50; refine CallsIn.quiet_of_same (callsIn_wide.2 (HCn.out _ (HB1.out _)))))
  have hb1 := HB1.out nq
  have hs1 : ((w.alloc (.cells #[.slice a' m c'] 39)).drewN nq).heap.size = w.heap.size + 1 := by simp
  have hx1 : ((w.alloc (.cells #[.slice a' m c'] 39)).drewN nq).heap[w.heap.size]? = some (.cells #[.slice a' m c'] 39 (0, 0)) := heap_alloc_new w _
  generalize (w.alloc (.cells #[.slice a' m c'] 39)).drewN nq = W1 at *
  have g1 := cell_of_one hx1
  obtain ⟨i0, hi, hz0, hz1, hz2⟩ := info_parts infoBy
  have hmk := makeRows m (by omega) W1
  have HO2 := hide (makeRows_own m (by omega) W1)
  have HW2 := hide (below_alloc W1 (.cells (nils m) 22))
  have hs2 : (W1.alloc (.cells (nils m) 22)).heap.size = w.heap.size + 2 := by simp [hs1]
  generalize W1.alloc (.cells (nils m) 22) = W2 at *
  have HC1 := hide (chunk_any (some ⟨b0, off, none⟩) n c)
  have HX1 := hide hx1
  have HB2 := hide hb1
  have HS1 := hide hs1
  rw [hs1] at hmk HO2
  clear hx1 hb1 HB1
  gi_wp2_with (gi_at_call 52; refine (callsIn_wide.2 (HC1.out _)).mono ?_; rintro e w5 ⟨rfl, rfl⟩)
  have HE0 : Hid (Enc w w.heap.size m (.slice (some ⟨b0, off, none⟩) n c) zs ys 0 a' c' (.slice (some ⟨w.heap.size + 1, 0, none⟩) 0 m) [] (((W2.alloc (.cells #[.slice (some ⟨w.heap.size + 1, 0, none⟩) 0 m] 44)).alloc (.cells #[.slice (some ⟨b0, off, none⟩) n c] 22)).alloc (.cells #[.int .i64 1004] 3))) := by
    have z1 : W2.heap[w.heap.size]? = some (.cells #[.slice a' m c'] 39 (0, 0)) := (HW2.out.block _ (by rw [HS1.out]; omega)).trans HX1.out
    have al : ∀ b, b < W2.heap.size → (((W2.alloc (.cells #[.slice (some ⟨w.heap.size + 1, 0, none⟩) 0 m] 44)).alloc (.cells #[.slice (some ⟨b0, off, none⟩) n c] 22)).alloc (.cells #[.int .i64 1004] 3)).heap[b]? = W2.heap[b]? := fun b hb => by
      rw [Below.heap_alloc _ _ b (by simp; omega), Below.heap_alloc _ _ b (by simp; omega), Below.heap_alloc _ _ b hb]
    have n0 := heap_alloc_new W2 (.cells #[.slice (some ⟨w.heap.size + 1, 0, none⟩) 0 m] 44)
    have n1 := heap_alloc_new (W2.alloc (.cells #[.slice (some ⟨w.heap.size + 1, 0, none⟩) 0 m] 44)) (.cells #[.slice (some ⟨b0, off, none⟩) n c] 22)
    have n2 := heap_alloc_new ((W2.alloc (.cells #[.slice (some ⟨w.heap.size + 1, 0, none⟩) 0 m] 44)).alloc (.cells #[.slice (some ⟨b0, off, none⟩) n c] 22)) (.cells #[.int .i64 1004] 3)
    simp only [World.size_alloc, hs2] at n0 n1 n2
    have hob : ∀ b, (Value.slice (some ⟨w.heap.size + 1, 0, none⟩) 0 m).ownBlock = some b → b = w.heap.size + 1 := fun b hb => by simpa [Value.ownBlock, eq_comm] using hb
    refine ⟨(al _ (by omega)).trans z1, hmc, HR'.out, ?_, rfl, row_of_block HO2.out (fun b hb => al b (by rw [hob b hb]; omega)), fun b hb => .inl (hob b hb), fun j hj => by omega, fun j b hj => by omega, fun i j b hi => by omega, ⟨?_, n2⟩, ?_⟩
    · rw [Below.heap_alloc _ _ _ (by simp [hs2]), Below.heap_alloc _ _ _ (by simp [hs2])]
      exact n0
    · rw [Below.heap_alloc _ _ _ (by simp [hs2])]
      exact n1
    · refine (HB2.out.trans (HW2.out.mono (by rw [HS1.out]; omega))).trans ?_
      exact (((Below.refl _ W2).alloc (by omega) _).alloc (by simp; omega) _).alloc (by simp; omega) _
  have hsx : (((W2.alloc (.cells #[.slice (some ⟨w.heap.size + 1, 0, none⟩) 0 m] 44)).alloc (.cells #[.slice (some ⟨b0, off, none⟩) n c] 22)).alloc (.cells #[.int .i64 1004] 3)).heap.size = w.heap.size + 5 := by simp [hs2]
  generalize ((W2.alloc (.cells #[.slice (some ⟨w.heap.size + 1, 0, none⟩) 0 m] 44)).alloc (.cells #[.slice (some ⟨b0, off, none⟩) n c] 22)).alloc (.cells #[.int .i64 1004] 3) = X3 at *
  clear hmk g1 HO2 HX1 HB2 HW2 HS1 hs1 hs2
  generalize hs : w.heap.size = s at *
  have HS := hide hs
  clear hs W1 W2 
  refine range_genS (gf := 64) (lb := #[.pointer (some ⟨s + 3, 0, none⟩), .pointer (some ⟨s + 3 + 1, 0, none⟩)]) rfl (enters_of Tryz.func64 (by kernel_rfl) rfl)
    (by have := chunk1_goes (s + 3) b0 off n c (by omega) hnc hc; rw [← HMN.out] at this; exact this) (fun _ => rfl)
    (fun pre V => ∃ a1 c1 v vs, Enc w s m (.slice (some ⟨b0, off, none⟩) n c) zs ys pre.length a1 c1 v vs V) (fun _ _ => False)
    (fun _ _ _ ⟨a1, c1, v, vs, h⟩ hb => ⟨a1, c1, v, vs, h.mv (by rw [hsx] at hb; exact hb)⟩) (fun _ _ _ h _ => h) ⟨a', c', _, [], HE0.out⟩ (fun _ _ ⟨_, _, _, _, h⟩ => h.cb)
    (fun x a'' _ => a'' = { tmps := #[.slice (some ⟨b0, off, none⟩) n c, .slice a' m c', undef, .pointer (some ⟨s, 0, none⟩), .slice none 0 0, .int .u16 0, .pointer (some ⟨s + 2, 0, none⟩), pc b0 off n x, .slice a' m c', .int .i64 (m : Int), .bool false, .bool false, .slice a' m c', .int .i64 (m : Int), .slice (some ⟨b0, off, none⟩) n c, .int .i64 (n : Int), .int .i64 (m : Int), .bool false, .bool false, .bool false, .slice a' m c', .bool false, .bool false, .slice a' m c', .int .i64 (m : Int), .slice (some ⟨s + 1, 0, none⟩) 0 m, .slice (some ⟨b0, off, none⟩) n c, .func (.func 64) #[] #[.pointer (some ⟨s + 2 + 1, 0, none⟩), .pointer (some ⟨s + 2 + 1 + 1, 0, none⟩)], pc b0 off n x, undef, undef, undef, undef, undef, undef, undef, undef, undef, undef], defers := [] }) (fun _ _ _ _ _ _ h _ => h) ?assign ?body ?done ?stop
  case assign =>
    intro l pre x V K hlt hi hK
    gi_wp2
    exact hK _ _ hi (Kl.refl _ _) rfl
  case stop => exact fun _ _ _ _ h => h.elim
  case body =>
    rintro l pre k rest a'' V hx hlt ⟨a1, c1, v, vs, hE⟩ rfl
    obtain ⟨hxk, hxm⟩ := range_split hx
    rw [← hxk] at hE
    have HI : Hid ((pre ++ [k]).length = k + 1) := by rw [Hid, List.length_append, ← hxk]; rfl
    rw [hsx] at hlt ⊢
    clear hx hsx HE0 hxk
    have hLk : (ys.drop k).length = m - k := by rw [List.length_drop, HL'.out]
    have HEk := hide hE
    obtain ⟨b1, o1, rfl⟩ : ∃ b1 o1, a1 = some ⟨b1, o1, none⟩ := by
      rcases hE.rw with h0 | ⟨b, o, rfl, _⟩
      · rw [h0] at hLk; simp at hLk; omega
      · exact ⟨b, o, rfl⟩
    obtain ⟨av, cv, rfl⟩ := row_shape2 hE.row
    have gP := cell_of_one hE.at_
    have fP := free_of_one hE.at_
    have gQ := cell_of_one hE.out
    have hc1 := hE.cap
    have HTl := hide (hE.rw.tail c1 (by rw [hLk]; exact hc1))
    have h1m : (1 : Int) ≤ ((m - k : Nat) : Int) := by omega
    have HPc : Hid (Row w (some ⟨b0, off + 1004 * k, none⟩) ((zs.drop (1004 * k)).take 1004)) := row_piece HR.out k
    have HPl : Hid (((zs.drop (1004 * k)).take 1004).length = min 1004 (n - 1004 * k)) := by rw [Hid, List.length_take, List.length_drop, HL.out]
    clear hE hLk
    by_cases hcc : c1 = 1
    · subst hcc
      have HR2 : Hid (Rw w (some ⟨b1, o1, none⟩) (ys.drop (k + 1))) := by
        have := HTl.out
        rw [if_pos rfl, List.drop_drop] at this
        exact this
      have HC2 : Hid (m - (k + 1) ≤ 0) := by rw [Hid]; omega
      clear HTl
      gi_wp2
      generalize (some ⟨b1, o1, none⟩ : Option Addr) = a2 at *
      have HQq : Hid (0 = m - (k + 1)) := by rw [Hid]; omega
      clear gP gQ fP
      have hE := HEk.out
      have hV1 : (V.setCell ⟨s, 0, none⟩ (.slice a2 0 0)).heap.size = V.heap.size := by simp [World.setCell]
      have gP1 : (V.setCell ⟨s, 0, none⟩ (.slice a2 0 0)).cell? ⟨s, 0, none⟩ = some (.slice a2 0 0) := cell_of_one (heap_setCell_same V s 0 _ _ _ hE.at_)
      have gQ1 : (V.setCell ⟨s, 0, none⟩ (.slice a2 0 0)).cell? ⟨s + 2, 0, none⟩ = some (.slice av k cv) := cell_of_one ((set_other _ _ _ _ _ (by omega)).trans hE.out)
      have hbV : Below s w (V.setCell ⟨s, 0, none⟩ (.slice a2 0 0)) := hE.bel.setCell (p := ⟨s, 0, none⟩) (Nat.le_refl _) _
      have HSt0 : Hid (∀ W3, Below V.heap.size (V.setCell ⟨s, 0, none⟩ (.slice a2 0 0)) W3 → ∀ v5, Own W3 v5 (pay zs ys k) → (∀ b, v5.ownBlock = some b → V.heap.size ≤ b) → ∀ v' V5 o, V5.ownsRow 0 22 1 v' (k + 1) (vs ++ [v5]) → (W3.alloc o).grownBy V5 (Value.slice av k cv).ownBlock → (v'.ownBlock = (Value.slice av k cv).ownBlock ∨ v'.ownBlock = some (W3.alloc o).heap.size) → (∃ a1 c1 v vs, Enc w s m (.slice (some ⟨b0, off, none⟩) n c) zs ys (pre ++ [k]).length a1 c1 v vs (V5.setCell ⟨s + 2, 0, none⟩ v')) ∧ Kl (s + 5) V (V5.setCell ⟨s + 2, 0, none⟩ v')) := fun W3 hb v5 h5 n5 v' V5 o hr hg hv => by
        have hb' : Below V.heap.size (V.setCell ⟨s, 0, none⟩ (.slice a2 (m - (k + 1)) 0)) W3 := by rw [← HQq.out]; exact hb
        have := HEk.out.step hlt HC2.out HR2.out hb' h5 n5 hr hg hv
        rw [HI.out]
        exact ⟨⟨_, _, _, _, this.1⟩, this.2⟩
      obtain ⟨V1, hV⟩ : ∃ V1, V1 = V.setCell ⟨s, 0, none⟩ (.slice a2 0 0) := ⟨_, rfl⟩
      rw [← hV] at gP1 gQ1 hV1 hbV HSt0 ⊢
      have hd : ∀ W3, Below V.heap.size V1.drew W3 → Below V.heap.size V1 W3 := fun W3 h => ⟨h.os, h.tape, h.output, h.size, h.block⟩
      have HQ3 : Hid (∀ W3, Below V.heap.size V1.drew W3 → W3.cell? ⟨s + 2, 0, none⟩ = some (.slice av k cv) ∧ W3.frozen? ⟨s + 2, 0, none⟩ = false) := fun W3 h => by
        have h2 : W3.heap[s + 2]? = some (.cells #[.slice av k cv] 44 (0, 0)) := ((hd W3 h).block (s + 2) (by omega)).trans (by rw [hV]; exact (set_other _ _ _ _ _ (by omega)).trans hE.out)
        exact ⟨cell_of_one h2, free_of_one h2⟩
      have HQ4 : Hid (∀ W3, Below V.heap.size V1.drew W3 → ∀ o, (W3.alloc o).cell? ⟨s + 2, 0, none⟩ = some (.slice av k cv)) := fun W3 h o => by
        have h2 : W3.heap[s + 2]? = some (.cells #[.slice av k cv] 44 (0, 0)) := ((hd W3 h).block (s + 2) (by omega)).trans (by rw [hV]; exact (set_other _ _ _ _ _ (by omega)).trans hE.out)
        exact cell_of_one ((Below.heap_alloc W3 o (s + 2) (lt_of_block h2)).trans h2)
      have hvn : ∀ b, b < s + 7 → b ≠ s + 1 → (Value.slice av k cv).ownBlock ≠ some b := fun b hb hne e => by
        rcases hE.vb b e with e' | e' <;> omega
      have HRow : Hid (∀ W3, Below V.heap.size V1.drew W3 → ∀ o, (W3.alloc o).ownsRow 0 22 1 (.slice av k cv) k vs) := fun W3 h o => by
        refine row_of_block hE.row fun b hb => ?_
        have hbl := hE.vlt hb
        have hsz := (hd W3 h).size
        rw [Below.heap_alloc W3 o b (by omega), (hd W3 h).block b hbl, hV, set_other _ _ _ _ _ (fun e => hvn b (by omega) (by omega) hb)]
      have HT : Hid (∀ W3, Below V.heap.size V1.drew W3 → ∀ V5 o, (W3.alloc o).grownBy V5 (Value.slice av k cv).ownBlock → V5.cell? ⟨s + 2, 0, none⟩ = some (.slice av k cv) ∧ V5.frozen? ⟨s + 2, 0, none⟩ = false) := fun W3 h V5 o hg => by
        have hsz := (hd W3 h).size
        have h2 : V5.heap[s + 2]? = some (.cells #[.slice av k cv] 44 (0, 0)) := by
          rw [hg.block (s + 2) (by simp; omega) (fun e => hvn (s + 2) (by omega) (by omega) e.symm), Below.heap_alloc W3 o (s + 2) (by omega)]
          exact ((hd W3 h).block (s + 2) (by omega)).trans (by rw [hV]; exact (set_other _ _ _ _ _ (by omega)).trans hE.out)
        exact ⟨cell_of_one h2, free_of_one h2⟩
      have HSt : Hid (∀ W3, Below V.heap.size V1.drew W3 → ∀ v5, Own W3 v5 (pay zs ys k) → (∀ b, v5.ownBlock = some b → V.heap.size ≤ b) → ∀ v' V5 o, V5.ownsRow 0 22 1 v' (k + 1) (vs ++ [v5]) → (W3.alloc o).grownBy V5 (Value.slice av k cv).ownBlock → (v'.ownBlock = (Value.slice av k cv).ownBlock ∨ v'.ownBlock = some (W3.alloc o).heap.size) → (∃ a1 c1 v vs, Enc w s m (.slice (some ⟨b0, off, none⟩) n c) zs ys (pre ++ [k]).length a1 c1 v vs (V5.setCell ⟨s + 2, 0, none⟩ v')) ∧ Kl (s + 5) V (V5.setCell ⟨s + 2, 0, none⟩ v')) := fun W3 hb => HSt0.out W3 (hd W3 hb)
      have hbw : Below w.heap.size w V1.drew := by rw [HS.out]; exact ⟨hbV.os, hbV.tape, hbV.output, hbV.size, hbV.block⟩
      have HF := hide (firstOf_any V1.drew a2 0 0 (ys.drop (k + 1)) (by rw [List.length_drop, HL'.out]; exact HQq.out.symm) (by have := HQq.out; omega) (HR2.out.below hbw))
      have hy : (ys.drop (k + 1)).getD 0 0 ≤ 4294967295 := by rw [pay_at]; exact HZ'.out.at _
      have HPy : Hid (Calls Tryz.prog 53 #[.int .u32 (((ys.drop (k + 1)).getD 0 0 : Nat) : Int), pc b0 off n k] V1.drew fun e w' => ∃ v', e = .returned v' ∧ Own w' v' (pay zs ys k) ∧ (∀ b, v'.ownBlock = some b → V.heap.size ≤ b) ∧ Below V.heap.size V1.drew w') := by
        have h := payloadOf_any V1.drew _ hy (some ⟨b0, off + 1004 * k, none⟩) (min 1004 (n - 1004 * k)) (min 1004 (n - 1004 * k)) _ HPl.out (by omega) (fun e => by cases e) (HPc.out.below hbw)
        rw [pay_at] at h ⊢
        have hz : V1.drew.heap.size = V.heap.size := hV1
        rw [hz] at h
        exact h
      clear hE hd hvn hbV HSt0 hV hbw hV1 HPc HPl HR2 HC2
      generalize (ys.drop (k + 1)).getD 0 0 = y at *
      refine region_in (by kernel_rfl) (by rfl) (fun ⟨_, _, h⟩ => h) ?_
      simp only [List.size_toArray, List.length_cons, List.length_nil, Nat.reduceAdd]
      refine wpAny_take (i := 3) (oi := { dst := some 34, op := Op.move (Operand.tmp 7), type := 22, pos := "over.go:30", after := #[], guard := none }) (v := ?v3x1) rfl (by kernel_rfl) (by kernel_rfl) (by kernel_rfl) (fun _ _ _ h => h) (Or.inl ⟨by rfl, ?hy3x1⟩) ?rest3x1
      case hy3x1 => (intro w; (first | (go_simp; with_reducible rfl) | go_simp))
      try simp only [Act.put, List.setIfInBounds_toArray, List.set_cons_zero, List.set_cons_succ]
      refine wpAny_ready (rs := [0, 1]) (by kernel_rfl) (by simp) ?_
      refine AllReady.cons rfl (fun K hK => ?_) ?_
      · skip
        go_simp
        refine hK _ _ ?_
        clear hK K
        try simp only [Act.put, List.setIfInBounds_toArray, List.set_cons_zero, List.set_cons_succ]
        refine wpAny_ready (rs := [1]) (by kernel_rfl) (by simp) ?_
        refine AllReady.cons rfl (fun K hK => ?_) ?_
        · skip
          go_simp
          refine hK _ _ ?_
          clear hK K
          try simp only [Act.put, List.setIfInBounds_toArray, List.set_cons_zero, List.set_cons_succ]
          refine wpAny_ready (rs := [2]) (by kernel_rfl) (by simp) ?_
          refine AllReady.cons rfl (fun K hK => ?_) ?_
          · skip
            go_simp
            refine HF.out.mono ?_
            rintro e w2 ⟨rfl, hw2⟩
            rw [hw2]
            clear hw2 w2
            refine hK _ _ ?_
            clear hK K
            try simp only [Act.put, List.setIfInBounds_toArray, List.set_cons_zero, List.set_cons_succ]
            refine wpAny_ready (rs := [4]) (by kernel_rfl) (by simp) ?_
            refine AllReady.cons rfl (fun K hK => ?_) ?_
            · skip
              go_simp
              refine HPy.out.mono ?_
              rintro e W3 ⟨v5, rfl, ho5, hn5, hb5⟩
              obtain ⟨s1, f1⟩ := HQ3.out W3 hb5
              obtain ⟨x5, n5, c5, rfl, -⟩ := ho5.shape2
              have s3 := HQ4.out W3 hb5 (.cells #[.slice x5 n5 c5] 22)
              have HO5 := hide ho5
              have HN5 := hide hn5
              have HB5 := hide hb5
              clear ho5 hn5 hb5
              refine hK _ _ ?_
              clear hK K
              try simp only [Act.put, List.setIfInBounds_toArray, List.set_cons_zero, List.set_cons_succ]
              refine wpAny_ready (rs := [5]) (by kernel_rfl) (by simp) ?_
              refine AllReady.cons rfl (fun K hK => ?_) ?_
              · skip
                go_simp
                refine hK _ _ ?_
                clear hK K
                try simp only [Act.put, List.setIfInBounds_toArray, List.set_cons_zero, List.set_cons_succ]
                refine wpAny_ready (rs := [6]) (by kernel_rfl) (by simp) ?_
                refine AllReady.cons rfl (fun K hK => ?_) ?_
                · skip
                  have HNw := hide (news_one W3 (.slice x5 n5 c5))
                  refine step_of (by rfl) (wp_append_at (.tmp 31) (.tmp 36) 44 22 (by rfl) 0 i0 (.slice none 0 0) 1 24 Tryz.underlying44 hi hz0 hz1 hz2 rfl (by omega) (.slice av k cv) k vs (by rfl) (HRow.out W3 HB5.out _) ⟨W3.heap.size, 0, none⟩ 1 1 [.slice x5 n5 c5] (by rfl) (by rfl) HNw.out (by simp [Value.oneCell']) (by unfold maxLen; omega) (by omega) (Nat.zero_le _) ?_)
                  intro v' V5 hr5 hg5 hv5
                  obtain ⟨t1, t2⟩ := HT.out W3 HB5.out V5 _ hg5
                  obtain ⟨x6, c6, rfl⟩ := row_shape2 hr5
                  have HFin := hide (HSt.out W3 HB5.out _ HO5.out HN5.out _ V5 _ hr5 hg5 hv5)
                  clear hr5 hg5 hv5
                  refine hK _ _ ?_
                  clear hK K
                  try simp only [Act.put, List.setIfInBounds_toArray, List.set_cons_zero, List.set_cons_succ]
                  refine wpAny_ready (rs := [7]) (by kernel_rfl) (by simp) ?_
                  refine AllReady.cons rfl (fun K hK => ?_) ?_
                  · skip
                    go_simp
                    refine hK _ _ ?_
                    clear hK K
                    try simp only [Act.put, List.setIfInBounds_toArray, List.set_cons_zero, List.set_cons_succ]
                    refine wpAny_done (by kernel_rfl) ?_ _
                    exact HFin.out
                  exact AllReady.nil
                exact AllReady.nil
              exact AllReady.nil
            exact AllReady.nil
          exact AllReady.nil
        exact AllReady.nil
      refine AllReady.cons rfl (fun K hK => ?_) ?_
      · skip
        go_simp
        refine hK _ _ ?_
        clear hK K
        try simp only [Act.put, List.setIfInBounds_toArray, List.set_cons_zero, List.set_cons_succ]
        refine wpAny_ready (rs := [0, 2]) (by kernel_rfl) (by simp) ?_
        refine AllReady.cons rfl (fun K hK => ?_) ?_
        · skip
          go_simp
          refine hK _ _ ?_
          clear hK K
          try simp only [Act.put, List.setIfInBounds_toArray, List.set_cons_zero, List.set_cons_succ]
          refine wpAny_ready (rs := [2]) (by kernel_rfl) (by simp) ?_
          refine AllReady.cons rfl (fun K hK => ?_) ?_
          · skip
            go_simp
            refine HF.out.mono ?_
            rintro e w2 ⟨rfl, hw2⟩
            rw [hw2]
            clear hw2 w2
            refine hK _ _ ?_
            clear hK K
            try simp only [Act.put, List.setIfInBounds_toArray, List.set_cons_zero, List.set_cons_succ]
            refine wpAny_ready (rs := [4]) (by kernel_rfl) (by simp) ?_
            refine AllReady.cons rfl (fun K hK => ?_) ?_
            · skip
              go_simp
              refine HPy.out.mono ?_
              rintro e W3 ⟨v5, rfl, ho5, hn5, hb5⟩
              obtain ⟨s1, f1⟩ := HQ3.out W3 hb5
              obtain ⟨x5, n5, c5, rfl, -⟩ := ho5.shape2
              have s3 := HQ4.out W3 hb5 (.cells #[.slice x5 n5 c5] 22)
              have HO5 := hide ho5
              have HN5 := hide hn5
              have HB5 := hide hb5
              clear ho5 hn5 hb5
              refine hK _ _ ?_
              clear hK K
              try simp only [Act.put, List.setIfInBounds_toArray, List.set_cons_zero, List.set_cons_succ]
              refine wpAny_ready (rs := [5]) (by kernel_rfl) (by simp) ?_
              refine AllReady.cons rfl (fun K hK => ?_) ?_
              · skip
                go_simp
                refine hK _ _ ?_
                clear hK K
                try simp only [Act.put, List.setIfInBounds_toArray, List.set_cons_zero, List.set_cons_succ]
                refine wpAny_ready (rs := [6]) (by kernel_rfl) (by simp) ?_
                refine AllReady.cons rfl (fun K hK => ?_) ?_
                · skip
                  have HNw := hide (news_one W3 (.slice x5 n5 c5))
                  refine step_of (by rfl) (wp_append_at (.tmp 31) (.tmp 36) 44 22 (by rfl) 0 i0 (.slice none 0 0) 1 24 Tryz.underlying44 hi hz0 hz1 hz2 rfl (by omega) (.slice av k cv) k vs (by rfl) (HRow.out W3 HB5.out _) ⟨W3.heap.size, 0, none⟩ 1 1 [.slice x5 n5 c5] (by rfl) (by rfl) HNw.out (by simp [Value.oneCell']) (by unfold maxLen; omega) (by omega) (Nat.zero_le _) ?_)
                  intro v' V5 hr5 hg5 hv5
                  obtain ⟨t1, t2⟩ := HT.out W3 HB5.out V5 _ hg5
                  obtain ⟨x6, c6, rfl⟩ := row_shape2 hr5
                  have HFin := hide (HSt.out W3 HB5.out _ HO5.out HN5.out _ V5 _ hr5 hg5 hv5)
                  clear hr5 hg5 hv5
                  refine hK _ _ ?_
                  clear hK K
                  try simp only [Act.put, List.setIfInBounds_toArray, List.set_cons_zero, List.set_cons_succ]
                  refine wpAny_ready (rs := [7]) (by kernel_rfl) (by simp) ?_
                  refine AllReady.cons rfl (fun K hK => ?_) ?_
                  · skip
                    go_simp
                    refine hK _ _ ?_
                    clear hK K
                    try simp only [Act.put, List.setIfInBounds_toArray, List.set_cons_zero, List.set_cons_succ]
                    refine wpAny_done (by kernel_rfl) ?_ _
                    exact HFin.out
                  exact AllReady.nil
                exact AllReady.nil
              exact AllReady.nil
            exact AllReady.nil
          exact AllReady.nil
        refine AllReady.cons rfl (fun K hK => ?_) ?_
        · skip
          go_simp
          refine HF.out.mono ?_
          rintro e w2 ⟨rfl, hw2⟩
          rw [hw2]
          clear hw2 w2
          refine hK _ _ ?_
          clear hK K
          try simp only [Act.put, List.setIfInBounds_toArray, List.set_cons_zero, List.set_cons_succ]
          refine wpAny_ready (rs := [0, 4]) (by kernel_rfl) (by simp) ?_
          refine AllReady.cons rfl (fun K hK => ?_) ?_
          · skip
            go_simp
            refine hK _ _ ?_
            clear hK K
            try simp only [Act.put, List.setIfInBounds_toArray, List.set_cons_zero, List.set_cons_succ]
            refine wpAny_ready (rs := [4]) (by kernel_rfl) (by simp) ?_
            refine AllReady.cons rfl (fun K hK => ?_) ?_
            · skip
              go_simp
              refine HPy.out.mono ?_
              rintro e W3 ⟨v5, rfl, ho5, hn5, hb5⟩
              obtain ⟨s1, f1⟩ := HQ3.out W3 hb5
              obtain ⟨x5, n5, c5, rfl, -⟩ := ho5.shape2
              have s3 := HQ4.out W3 hb5 (.cells #[.slice x5 n5 c5] 22)
              have HO5 := hide ho5
              have HN5 := hide hn5
              have HB5 := hide hb5
              clear ho5 hn5 hb5
              refine hK _ _ ?_
              clear hK K
              try simp only [Act.put, List.setIfInBounds_toArray, List.set_cons_zero, List.set_cons_succ]
              refine wpAny_ready (rs := [5]) (by kernel_rfl) (by simp) ?_
              refine AllReady.cons rfl (fun K hK => ?_) ?_
              · skip
                go_simp
                refine hK _ _ ?_
                clear hK K
                try simp only [Act.put, List.setIfInBounds_toArray, List.set_cons_zero, List.set_cons_succ]
                refine wpAny_ready (rs := [6]) (by kernel_rfl) (by simp) ?_
                refine AllReady.cons rfl (fun K hK => ?_) ?_
                · skip
                  have HNw := hide (news_one W3 (.slice x5 n5 c5))
                  refine step_of (by rfl) (wp_append_at (.tmp 31) (.tmp 36) 44 22 (by rfl) 0 i0 (.slice none 0 0) 1 24 Tryz.underlying44 hi hz0 hz1 hz2 rfl (by omega) (.slice av k cv) k vs (by rfl) (HRow.out W3 HB5.out _) ⟨W3.heap.size, 0, none⟩ 1 1 [.slice x5 n5 c5] (by rfl) (by rfl) HNw.out (by simp [Value.oneCell']) (by unfold maxLen; omega) (by omega) (Nat.zero_le _) ?_)
                  intro v' V5 hr5 hg5 hv5
                  obtain ⟨t1, t2⟩ := HT.out W3 HB5.out V5 _ hg5
                  obtain ⟨x6, c6, rfl⟩ := row_shape2 hr5
                  have HFin := hide (HSt.out W3 HB5.out _ HO5.out HN5.out _ V5 _ hr5 hg5 hv5)
                  clear hr5 hg5 hv5
                  refine hK _ _ ?_
                  clear hK K
                  try simp only [Act.put, List.setIfInBounds_toArray, List.set_cons_zero, List.set_cons_succ]
                  refine wpAny_ready (rs := [7]) (by kernel_rfl) (by simp) ?_
                  refine AllReady.cons rfl (fun K hK => ?_) ?_
                  · skip
                    go_simp
                    refine hK _ _ ?_
                    clear hK K
                    try simp only [Act.put, List.setIfInBounds_toArray, List.set_cons_zero, List.set_cons_succ]
                    refine wpAny_done (by kernel_rfl) ?_ _
                    exact HFin.out
                  exact AllReady.nil
                exact AllReady.nil
              exact AllReady.nil
            exact AllReady.nil
          refine AllReady.cons rfl (fun K hK => ?_) ?_
          · skip
            go_simp
            refine HPy.out.mono ?_
            rintro e W3 ⟨v5, rfl, ho5, hn5, hb5⟩
            obtain ⟨s1, f1⟩ := HQ3.out W3 hb5
            obtain ⟨x5, n5, c5, rfl, -⟩ := ho5.shape2
            have s3 := HQ4.out W3 hb5 (.cells #[.slice x5 n5 c5] 22)
            have HO5 := hide ho5
            have HN5 := hide hn5
            have HB5 := hide hb5
            clear ho5 hn5 hb5
            refine hK _ _ ?_
            clear hK K
            try simp only [Act.put, List.setIfInBounds_toArray, List.set_cons_zero, List.set_cons_succ]
            refine wpAny_ready (rs := [0, 5]) (by kernel_rfl) (by simp) ?_
            refine AllReady.cons rfl (fun K hK => ?_) ?_
            · skip
              go_simp
              refine hK _ _ ?_
              clear hK K
              try simp only [Act.put, List.setIfInBounds_toArray, List.set_cons_zero, List.set_cons_succ]
              refine wpAny_ready (rs := [5]) (by kernel_rfl) (by simp) ?_
              refine AllReady.cons rfl (fun K hK => ?_) ?_
              · skip
                go_simp
                refine hK _ _ ?_
                clear hK K
                try simp only [Act.put, List.setIfInBounds_toArray, List.set_cons_zero, List.set_cons_succ]
                refine wpAny_ready (rs := [6]) (by kernel_rfl) (by simp) ?_
                refine AllReady.cons rfl (fun K hK => ?_) ?_
                · skip
                  have HNw := hide (news_one W3 (.slice x5 n5 c5))
                  refine step_of (by rfl) (wp_append_at (.tmp 31) (.tmp 36) 44 22 (by rfl) 0 i0 (.slice none 0 0) 1 24 Tryz.underlying44 hi hz0 hz1 hz2 rfl (by omega) (.slice av k cv) k vs (by rfl) (HRow.out W3 HB5.out _) ⟨W3.heap.size, 0, none⟩ 1 1 [.slice x5 n5 c5] (by rfl) (by rfl) HNw.out (by simp [Value.oneCell']) (by unfold maxLen; omega) (by omega) (Nat.zero_le _) ?_)
                  intro v' V5 hr5 hg5 hv5
                  obtain ⟨t1, t2⟩ := HT.out W3 HB5.out V5 _ hg5
                  obtain ⟨x6, c6, rfl⟩ := row_shape2 hr5
                  have HFin := hide (HSt.out W3 HB5.out _ HO5.out HN5.out _ V5 _ hr5 hg5 hv5)
                  clear hr5 hg5 hv5
                  refine hK _ _ ?_
                  clear hK K
                  try simp only [Act.put, List.setIfInBounds_toArray, List.set_cons_zero, List.set_cons_succ]
                  refine wpAny_ready (rs := [7]) (by kernel_rfl) (by simp) ?_
                  refine AllReady.cons rfl (fun K hK => ?_) ?_
                  · skip
                    go_simp
                    refine hK _ _ ?_
                    clear hK K
                    try simp only [Act.put, List.setIfInBounds_toArray, List.set_cons_zero, List.set_cons_succ]
                    refine wpAny_done (by kernel_rfl) ?_ _
                    exact HFin.out
                  exact AllReady.nil
                exact AllReady.nil
              exact AllReady.nil
            refine AllReady.cons rfl (fun K hK => ?_) ?_
            · skip
              go_simp
              refine hK _ _ ?_
              clear hK K
              try simp only [Act.put, List.setIfInBounds_toArray, List.set_cons_zero, List.set_cons_succ]
              refine wpAny_ready (rs := [0]) (by kernel_rfl) (by simp) ?_
              refine AllReady.cons rfl (fun K hK => ?_) ?_
              · skip
                go_simp
                refine hK _ _ ?_
                clear hK K
                try simp only [Act.put, List.setIfInBounds_toArray, List.set_cons_zero, List.set_cons_succ]
                refine wpAny_ready (rs := [6]) (by kernel_rfl) (by simp) ?_
                refine AllReady.cons rfl (fun K hK => ?_) ?_
                · skip
                  have HNw := hide (news_one W3 (.slice x5 n5 c5))
                  refine step_of (by rfl) (wp_append_at (.tmp 31) (.tmp 36) 44 22 (by rfl) 0 i0 (.slice none 0 0) 1 24 Tryz.underlying44 hi hz0 hz1 hz2 rfl (by omega) (.slice av k cv) k vs (by rfl) (HRow.out W3 HB5.out _) ⟨W3.heap.size, 0, none⟩ 1 1 [.slice x5 n5 c5] (by rfl) (by rfl) HNw.out (by simp [Value.oneCell']) (by unfold maxLen; omega) (by omega) (Nat.zero_le _) ?_)
                  intro v' V5 hr5 hg5 hv5
                  obtain ⟨t1, t2⟩ := HT.out W3 HB5.out V5 _ hg5
                  obtain ⟨x6, c6, rfl⟩ := row_shape2 hr5
                  have HFin := hide (HSt.out W3 HB5.out _ HO5.out HN5.out _ V5 _ hr5 hg5 hv5)
                  clear hr5 hg5 hv5
                  refine hK _ _ ?_
                  clear hK K
                  try simp only [Act.put, List.setIfInBounds_toArray, List.set_cons_zero, List.set_cons_succ]
                  refine wpAny_ready (rs := [7]) (by kernel_rfl) (by simp) ?_
                  refine AllReady.cons rfl (fun K hK => ?_) ?_
                  · skip
                    go_simp
                    refine hK _ _ ?_
                    clear hK K
                    try simp only [Act.put, List.setIfInBounds_toArray, List.set_cons_zero, List.set_cons_succ]
                    refine wpAny_done (by kernel_rfl) ?_ _
                    exact HFin.out
                  exact AllReady.nil
                exact AllReady.nil
              exact AllReady.nil
            exact AllReady.nil
          exact AllReady.nil
        exact AllReady.nil
      exact AllReady.nil
    · have HR2 : Hid (Rw w (some ⟨b1, o1 + 1, none⟩) (ys.drop (k + 1))) := by
        have := HTl.out
        rw [if_neg hcc, List.drop_drop] at this
        exact this
      have HC2 : Hid (m - (k + 1) ≤ c1 - 1) := by rw [Hid]; omega
      clear HTl
      gi_wp2
      generalize (some ⟨b1, o1 + 1, none⟩ : Option Addr) = a2 at HR2 ⊢
      generalize c1 - 1 = c2 at HC2 ⊢
      generalize (some ⟨b1, o1, none⟩ : Option Addr) = a1 at *
      obtain ⟨q, hq⟩ : ∃ q, q = m - k - 1 := ⟨_, rfl⟩
      rw [← hq]
      have HQq : Hid (q = m - (k + 1)) := hq
      clear hq gP gQ fP
      have hE := HEk.out
      have hV1 : (V.setCell ⟨s, 0, none⟩ (.slice a2 q c2)).heap.size = V.heap.size := by simp [World.setCell]
      have gP1 : (V.setCell ⟨s, 0, none⟩ (.slice a2 q c2)).cell? ⟨s, 0, none⟩ = some (.slice a2 q c2) := cell_of_one (heap_setCell_same V s 0 _ _ _ hE.at_)
      have gQ1 : (V.setCell ⟨s, 0, none⟩ (.slice a2 q c2)).cell? ⟨s + 2, 0, none⟩ = some (.slice av k cv) := cell_of_one ((set_other _ _ _ _ _ (by omega)).trans hE.out)
      have hbV : Below s w (V.setCell ⟨s, 0, none⟩ (.slice a2 q c2)) := hE.bel.setCell (p := ⟨s, 0, none⟩) (Nat.le_refl _) _
      have HSt0 : Hid (∀ W3, Below V.heap.size (V.setCell ⟨s, 0, none⟩ (.slice a2 q c2)) W3 → ∀ v5, Own W3 v5 (pay zs ys k) → (∀ b, v5.ownBlock = some b → V.heap.size ≤ b) → ∀ v' V5 o, V5.ownsRow 0 22 1 v' (k + 1) (vs ++ [v5]) → (W3.alloc o).grownBy V5 (Value.slice av k cv).ownBlock → (v'.ownBlock = (Value.slice av k cv).ownBlock ∨ v'.ownBlock = some (W3.alloc o).heap.size) → (∃ a1 c1 v vs, Enc w s m (.slice (some ⟨b0, off, none⟩) n c) zs ys (pre ++ [k]).length a1 c1 v vs (V5.setCell ⟨s + 2, 0, none⟩ v')) ∧ Kl (s + 5) V (V5.setCell ⟨s + 2, 0, none⟩ v')) := fun W3 hb v5 h5 n5 v' V5 o hr hg hv => by
        have hb' : Below V.heap.size (V.setCell ⟨s, 0, none⟩ (.slice a2 (m - (k + 1)) c2)) W3 := by rw [← HQq.out]; exact hb
        have := HEk.out.step hlt HC2.out HR2.out hb' h5 n5 hr hg hv
        rw [HI.out]
        exact ⟨⟨_, _, _, _, this.1⟩, this.2⟩
      obtain ⟨V1, hV⟩ : ∃ V1, V1 = V.setCell ⟨s, 0, none⟩ (.slice a2 q c2) := ⟨_, rfl⟩
      rw [← hV] at gP1 gQ1 hV1 hbV HSt0 ⊢
      have hd : ∀ W3, Below V.heap.size V1.drew W3 → Below V.heap.size V1 W3 := fun W3 h => ⟨h.os, h.tape, h.output, h.size, h.block⟩
      have HQ3 : Hid (∀ W3, Below V.heap.size V1.drew W3 → W3.cell? ⟨s + 2, 0, none⟩ = some (.slice av k cv) ∧ W3.frozen? ⟨s + 2, 0, none⟩ = false) := fun W3 h => by
        have h2 : W3.heap[s + 2]? = some (.cells #[.slice av k cv] 44 (0, 0)) := ((hd W3 h).block (s + 2) (by omega)).trans (by rw [hV]; exact (set_other _ _ _ _ _ (by omega)).trans hE.out)
        exact ⟨cell_of_one h2, free_of_one h2⟩
      have HQ4 : Hid (∀ W3, Below V.heap.size V1.drew W3 → ∀ o, (W3.alloc o).cell? ⟨s + 2, 0, none⟩ = some (.slice av k cv)) := fun W3 h o => by
        have h2 : W3.heap[s + 2]? = some (.cells #[.slice av k cv] 44 (0, 0)) := ((hd W3 h).block (s + 2) (by omega)).trans (by rw [hV]; exact (set_other _ _ _ _ _ (by omega)).trans hE.out)
        exact cell_of_one ((Below.heap_alloc W3 o (s + 2) (lt_of_block h2)).trans h2)
      have hvn : ∀ b, b < s + 7 → b ≠ s + 1 → (Value.slice av k cv).ownBlock ≠ some b := fun b hb hne e => by
        rcases hE.vb b e with e' | e' <;> omega
      have HRow : Hid (∀ W3, Below V.heap.size V1.drew W3 → ∀ o, (W3.alloc o).ownsRow 0 22 1 (.slice av k cv) k vs) := fun W3 h o => by
        refine row_of_block hE.row fun b hb => ?_
        have hbl := hE.vlt hb
        have hsz := (hd W3 h).size
        rw [Below.heap_alloc W3 o b (by omega), (hd W3 h).block b hbl, hV, set_other _ _ _ _ _ (fun e => hvn b (by omega) (by omega) hb)]
      have HT : Hid (∀ W3, Below V.heap.size V1.drew W3 → ∀ V5 o, (W3.alloc o).grownBy V5 (Value.slice av k cv).ownBlock → V5.cell? ⟨s + 2, 0, none⟩ = some (.slice av k cv) ∧ V5.frozen? ⟨s + 2, 0, none⟩ = false) := fun W3 h V5 o hg => by
        have hsz := (hd W3 h).size
        have h2 : V5.heap[s + 2]? = some (.cells #[.slice av k cv] 44 (0, 0)) := by
          rw [hg.block (s + 2) (by simp; omega) (fun e => hvn (s + 2) (by omega) (by omega) e.symm), Below.heap_alloc W3 o (s + 2) (by omega)]
          exact ((hd W3 h).block (s + 2) (by omega)).trans (by rw [hV]; exact (set_other _ _ _ _ _ (by omega)).trans hE.out)
        exact ⟨cell_of_one h2, free_of_one h2⟩
      have HSt : Hid (∀ W3, Below V.heap.size V1.drew W3 → ∀ v5, Own W3 v5 (pay zs ys k) → (∀ b, v5.ownBlock = some b → V.heap.size ≤ b) → ∀ v' V5 o, V5.ownsRow 0 22 1 v' (k + 1) (vs ++ [v5]) → (W3.alloc o).grownBy V5 (Value.slice av k cv).ownBlock → (v'.ownBlock = (Value.slice av k cv).ownBlock ∨ v'.ownBlock = some (W3.alloc o).heap.size) → (∃ a1 c1 v vs, Enc w s m (.slice (some ⟨b0, off, none⟩) n c) zs ys (pre ++ [k]).length a1 c1 v vs (V5.setCell ⟨s + 2, 0, none⟩ v')) ∧ Kl (s + 5) V (V5.setCell ⟨s + 2, 0, none⟩ v')) := fun W3 hb => HSt0.out W3 (hd W3 hb)
      have hbw : Below w.heap.size w V1.drew := by rw [HS.out]; exact ⟨hbV.os, hbV.tape, hbV.output, hbV.size, hbV.block⟩
      have HF := hide (firstOf_any V1.drew a2 q c2 (ys.drop (k + 1)) (by rw [List.length_drop, HL'.out]; exact HQq.out.symm) (by have := HQq.out; omega) (HR2.out.below hbw))
      have hy : (ys.drop (k + 1)).getD 0 0 ≤ 4294967295 := by rw [pay_at]; exact HZ'.out.at _
      have HPy : Hid (Calls Tryz.prog 53 #[.int .u32 (((ys.drop (k + 1)).getD 0 0 : Nat) : Int), pc b0 off n k] V1.drew fun e w' => ∃ v', e = .returned v' ∧ Own w' v' (pay zs ys k) ∧ (∀ b, v'.ownBlock = some b → V.heap.size ≤ b) ∧ Below V.heap.size V1.drew w') := by
        have h := payloadOf_any V1.drew _ hy (some ⟨b0, off + 1004 * k, none⟩) (min 1004 (n - 1004 * k)) (min 1004 (n - 1004 * k)) _ HPl.out (by omega) (fun e => by cases e) (HPc.out.below hbw)
        rw [pay_at] at h ⊢
        have hz : V1.drew.heap.size = V.heap.size := hV1
        rw [hz] at h
        exact h
      clear hE hd hvn hbV HSt0 hV hbw hV1 HPc HPl HR2 HC2
      generalize (ys.drop (k + 1)).getD 0 0 = y at *
      refine region_in (by kernel_rfl) (by rfl) (fun ⟨_, _, h⟩ => h) ?_
      simp only [List.size_toArray, List.length_cons, List.length_nil, Nat.reduceAdd]
      refine wpAny_take (i := 3) (oi := { dst := some 34, op := Op.move (Operand.tmp 7), type := 22, pos := "over.go:30", after := #[], guard := none }) (v := ?v3x2) rfl (by kernel_rfl) (by kernel_rfl) (by kernel_rfl) (fun _ _ _ h => h) (Or.inl ⟨by rfl, ?hy3x2⟩) ?rest3x2
      case hy3x2 => (intro w; (first | (go_simp; with_reducible rfl) | go_simp))
      try simp only [Act.put, List.setIfInBounds_toArray, List.set_cons_zero, List.set_cons_succ]
      refine wpAny_ready (rs := [0, 1]) (by kernel_rfl) (by simp) ?_
      refine AllReady.cons rfl (fun K hK => ?_) ?_
      · skip
        go_simp
        refine hK _ _ ?_
        clear hK K
        try simp only [Act.put, List.setIfInBounds_toArray, List.set_cons_zero, List.set_cons_succ]
        refine wpAny_ready (rs := [1]) (by kernel_rfl) (by simp) ?_
        refine AllReady.cons rfl (fun K hK => ?_) ?_
        · skip
          go_simp
          refine hK _ _ ?_
          clear hK K
          try simp only [Act.put, List.setIfInBounds_toArray, List.set_cons_zero, List.set_cons_succ]
          refine wpAny_ready (rs := [2]) (by kernel_rfl) (by simp) ?_
          refine AllReady.cons rfl (fun K hK => ?_) ?_
          · skip
            go_simp
            refine HF.out.mono ?_
            rintro e w2 ⟨rfl, hw2⟩
            rw [hw2]
            clear hw2 w2
            refine hK _ _ ?_
            clear hK K
            try simp only [Act.put, List.setIfInBounds_toArray, List.set_cons_zero, List.set_cons_succ]
            refine wpAny_ready (rs := [4]) (by kernel_rfl) (by simp) ?_
            refine AllReady.cons rfl (fun K hK => ?_) ?_
            · skip
              go_simp
              refine HPy.out.mono ?_
              rintro e W3 ⟨v5, rfl, ho5, hn5, hb5⟩
              obtain ⟨s1, f1⟩ := HQ3.out W3 hb5
              obtain ⟨x5, n5, c5, rfl, -⟩ := ho5.shape2
              have s3 := HQ4.out W3 hb5 (.cells #[.slice x5 n5 c5] 22)
              have HO5 := hide ho5
              have HN5 := hide hn5
              have HB5 := hide hb5
              clear ho5 hn5 hb5
              refine hK _ _ ?_
              clear hK K
              try simp only [Act.put, List.setIfInBounds_toArray, List.set_cons_zero, List.set_cons_succ]
              refine wpAny_ready (rs := [5]) (by kernel_rfl) (by simp) ?_
              refine AllReady.cons rfl (fun K hK => ?_) ?_
              · skip
                go_simp
                refine hK _ _ ?_
                clear hK K
                try simp only [Act.put, List.setIfInBounds_toArray, List.set_cons_zero, List.set_cons_succ]
                refine wpAny_ready (rs := [6]) (by kernel_rfl) (by simp) ?_
                refine AllReady.cons rfl (fun K hK => ?_) ?_
                · skip
                  have HNw := hide (news_one W3 (.slice x5 n5 c5))
                  refine step_of (by rfl) (wp_append_at (.tmp 31) (.tmp 36) 44 22 (by rfl) 0 i0 (.slice none 0 0) 1 24 Tryz.underlying44 hi hz0 hz1 hz2 rfl (by omega) (.slice av k cv) k vs (by rfl) (HRow.out W3 HB5.out _) ⟨W3.heap.size, 0, none⟩ 1 1 [.slice x5 n5 c5] (by rfl) (by rfl) HNw.out (by simp [Value.oneCell']) (by unfold maxLen; omega) (by omega) (Nat.zero_le _) ?_)
                  intro v' V5 hr5 hg5 hv5
                  obtain ⟨t1, t2⟩ := HT.out W3 HB5.out V5 _ hg5
                  obtain ⟨x6, c6, rfl⟩ := row_shape2 hr5
                  have HFin := hide (HSt.out W3 HB5.out _ HO5.out HN5.out _ V5 _ hr5 hg5 hv5)
                  clear hr5 hg5 hv5
                  refine hK _ _ ?_
                  clear hK K
                  try simp only [Act.put, List.setIfInBounds_toArray, List.set_cons_zero, List.set_cons_succ]
                  refine wpAny_ready (rs := [7]) (by kernel_rfl) (by simp) ?_
                  refine AllReady.cons rfl (fun K hK => ?_) ?_
                  · skip
                    go_simp
                    refine hK _ _ ?_
                    clear hK K
                    try simp only [Act.put, List.setIfInBounds_toArray, List.set_cons_zero, List.set_cons_succ]
                    refine wpAny_done (by kernel_rfl) ?_ _
                    exact HFin.out
                  exact AllReady.nil
                exact AllReady.nil
              exact AllReady.nil
            exact AllReady.nil
          exact AllReady.nil
        exact AllReady.nil
      refine AllReady.cons rfl (fun K hK => ?_) ?_
      · skip
        go_simp
        refine hK _ _ ?_
        clear hK K
        try simp only [Act.put, List.setIfInBounds_toArray, List.set_cons_zero, List.set_cons_succ]
        refine wpAny_ready (rs := [0, 2]) (by kernel_rfl) (by simp) ?_
        refine AllReady.cons rfl (fun K hK => ?_) ?_
        · skip
          go_simp
          refine hK _ _ ?_
          clear hK K
          try simp only [Act.put, List.setIfInBounds_toArray, List.set_cons_zero, List.set_cons_succ]
          refine wpAny_ready (rs := [2]) (by kernel_rfl) (by simp) ?_
          refine AllReady.cons rfl (fun K hK => ?_) ?_
          · skip
            go_simp
            refine HF.out.mono ?_
            rintro e w2 ⟨rfl, hw2⟩
            rw [hw2]
            clear hw2 w2
            refine hK _ _ ?_
            clear hK K
            try simp only [Act.put, List.setIfInBounds_toArray, List.set_cons_zero, List.set_cons_succ]
            refine wpAny_ready (rs := [4]) (by kernel_rfl) (by simp) ?_
            refine AllReady.cons rfl (fun K hK => ?_) ?_
            · skip
              go_simp
              refine HPy.out.mono ?_
              rintro e W3 ⟨v5, rfl, ho5, hn5, hb5⟩
              obtain ⟨s1, f1⟩ := HQ3.out W3 hb5
              obtain ⟨x5, n5, c5, rfl, -⟩ := ho5.shape2
              have s3 := HQ4.out W3 hb5 (.cells #[.slice x5 n5 c5] 22)
              have HO5 := hide ho5
              have HN5 := hide hn5
              have HB5 := hide hb5
              clear ho5 hn5 hb5
              refine hK _ _ ?_
              clear hK K
              try simp only [Act.put, List.setIfInBounds_toArray, List.set_cons_zero, List.set_cons_succ]
              refine wpAny_ready (rs := [5]) (by kernel_rfl) (by simp) ?_
              refine AllReady.cons rfl (fun K hK => ?_) ?_
              · skip
                go_simp
                refine hK _ _ ?_
                clear hK K
                try simp only [Act.put, List.setIfInBounds_toArray, List.set_cons_zero, List.set_cons_succ]
                refine wpAny_ready (rs := [6]) (by kernel_rfl) (by simp) ?_
                refine AllReady.cons rfl (fun K hK => ?_) ?_
                · skip
                  have HNw := hide (news_one W3 (.slice x5 n5 c5))
                  refine step_of (by rfl) (wp_append_at (.tmp 31) (.tmp 36) 44 22 (by rfl) 0 i0 (.slice none 0 0) 1 24 Tryz.underlying44 hi hz0 hz1 hz2 rfl (by omega) (.slice av k cv) k vs (by rfl) (HRow.out W3 HB5.out _) ⟨W3.heap.size, 0, none⟩ 1 1 [.slice x5 n5 c5] (by rfl) (by rfl) HNw.out (by simp [Value.oneCell']) (by unfold maxLen; omega) (by omega) (Nat.zero_le _) ?_)
                  intro v' V5 hr5 hg5 hv5
                  obtain ⟨t1, t2⟩ := HT.out W3 HB5.out V5 _ hg5
                  obtain ⟨x6, c6, rfl⟩ := row_shape2 hr5
                  have HFin := hide (HSt.out W3 HB5.out _ HO5.out HN5.out _ V5 _ hr5 hg5 hv5)
                  clear hr5 hg5 hv5
                  refine hK _ _ ?_
                  clear hK K
                  try simp only [Act.put, List.setIfInBounds_toArray, List.set_cons_zero, List.set_cons_succ]
                  refine wpAny_ready (rs := [7]) (by kernel_rfl) (by simp) ?_
                  refine AllReady.cons rfl (fun K hK => ?_) ?_
                  · skip
                    go_simp
                    refine hK _ _ ?_
                    clear hK K
                    try simp only [Act.put, List.setIfInBounds_toArray, List.set_cons_zero, List.set_cons_succ]
                    refine wpAny_done (by kernel_rfl) ?_ _
                    exact HFin.out
                  exact AllReady.nil
                exact AllReady.nil
              exact AllReady.nil
            exact AllReady.nil
          exact AllReady.nil
        refine AllReady.cons rfl (fun K hK => ?_) ?_
        · skip
          go_simp
          refine HF.out.mono ?_
          rintro e w2 ⟨rfl, hw2⟩
          rw [hw2]
          clear hw2 w2
          refine hK _ _ ?_
          clear hK K
          try simp only [Act.put, List.setIfInBounds_toArray, List.set_cons_zero, List.set_cons_succ]
          refine wpAny_ready (rs := [0, 4]) (by kernel_rfl) (by simp) ?_
          refine AllReady.cons rfl (fun K hK => ?_) ?_
          · skip
            go_simp
            refine hK _ _ ?_
            clear hK K
            try simp only [Act.put, List.setIfInBounds_toArray, List.set_cons_zero, List.set_cons_succ]
            refine wpAny_ready (rs := [4]) (by kernel_rfl) (by simp) ?_
            refine AllReady.cons rfl (fun K hK => ?_) ?_
            · skip
              go_simp
              refine HPy.out.mono ?_
              rintro e W3 ⟨v5, rfl, ho5, hn5, hb5⟩
              obtain ⟨s1, f1⟩ := HQ3.out W3 hb5
              obtain ⟨x5, n5, c5, rfl, -⟩ := ho5.shape2
              have s3 := HQ4.out W3 hb5 (.cells #[.slice x5 n5 c5] 22)
              have HO5 := hide ho5
              have HN5 := hide hn5
              have HB5 := hide hb5
              clear ho5 hn5 hb5
              refine hK _ _ ?_
              clear hK K
              try simp only [Act.put, List.setIfInBounds_toArray, List.set_cons_zero, List.set_cons_succ]
              refine wpAny_ready (rs := [5]) (by kernel_rfl) (by simp) ?_
              refine AllReady.cons rfl (fun K hK => ?_) ?_
              · skip
                go_simp
                refine hK _ _ ?_
                clear hK K
                try simp only [Act.put, List.setIfInBounds_toArray, List.set_cons_zero, List.set_cons_succ]
                refine wpAny_ready (rs := [6]) (by kernel_rfl) (by simp) ?_
                refine AllReady.cons rfl (fun K hK => ?_) ?_
                · skip
                  have HNw := hide (news_one W3 (.slice x5 n5 c5))
                  refine step_of (by rfl) (wp_append_at (.tmp 31) (.tmp 36) 44 22 (by rfl) 0 i0 (.slice none 0 0) 1 24 Tryz.underlying44 hi hz0 hz1 hz2 rfl (by omega) (.slice av k cv) k vs (by rfl) (HRow.out W3 HB5.out _) ⟨W3.heap.size, 0, none⟩ 1 1 [.slice x5 n5 c5] (by rfl) (by rfl) HNw.out (by simp [Value.oneCell']) (by unfold maxLen; omega) (by omega) (Nat.zero_le _) ?_)
                  intro v' V5 hr5 hg5 hv5
                  obtain ⟨t1, t2⟩ := HT.out W3 HB5.out V5 _ hg5
                  obtain ⟨x6, c6, rfl⟩ := row_shape2 hr5
                  have HFin := hide (HSt.out W3 HB5.out _ HO5.out HN5.out _ V5 _ hr5 hg5 hv5)
                  clear hr5 hg5 hv5
                  refine hK _ _ ?_
                  clear hK K
                  try simp only [Act.put, List.setIfInBounds_toArray, List.set_cons_zero, List.set_cons_succ]
                  refine wpAny_ready (rs := [7]) (by kernel_rfl) (by simp) ?_
                  refine AllReady.cons rfl (fun K hK => ?_) ?_
                  · skip
                    go_simp
                    refine hK _ _ ?_
                    clear hK K
                    try simp only [Act.put, List.setIfInBounds_toArray, List.set_cons_zero, List.set_cons_succ]
                    refine wpAny_done (by kernel_rfl) ?_ _
                    exact HFin.out
                  exact AllReady.nil
                exact AllReady.nil
              exact AllReady.nil
            exact AllReady.nil
          refine AllReady.cons rfl (fun K hK => ?_) ?_
          · skip
            go_simp
            refine HPy.out.mono ?_
            rintro e W3 ⟨v5, rfl, ho5, hn5, hb5⟩
            obtain ⟨s1, f1⟩ := HQ3.out W3 hb5
            obtain ⟨x5, n5, c5, rfl, -⟩ := ho5.shape2
            have s3 := HQ4.out W3 hb5 (.cells #[.slice x5 n5 c5] 22)
            have HO5 := hide ho5
            have HN5 := hide hn5
            have HB5 := hide hb5
            clear ho5 hn5 hb5
            refine hK _ _ ?_
            clear hK K
            try simp only [Act.put, List.setIfInBounds_toArray, List.set_cons_zero, List.set_cons_succ]
            refine wpAny_ready (rs := [0, 5]) (by kernel_rfl) (by simp) ?_
            refine AllReady.cons rfl (fun K hK => ?_) ?_
            · skip
              go_simp
              refine hK _ _ ?_
              clear hK K
              try simp only [Act.put, List.setIfInBounds_toArray, List.set_cons_zero, List.set_cons_succ]
              refine wpAny_ready (rs := [5]) (by kernel_rfl) (by simp) ?_
              refine AllReady.cons rfl (fun K hK => ?_) ?_
              · skip
                go_simp
                refine hK _ _ ?_
                clear hK K
                try simp only [Act.put, List.setIfInBounds_toArray, List.set_cons_zero, List.set_cons_succ]
                refine wpAny_ready (rs := [6]) (by kernel_rfl) (by simp) ?_
                refine AllReady.cons rfl (fun K hK => ?_) ?_
                · skip
                  have HNw := hide (news_one W3 (.slice x5 n5 c5))
                  refine step_of (by rfl) (wp_append_at (.tmp 31) (.tmp 36) 44 22 (by rfl) 0 i0 (.slice none 0 0) 1 24 Tryz.underlying44 hi hz0 hz1 hz2 rfl (by omega) (.slice av k cv) k vs (by rfl) (HRow.out W3 HB5.out _) ⟨W3.heap.size, 0, none⟩ 1 1 [.slice x5 n5 c5] (by rfl) (by rfl) HNw.out (by simp [Value.oneCell']) (by unfold maxLen; omega) (by omega) (Nat.zero_le _) ?_)
                  intro v' V5 hr5 hg5 hv5
                  obtain ⟨t1, t2⟩ := HT.out W3 HB5.out V5 _ hg5
                  obtain ⟨x6, c6, rfl⟩ := row_shape2 hr5
                  have HFin := hide (HSt.out W3 HB5.out _ HO5.out HN5.out _ V5 _ hr5 hg5 hv5)
                  clear hr5 hg5 hv5
                  refine hK _ _ ?_
                  clear hK K
                  try simp only [Act.put, List.setIfInBounds_toArray, List.set_cons_zero, List.set_cons_succ]
                  refine wpAny_ready (rs := [7]) (by kernel_rfl) (by simp) ?_
                  refine AllReady.cons rfl (fun K hK => ?_) ?_
                  · skip
                    go_simp
                    refine hK _ _ ?_
                    clear hK K
                    try simp only [Act.put, List.setIfInBounds_toArray, List.set_cons_zero, List.set_cons_succ]
                    refine wpAny_done (by kernel_rfl) ?_ _
                    exact HFin.out
                  exact AllReady.nil
                exact AllReady.nil
              exact AllReady.nil
            refine AllReady.cons rfl (fun K hK => ?_) ?_
            · skip
              go_simp
              refine hK _ _ ?_
              clear hK K
              try simp only [Act.put, List.setIfInBounds_toArray, List.set_cons_zero, List.set_cons_succ]
              refine wpAny_ready (rs := [0]) (by kernel_rfl) (by simp) ?_
              refine AllReady.cons rfl (fun K hK => ?_) ?_
              · skip
                go_simp
                refine hK _ _ ?_
                clear hK K
                try simp only [Act.put, List.setIfInBounds_toArray, List.set_cons_zero, List.set_cons_succ]
                refine wpAny_ready (rs := [6]) (by kernel_rfl) (by simp) ?_
                refine AllReady.cons rfl (fun K hK => ?_) ?_
                · skip
                  have HNw := hide (news_one W3 (.slice x5 n5 c5))
                  refine step_of (by rfl) (wp_append_at (.tmp 31) (.tmp 36) 44 22 (by rfl) 0 i0 (.slice none 0 0) 1 24 Tryz.underlying44 hi hz0 hz1 hz2 rfl (by omega) (.slice av k cv) k vs (by rfl) (HRow.out W3 HB5.out _) ⟨W3.heap.size, 0, none⟩ 1 1 [.slice x5 n5 c5] (by rfl) (by rfl) HNw.out (by simp [Value.oneCell']) (by unfold maxLen; omega) (by omega) (Nat.zero_le _) ?_)
                  intro v' V5 hr5 hg5 hv5
                  obtain ⟨t1, t2⟩ := HT.out W3 HB5.out V5 _ hg5
                  obtain ⟨x6, c6, rfl⟩ := row_shape2 hr5
                  have HFin := hide (HSt.out W3 HB5.out _ HO5.out HN5.out _ V5 _ hr5 hg5 hv5)
                  clear hr5 hg5 hv5
                  refine hK _ _ ?_
                  clear hK K
                  try simp only [Act.put, List.setIfInBounds_toArray, List.set_cons_zero, List.set_cons_succ]
                  refine wpAny_ready (rs := [7]) (by kernel_rfl) (by simp) ?_
                  refine AllReady.cons rfl (fun K hK => ?_) ?_
                  · skip
                    go_simp
                    refine hK _ _ ?_
                    clear hK K
                    try simp only [Act.put, List.setIfInBounds_toArray, List.set_cons_zero, List.set_cons_succ]
                    refine wpAny_done (by kernel_rfl) ?_ _
                    exact HFin.out
                  exact AllReady.nil
                exact AllReady.nil
              exact AllReady.nil
            exact AllReady.nil
          exact AllReady.nil
        exact AllReady.nil
      exact AllReady.nil
  case done =>
    rintro D V hD ⟨a1, c1, v, vs, hE⟩ hK
    rw [hsx] at hD
    rw [List.length_range] at hE
    have gQ := cell_of_one hE.out
    have HEk := hide hE
    have HK := hide hK
    clear hE hK HE0
    gi_wp2
    refine ⟨by simp, .inl ⟨_, _, rfl, run_takeDeferred HK.out, ?_⟩⟩
    have hE := HEk.out.mv (mv_put V (s + 5) D (.deferred none) (.inl hD.symm))
    refine ⟨.tuple #[v, .int .u16 0], ?_, v, vs, rfl, hE.len, ⟨?_, fun b hb => ?_, fun j hj => hE.own j (by rw [← hE.len]; exact hj), fun j b hj hb => ?_, fun i j b hi hj => hE.apart i j b (by rw [← hE.len]; exact hi) (by rw [← hE.len]; exact hj)⟩, ?_⟩
    · simp [results, Tryz.results17, go_sem]
    · rw [hE.len]; exact hE.row
    · rw [HS.out]
      rcases hE.vb b hb with e | e <;> omega
    · have q := hE.eb j b (by rw [← hE.len]; exact hj) hb
      rw [HS.out]
      exact ⟨by omega, q.2⟩
    · rw [HS.out]; exact hE.bel
end Go.Proofs.YtlmofgfkclfgeaaGreat
