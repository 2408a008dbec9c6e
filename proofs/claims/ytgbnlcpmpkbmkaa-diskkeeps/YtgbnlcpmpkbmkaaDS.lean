/- Counts and Pending. -/
import Derived.Test.YtgbnlcpmpkbmkaaDR
namespace Go.Proofs.Ytgbnlcpmpkbmkaa
open Go.RowKit Go.Maps
set_option linter.unusedVariables false

theorem build82 (a b c : Int) (W : World) : (Instr.build 82 #[(0, .int .i64 a), (1, .int .i64 b), (2, .int .i64 c)]).run Try.prog W = .ok (.agg #[.int .i64 a, .int .i64 b, .int .i64 c]) W := run_build W 82 _ _ (by kernel_rfl)
theorem zero82 : ∀ w, (zeroValue 82).run Try.prog w = .ok (.agg #[.int .i64 0, .int .i64 0, .int .i64 0]) w := (zero_of_info (P := Try.prog) (t := 82) (v := .agg #[.int .i64 0, .int .i64 0, .int .i64 0]) (n := 3) (by kernel_rfl)).1
set_option maxHeartbeats 1600000 in
set_option maxRecDepth 1000000 in
theorem counts_any (p q : Nat) (O : Nat → Prop) (S : DS) (w : World) (h : DkAt w p q S O) : Calls Try.prog 29 #[.pointer (some ⟨p, 0, none⟩)] w fun e w' => e = .returned (.agg #[.int .i64 S.n1, .int .i64 S.n2, .int .i64 S.n3]) ∧ Below w.heap.size w w' := by
  obtain ⟨vw, m, hd, ho⟩ := h
  have hd0 := hd.below (below_alloc w (.cells #[.int .i64 0, .int .i64 0, .int .i64 0] 82))
  have c15 := hd0.c 15 (.int .i64 S.n1) rfl
  have c16 := hd0.c 16 (.int .i64 S.n2) rfl
  have c17 := hd0.c 17 (.int .i64 S.n3) rfl
  have hbd := build82 S.n1 S.n2 S.n3
  have hz := zero82
  clear hd ho hd0
  generalize S.n1 = a at *
  generalize S.n2 = b at *
  generalize S.n3 = c at *
  go_enter Try.func29, Try.ntmps29
  go_wp2
  go_region
  have HB : Hid (Below w.heap.size w (w.alloc (.cells #[.int .i64 a, .int .i64 b, .int .i64 c] 82)).drew) := (below_alloc w _).drew
  have HN : Hid ((w.alloc (.cells #[.int .i64 a, .int .i64 b, .int .i64 c] 82)).drew.heap[w.heap.size]? = some (.cells #[.int .i64 a, .int .i64 b, .int .i64 c] 82 (0, 0))) := heap_alloc_new w _
  go_wp2
  refine bodyPost_ret (v := .agg #[.int .i64 a, .int .i64 b, .int .i64 c]) ?_ rfl ?_
  · exact results_cell_row (p := 2) (ty := 82) rfl _ _ w.heap.size 82 _ (0, 0) _ rfl HN.out Try.underlying82 rfl (by kernel_rfl)
  · exact ⟨rfl, HB.out⟩

theorem Try.info3 : (Try.prog.info? 3).map (fun i => (i.zero, i.size, i.bytes)) = some (some (.int .i64 0), 1, 8) := by kernel_rfl
/-- a row of ints of the call's own. -/
def OwnI (w : World) (v : Value) (zs : List Nat) : Prop := w.ownsRow 0 3 1 v zs.length (zs.map fun (n : Nat) => Value.int .i64 (n : Int))
theorem OwnI.of_block {w w' : World} {v : Value} {zs : List Nat} (h : OwnI w v zs) (hb : ∀ k, v.ownBlock = some k → w'.heap[k]? = w.heap[k]?) : OwnI w' v zs := by
  obtain ⟨h1, h2⟩ := h
  refine ⟨h1, ?_⟩
  rcases h2 with h2 | ⟨g, cap, cur, rfl, hg, hh, r⟩
  · exact .inl h2
  · exact .inr ⟨g, cap, cur, rfl, hg, by rw [hb g rfl]; exact hh, r⟩
theorem make77 (n : Nat) (hn : n ≤ 1000000) (W : World) : (Instr.makeSlice 77 (.int .i64 0) (.int .i64 (n : Int))).run Try.prog W = .ok (.slice (some ⟨W.heap.size, 0, none⟩) 0 n) (W.alloc (.cells (madeCells #[.int .i64 0] n) 3)) := by
  obtain ⟨i0, hi, hz0, hz1, hz2⟩ := info_parts Try.info3
  have := run_make (P := Try.prog) W 77 3 i0 _ Try.underlying77 hi hz0 .i64 .i64 0 (n : Int) (by omega) (by omega) (by rw [hz2]; omega) (by omega)
  rw [hz1] at this
  simpa [Value.cells] using this
theorem wpList_append_at {P : Program} {w : World} {ops : Array Oper} {rest : List Oper} {o : Oper} {a : Act} {Q : Exit → Act → World → Prop} (hgd : o.guard = none) (s x : Operand) (t e : TypeId) (ho : o.op = .call { callee := .builtin .append, args := #[s, x], argTypes := #[t, t] })
    (base : Nat) (i : TypeInfo) (z : Value) (size bytes : Nat) (ht : P.underlying t = some (.slice e)) (hi : P.info? e = some i) (hz : i.zero = some z) (hsize : i.size = size) (hby : i.bytes = bytes) (hzs : z.cells.size = size) (hsz : 0 < size)
    (v : Value) (n : Nat) (xs : List Value) (hs : a.eval s = v) (hown : w.ownsRow base e size v n xs) (ad : Addr) (m c : Nat) (news : List Value) (hx : a.eval x = .slice (some ad) m c) (hl : news.length = m * size) (hnews : ∀ j u, news[j]? = some u → w.cell? (ad.add j) = some u) (h1 : ∀ u ∈ news, u.oneCell' = true)
    (h63 : n + m ≤ maxLen) (hbytes : (n + m) * bytes ≤ 140737488355328) (hbase : base ≤ w.heap.size)
    (h : ∀ v' w', w'.ownsRow base e size v' (n + m) (xs ++ news) → w.grownBy w' v.ownBlock → (v'.ownBlock = v.ownBlock ∨ v'.ownBlock = some w.heap.size) → wpList P ops Q rest (a.put o.dst v') w') : wpList P ops Q (o :: rest) a w :=
  wpList_plain hgd fun _ hK => wp_append_at s x t e ho base i z size bytes ht hi hz hsize hby hzs hsz v n xs hs hown ad m c news hx hl hnews h1 h63 hbytes hbase fun v' w' h2 h3 h4 => hK _ _ (h v' w' h2 h3 h4)
set_option maxHeartbeats 3200000 in
set_option maxRecDepth 1000000 in
theorem pending_any (p q : Nat) (O : Nat → Prop) (S : DS) (w : World) (h : DkAt w p q S O) : Calls Try.prog 26 #[.pointer (some ⟨p, 0, none⟩)] w fun e w' => ∃ v, e = .returned v ∧ OwnI w' v (S.ws.map (·.1)) ∧ (∀ g, v.ownBlock = some g → w.heap.size ≤ g) ∧ Below w.heap.size w w' := by
  obtain ⟨vw, m, hd, ho⟩ := h
  have HD : Hid (∀ W, Below w.heap.size w W → Dk W p q vw m S) := fun W hb => hd.below hb
  have c1 := hd.c 1 vw rfl
  have HG := hide hd.good
  obtain ⟨a, len, cap, rfl, hlen, hnn⟩ : ∃ a len cap, vw = .slice a len cap ∧ len = S.ws.length ∧ (a = none ∧ len = 0 ∨ ∃ g, a = some ⟨g, 0, none⟩ ∧ len ≤ cap) := by
    rcases hd.wri.2 with ⟨e, e2⟩ | ⟨g, cap, cur, e, _, _, hle, _⟩
    · exact ⟨none, 0, 0, e, e2.symm, .inl ⟨rfl, rfl⟩⟩
    · exact ⟨_, _, cap, e, rfl, .inr ⟨g, rfl, hle⟩⟩
  have HL := hide hlen
  have hfew : len ≤ 1000000 := by rw [hlen]; exact hd.good.few
  have hmk := make77 len hfew
  have c1' : (w.alloc (.cells (madeCells #[.int .i64 0] len) 3)).cell? ⟨p, 1, none⟩ = some (.slice a len cap) := cell_old c1 _
  have hbt := zero117
  obtain ⟨i0, hi, hz0, hz1, hz2⟩ := info_parts Try.info3
  clear hd ho hlen
  go_enter Try.func26, Try.ntmps26
  go_wp2
  go_loopw [19, 3] (fun i v wr' => ∃ k : Nat, k ≤ len ∧ i = .int .i64 (k : Int) ∧ OwnI wr' v ((S.ws.map (·.1)).take k) ∧ (∀ g, v.ownBlock = some g → w.heap.size ≤ g) ∧ Below w.heap.size w wr') (fun i _ _ => len - (intOf i).toNat)
  case atStart =>
    refine ⟨0, Nat.zero_le _, rfl, ?_, ?_, below_alloc _ _⟩
    · exact World.ownsRow_made w _ len (Nat.zero_le _) (by unfold maxLen; omega) (by rw [size_madeCells, Nat.mul_one])
    · intro g hg; simp only [Value.ownBlock] at hg; cases hg; exact Nat.le_refl _
  case round =>
    obtain ⟨k, hk, rfl, hown, hnew, hb⟩ := hrel
    have HO := hide hown
    have HNw := hide hnew
    have HB := hide hb
    clear hown hnew hb c1 c1'
    by_cases hlt : k < len
    · rcases hnn with ⟨rfl, h0⟩ | ⟨g, rfl, hle⟩
      · omega
      · obtain ⟨⟨n, ys⟩, hx⟩ : ∃ x, S.ws[k]? = some x := ⟨_, List.getElem?_eq_getElem (by rw [← HL.out]; exact hlt)⟩
        obtain ⟨hn, hy, hby⟩ := HG.out.ws (n, ys) (List.mem_of_getElem? hx)
        have HY : Hid ((wv (n, ys)).length = 129) := by simp [wv, sv_len, hy, Hid]
        have HR0 : Hid (wr.rangeAt g (k * 129) (wv (n, ys))) := Dk.wr_at (S := S) (by have := HD.out wr HB.out; rw [HL.out] at this; exact this) k (n, ys) hx
        have HI : Hid ((Try.prog.info? 117).map (·.size) = some (wv (n, ys)).length) := by rw [Hid, HY.out]; exact size117
        have HI2 : Hid ((Try.prog.info? 117).map (·.size) = some (wv (n, ys)).toArray.size) := by rw [Hid, List.size_toArray, HY.out]; exact size117
        have HT : Hid ((wr.alloc (.cells z117 117)).heap[wr.heap.size]? = some (.cells z117 117 (0, 0))) := heap_alloc_new wr _
        have HZ : Hid (z117.size = (wv (n, ys)).toArray.size) := by simp only [Hid, List.size_toArray, HY.out]; rfl
        have H1 := hide (all_oneCell_toArray (wv_one (n, ys)))
        have HTk : Hid ((S.ws.map (·.1)).take (k + 1) = (S.ws.map (·.1)).take k ++ [n]) := by
          rw [Hid, List.take_add_one]
          simp [hx]
        have HTl : Hid (((S.ws.map (·.1)).take k).length = k) := by rw [Hid, List.length_take, List.length_map, ← HL.out]; omega
        obtain ⟨W3, HW3⟩ : ∃ W3, Hid (W3 = wr.alloc (.cells (wv (n, ys)).toArray 117)) := ⟨_, rfl⟩
        have hb3 : Below wr.heap.size wr W3 := by rw [HW3.out]; exact below_alloc wr _
        have c0 : W3.cell? ⟨wr.heap.size, 0, none⟩ = some (.int .i64 (n : Int)) := by rw [HW3.out, cell_of_row _ _ 0 _ 117 (0, 0) (heap_alloc_new wr _)]; rfl
        have HB3 := hide (HB.out.trans (hb3.mono HB.out.size))
        have HO3 : Hid ((W3.alloc (.cells #[.int .i64 (n : Int)] 3)).ownsRow 0 3 1 u3 ((S.ws.map (·.1)).take k).length (((S.ws.map (·.1)).take k).map fun (n : Nat) => Value.int .i64 (n : Int))) := World.ownsRow.alloc (HO.out.of_block (fun g hg => hb3.block g (HO.out.lt g hg).2)) _
        have HNc : Hid (∀ j u, [Value.int .i64 (n : Int)][j]? = some u → (W3.alloc (.cells #[.int .i64 (n : Int)] 3)).cell? ((⟨W3.heap.size, 0, none⟩ : Addr).add j) = some u) := fun j u hu => by
          rw [Addr.add_lit, cell_of_row _ _ (0 + j) _ 3 (0, 0) (heap_alloc_new W3 _)]
          simpa using hu
        have HOne : Hid (∀ u ∈ [Value.int .i64 (n : Int)], u.oneCell' = true) := fun u hu => by simp only [List.mem_singleton] at hu; rw [hu]; rfl
        have HB1 : Hid (((S.ws.map (·.1)).take k).length + 1 ≤ maxLen) := by rw [Hid, HTl.out]; unfold maxLen; omega
        have HB2 : Hid ((((S.ws.map (·.1)).take k).length + 1) * 8 ≤ 140737488355328) := by rw [Hid, HTl.out]; omega
        have HEnd : Hid (∀ v' w4, w4.ownsRow 0 3 1 v' (((S.ws.map (·.1)).take k).length + 1) ((((S.ws.map (·.1)).take k).map fun (n : Nat) => Value.int .i64 (n : Int)) ++ [.int .i64 (n : Int)]) → (W3.alloc (.cells #[.int .i64 (n : Int)] 3)).grownBy w4 u3.ownBlock → (v'.ownBlock = u3.ownBlock ∨ v'.ownBlock = some (W3.alloc (.cells #[.int .i64 (n : Int)] 3)).heap.size) → ∃ k' : Nat, k' ≤ len ∧ Value.int .i64 ((k : Int) + 1) = .int .i64 (k' : Int) ∧ OwnI w4 v' ((S.ws.map (·.1)).take k') ∧ (∀ g, v'.ownBlock = some g → w.heap.size ≤ g) ∧ Below w.heap.size w w4) := fun v' w4 ho hg hl => by
          refine ⟨k + 1, by omega, by simp, ?_, ?_, ?_⟩
          · rw [HTk.out]
            unfold OwnI
            rw [List.length_append, List.length_singleton, List.map_append]
            exact ho
          · intro g hv
            rcases hl with e | e
            · exact HNw.out g (by rw [← e]; exact hv)
            · rw [e] at hv; cases hv; rw [size_al]; have := HB3.out.size; omega
          · have hx := below_alloc W3 (.cells #[.int .i64 (n : Int)] 3)
            refine ⟨hg.os.trans HB3.out.os, hg.tape.trans HB3.out.tape, hg.output.trans HB3.out.output, Nat.le_trans HB3.out.size (Nat.le_trans hx.size hg.size), fun j hj => ?_⟩
            rw [hg.block j (Nat.lt_of_lt_of_le hj (Nat.le_trans HB3.out.size hx.size)) (fun e => by have := HNw.out j e.symm; omega), hx.block j (Nat.lt_of_lt_of_le hj HB3.out.size)]
            exact HB3.out.block j hj
        clear hx hy hby hb3
        go_wp2_with (first | (refine wpList_load_mid (by rfl) 117 (.tmp 21) (by rfl) g (k * 129) (by rfl) (wv (n, ys)) _ HR0.out Try.underlying117 rfl HI.out ?_) | (refine wpList_store_row (by rfl) 117 (.tmp 5) (.tmp 22) (by rfl) wr.heap.size (wv (n, ys)).toArray (by rfl) (by rfl) 117 z117 HT.out HI2.out HZ.out H1.out ?_; rw [World.setRow_alloc_new, ← HW3.out]) | (at_builtin; refine wpList_append_at (by rfl) (.tmp 23) (.tmp 26) 77 3 (by rfl) 0 i0 (.int .i64 0) 1 8 Try.underlying77 hi hz0 hz1 hz2 rfl (by omega) u3 _ _ (by rfl) HO3.out ⟨W3.heap.size, 0, none⟩ 1 1 [.int .i64 (n : Int)] (by rfl) rfl HNc.out HOne.out HB1.out HB2.out (Nat.zero_le _) ?_; intro v' w4 ho4 hg4 hl4; have HO4 := hide ho4; have HG4 := hide hg4; have HL4 := hide hl4; clear ho4 hg4 hl4))
        go_roundw
        case rel => exact HEnd.out v' w4 HO4.out HG4.out HL4.out
        case measure => simp [intOf]; omega
    · have e : k = len := by omega
      subst e
      have HE : Hid ((S.ws.map (·.1)).take k = S.ws.map (·.1)) := by rw [Hid, List.take_of_length_le]; rw [List.length_map, ← HL.out]; exact Nat.le_refl _
      rw [HE.out] at HO
      go_wp2
      go_ret
      exact ⟨_, rfl, HO.out, HNw.out, HB.out⟩
end Go.Proofs.Ytgbnlcpmpkbmkaa
