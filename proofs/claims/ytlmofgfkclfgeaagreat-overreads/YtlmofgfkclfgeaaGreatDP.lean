/- What a read does, where nothing is in its way. -/
import Derived.Test.YtlmofgfkclfgeaaGreatDN
import Derived.Deep.RegionHeld3
namespace Go.Proofs.YtlmofgfkclfgeaaGreat
open Go.RowKit Go.Maps
set_option linter.unusedVariables false

/-- the bytes of k sectors from the number b on. -/
def rd (S : DS) (b k : Nat) : List Int := ((List.range k).map fun i => newest S (b + i)).flatten
theorem rd_succ (S : DS) (b k : Nat) : rd S b (k + 1) = rd S b k ++ newest S (b + k) := by simp [rd, List.range_succ]
theorem rd_len {S : DS} (h : S.Good) (b : Nat) : ∀ k, b + k ≤ S.ls.length → (rd S b k).length = k * 128
  | 0, _ => by simp [rd]
  | k + 1, hk => by rw [rd_succ, List.length_append, rd_len h b k (by omega), (newest_good h (b + k) (by omega)).1, Nat.add_mul]
theorem make63 (W : World) : (Instr.makeSlice 22 (.int .i64 0) (.int .i64 1024)).run Tryz.prog W = .ok (.slice (some ⟨W.heap.size, 0, none⟩) 0 1024) (W.alloc (.cells (madeCells #[.int .u8 0] 1024) 5)) := by
  obtain ⟨i0, hi, hz0, hz1, hz2⟩ := info_parts Tryz.info5
  have := run_make (P := Tryz.prog) W 22 5 i0 _ Tryz.underlying22 hi hz0 .i64 .i64 0 1024 (by omega) (by omega) (by rw [hz2]; omega) (by omega)
  rw [hz1] at this
  exact this

set_option maxHeartbeats 3200000 in
set_option maxRecDepth 1000000 in
theorem reads_any (p q : Nat) (vw : Value) (m : Option Nat) (S : DS) (k0 k1 k2 : Nat) (pg : Nat) (v0 : Value) (w : World) (h : Dk w p q vw m S)
    (c0 : w.cell? ⟨k0, 0, none⟩ = some (.pointer (some ⟨p, 0, none⟩))) (c1 : w.cell? ⟨k1, 0, none⟩ = some (.int .i64 (pg : Int))) (c2 : w.heap[k2]? = some (.cells #[v0] 22 (0, 0)))
    (o2 : ¬ Ow p q vw m k2) (n0 : k0 ≠ k2) (n1 : k1 ≠ k2) (hpg : pg < S.ls.length / 8) :
    Calls Tryz.prog 86 #[.pointer (some ⟨k0, 0, none⟩), .pointer (some ⟨k1, 0, none⟩), .pointer (some ⟨k2, 0, none⟩)] w fun e w' => e = .returned (.int .u16 0) ∧ ∃ v, w'.heap[k2]? = some (.cells #[v] 22 (0, 0)) ∧ Own w' v (rd S (8 * pg) 8) ∧ (∀ g, v.ownBlock = some g → w.heap.size ≤ g) ∧ Mv (· = k2) w w' := by
  have HD : Hid (∀ W, Mv (· = k2) w W → Dk W p q vw m S) := fun W hm => h.stays (fun k hk => hm.block k (h.lt k hk) (fun e => o2 (by rw [← e]; exact hk)))
  have HK : Hid (∀ W, Mv (· = k2) w W → W.cell? ⟨k0, 0, none⟩ = some (.pointer (some ⟨p, 0, none⟩)) ∧ W.cell? ⟨k1, 0, none⟩ = some (.int .i64 (pg : Int))) := fun W hm => ⟨hm.cell c0 n0, hm.cell c1 n1⟩
  have HG := hide h.good
  have k00 := h.c 0 (.slice (some ⟨q, 0, none⟩) S.ls.length S.ls.length) rfl
  have Hhas := hide (has_any p q S.ls.length (pg : Int) w k00 h.good.most)
  have hdec : decide (0 ≤ (pg : Int) ∧ (pg : Int) < ((S.ls.length / 8 : Nat) : Int)) = true := by simp only [decide_eq_true_eq]; omega
  rw [hdec] at Hhas
  have Hpn : Hid (8 * pg + 8 ≤ S.ls.length) := by rw [Hid]; omega
  have hpb : pg ≤ 131072 := by have := h.good.most; omega
  have hk2 : k2 < w.heap.size := lt_of_block c2
  have HC2 := hide c2
  clear h o2 n0 n1 k00 hdec hpg c2
  have hmk := make63
  go_enter Tryz.func86, Tryz.ntmps86
  go_wp2_with fail
  refine Hhas.out.mono ?_
  rintro e w1 ⟨rfl, hb1⟩
  have HM1 : Hid (Mv (· = k2) w w1) := ⟨hb1.os, hb1.tape, hb1.output, hb1.size, fun k hk _ => hb1.block k hk⟩
  have HC3 : Hid (w1.heap[k2]? = some (.cells #[v0] 22 (0, 0))) := (hb1.block k2 hk2).trans HC2.out
  clear hb1 c0 c1
  have c2 : (w1.alloc (.cells (madeCells #[.int .u8 0] 1024) 5)).cell? ⟨k2, 0, none⟩ = some v0 := by
    rw [World.cell?_of_block (w := w1) (Below.heap_alloc w1 _ k2 (lt_of_block HC3.out)), cell_of_row w1 k2 0 _ 22 (0, 0) HC3.out]; rfl
  have f2 : (w1.alloc (.cells (madeCells #[.int .u8 0] 1024) 5)).frozen? ⟨k2, 0, none⟩ = false := by
    rw [World.frozen?_of_block (w := w1) (Below.heap_alloc w1 _ k2 (lt_of_block HC3.out))]; simp [World.frozen?, HC3.out]
  go_wp2
  clear c2 f2
  obtain ⟨i0, hi, hz0, hz1, hz2⟩ := info_parts Tryz.info5
  go_loopw [11] (fun i wr' => ∃ (k : Nat) (v : Value), k ≤ 8 ∧ i = .int .i64 (k : Int) ∧ wr'.heap[k2]? = some (.cells #[v] 22 (0, 0)) ∧ Own wr' v (rd S (8 * pg) k) ∧ (∀ g, v.ownBlock = some g → w.heap.size ≤ g) ∧ Mv (· = k2) w wr') (fun i _ => 8 - (intOf i).toNat)
  case atStart =>
    have hk2l := lt_of_block HC3.out
    refine ⟨0, .slice (some ⟨w1.heap.size, 0, none⟩) 0 1024, by omega, rfl, ?_, ?_, ?_, ?_⟩
    · rw [heap_setCell_same _ k2 0 _ 22 _ ((Below.heap_alloc w1 _ k2 hk2l).trans HC3.out)]; rfl
    · have h0 : (w1.alloc (.cells (madeCells #[Value.int .u8 0] 1024) 5)).ownsRow 0 5 1 (.slice (some ⟨w1.heap.size, 0, none⟩) 0 1024) 0 [] := World.ownsRow_made w1 _ 1024 (Nat.zero_le _) (by unfold maxLen; omega) (by rw [size_madeCells])
      exact h0.kept (row := some k2) (grown_setCell _ k2 0 _) (.inr (by simp only [Value.ownBlock]; intro e; cases e; omega))
    · intro g hg; simp only [Value.ownBlock] at hg; cases hg; exact HM1.out.size
    · have := below_alloc w1 (.cells (madeCells #[Value.int .u8 0] 1024) 5)
      exact HM1.out.trans' (Mv.trans' ⟨this.os, this.tape, this.output, this.size, fun k hk _ => this.block k hk⟩ (mv_set _ k2 0 _))
  case round =>
    obtain ⟨k, v, hk, rfl, hc, hown, hnew, hm⟩ := hrel
    have HC := hide hc
    have HO := hide hown
    have HNw := hide hnew
    have HM := hide hm
    clear hc hown hnew hm
    by_cases hlt : k < 8
    · have hx1 : IntKind.i64.wrap ((pg : Int) * 8) = (pg : Int) * 8 := by rw [IntKind.wrap_i64]; omega
      have hx2 : IntKind.i64.wrap ((pg : Int) * 8 + (k : Int)) = 8 * (pg : Int) + (k : Int) := by rw [IntKind.wrap_i64]; omega
      have hnn : ((8 * pg + k : Nat) : Int) = 8 * (pg : Int) + (k : Int) := by omega
      have HCall : Hid (Calls Tryz.prog 88 #[.pointer (some ⟨p, 0, none⟩), .int .i64 (8 * (pg : Int) + (k : Int))] wr fun e w' => e = .returned (.agg (sv (newest S (8 * pg + k))).toArray) ∧ Below wr.heap.size wr w') := by
        rw [← hnn]
        exact newest_any p q vw m S (8 * pg + k) wr (HD.out wr HM.out) (by have := Hpn.out; omega)
      clear hnn
      obtain ⟨c0, c1⟩ := HK.out wr HM.out
      have hz := zero110
      go_wp2_with fail
      refine HCall.out.mono ?_
      rintro e w2 ⟨rfl, hb2⟩
      have hgd := newest_good HG.out (8 * pg + k) (by have := Hpn.out; omega)
      have hL : (sv (newest S (8 * pg + k))).length = 128 := by rw [sv_len]; exact hgd.1
      have HI2 : Hid ((Tryz.prog.info? 97).map (·.size) = some (sv (newest S (8 * pg + k))).toArray.size) := by rw [Hid, List.size_toArray, hL]; exact size110
      have HT : Hid ((w2.alloc (.cells z110 97)).heap[w2.heap.size]? = some (.cells z110 97 (0, 0))) := heap_alloc_new w2 _
      have HZ : Hid (z110.size = (sv (newest S (8 * pg + k))).toArray.size) := by simp only [Hid, List.size_toArray, hL]; rfl
      have H1 := hide (all_oneCell_toArray (sv_one (newest S (8 * pg + k))))
      obtain ⟨W3, hW3⟩ : ∃ W3, W3 = w2.alloc (.cells (sv (newest S (8 * pg + k))).toArray 97) := ⟨_, rfl⟩
      have hb3 : Below wr.heap.size wr W3 := by rw [hW3]; exact hb2.trans ((below_alloc w2 _).mono hb2.size)
      have hkl : k2 < wr.heap.size := lt_of_block HC.out
      have HO3 : Hid (Own W3.drew v (rd S (8 * pg) k)) := HO.out.of_block (fun g hg => hb3.block g (HO.out.lt hg))
      have HC3' : Hid (W3.heap[k2]? = some (.cells #[v] 22 (0, 0))) := (hb3.block k2 hkl).trans HC.out
      have HM3 : Hid (Mv (· = k2) w W3) := HM.out.trans' ⟨hb3.os, hb3.tape, hb3.output, hb3.size, fun k hk _ => hb3.block k hk⟩
      have HSr : Hid (Src Tryz.prog 1 22 (.slice (some ⟨w2.heap.size, 0, none⟩) 128 128) 128 ((newest S (8 * pg + k)).map (Value.int .u8)) W3.drew) := by
        refine Src.ofSlice W3.drew Tryz.underlying22 ⟨w2.heap.size, 0, none⟩ 128 128 _ (by simp [hgd.1]) (fun j u hu => ?_) (ints_oneCell _ _)
        rw [Addr.add_lit, cell_of_row W3.drew w2.heap.size (0 + j) (sv (newest S (8 * pg + k))).toArray 97 (0, 0) (by rw [hW3]; exact heap_alloc_new w2 _)]
        simpa [sv] using hu
      have HBd : Hid ((rd S (8 * pg) k).length + 128 ≤ 140737488355328) := by
        have := rd_len HG.out (8 * pg) k (by have := Hpn.out; omega)
        rw [Hid, this]; omega
      have HV4 : Hid (∀ w4, W3.drew.grownBy w4 v.ownBlock → w4.cell? ⟨k2, 0, none⟩ = some v ∧ w4.frozen? ⟨k2, 0, none⟩ = false) := fun w4 hg => by
        have e : w4.heap[k2]? = some (.cells #[v] 22 (0, 0)) := (hg.block k2 (lt_of_block HC3'.out) (fun e => by have := HNw.out k2 e.symm; omega)).trans HC3'.out
        exact ⟨by rw [cell_of_row w4 k2 0 _ 22 (0, 0) e]; rfl, by simp [World.frozen?, e]⟩
      have HEnd : Hid (∀ v' w4, Own w4 v' (rd S (8 * pg) k ++ newest S (8 * pg + k)) → W3.drew.grownBy w4 v.ownBlock → (∀ g, v'.ownBlock = some g → v.ownBlock = some g ∨ W3.drew.heap.size ≤ g) → (w4.setCell ⟨k2, 0, none⟩ v').heap[k2]? = some (.cells #[v'] 22 (0, 0)) ∧ Own (w4.setCell ⟨k2, 0, none⟩ v') v' (rd S (8 * pg) (k + 1)) ∧ (∀ g, v'.ownBlock = some g → w.heap.size ≤ g) ∧ Mv (· = k2) w (w4.setCell ⟨k2, 0, none⟩ v')) := fun v' w4 ho hg hk => by
        have hnew : ∀ g, v'.ownBlock = some g → w.heap.size ≤ g := fun g hv => (hk g hv).elim (HNw.out g) (fun hl => Nat.le_trans HM3.out.size hl)
        have e : w4.heap[k2]? = some (.cells #[v] 22 (0, 0)) := (hg.block k2 (lt_of_block HC3'.out) (fun e => by have := HNw.out k2 e.symm; omega)).trans HC3'.out
        refine ⟨by rw [heap_setCell_same w4 k2 0 _ 22 _ e]; rfl, ?_, hnew, ?_⟩
        · rw [rd_succ]
          exact ho.of_block (fun g hv => set_other w4 k2 0 v' g (by have := hnew g hv; omega))
        · refine ⟨hg.os.trans HM3.out.os, hg.tape.trans HM3.out.tape, hg.output.trans HM3.out.output, Nat.le_trans HM3.out.size (Nat.le_trans hg.size (by rw [World.size_setCell]; exact Nat.le_refl _)), fun j hj hne => ?_⟩
          rw [set_other w4 k2 0 v' j hne, hg.block j (Nat.lt_of_lt_of_le hj HM3.out.size) (fun e => by have := HNw.out j e.symm; omega)]
          exact HM3.out.block j hj hne
      have c3 : W3.cell? ⟨k2, 0, none⟩ = some v := by rw [cell_of_row W3 k2 0 _ 22 (0, 0) HC3'.out]; rfl
      clear hgd hL hb3 hb2 c0 c1 hkl
      go_wp2_with (refine wpList_store_row (by rfl) 97 (.tmp 5) (.tmp 19) (by rfl) w2.heap.size (sv (newest S (8 * pg + k))).toArray (by rfl) (by rfl) 97 z110 HT.out HI2.out HZ.out H1.out ?_; rw [World.setRow_alloc_new, ← hW3])
      · clear hW3
        refine wp_region_noPanic ?_
        refine wp_region_held_drew (S := (fun W => True)) (by kernel_rfl) trivial (fun _hS => ?_)
        refine wpAnyH_take (i := 1) (oi := { dst := some 21, op := Op.slice 97 (Operand.tmp 5) none none none, type := 22, pos := "operation.go:60", after := #[], guard := none }) (v := ?v1x1) rfl (by kernel_rfl) (by kernel_rfl) (by kernel_rfl) (fun _ _ _ h => h) (Or.inl ⟨by rfl, ?hy1x1⟩) (by assumption) ?rest1x1
        case hy1x1 => (intro w hSw; (try dsimp only at hSw); (first | (go_simp; with_reducible rfl) | go_simp))
        try simp only [Act.put, List.setIfInBounds_toArray, List.set_cons_zero, List.set_cons_succ]
        refine wpAnyH_ready (rs := [0]) (by kernel_rfl) (by simp) ?_
        refine AllReadyH.cons (o := { dst := some 20, op := Op.load 22 (Operand.tmp 2), type := 22, pos := "operation.go:60", after := #[], guard := none }) rfl (fun K hK => ?_) AllReadyH.nil
        go_simp
        refine hK.out _ _ trivial (fun _hS => ?_)
        clear hK K
        try simp only [Act.put, List.setIfInBounds_toArray, List.set_cons_zero, List.set_cons_succ]
        refine wpAnyH_ready (rs := [2]) (by kernel_rfl) (by simp) ?_
        refine AllReadyH.cons (o := { dst := some 22, op := Op.call { callee := Callee.builtin Builtin.append, args := #[Operand.tmp 20, Operand.tmp 21], argTypes := #[22, 22] }, type := 22, pos := "operation.go:60", after := #[{ on := 0, ground := Ground.data }, { on := 1, ground := Ground.data }], guard := none }) rfl (fun K hK => ?_) AllReadyH.nil
        refine step_of rfl ?_
        refine wp_append_src (.tmp 20) (.tmp 21) 22 22 rfl i0 Tryz.underlying22 hi hz0 hz1 hz2 v (rd S (8 * pg) k) rfl HO3.out (.slice (some ⟨w2.heap.size, 0, none⟩) 128 128) 128 (newest S (8 * pg + k)) rfl HSr.out HBd.out ?_
        intro v' w4 hown4 hgr4 hk4
        obtain ⟨a', n', cc', rfl, -⟩ := hown4.shape2
        have HO4 := hide hown4
        have HG4 := hide hgr4
        have HK4 := hide hk4
        clear hown4 hgr4 hk4
        obtain ⟨c5, f5⟩ := HV4.out w4 HG4.out
        refine hK.out _ _ trivial (fun _hS => ?_)
        clear hK K
        try simp only [Act.put, List.setIfInBounds_toArray, List.set_cons_zero, List.set_cons_succ]
        refine wpAnyH_ready (rs := [3]) (by kernel_rfl) (by simp) ?_
        refine AllReadyH.cons (o := { dst := none, op := Op.store 22 (Operand.tmp 2) (Operand.tmp 22), type := 0, pos := "operation.go:60", after := #[{ on := 2, ground := Ground.data }, { on := 2, ground := Ground.chain }, { on := 0, ground := Ground.phase }, { on := 1, ground := Ground.phase }, { on := 2, ground := Ground.phase }], guard := none }) rfl (fun K hK => ?_) AllReadyH.nil
        go_simp
        refine hK.out _ _ trivial (fun _hS => ?_)
        clear hK K
        try simp only [Act.put]
        refine wpAnyH_done (by kernel_rfl) ?_ _
        refine NoPanic.normal ?_
        have HE := hide (HEnd.out _ w4 HO4.out HG4.out HK4.out)
        go_wp2
        go_roundw
        case rel => exact ⟨k + 1, _, by omega, by go_num, HE.out⟩
        case measure => simp [intOf]; omega
    · have e : k = 8 := by omega
      subst e
      go_wp2
      go_ret
      exact ⟨rfl, v, HC.out, HO.out, HNw.out, HM.out⟩
end Go.Proofs.YtlmofgfkclfgeaaGreat
/- Read. -/
namespace Go.Proofs.YtlmofgfkclfgeaaGreat
open Go.RowKit Go.Maps
set_option linter.unusedVariables false

theorem be_zero {S S' : DS} {s : Bool} {l : Int} (h : S.er s l = 0) : S.be S' = S' := by
  unfold DS.er at h
  unfold DS.be
  split at h
  · omega
  · split at h
    · omega
    · rename_i h1 h2
      rw [if_neg h1, if_neg h2]
theorem zero63 : ∀ w, (zeroValue 22).run Tryz.prog w = .ok (.slice none 0 0) w := (zero_of_info (P := Tryz.prog) (t := 22) (v := .slice none 0 0) (n := 1) (by kernel_rfl)).1
/-- what a read answers. -/
def Rd1 (w' : World) (v : Value) (e : Nat) (zs : List Int) (B : Nat) : Prop := (e = 0 → Own w' v zs ∧ ∀ g, v.ownBlock = some g → B ≤ g) ∧ (e ≠ 0 → v = .slice none 0 0)

set_option maxHeartbeats 1600000 in
set_option maxRecDepth 1000000 in
theorem read_any (p q : Nat) (O : Nat → Prop) (S : DS) (pg : Nat) (w : World) (h : DkAt w p q S O) (hpg : pg < S.ls.length / 8) (hn : S.n1 + 1 ≤ 1000000) :
    Calls Tryz.prog 77 #[.pointer (some ⟨p, 0, none⟩), .int .i64 (pg : Int)] w fun e w' => ∃ v, e = .returned (.tuple #[v, .int .u16 (S.er S.s1 S.l1 : Int)]) ∧ Rd1 w' v (S.er S.s1 S.l1) (rd S (8 * pg) 8) w.heap.size ∧ DkAt w' p q (S.be S.op1) O ∧ Go1 O w O w' := by
  obtain ⟨vw, m, hd, ho⟩ := h
  have hlt : ∀ k, Ow p q vw m k → k < w.heap.size := hd.lt
  have nO : ∀ k, w.heap.size ≤ k → ¬ Ow p q vw m k := fun k hk h => by have := hlt k h; omega
  obtain ⟨W3, hW3⟩ : ∃ W3, W3 = ((w.alloc (.cells #[.pointer (some ⟨p, 0, none⟩)] 25)).alloc (.cells #[.int .i64 (pg : Int)] 3)).alloc (.cells #[.slice none 0 0] 22) := ⟨_, rfl⟩
  have s1 := size_al w (.cells #[.pointer (some ⟨p, 0, none⟩)] 25)
  have s2 := size_al (w.alloc (.cells #[.pointer (some ⟨p, 0, none⟩)] 25)) (.cells #[.int .i64 (pg : Int)] 3)
  have s3 : W3.heap.size = w.heap.size + 3 := by rw [hW3, size_al, s2, s1]
  have hb3 : Below w.heap.size w W3 := by
    rw [hW3]
    exact (below_alloc w _).trans (((below_alloc _ _).mono (by omega)).trans ((below_alloc _ _).mono (by omega)))
  have c0 : W3.cell? ⟨w.heap.size, 0, none⟩ = some (.pointer (some ⟨p, 0, none⟩)) := by rw [hW3]; exact cell_old (cell_old (cell_new _ _ _) _) _
  have c1 : W3.cell? ⟨w.heap.size + 1, 0, none⟩ = some (.int .i64 (pg : Int)) := by rw [hW3]; have := cell_old (cell_new (w.alloc (.cells #[.pointer (some ⟨p, 0, none⟩)] 25)) (.int .i64 (pg : Int)) 3) (.cells #[.slice none 0 0] 22); rwa [s1] at this
  have c2 : W3.heap[w.heap.size + 2]? = some (.cells #[.slice none 0 0] 22 (0, 0)) := by rw [hW3]; have := heap_alloc_new ((w.alloc (.cells #[.pointer (some ⟨p, 0, none⟩)] 25)).alloc (.cells #[.int .i64 (pg : Int)] 3)) (.cells #[.slice none 0 0] 22); rwa [s2, s1] at this
  have HOp := hide (operate1 p q vw m S W3 (.pointer (some ⟨w.heap.size, 0, none⟩)) (.pointer (some ⟨w.heap.size + 1, 0, none⟩)) (.pointer (some ⟨w.heap.size + 2, 0, none⟩))
    (fun x w' => x = (S.er S.s1 S.l1 : Int) ∧ ∃ v, w'.cell? ⟨w.heap.size + 2, 0, none⟩ = some v ∧ Rd1 w' v (S.er S.s1 S.l1) (rd S (8 * pg) 8) w.heap.size ∧ DkAt w' p q (S.be S.op1) O ∧ Go1 O w O w') (hd.below hb3) hn
    (fun he W hdW hm hs => by
      have hg0 : Go1 (Ow p q vw m) w (Ow p q vw m) W := (Go1.of_below hb3).trans (Go1.of_mv hm (.inl rfl))
      have hm' : Mv (Ow p q vw m) W3 W := (Go1.of_mv hm (.inl rfl)).mv
      refine (reads_any p q vw m S.op1 w.heap.size (w.heap.size + 1) (w.heap.size + 2) pg (.slice none 0 0) W hdW (hm'.cell c0 (nO _ (Nat.le_refl _))) (hm'.cell c1 (nO _ (by omega))) ((hm'.block _ (by omega) (nO _ (by omega))).trans c2) (nO _ (by omega)) (by omega) (by omega) hpg).mono ?_
      rintro e w' ⟨rfl, v, hc, hown, hnew, hmv⟩
      refine ⟨0, rfl, by rw [he]; rfl, v, by rw [cell_of_row w' _ 0 _ 22 (0, 0) hc]; rfl, ⟨fun _ => ⟨hown, fun g hg => Nat.le_trans (by omega) (hnew g hg)⟩, fun h => absurd he h⟩, ⟨vw, m, ?_, ho⟩, ?_⟩
      · rw [be_zero he]
        exact hdW.stays (fun k hk => hmv.block k (hdW.lt k hk) (by have := hlt k hk; omega))
      · refine ⟨⟨hmv.os.trans hg0.mv.os, hmv.tape.trans hg0.mv.tape, hmv.output.trans hg0.mv.output, Nat.le_trans hg0.mv.size hmv.size, fun k hk hn => ?_⟩, fun k hk => .inl hk⟩
        rw [hmv.block k (Nat.lt_of_lt_of_le hk hg0.mv.size) (by omega), hg0.mv.block k hk (fun h => hn ((ho k).2 h))])
    (fun he W hdW hm hs => by
      have hg0 : Go1 (Ow p q vw m) w (Ow p q vw m) W := (Go1.of_below hb3).trans (Go1.of_mv hm (.inl rfl))
      have hm' : Mv (Ow p q vw m) W3 W := (Go1.of_mv hm (.inl rfl)).mv
      have hc : W.heap[w.heap.size + 2]? = some (.cells #[.slice none 0 0] 22 (0, 0)) := (hm'.block _ (by omega) (nO _ (by omega))).trans c2
      exact ⟨rfl, .slice none 0 0, by rw [cell_of_row W _ 0 _ 22 (0, 0) hc]; rfl, ⟨fun h => absurd h he, fun _ => rfl⟩, ⟨vw, m, hdW, ho⟩, Go1.ofO hg0 ho ho⟩))
  clear hd ho hlt nO hpg hn hb3 c1 c2 s1 s2 s3
  have hmf' := hmf
  have hz := zero63
  subst hW3
  go_enter Tryz.func77, Tryz.ntmps77
  go_wp2_with fail
  refine HOp.out.mono ?_
  rintro e w' ⟨x, rfl, rfl, v, hc, hh⟩
  have HH := hide hh
  clear hh
  go_wp2
  go_ret2
  exact ⟨v, rfl, HH.out⟩
end Go.Proofs.YtlmofgfkclfgeaaGreat
