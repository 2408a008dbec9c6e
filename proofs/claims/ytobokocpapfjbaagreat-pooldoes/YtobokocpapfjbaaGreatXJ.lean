/- Write, of the document's own disk: bytes of a page or of a sector. -/
import Derived.Test.YtobokocpapfjbaaGreatXI
import Derived.Deep.RegionHeld3
namespace Go.Proofs.YtobokocpapfjbaaGreat
open Go.RowKit Go.Maps
set_option linter.unusedVariables false
variable {w w' : World} {p f : Nat} {vl vc : Value} {Ls Cs : List Value} {S S' : DS}

theorem Row.within {w : World} {b off : Nat} {zs : List Int} (h : Row w (some ⟨b, off, none⟩) zs) (i k : Nat) (hk : i + k ≤ zs.length) (hi : 0 < zs.length) : Row w (some ⟨b, off + i, none⟩) ((zs.drop i).take k) := by
  rcases h with h0 | ⟨b', off', h1, hlt, h2⟩
  · rw [h0] at hi; simp at hi
  · cases h1
    refine .inr ⟨b, off + i, rfl, hlt, fun j hj => ?_⟩
    rw [List.length_take, List.length_drop] at hj
    have h3 := h2 (i + j) (by omega)
    rw [Nat.add_assoc, h3]
    simp [show j < k by omega]
/-- the state between two rounds: so many sectors are in the cache. -/
structure Wst (w wr : World) (p : Nat) (vl : Value) (Ls : List Value) (vc : Value) (Cs : List Value) (f : Nat) (S : DS) (vc' : Value) (Cs' : List Value) : Prop where
  rd : RD wr p vl Ls vc' Cs' f S
  mv : Mv (fun k => k = p ∨ vc.ownBlock = some k) w wr
  vb : ∀ g, vc'.ownBlock = some g → vc.ownBlock = some g ∨ w.heap.size ≤ g
  cb : ∀ v ∈ Cs', v ∈ Cs ∨ ∀ g, v.ownBlock = some g → w.heap.size ≤ g
theorem Wst.start (h : RD w p vl Ls vc Cs f S) : Wst w w p vl Ls vc Cs f S vc Cs := ⟨h, Mv.refl _ _, fun g hg => .inl hg, fun v hv => .inl hv⟩
theorem Wst.push {wr : World} {vc' : Value} {Cs' : List Value} (h : Wst w wr p vl Ls vc Cs f S vc' Cs') (n : Nat) (ys : List Int) (hn : n < S.ls.length) (hy : ys.length = 128) (hb : Byts ys) (hf : S.ws.length + 1 ≤ 1000000) (v vd : Value) (W5 w7 : World) (h5 : Below wr.heap.size wr W5) (hv : Sl W5 v ys) (hnv : ∀ g, v.ownBlock = some g → wr.heap.size ≤ g)
    (ho : w7.ownsRow 0 118 2 vd (S.ws.length + 1) (rwc S.ws Cs' ++ [.int .i64 (n : Int), v])) (hg : (W5.alloc (.cells #[.int .i64 (n : Int), v] 118)).grownBy w7 vc'.ownBlock) (hl : vd.ownBlock = vc'.ownBlock ∨ vd.ownBlock = some (W5.alloc (.cells #[.int .i64 (n : Int), v] 118)).heap.size) :
    Wst w (w7.setCell ⟨p, 1, none⟩ vd) p vl Ls vc Cs f (S.add n ys) vd (Cs' ++ [v]) := by
  obtain ⟨h1, h2, h3⟩ := h.rd.push n ys hn hy hb hf v vd W5 w7 h5 hv hnv ho hg hl
  refine ⟨h1, ⟨h2.os.trans h.mv.os, h2.tape.trans h.mv.tape, h2.output.trans h.mv.output, Nat.le_trans h.mv.size h2.size, fun k hk hno => ?_⟩, fun g hg' => ?_, fun u hu => ?_⟩
  · rw [h2.block k (Nat.lt_of_lt_of_le hk h.mv.size) (fun hx => ?_)]
    · exact h.mv.block k hk hno
    · rcases hx with hx | hx
      · exact hno (.inl hx)
      · exact (h.vb k hx).elim (fun e => hno (.inr e)) (fun e => by omega)
  · exact (h3 g hg').elim (fun e => h.vb g e) (fun e => .inr (Nat.le_trans h.mv.size e))
  · rw [List.mem_append, List.mem_singleton] at hu
    rcases hu with hu | rfl
    · exact h.cb u hu
    · exact .inr (fun g hg' => Nat.le_trans h.mv.size (hnv g hg'))
theorem info146 : (Tryz.prog.info? 118).map (fun i => (i.zero, i.size, i.bytes)) = some (some (.agg #[.int .i64 0, .slice none 0 0]), 2, 32) := by kernel_rfl
theorem build146 (n : Int) (a : Option Addr) (l c : Nat) (W : World) : (Instr.build 118 #[(0, .int .i64 n), (1, .slice a l c)]).run Tryz.prog W = .ok (.agg #[.int .i64 n, .slice a l c]) W := run_build W 118 _ _ (by kernel_rfl)
set_option maxHeartbeats 3200000 in
set_option maxRecDepth 1000000 in
theorem rwrite_1024 (h : RD w p vl Ls vc Cs f S) (pg : Nat) (b off cap : Nat) (zs : List Int) (hn : S.n2 + 1 ≤ 1000000) (he : S.er S.s2 S.l2 = 0) (hpg : pg < S.ls.length / 8) (hr : Row w (some ⟨b, off, none⟩) zs) (hz : zs.length = 1024) (hby : Byts zs) (hlc : 1024 ≤ cap) (hcm : cap ≤ 9223372036854775807) (hbp : b ≠ p ∧ b ≠ f ∧ vc.ownBlock ≠ some b) (hbl : b < w.heap.size) (hf : S.ws.length + 8 ≤ 1000000) :
    Calls Tryz.prog 9 #[.pointer (some ⟨p, 0, none⟩), .int .i64 (pg : Int), .slice (some ⟨b, off, none⟩) 1024 cap] w fun e w' => e = .returned (.int .u16 0) ∧ ∃ wa vc' Cs', Mv (fun k => k = p ∨ k = f) w wa ∧ Wst wa w' p vl Ls vc Cs f (S.op2.adds (8 * pg) zs 8) vc' Cs' := by
  have HB := hide (begins2 h hn)
  rw [he, be_zero he] at HB
  obtain ⟨N, HN⟩ : ∃ N, Hid (N = S.ls.length / 8) := ⟨_, rfl⟩
  have hd0 : decide ((pg : Int) < 0) = false := by simp
  have hpN : pg < N := by rw [HN.out]; exact hpg
  have hN8 : N ≤ 16384 := by have := h.good.most; rw [HN.out]; omega
  have hd1 : decide (N ≤ pg) = false := by simp; omega
  have HZ := hide hz
  have HBy := hide hby
  have HRw : Hid (∀ wa wr, Mv (fun k => k = p ∨ k = f) w wa → Mv (fun k => k = p ∨ vc.ownBlock = some k) wa wr → Row wr (some ⟨b, off, none⟩) zs) := fun wa wr h1 h2 =>
    h2.row (h1.row hr (fun hx => hx.elim hbp.1 hbp.2.1)) (fun hx => hx.elim hbp.1 (fun e => hbp.2.2 e))
  have Hf := hide hf
  clear h hn he hpg hr hz hby hbp hbl hf
  go_enter Tryz.func9, Tryz.ntmps9
  go_wp2_with fail
  refine HB.out.mono ?_
  rintro e wa ⟨rfl, hh⟩
  have HH := hide hh
  have HP := hide (rpages_any hh.1)
  rw [show S.op2.ls = S.ls from rfl, ← HN.out] at HP
  clear hh
  go_wp2_with fail
  refine HP.out.mono ?_
  rintro e w'' ⟨rfl, rfl⟩
  obtain ⟨i0, hi, hz0, hz1, hz2⟩ := info_parts Tryz.info5
  obtain ⟨i1, hj, hy0, hy1, hy2⟩ := info_parts info146
  go_wp2
  go_loopw [8] (fun i wr' => ∃ k vc' Cs', k ≤ 8 ∧ i = .int .i64 ((k : Nat) : Int) ∧ Wst w'' wr' p vl Ls vc Cs f (S.op2.adds (8 * pg) zs k) vc' Cs') (fun i _ => 8 - (intOf i).toNat)
  case atStart => exact ⟨0, vc, Cs, Nat.zero_le _, rfl, by rw [DS.adds_zero]; exact Wst.start HH.out.1⟩
  case round =>
    obtain ⟨k, vc', Cs', hk, rfl, hst⟩ := hrel
    by_cases hlt : k < 8
    · have hkl : 8 * pg + k < S.ls.length := by have := HN.out; omega
      have hcd : IntKind.i64.wrap (128 * (k : Int)) = 128 * (k : Int) := by rw [IntKind.wrap_i64]; omega
      have hcc : decide (128 * (k : Int) < 1024) = true := by simp; omega
      have hw1 : IntKind.i64.wrap (8 * (pg : Int)) = 8 * (pg : Int) := by rw [IntKind.wrap_i64]; omega
      have hw2 : IntKind.i64.wrap (8 * (pg : Int) + (k : Int)) = ((8 * pg + k : Nat) : Int) := by rw [IntKind.wrap_i64]; omega
      have hw3 : IntKind.i64.wrap (128 * (k : Int) + 128) = 128 * (k : Int) + 128 := by rw [IntKind.wrap_i64]; omega
      obtain ⟨ca, cc, rfl⟩ := row_len hst.rd.cac
      obtain ⟨M, HM⟩ : ∃ M, Hid (M = (S.op2.adds (8 * pg) zs k).ws.length) := ⟨_, rfl⟩
      have hMk : M ≤ 999999 := by rw [HM.out, DS.adds_len]; have := Hf.out; show S.ws.length + k ≤ _; omega
      have HSt := hide hst
      rw [← HM.out] at HSt
      have c1 : wr.cell? ⟨p, 1, none⟩ = some (.slice ca M cc) := HSt.out.rd.c 1 _ rfl
      have z1 := HSt.out.rd.fz 1
      clear hst
      have HRr : Hid (Row wr (some ⟨b, off, none⟩) zs) := HRw.out _ _ HH.out.2 HSt.out.mv
      have HMw : Hid ((S.op2.adds (8 * pg) zs k).ws.length = M) := HM.out.symm
      have HSrc : Hid (Src Tryz.prog 1 22 (.slice (some ⟨b, off + 128 * k, none⟩) 128 (cap - 128 * k)) 128 ((sec zs k).map (Value.int .u8)) wr.drew) := by
        refine src_row wr.drew _ 128 _ (sec zs k) (sec_len zs k (by have := HZ.out; omega)) (by intro h; cases h) ?_
        have := HRr.out.within (128 * k) 128 (by have := HZ.out; omega) (by have := HZ.out; omega)
        rw [sec, Nat.mul_comm k 128]
        exact this
      have HLn : Hid (([] : List Int).length + 128 ≤ 140737488355328) := by rw [Hid]; simp
      have HA : Hid (∀ v5 w5, Own w5 v5 ([] ++ sec zs k) → wr.drew.grownBy w5 (Value.ownBlock (.slice none 0 0)) → (∀ g, v5.ownBlock = some g → (Value.slice none 0 0).ownBlock = some g ∨ wr.drew.heap.size ≤ g) → ∃ a5 c5, v5 = .slice a5 128 c5 ∧ w5.cell? ⟨p, 1, none⟩ = some (.slice ca M cc) ∧ w5.frozen? ⟨p, 1, none⟩ = false ∧ (∀ W, Below w5.heap.size w5 W → W.cell? ⟨p, 1, none⟩ = some (.slice ca M cc)) ∧ Hid ((w5.alloc (.cells #[.int .i64 (8 * (pg : Int) + (k : Int)), .slice a5 128 c5] 118)).ownsRow 0 118 2 (.slice ca M cc) M (rwc (S.op2.adds (8 * pg) zs k).ws Cs')) ∧
          Hid (∀ vd w7, w7.ownsRow 0 118 2 vd (M + 1) (rwc (S.op2.adds (8 * pg) zs k).ws Cs' ++ [.int .i64 (8 * (pg : Int) + (k : Int)), .slice a5 128 c5]) → (w5.alloc (.cells #[.int .i64 (8 * (pg : Int) + (k : Int)), .slice a5 128 c5] 118)).grownBy w7 (Value.ownBlock (.slice ca M cc)) → (vd.ownBlock = Value.ownBlock (.slice ca M cc) ∨ vd.ownBlock = some (w5.alloc (.cells #[.int .i64 (8 * (pg : Int) + (k : Int)), .slice a5 128 c5] 118)).heap.size) → ∃ ad cd, vd = .slice ad (M + 1) cd ∧ w7.cell? ⟨p, 1, none⟩ = some (.slice ca M cc) ∧ w7.frozen? ⟨p, 1, none⟩ = false ∧ Wst w'' (w7.setCell ⟨p, 1, none⟩ vd) p vl Ls vc Cs f (S.op2.adds (8 * pg) zs (k + 1)) vd (Cs' ++ [.slice a5 128 c5]))) := by
        intro v5 w5 h1 h2 h3
        have hsl := sec_len zs k (by have := HZ.out; omega)
        obtain ⟨a5, c5, e5, -⟩ := Own.shape h1
        rw [List.nil_append, hsl] at e5
        have hb5 : Below wr.heap.size wr w5 := ⟨h2.os, h2.tape, h2.output, h2.size, fun q hq => h2.block q hq (fun e => by simp [Value.ownBlock] at e)⟩
        have hr5 := HSt.out.rd.below hb5
        have hr6 : ∀ W, Below w5.heap.size w5 W → RD W p vl Ls (.slice ca M cc) Cs' f (S.op2.adds (8 * pg) zs k) := fun W hb => hr5.below hb
        refine ⟨a5, c5, e5, hr5.c 1 _ rfl, hr5.fz 1, fun W hb => (hr6 W hb).c 1 _ rfl, ?_, ?_⟩
        · have := (hr6 _ (below_alloc w5 (.cells #[.int .i64 (8 * (pg : Int) + (k : Int)), .slice a5 128 c5] 118))).cac
          rw [HMw.out] at this
          exact this
        · intro vd w7 g1 g2 g3
          obtain ⟨ad, cd, ed⟩ := row_len g1
          have ec : (8 * (pg : Int) + (k : Int)) = ((8 * pg + k : Nat) : Int) := by omega
          have hpb : w7.heap[p]? = some (.cells (rcells vl (.slice ca M cc) f (S.op2.adds (8 * pg) zs k)) 88 (0, 0)) := by
            have h6 := hr6 _ (below_alloc w5 (.cells #[.int .i64 (8 * (pg : Int) + (k : Int)), .slice a5 128 c5] 118))
            rw [g2.block p (h6.lt p (.inl rfl)) (fun e => (h6.cac_other e.symm).1 rfl)]
            exact h6.blk
          refine ⟨ad, cd, ed, by simp [World.cell?, hpb, rcells], by simp [World.frozen?, hpb], ?_⟩
          rw [DS.adds_succ]
          rw [ec] at g1 g2 g3
          refine HSt.out.push (8 * pg + k) (sec zs k) (by show _ < S.ls.length; omega) hsl (sec_byts HBy.out k) (by rw [HMw.out]; omega) (.slice a5 128 c5) vd w5 w7 hb5 (by rw [← e5]; exact h1) (fun g hg => by rw [← e5] at hg; exact (h3 g hg).elim (fun e => by simp [Value.ownBlock] at e) id) (by rw [HMw.out]; exact g1) g2 g3
      have HNc : Hid (∀ (w5 : World) (y : Value) j u, [Value.int .i64 (8 * (pg : Int) + (k : Int)), y][j]? = some u → (w5.alloc (.cells #[.int .i64 (8 * (pg : Int) + (k : Int)), y] 118)).cell? ((⟨w5.heap.size, 0, none⟩ : Addr).add j) = some u) := fun w5 y j u hu => by
        rw [Addr.add_lit, cell_of_row _ _ (0 + j) _ 118 (0, 0) (heap_alloc_new w5 _)]
        simpa using hu
      have HOne : Hid (∀ (a5 : Option Addr) (c5 : Nat), ∀ u ∈ [Value.int .i64 (8 * (pg : Int) + (k : Int)), .slice a5 128 c5], u.oneCell' = true) := fun a5 c5 u hu => by
        simp only [List.mem_cons, List.not_mem_nil, or_false] at hu
        rcases hu with rfl | rfl <;> rfl
      have HM1 : Hid (M + 1 ≤ maxLen) := by rw [Hid]; unfold maxLen; omega
      have HM2 : Hid ((M + 1) * 32 ≤ 140737488355328) := by rw [Hid]; omega
      have sb1 : (0 : Int) ≤ 128 * (k : Int) := by omega
      have sb2 : 128 * (k : Int) ≤ 128 * (k : Int) + 128 := by omega
      have sb3 : 128 * (k : Int) + 128 ≤ (cap : Int) := by omega
      have t1 : (128 * (k : Int)).toNat = 128 * k := by omega
      have t2 : (128 * (k : Int) + 128).toNat = 128 * k + 128 := by omega
      have t3 : 128 * k + 128 - 128 * k = 128 := by omega
      have t4 : ¬ cap = 128 * k := by omega
      have hbd := build146
      have hkK : k + 1 ≤ 8 := hlt
      clear hkl HRr hcm hlc
      go_wp2
      refine wp_region_noPanic ?_
      refine wp_region_held_drew (S := (fun _ => True)) (by kernel_rfl) trivial (fun _hS => ?_)
      refine wpAnyH_take (i := 0) (oi := { dst := some 38, op := Op.move (Operand.tmp 0), type := 31, pos := "ref.go:125", after := #[], guard := none }) (v := ?v0x1) rfl (by kernel_rfl) (by kernel_rfl) (by kernel_rfl) (fun _ _ _ h => h) (Or.inl ⟨by rfl, ?hy0x1⟩) (by trivial) ?rest0x1
      case hy0x1 => (intro w hSw; (first | (go_simp; with_reducible rfl) | go_simp))
      try simp only [Act.put, List.setIfInBounds_toArray, List.set_cons_zero, List.set_cons_succ]
      refine wpAnyH_take (i := 1) (oi := { dst := some 39, op := Op.move (Operand.tmp 0), type := 31, pos := "ref.go:125", after := #[], guard := none }) (v := ?v1x2) rfl (by kernel_rfl) (by kernel_rfl) (by kernel_rfl) (fun _ _ _ h => h) (Or.inl ⟨by rfl, ?hy1x2⟩) (by trivial) ?rest1x2
      case hy1x2 => (intro w hSw; (first | (go_simp; with_reducible rfl) | go_simp))
      try simp only [Act.put, List.setIfInBounds_toArray, List.set_cons_zero, List.set_cons_succ]
      refine wpAnyH_take (i := 2) (oi := { dst := some 40, op := Op.nilCheck (Operand.tmp 39), type := 0, pos := "ref.go:125", after := #[{ on := 1, ground := Ground.data }], guard := none }) (v := ?v2x3) rfl (by kernel_rfl) (by kernel_rfl) (by kernel_rfl) (fun _ _ _ h => h) (Or.inl ⟨by rfl, ?hy2x3⟩) (by trivial) ?rest2x3
      case hy2x3 => (intro w hSw; (first | (go_simp; with_reducible rfl) | go_simp))
      try simp only [Act.put, List.setIfInBounds_toArray, List.set_cons_zero, List.set_cons_succ]
      refine wpAnyH_take (i := 3) (oi := { dst := some 41, op := Op.fieldAddr 88 (Operand.tmp 40) 1, type := 0, pos := "ref.go:125", after := #[{ on := 2, ground := Ground.data }], guard := none }) (v := ?v3x4) rfl (by kernel_rfl) (by kernel_rfl) (by kernel_rfl) (fun _ _ _ h => h) (Or.inl ⟨by rfl, ?hy3x4⟩) (by trivial) ?rest3x4
      case hy3x4 => (intro w hSw; (first | (go_simp; with_reducible rfl) | go_simp))
      try simp only [Act.put, List.setIfInBounds_toArray, List.set_cons_zero, List.set_cons_succ]
      refine wpAnyH_take (i := 5) (oi := { dst := some 43, op := Op.move (Operand.tmp 1), type := 3, pos := "ref.go:125", after := #[], guard := none }) (v := ?v5x5) rfl (by kernel_rfl) (by kernel_rfl) (by kernel_rfl) (fun _ _ _ h => h) (Or.inl ⟨by rfl, ?hy5x5⟩) (by trivial) ?rest5x5
      case hy5x5 => (intro w hSw; (first | (go_simp; with_reducible rfl) | go_simp))
      try simp only [Act.put, List.setIfInBounds_toArray, List.set_cons_zero, List.set_cons_succ]
      refine wpAnyH_take (i := 6) (oi := { dst := some 44, op := Op.binOp BinOp.mul 3 (Operand.const (Value.int IntKind.i64 8)) (Operand.tmp 43) 3, type := 3, pos := "ref.go:125", after := #[{ on := 5, ground := Ground.data }], guard := none }) (v := ?v6x6) rfl (by kernel_rfl) (by kernel_rfl) (by kernel_rfl) (fun _ _ _ h => h) (Or.inl ⟨by rfl, ?hy6x6⟩) (by trivial) ?rest6x6
      case hy6x6 => (intro w hSw; (first | (go_simp; with_reducible rfl) | go_simp))
      try simp only [Act.put, List.setIfInBounds_toArray, List.set_cons_zero, List.set_cons_succ]
      refine wpAnyH_take (i := 7) (oi := { dst := some 45, op := Op.move (Operand.tmp 8), type := 3, pos := "ref.go:125", after := #[], guard := none }) (v := ?v7x7) rfl (by kernel_rfl) (by kernel_rfl) (by kernel_rfl) (fun _ _ _ h => h) (Or.inl ⟨by rfl, ?hy7x7⟩) (by trivial) ?rest7x7
      case hy7x7 => (intro w hSw; (first | (go_simp; with_reducible rfl) | go_simp))
      try simp only [Act.put, List.setIfInBounds_toArray, List.set_cons_zero, List.set_cons_succ]
      refine wpAnyH_take (i := 8) (oi := { dst := some 46, op := Op.binOp BinOp.add 3 (Operand.tmp 44) (Operand.tmp 45) 3, type := 3, pos := "ref.go:125", after := #[{ on := 6, ground := Ground.data }, { on := 7, ground := Ground.data }], guard := none }) (v := ?v8x8) rfl (by kernel_rfl) (by kernel_rfl) (by kernel_rfl) (fun _ _ _ h => h) (Or.inl ⟨by rfl, ?hy8x8⟩) (by trivial) ?rest8x8
      case hy8x8 => (intro w hSw; (first | (go_simp; with_reducible rfl) | go_simp))
      try simp only [Act.put, List.setIfInBounds_toArray, List.set_cons_zero, List.set_cons_succ]
      refine wpAnyH_take (i := 9) (oi := { dst := some 47, op := Op.move (Operand.tmp 9), type := 22, pos := "ref.go:125", after := #[], guard := none }) (v := ?v9x9) rfl (by kernel_rfl) (by kernel_rfl) (by kernel_rfl) (fun _ _ _ h => h) (Or.inl ⟨by rfl, ?hy9x9⟩) (by trivial) ?rest9x9
      case hy9x9 => (intro w hSw; (first | (go_simp; with_reducible rfl) | go_simp))
      try simp only [Act.put, List.setIfInBounds_toArray, List.set_cons_zero, List.set_cons_succ]
      refine wpAnyH_take (i := 10) (oi := { dst := some 48, op := Op.move (Operand.tmp 2), type := 22, pos := "ref.go:125", after := #[], guard := none }) (v := ?v10x10) rfl (by kernel_rfl) (by kernel_rfl) (by kernel_rfl) (fun _ _ _ h => h) (Or.inl ⟨by rfl, ?hy10x10⟩) (by trivial) ?rest10x10
      case hy10x10 => (intro w hSw; (first | (go_simp; with_reducible rfl) | go_simp))
      try simp only [Act.put, List.setIfInBounds_toArray, List.set_cons_zero, List.set_cons_succ]
      refine wpAnyH_take (i := 11) (oi := { dst := some 49, op := Op.move (Operand.tmp 8), type := 3, pos := "ref.go:125", after := #[], guard := none }) (v := ?v11x11) rfl (by kernel_rfl) (by kernel_rfl) (by kernel_rfl) (fun _ _ _ h => h) (Or.inl ⟨by rfl, ?hy11x11⟩) (by trivial) ?rest11x11
      case hy11x11 => (intro w hSw; (first | (go_simp; with_reducible rfl) | go_simp))
      try simp only [Act.put, List.setIfInBounds_toArray, List.set_cons_zero, List.set_cons_succ]
      refine wpAnyH_take (i := 12) (oi := { dst := some 50, op := Op.binOp BinOp.mul 3 (Operand.const (Value.int IntKind.i64 128)) (Operand.tmp 49) 3, type := 3, pos := "ref.go:125", after := #[{ on := 11, ground := Ground.data }], guard := none }) (v := ?v12x12) rfl (by kernel_rfl) (by kernel_rfl) (by kernel_rfl) (fun _ _ _ h => h) (Or.inl ⟨by rfl, ?hy12x12⟩) (by trivial) ?rest12x12
      case hy12x12 => (intro w hSw; (first | (go_simp; with_reducible rfl) | go_simp))
      try simp only [Act.put, List.setIfInBounds_toArray, List.set_cons_zero, List.set_cons_succ]
      refine wpAnyH_take (i := 13) (oi := { dst := some 51, op := Op.move (Operand.tmp 8), type := 3, pos := "ref.go:125", after := #[], guard := none }) (v := ?v13x13) rfl (by kernel_rfl) (by kernel_rfl) (by kernel_rfl) (fun _ _ _ h => h) (Or.inl ⟨by rfl, ?hy13x13⟩) (by trivial) ?rest13x13
      case hy13x13 => (intro w hSw; (first | (go_simp; with_reducible rfl) | go_simp))
      try simp only [Act.put, List.setIfInBounds_toArray, List.set_cons_zero, List.set_cons_succ]
      refine wpAnyH_take (i := 14) (oi := { dst := some 52, op := Op.binOp BinOp.mul 3 (Operand.const (Value.int IntKind.i64 128)) (Operand.tmp 51) 3, type := 3, pos := "ref.go:125", after := #[{ on := 13, ground := Ground.data }], guard := none }) (v := ?v14x14) rfl (by kernel_rfl) (by kernel_rfl) (by kernel_rfl) (fun _ _ _ h => h) (Or.inl ⟨by rfl, ?hy14x14⟩) (by trivial) ?rest14x14
      case hy14x14 => (intro w hSw; (first | (go_simp; with_reducible rfl) | go_simp))
      try simp only [Act.put, List.setIfInBounds_toArray, List.set_cons_zero, List.set_cons_succ]
      refine wpAnyH_take (i := 15) (oi := { dst := some 53, op := Op.binOp BinOp.add 3 (Operand.tmp 52) (Operand.const (Value.int IntKind.i64 128)) 3, type := 3, pos := "ref.go:125", after := #[{ on := 14, ground := Ground.data }], guard := none }) (v := ?v15x15) rfl (by kernel_rfl) (by kernel_rfl) (by kernel_rfl) (fun _ _ _ h => h) (Or.inl ⟨by rfl, ?hy15x15⟩) (by trivial) ?rest15x15
      case hy15x15 => (intro w hSw; (first | (go_simp; with_reducible rfl) | go_simp))
      try simp only [Act.put, List.setIfInBounds_toArray, List.set_cons_zero, List.set_cons_succ]
      refine wpAnyH_take (i := 16) (oi := { dst := some 54, op := Op.slice 22 (Operand.tmp 48) (some (Operand.tmp 50)) (some (Operand.tmp 53)) none, type := 22, pos := "ref.go:125", after := #[{ on := 10, ground := Ground.data }, { on := 12, ground := Ground.data }, { on := 15, ground := Ground.data }], guard := none }) (v := ?v16x16) rfl (by kernel_rfl) (by kernel_rfl) (by kernel_rfl) (fun _ _ _ h => h) (Or.inl ⟨by rfl, ?hy16x16⟩) (by trivial) ?rest16x16
      case hy16x16 => (intro w hSw; (first | (go_simp; with_reducible rfl) | go_simp))
      try simp only [Act.put, List.setIfInBounds_toArray, List.set_cons_zero, List.set_cons_succ]
      refine wpAnyH_ready (rs := [4, 17]) (by kernel_rfl) (by simp) ?_
      refine AllReadyH.cons (o := { dst := some 42, op := Op.load 85 (Operand.tmp 41), type := 85, pos := "ref.go:125", after := #[{ on := 3, ground := Ground.data }], guard := none }) rfl (fun K hK => ?_) (AllReadyH.cons (o := { dst := some 55, op := Op.call { callee := Callee.builtin Builtin.append, args := #[Operand.tmp 47, Operand.tmp 54], argTypes := #[22, 22] }, type := 22, pos := "ref.go:125", after := #[{ on := 9, ground := Ground.data }, { on := 16, ground := Ground.data }], guard := none }) rfl (fun K hK => ?_) AllReadyH.nil)
      · go_simp
        refine hK.out _ _ trivial (fun _hS => ?_)
        clear hK K
        try simp only [Act.put, List.setIfInBounds_toArray, List.set_cons_zero, List.set_cons_succ]
        refine wpAnyH_ready (rs := [17]) (by kernel_rfl) (by simp) ?_
        refine AllReadyH.cons (o := { dst := some 55, op := Op.call { callee := Callee.builtin Builtin.append, args := #[Operand.tmp 47, Operand.tmp 54], argTypes := #[22, 22] }, type := 22, pos := "ref.go:125", after := #[{ on := 9, ground := Ground.data }, { on := 16, ground := Ground.data }], guard := none }) rfl (fun K hK => ?_) AllReadyH.nil
        refine step_of rfl ?_
        refine wp_append_src (.tmp 47) (.tmp 54) 22 22 rfl i0 Tryz.underlying22 hi hz0 hz1 hz2 (.slice none 0 0) [] rfl (Own.nil _) (.slice (some ⟨b, off + 128 * k, none⟩) 128 (cap - 128 * k)) 128 (sec zs k) rfl HSrc.out HLn.out ?_
        intro v5 w5 ho5 hg5 hf5
        obtain ⟨a5, c5, rfl, x5, z5, x6, HO6, HE6⟩ := HA.out v5 w5 ho5 hg5 hf5
        have x7 := x6 _ (below_alloc w5 (.cells #[.int .i64 (8 * (pg : Int) + (k : Int)), .slice a5 128 c5] 118))
        clear ho5 hg5 hf5 x6
        refine hK.out _ _ trivial (fun _hS => ?_)
        clear hK K
        try simp only [Act.put, List.setIfInBounds_toArray, List.set_cons_zero, List.set_cons_succ]
        refine wpAnyH_take (i := 18) (oi := { dst := some 56, op := Op.build 118 #[(0, Operand.tmp 46), (1, Operand.tmp 55)], type := 118, pos := "ref.go:125", after := #[{ on := 8, ground := Ground.data }, { on := 17, ground := Ground.data }], guard := none }) (v := ?v18x17) rfl (by kernel_rfl) (by kernel_rfl) (by kernel_rfl) (fun _ _ _ h => h) (Or.inl ⟨by rfl, ?hy18x17⟩) (by trivial) ?rest18x17
        case hy18x17 => (intro w hSw; (first | (go_simp; with_reducible rfl) | go_simp))
        try simp only [Act.put, List.setIfInBounds_toArray, List.set_cons_zero, List.set_cons_succ]
        refine wpAnyH_ready (rs := [19]) (by kernel_rfl) (by simp) ?_
        refine AllReadyH.cons (o := { dst := some 57, op := Op.buildSlice 85 1 #[(0, Operand.tmp 56)], type := 85, pos := "ref.go:125", after := #[{ on := 18, ground := Ground.data }], guard := none }) rfl (fun K hK => ?_) AllReadyH.nil
        go_simp
        refine hK.out _ _ trivial (fun _hS => ?_)
        clear hK K
        try simp only [Act.put, List.setIfInBounds_toArray, List.set_cons_zero, List.set_cons_succ]
        refine wpAnyH_ready (rs := [20]) (by kernel_rfl) (by simp) ?_
        refine AllReadyH.cons (o := { dst := some 58, op := Op.call { callee := Callee.builtin Builtin.append, args := #[Operand.tmp 42, Operand.tmp 57], argTypes := #[85, 85] }, type := 85, pos := "ref.go:125", after := #[{ on := 4, ground := Ground.data }, { on := 19, ground := Ground.data }, { on := 17, ground := Ground.chain }], guard := none }) rfl (fun K hK => ?_) AllReadyH.nil
        refine step_of rfl ?_
        refine wp_append_at (.tmp 42) (.tmp 57) 85 118 rfl 0 i1 (.agg #[.int .i64 0, .slice none 0 0]) 2 32 Tryz.underlying85 hj hy0 hy1 hy2 rfl (by omega) (.slice ca M cc) M _ rfl HO6.out ⟨w5.heap.size, 0, none⟩ 1 1 [.int .i64 (8 * (pg : Int) + (k : Int)), .slice a5 128 c5] rfl rfl (HNc.out w5 _) (HOne.out a5 c5) HM1.out HM2.out (Nat.zero_le _) ?_
        intro vd w7 h7 hg7 hl7
        obtain ⟨ad, cd, rfl, x8, z8, hfin⟩ := HE6.out vd w7 h7 hg7 hl7
        have HFin := hide hfin
        clear h7 hg7 hl7 hfin
        refine hK.out _ _ trivial (fun _hS => ?_)
        clear hK K
        try simp only [Act.put, List.setIfInBounds_toArray, List.set_cons_zero, List.set_cons_succ]
        refine wpAnyH_take (i := 21) (oi := { dst := some 59, op := Op.nilCheck (Operand.tmp 38), type := 0, pos := "ref.go:125", after := #[{ on := 0, ground := Ground.data }, { on := 0, ground := Ground.phase }, { on := 1, ground := Ground.phase }, { on := 2, ground := Ground.phase }, { on := 3, ground := Ground.phase }, { on := 4, ground := Ground.phase }, { on := 5, ground := Ground.phase }, { on := 6, ground := Ground.phase }, { on := 7, ground := Ground.phase }, { on := 8, ground := Ground.phase }, { on := 9, ground := Ground.phase }, { on := 10, ground := Ground.phase }, { on := 11, ground := Ground.phase }, { on := 12, ground := Ground.phase }, { on := 13, ground := Ground.phase }, { on := 14, ground := Ground.phase }, { on := 15, ground := Ground.phase }, { on := 16, ground := Ground.phase }, { on := 17, ground := Ground.phase }, { on := 18, ground := Ground.phase }, { on := 19, ground := Ground.phase }, { on := 20, ground := Ground.phase }], guard := none }) (v := ?v21x18) rfl (by kernel_rfl) (by kernel_rfl) (by kernel_rfl) (fun _ _ _ h => h) (Or.inl ⟨by rfl, ?hy21x18⟩) (by trivial) ?rest21x18
        case hy21x18 => (intro w hSw; (first | (go_simp; with_reducible rfl) | go_simp))
        try simp only [Act.put, List.setIfInBounds_toArray, List.set_cons_zero, List.set_cons_succ]
        refine wpAnyH_take (i := 22) (oi := { dst := some 60, op := Op.fieldAddr 88 (Operand.tmp 59) 1, type := 0, pos := "ref.go:125", after := #[{ on := 21, ground := Ground.data }, { on := 0, ground := Ground.phase }, { on := 1, ground := Ground.phase }, { on := 2, ground := Ground.phase }, { on := 3, ground := Ground.phase }, { on := 4, ground := Ground.phase }, { on := 5, ground := Ground.phase }, { on := 6, ground := Ground.phase }, { on := 7, ground := Ground.phase }, { on := 8, ground := Ground.phase }, { on := 9, ground := Ground.phase }, { on := 10, ground := Ground.phase }, { on := 11, ground := Ground.phase }, { on := 12, ground := Ground.phase }, { on := 13, ground := Ground.phase }, { on := 14, ground := Ground.phase }, { on := 15, ground := Ground.phase }, { on := 16, ground := Ground.phase }, { on := 17, ground := Ground.phase }, { on := 18, ground := Ground.phase }, { on := 19, ground := Ground.phase }, { on := 20, ground := Ground.phase }], guard := none }) (v := ?v22x19) rfl (by kernel_rfl) (by kernel_rfl) (by kernel_rfl) (fun _ _ _ h => h) (Or.inl ⟨by rfl, ?hy22x19⟩) (by trivial) ?rest22x19
        case hy22x19 => (intro w hSw; (first | (go_simp; with_reducible rfl) | go_simp))
        try simp only [Act.put, List.setIfInBounds_toArray, List.set_cons_zero, List.set_cons_succ]
        refine wpAnyH_ready (rs := [23]) (by kernel_rfl) (by simp) ?_
        refine AllReadyH.cons (o := { dst := none, op := Op.store 85 (Operand.tmp 60) (Operand.tmp 58), type := 0, pos := "ref.go:125", after := #[{ on := 22, ground := Ground.data }, { on := 20, ground := Ground.data }, { on := 20, ground := Ground.chain }, { on := 0, ground := Ground.phase }, { on := 1, ground := Ground.phase }, { on := 2, ground := Ground.phase }, { on := 3, ground := Ground.phase }, { on := 4, ground := Ground.phase }, { on := 5, ground := Ground.phase }, { on := 6, ground := Ground.phase }, { on := 7, ground := Ground.phase }, { on := 8, ground := Ground.phase }, { on := 9, ground := Ground.phase }, { on := 10, ground := Ground.phase }, { on := 11, ground := Ground.phase }, { on := 12, ground := Ground.phase }, { on := 13, ground := Ground.phase }, { on := 14, ground := Ground.phase }, { on := 15, ground := Ground.phase }, { on := 16, ground := Ground.phase }, { on := 17, ground := Ground.phase }, { on := 18, ground := Ground.phase }, { on := 19, ground := Ground.phase }, { on := 20, ground := Ground.phase }], guard := none }) rfl (fun K hK => ?_) AllReadyH.nil
        go_simp
        refine hK.out _ _ trivial (fun _hS => ?_)
        clear hK K
        try simp only [Act.put, List.setIfInBounds_toArray, List.set_cons_zero, List.set_cons_succ]
        refine wpAnyH_done (by kernel_rfl) ?_ _
        refine NoPanic.normal ?_
        go_wp2
        go_roundw
        case rel => exact ⟨k + 1, _, _, hkK, by simp, HFin.out⟩
        case measure => simp [intOf]; omega
      · refine step_of rfl ?_
        refine wp_append_src (.tmp 47) (.tmp 54) 22 22 rfl i0 Tryz.underlying22 hi hz0 hz1 hz2 (.slice none 0 0) [] rfl (Own.nil _) (.slice (some ⟨b, off + 128 * k, none⟩) 128 (cap - 128 * k)) 128 (sec zs k) rfl HSrc.out HLn.out ?_
        intro v5 w5 ho5 hg5 hf5
        obtain ⟨a5, c5, rfl, x5, z5, x6, HO6, HE6⟩ := HA.out v5 w5 ho5 hg5 hf5
        have x7 := x6 _ (below_alloc w5 (.cells #[.int .i64 (8 * (pg : Int) + (k : Int)), .slice a5 128 c5] 118))
        clear ho5 hg5 hf5 x6
        refine hK.out _ _ trivial (fun _hS => ?_)
        clear hK K
        try simp only [Act.put, List.setIfInBounds_toArray, List.set_cons_zero, List.set_cons_succ]
        refine wpAnyH_take (i := 18) (oi := { dst := some 56, op := Op.build 118 #[(0, Operand.tmp 46), (1, Operand.tmp 55)], type := 118, pos := "ref.go:125", after := #[{ on := 8, ground := Ground.data }, { on := 17, ground := Ground.data }], guard := none }) (v := ?v18x20) rfl (by kernel_rfl) (by kernel_rfl) (by kernel_rfl) (fun _ _ _ h => h) (Or.inl ⟨by rfl, ?hy18x20⟩) (by trivial) ?rest18x20
        case hy18x20 => (intro w hSw; (first | (go_simp; with_reducible rfl) | go_simp))
        try simp only [Act.put, List.setIfInBounds_toArray, List.set_cons_zero, List.set_cons_succ]
        refine wpAnyH_ready (rs := [4, 19]) (by kernel_rfl) (by simp) ?_
        refine AllReadyH.cons (o := { dst := some 42, op := Op.load 85 (Operand.tmp 41), type := 85, pos := "ref.go:125", after := #[{ on := 3, ground := Ground.data }], guard := none }) rfl (fun K hK => ?_) (AllReadyH.cons (o := { dst := some 57, op := Op.buildSlice 85 1 #[(0, Operand.tmp 56)], type := 85, pos := "ref.go:125", after := #[{ on := 18, ground := Ground.data }], guard := none }) rfl (fun K hK => ?_) AllReadyH.nil)
        · go_simp
          refine hK.out _ _ trivial (fun _hS => ?_)
          clear hK K
          try simp only [Act.put, List.setIfInBounds_toArray, List.set_cons_zero, List.set_cons_succ]
          refine wpAnyH_ready (rs := [19]) (by kernel_rfl) (by simp) ?_
          refine AllReadyH.cons (o := { dst := some 57, op := Op.buildSlice 85 1 #[(0, Operand.tmp 56)], type := 85, pos := "ref.go:125", after := #[{ on := 18, ground := Ground.data }], guard := none }) rfl (fun K hK => ?_) AllReadyH.nil
          go_simp
          refine hK.out _ _ trivial (fun _hS => ?_)
          clear hK K
          try simp only [Act.put, List.setIfInBounds_toArray, List.set_cons_zero, List.set_cons_succ]
          refine wpAnyH_ready (rs := [20]) (by kernel_rfl) (by simp) ?_
          refine AllReadyH.cons (o := { dst := some 58, op := Op.call { callee := Callee.builtin Builtin.append, args := #[Operand.tmp 42, Operand.tmp 57], argTypes := #[85, 85] }, type := 85, pos := "ref.go:125", after := #[{ on := 4, ground := Ground.data }, { on := 19, ground := Ground.data }, { on := 17, ground := Ground.chain }], guard := none }) rfl (fun K hK => ?_) AllReadyH.nil
          refine step_of rfl ?_
          refine wp_append_at (.tmp 42) (.tmp 57) 85 118 rfl 0 i1 (.agg #[.int .i64 0, .slice none 0 0]) 2 32 Tryz.underlying85 hj hy0 hy1 hy2 rfl (by omega) (.slice ca M cc) M _ rfl HO6.out ⟨w5.heap.size, 0, none⟩ 1 1 [.int .i64 (8 * (pg : Int) + (k : Int)), .slice a5 128 c5] rfl rfl (HNc.out w5 _) (HOne.out a5 c5) HM1.out HM2.out (Nat.zero_le _) ?_
          intro vd w7 h7 hg7 hl7
          obtain ⟨ad, cd, rfl, x8, z8, hfin⟩ := HE6.out vd w7 h7 hg7 hl7
          have HFin := hide hfin
          clear h7 hg7 hl7 hfin
          refine hK.out _ _ trivial (fun _hS => ?_)
          clear hK K
          try simp only [Act.put, List.setIfInBounds_toArray, List.set_cons_zero, List.set_cons_succ]
          refine wpAnyH_take (i := 21) (oi := { dst := some 59, op := Op.nilCheck (Operand.tmp 38), type := 0, pos := "ref.go:125", after := #[{ on := 0, ground := Ground.data }, { on := 0, ground := Ground.phase }, { on := 1, ground := Ground.phase }, { on := 2, ground := Ground.phase }, { on := 3, ground := Ground.phase }, { on := 4, ground := Ground.phase }, { on := 5, ground := Ground.phase }, { on := 6, ground := Ground.phase }, { on := 7, ground := Ground.phase }, { on := 8, ground := Ground.phase }, { on := 9, ground := Ground.phase }, { on := 10, ground := Ground.phase }, { on := 11, ground := Ground.phase }, { on := 12, ground := Ground.phase }, { on := 13, ground := Ground.phase }, { on := 14, ground := Ground.phase }, { on := 15, ground := Ground.phase }, { on := 16, ground := Ground.phase }, { on := 17, ground := Ground.phase }, { on := 18, ground := Ground.phase }, { on := 19, ground := Ground.phase }, { on := 20, ground := Ground.phase }], guard := none }) (v := ?v21x21) rfl (by kernel_rfl) (by kernel_rfl) (by kernel_rfl) (fun _ _ _ h => h) (Or.inl ⟨by rfl, ?hy21x21⟩) (by trivial) ?rest21x21
          case hy21x21 => (intro w hSw; (first | (go_simp; with_reducible rfl) | go_simp))
          try simp only [Act.put, List.setIfInBounds_toArray, List.set_cons_zero, List.set_cons_succ]
          refine wpAnyH_take (i := 22) (oi := { dst := some 60, op := Op.fieldAddr 88 (Operand.tmp 59) 1, type := 0, pos := "ref.go:125", after := #[{ on := 21, ground := Ground.data }, { on := 0, ground := Ground.phase }, { on := 1, ground := Ground.phase }, { on := 2, ground := Ground.phase }, { on := 3, ground := Ground.phase }, { on := 4, ground := Ground.phase }, { on := 5, ground := Ground.phase }, { on := 6, ground := Ground.phase }, { on := 7, ground := Ground.phase }, { on := 8, ground := Ground.phase }, { on := 9, ground := Ground.phase }, { on := 10, ground := Ground.phase }, { on := 11, ground := Ground.phase }, { on := 12, ground := Ground.phase }, { on := 13, ground := Ground.phase }, { on := 14, ground := Ground.phase }, { on := 15, ground := Ground.phase }, { on := 16, ground := Ground.phase }, { on := 17, ground := Ground.phase }, { on := 18, ground := Ground.phase }, { on := 19, ground := Ground.phase }, { on := 20, ground := Ground.phase }], guard := none }) (v := ?v22x22) rfl (by kernel_rfl) (by kernel_rfl) (by kernel_rfl) (fun _ _ _ h => h) (Or.inl ⟨by rfl, ?hy22x22⟩) (by trivial) ?rest22x22
          case hy22x22 => (intro w hSw; (first | (go_simp; with_reducible rfl) | go_simp))
          try simp only [Act.put, List.setIfInBounds_toArray, List.set_cons_zero, List.set_cons_succ]
          refine wpAnyH_ready (rs := [23]) (by kernel_rfl) (by simp) ?_
          refine AllReadyH.cons (o := { dst := none, op := Op.store 85 (Operand.tmp 60) (Operand.tmp 58), type := 0, pos := "ref.go:125", after := #[{ on := 22, ground := Ground.data }, { on := 20, ground := Ground.data }, { on := 20, ground := Ground.chain }, { on := 0, ground := Ground.phase }, { on := 1, ground := Ground.phase }, { on := 2, ground := Ground.phase }, { on := 3, ground := Ground.phase }, { on := 4, ground := Ground.phase }, { on := 5, ground := Ground.phase }, { on := 6, ground := Ground.phase }, { on := 7, ground := Ground.phase }, { on := 8, ground := Ground.phase }, { on := 9, ground := Ground.phase }, { on := 10, ground := Ground.phase }, { on := 11, ground := Ground.phase }, { on := 12, ground := Ground.phase }, { on := 13, ground := Ground.phase }, { on := 14, ground := Ground.phase }, { on := 15, ground := Ground.phase }, { on := 16, ground := Ground.phase }, { on := 17, ground := Ground.phase }, { on := 18, ground := Ground.phase }, { on := 19, ground := Ground.phase }, { on := 20, ground := Ground.phase }], guard := none }) rfl (fun K hK => ?_) AllReadyH.nil
          go_simp
          refine hK.out _ _ trivial (fun _hS => ?_)
          clear hK K
          try simp only [Act.put, List.setIfInBounds_toArray, List.set_cons_zero, List.set_cons_succ]
          refine wpAnyH_done (by kernel_rfl) ?_ _
          refine NoPanic.normal ?_
          go_wp2
          go_roundw
          case rel => exact ⟨k + 1, _, _, hkK, by simp, HFin.out⟩
          case measure => simp [intOf]; omega
        · go_simp
          refine hK.out _ _ trivial (fun _hS => ?_)
          clear hK K
          try simp only [Act.put, List.setIfInBounds_toArray, List.set_cons_zero, List.set_cons_succ]
          refine wpAnyH_ready (rs := [4]) (by kernel_rfl) (by simp) ?_
          refine AllReadyH.cons (o := { dst := some 42, op := Op.load 85 (Operand.tmp 41), type := 85, pos := "ref.go:125", after := #[{ on := 3, ground := Ground.data }], guard := none }) rfl (fun K hK => ?_) AllReadyH.nil
          go_simp
          refine hK.out _ _ trivial (fun _hS => ?_)
          clear hK K
          try simp only [Act.put, List.setIfInBounds_toArray, List.set_cons_zero, List.set_cons_succ]
          refine wpAnyH_ready (rs := [20]) (by kernel_rfl) (by simp) ?_
          refine AllReadyH.cons (o := { dst := some 58, op := Op.call { callee := Callee.builtin Builtin.append, args := #[Operand.tmp 42, Operand.tmp 57], argTypes := #[85, 85] }, type := 85, pos := "ref.go:125", after := #[{ on := 4, ground := Ground.data }, { on := 19, ground := Ground.data }, { on := 17, ground := Ground.chain }], guard := none }) rfl (fun K hK => ?_) AllReadyH.nil
          refine step_of rfl ?_
          refine wp_append_at (.tmp 42) (.tmp 57) 85 118 rfl 0 i1 (.agg #[.int .i64 0, .slice none 0 0]) 2 32 Tryz.underlying85 hj hy0 hy1 hy2 rfl (by omega) (.slice ca M cc) M _ rfl HO6.out ⟨w5.heap.size, 0, none⟩ 1 1 [.int .i64 (8 * (pg : Int) + (k : Int)), .slice a5 128 c5] rfl rfl (HNc.out w5 _) (HOne.out a5 c5) HM1.out HM2.out (Nat.zero_le _) ?_
          intro vd w7 h7 hg7 hl7
          obtain ⟨ad, cd, rfl, x8, z8, hfin⟩ := HE6.out vd w7 h7 hg7 hl7
          have HFin := hide hfin
          clear h7 hg7 hl7 hfin
          refine hK.out _ _ trivial (fun _hS => ?_)
          clear hK K
          try simp only [Act.put, List.setIfInBounds_toArray, List.set_cons_zero, List.set_cons_succ]
          refine wpAnyH_take (i := 21) (oi := { dst := some 59, op := Op.nilCheck (Operand.tmp 38), type := 0, pos := "ref.go:125", after := #[{ on := 0, ground := Ground.data }, { on := 0, ground := Ground.phase }, { on := 1, ground := Ground.phase }, { on := 2, ground := Ground.phase }, { on := 3, ground := Ground.phase }, { on := 4, ground := Ground.phase }, { on := 5, ground := Ground.phase }, { on := 6, ground := Ground.phase }, { on := 7, ground := Ground.phase }, { on := 8, ground := Ground.phase }, { on := 9, ground := Ground.phase }, { on := 10, ground := Ground.phase }, { on := 11, ground := Ground.phase }, { on := 12, ground := Ground.phase }, { on := 13, ground := Ground.phase }, { on := 14, ground := Ground.phase }, { on := 15, ground := Ground.phase }, { on := 16, ground := Ground.phase }, { on := 17, ground := Ground.phase }, { on := 18, ground := Ground.phase }, { on := 19, ground := Ground.phase }, { on := 20, ground := Ground.phase }], guard := none }) (v := ?v21x23) rfl (by kernel_rfl) (by kernel_rfl) (by kernel_rfl) (fun _ _ _ h => h) (Or.inl ⟨by rfl, ?hy21x23⟩) (by trivial) ?rest21x23
          case hy21x23 => (intro w hSw; (first | (go_simp; with_reducible rfl) | go_simp))
          try simp only [Act.put, List.setIfInBounds_toArray, List.set_cons_zero, List.set_cons_succ]
          refine wpAnyH_take (i := 22) (oi := { dst := some 60, op := Op.fieldAddr 88 (Operand.tmp 59) 1, type := 0, pos := "ref.go:125", after := #[{ on := 21, ground := Ground.data }, { on := 0, ground := Ground.phase }, { on := 1, ground := Ground.phase }, { on := 2, ground := Ground.phase }, { on := 3, ground := Ground.phase }, { on := 4, ground := Ground.phase }, { on := 5, ground := Ground.phase }, { on := 6, ground := Ground.phase }, { on := 7, ground := Ground.phase }, { on := 8, ground := Ground.phase }, { on := 9, ground := Ground.phase }, { on := 10, ground := Ground.phase }, { on := 11, ground := Ground.phase }, { on := 12, ground := Ground.phase }, { on := 13, ground := Ground.phase }, { on := 14, ground := Ground.phase }, { on := 15, ground := Ground.phase }, { on := 16, ground := Ground.phase }, { on := 17, ground := Ground.phase }, { on := 18, ground := Ground.phase }, { on := 19, ground := Ground.phase }, { on := 20, ground := Ground.phase }], guard := none }) (v := ?v22x24) rfl (by kernel_rfl) (by kernel_rfl) (by kernel_rfl) (fun _ _ _ h => h) (Or.inl ⟨by rfl, ?hy22x24⟩) (by trivial) ?rest22x24
          case hy22x24 => (intro w hSw; (first | (go_simp; with_reducible rfl) | go_simp))
          try simp only [Act.put, List.setIfInBounds_toArray, List.set_cons_zero, List.set_cons_succ]
          refine wpAnyH_ready (rs := [23]) (by kernel_rfl) (by simp) ?_
          refine AllReadyH.cons (o := { dst := none, op := Op.store 85 (Operand.tmp 60) (Operand.tmp 58), type := 0, pos := "ref.go:125", after := #[{ on := 22, ground := Ground.data }, { on := 20, ground := Ground.data }, { on := 20, ground := Ground.chain }, { on := 0, ground := Ground.phase }, { on := 1, ground := Ground.phase }, { on := 2, ground := Ground.phase }, { on := 3, ground := Ground.phase }, { on := 4, ground := Ground.phase }, { on := 5, ground := Ground.phase }, { on := 6, ground := Ground.phase }, { on := 7, ground := Ground.phase }, { on := 8, ground := Ground.phase }, { on := 9, ground := Ground.phase }, { on := 10, ground := Ground.phase }, { on := 11, ground := Ground.phase }, { on := 12, ground := Ground.phase }, { on := 13, ground := Ground.phase }, { on := 14, ground := Ground.phase }, { on := 15, ground := Ground.phase }, { on := 16, ground := Ground.phase }, { on := 17, ground := Ground.phase }, { on := 18, ground := Ground.phase }, { on := 19, ground := Ground.phase }, { on := 20, ground := Ground.phase }], guard := none }) rfl (fun K hK => ?_) AllReadyH.nil
          go_simp
          refine hK.out _ _ trivial (fun _hS => ?_)
          clear hK K
          try simp only [Act.put, List.setIfInBounds_toArray, List.set_cons_zero, List.set_cons_succ]
          refine wpAnyH_done (by kernel_rfl) ?_ _
          refine NoPanic.normal ?_
          go_wp2
          go_roundw
          case rel => exact ⟨k + 1, _, _, hkK, by simp, HFin.out⟩
          case measure => simp [intOf]; omega
    · have e : k = 8 := by omega
      subst e
      have hcc : decide (128 * ((8 : Nat) : Int) < 1024) = false := by simp
      have HE := hide hst
      clear hst
      go_wp2
      go_ret
      exact ⟨rfl, w'', _, _, HH.out.2, HE.out⟩
set_option maxHeartbeats 3200000 in
set_option maxRecDepth 1000000 in
theorem rwrite_128 (h : RD w p vl Ls vc Cs f S) (pg : Nat) (b off cap : Nat) (zs : List Int) (hn : S.n2 + 1 ≤ 1000000) (he : S.er S.s2 S.l2 = 0) (hpg : pg < S.ls.length / 8) (hr : Row w (some ⟨b, off, none⟩) zs) (hz : zs.length = 128) (hby : Byts zs) (hlc : 128 ≤ cap) (hcm : cap ≤ 9223372036854775807) (hbp : b ≠ p ∧ b ≠ f ∧ vc.ownBlock ≠ some b) (hbl : b < w.heap.size) (hf : S.ws.length + 8 ≤ 1000000) :
    Calls Tryz.prog 9 #[.pointer (some ⟨p, 0, none⟩), .int .i64 (pg : Int), .slice (some ⟨b, off, none⟩) 128 cap] w fun e w' => e = .returned (.int .u16 0) ∧ ∃ wa vc' Cs', Mv (fun k => k = p ∨ k = f) w wa ∧ Wst wa w' p vl Ls vc Cs f (S.op2.adds (8 * pg) zs 1) vc' Cs' := by
  have HB := hide (begins2 h hn)
  rw [he, be_zero he] at HB
  obtain ⟨N, HN⟩ : ∃ N, Hid (N = S.ls.length / 8) := ⟨_, rfl⟩
  have hd0 : decide ((pg : Int) < 0) = false := by simp
  have hpN : pg < N := by rw [HN.out]; exact hpg
  have hN8 : N ≤ 16384 := by have := h.good.most; rw [HN.out]; omega
  have hd1 : decide (N ≤ pg) = false := by simp; omega
  have HZ := hide hz
  have HBy := hide hby
  have HRw : Hid (∀ wa wr, Mv (fun k => k = p ∨ k = f) w wa → Mv (fun k => k = p ∨ vc.ownBlock = some k) wa wr → Row wr (some ⟨b, off, none⟩) zs) := fun wa wr h1 h2 =>
    h2.row (h1.row hr (fun hx => hx.elim hbp.1 hbp.2.1)) (fun hx => hx.elim hbp.1 (fun e => hbp.2.2 e))
  have Hf := hide hf
  clear h hn he hpg hr hz hby hbp hbl hf
  go_enter Tryz.func9, Tryz.ntmps9
  go_wp2_with fail
  refine HB.out.mono ?_
  rintro e wa ⟨rfl, hh⟩
  have HH := hide hh
  have HP := hide (rpages_any hh.1)
  rw [show S.op2.ls = S.ls from rfl, ← HN.out] at HP
  clear hh
  go_wp2_with fail
  refine HP.out.mono ?_
  rintro e w'' ⟨rfl, rfl⟩
  obtain ⟨i0, hi, hz0, hz1, hz2⟩ := info_parts Tryz.info5
  obtain ⟨i1, hj, hy0, hy1, hy2⟩ := info_parts info146
  go_wp2
  go_loopw [8] (fun i wr' => ∃ k vc' Cs', k ≤ 1 ∧ i = .int .i64 ((k : Nat) : Int) ∧ Wst w'' wr' p vl Ls vc Cs f (S.op2.adds (8 * pg) zs k) vc' Cs') (fun i _ => 1 - (intOf i).toNat)
  case atStart => exact ⟨0, vc, Cs, Nat.zero_le _, rfl, by rw [DS.adds_zero]; exact Wst.start HH.out.1⟩
  case round =>
    obtain ⟨k, vc', Cs', hk, rfl, hst⟩ := hrel
    by_cases hlt : k < 1
    · have hkl : 8 * pg + k < S.ls.length := by have := HN.out; omega
      have hcd : IntKind.i64.wrap (128 * (k : Int)) = 128 * (k : Int) := by rw [IntKind.wrap_i64]; omega
      have hcc : decide (128 * (k : Int) < 128) = true := by simp; omega
      have hw1 : IntKind.i64.wrap (8 * (pg : Int)) = 8 * (pg : Int) := by rw [IntKind.wrap_i64]; omega
      have hw2 : IntKind.i64.wrap (8 * (pg : Int) + (k : Int)) = ((8 * pg + k : Nat) : Int) := by rw [IntKind.wrap_i64]; omega
      have hw3 : IntKind.i64.wrap (128 * (k : Int) + 128) = 128 * (k : Int) + 128 := by rw [IntKind.wrap_i64]; omega
      obtain ⟨ca, cc, rfl⟩ := row_len hst.rd.cac
      obtain ⟨M, HM⟩ : ∃ M, Hid (M = (S.op2.adds (8 * pg) zs k).ws.length) := ⟨_, rfl⟩
      have hMk : M ≤ 999999 := by rw [HM.out, DS.adds_len]; have := Hf.out; show S.ws.length + k ≤ _; omega
      have HSt := hide hst
      rw [← HM.out] at HSt
      have c1 : wr.cell? ⟨p, 1, none⟩ = some (.slice ca M cc) := HSt.out.rd.c 1 _ rfl
      have z1 := HSt.out.rd.fz 1
      clear hst
      have HRr : Hid (Row wr (some ⟨b, off, none⟩) zs) := HRw.out _ _ HH.out.2 HSt.out.mv
      have HMw : Hid ((S.op2.adds (8 * pg) zs k).ws.length = M) := HM.out.symm
      have HSrc : Hid (Src Tryz.prog 1 22 (.slice (some ⟨b, off + 128 * k, none⟩) 128 (cap - 128 * k)) 128 ((sec zs k).map (Value.int .u8)) wr.drew) := by
        refine src_row wr.drew _ 128 _ (sec zs k) (sec_len zs k (by have := HZ.out; omega)) (by intro h; cases h) ?_
        have := HRr.out.within (128 * k) 128 (by have := HZ.out; omega) (by have := HZ.out; omega)
        rw [sec, Nat.mul_comm k 128]
        exact this
      have HLn : Hid (([] : List Int).length + 128 ≤ 140737488355328) := by rw [Hid]; simp
      have HA : Hid (∀ v5 w5, Own w5 v5 ([] ++ sec zs k) → wr.drew.grownBy w5 (Value.ownBlock (.slice none 0 0)) → (∀ g, v5.ownBlock = some g → (Value.slice none 0 0).ownBlock = some g ∨ wr.drew.heap.size ≤ g) → ∃ a5 c5, v5 = .slice a5 128 c5 ∧ w5.cell? ⟨p, 1, none⟩ = some (.slice ca M cc) ∧ w5.frozen? ⟨p, 1, none⟩ = false ∧ (∀ W, Below w5.heap.size w5 W → W.cell? ⟨p, 1, none⟩ = some (.slice ca M cc)) ∧ Hid ((w5.alloc (.cells #[.int .i64 (8 * (pg : Int) + (k : Int)), .slice a5 128 c5] 118)).ownsRow 0 118 2 (.slice ca M cc) M (rwc (S.op2.adds (8 * pg) zs k).ws Cs')) ∧
          Hid (∀ vd w7, w7.ownsRow 0 118 2 vd (M + 1) (rwc (S.op2.adds (8 * pg) zs k).ws Cs' ++ [.int .i64 (8 * (pg : Int) + (k : Int)), .slice a5 128 c5]) → (w5.alloc (.cells #[.int .i64 (8 * (pg : Int) + (k : Int)), .slice a5 128 c5] 118)).grownBy w7 (Value.ownBlock (.slice ca M cc)) → (vd.ownBlock = Value.ownBlock (.slice ca M cc) ∨ vd.ownBlock = some (w5.alloc (.cells #[.int .i64 (8 * (pg : Int) + (k : Int)), .slice a5 128 c5] 118)).heap.size) → ∃ ad cd, vd = .slice ad (M + 1) cd ∧ w7.cell? ⟨p, 1, none⟩ = some (.slice ca M cc) ∧ w7.frozen? ⟨p, 1, none⟩ = false ∧ Wst w'' (w7.setCell ⟨p, 1, none⟩ vd) p vl Ls vc Cs f (S.op2.adds (8 * pg) zs (k + 1)) vd (Cs' ++ [.slice a5 128 c5]))) := by
        intro v5 w5 h1 h2 h3
        have hsl := sec_len zs k (by have := HZ.out; omega)
        obtain ⟨a5, c5, e5, -⟩ := Own.shape h1
        rw [List.nil_append, hsl] at e5
        have hb5 : Below wr.heap.size wr w5 := ⟨h2.os, h2.tape, h2.output, h2.size, fun q hq => h2.block q hq (fun e => by simp [Value.ownBlock] at e)⟩
        have hr5 := HSt.out.rd.below hb5
        have hr6 : ∀ W, Below w5.heap.size w5 W → RD W p vl Ls (.slice ca M cc) Cs' f (S.op2.adds (8 * pg) zs k) := fun W hb => hr5.below hb
        refine ⟨a5, c5, e5, hr5.c 1 _ rfl, hr5.fz 1, fun W hb => (hr6 W hb).c 1 _ rfl, ?_, ?_⟩
        · have := (hr6 _ (below_alloc w5 (.cells #[.int .i64 (8 * (pg : Int) + (k : Int)), .slice a5 128 c5] 118))).cac
          rw [HMw.out] at this
          exact this
        · intro vd w7 g1 g2 g3
          obtain ⟨ad, cd, ed⟩ := row_len g1
          have ec : (8 * (pg : Int) + (k : Int)) = ((8 * pg + k : Nat) : Int) := by omega
          have hpb : w7.heap[p]? = some (.cells (rcells vl (.slice ca M cc) f (S.op2.adds (8 * pg) zs k)) 88 (0, 0)) := by
            have h6 := hr6 _ (below_alloc w5 (.cells #[.int .i64 (8 * (pg : Int) + (k : Int)), .slice a5 128 c5] 118))
            rw [g2.block p (h6.lt p (.inl rfl)) (fun e => (h6.cac_other e.symm).1 rfl)]
            exact h6.blk
          refine ⟨ad, cd, ed, by simp [World.cell?, hpb, rcells], by simp [World.frozen?, hpb], ?_⟩
          rw [DS.adds_succ]
          rw [ec] at g1 g2 g3
          refine HSt.out.push (8 * pg + k) (sec zs k) (by show _ < S.ls.length; omega) hsl (sec_byts HBy.out k) (by rw [HMw.out]; omega) (.slice a5 128 c5) vd w5 w7 hb5 (by rw [← e5]; exact h1) (fun g hg => by rw [← e5] at hg; exact (h3 g hg).elim (fun e => by simp [Value.ownBlock] at e) id) (by rw [HMw.out]; exact g1) g2 g3
      have HNc : Hid (∀ (w5 : World) (y : Value) j u, [Value.int .i64 (8 * (pg : Int) + (k : Int)), y][j]? = some u → (w5.alloc (.cells #[.int .i64 (8 * (pg : Int) + (k : Int)), y] 118)).cell? ((⟨w5.heap.size, 0, none⟩ : Addr).add j) = some u) := fun w5 y j u hu => by
        rw [Addr.add_lit, cell_of_row _ _ (0 + j) _ 118 (0, 0) (heap_alloc_new w5 _)]
        simpa using hu
      have HOne : Hid (∀ (a5 : Option Addr) (c5 : Nat), ∀ u ∈ [Value.int .i64 (8 * (pg : Int) + (k : Int)), .slice a5 128 c5], u.oneCell' = true) := fun a5 c5 u hu => by
        simp only [List.mem_cons, List.not_mem_nil, or_false] at hu
        rcases hu with rfl | rfl <;> rfl
      have HM1 : Hid (M + 1 ≤ maxLen) := by rw [Hid]; unfold maxLen; omega
      have HM2 : Hid ((M + 1) * 32 ≤ 140737488355328) := by rw [Hid]; omega
      have sb1 : (0 : Int) ≤ 128 * (k : Int) := by omega
      have sb2 : 128 * (k : Int) ≤ 128 * (k : Int) + 128 := by omega
      have sb3 : 128 * (k : Int) + 128 ≤ (cap : Int) := by omega
      have t1 : (128 * (k : Int)).toNat = 128 * k := by omega
      have t2 : (128 * (k : Int) + 128).toNat = 128 * k + 128 := by omega
      have t3 : 128 * k + 128 - 128 * k = 128 := by omega
      have t4 : ¬ cap = 128 * k := by omega
      have hbd := build146
      have hkK : k + 1 ≤ 1 := hlt
      clear hkl HRr hcm hlc
      go_wp2
      refine wp_region_noPanic ?_
      refine wp_region_held_drew (S := (fun _ => True)) (by kernel_rfl) trivial (fun _hS => ?_)
      refine wpAnyH_take (i := 0) (oi := { dst := some 38, op := Op.move (Operand.tmp 0), type := 31, pos := "ref.go:125", after := #[], guard := none }) (v := ?v0x1) rfl (by kernel_rfl) (by kernel_rfl) (by kernel_rfl) (fun _ _ _ h => h) (Or.inl ⟨by rfl, ?hy0x1⟩) (by trivial) ?rest0x1
      case hy0x1 => (intro w hSw; (first | (go_simp; with_reducible rfl) | go_simp))
      try simp only [Act.put, List.setIfInBounds_toArray, List.set_cons_zero, List.set_cons_succ]
      refine wpAnyH_take (i := 1) (oi := { dst := some 39, op := Op.move (Operand.tmp 0), type := 31, pos := "ref.go:125", after := #[], guard := none }) (v := ?v1x2) rfl (by kernel_rfl) (by kernel_rfl) (by kernel_rfl) (fun _ _ _ h => h) (Or.inl ⟨by rfl, ?hy1x2⟩) (by trivial) ?rest1x2
      case hy1x2 => (intro w hSw; (first | (go_simp; with_reducible rfl) | go_simp))
      try simp only [Act.put, List.setIfInBounds_toArray, List.set_cons_zero, List.set_cons_succ]
      refine wpAnyH_take (i := 2) (oi := { dst := some 40, op := Op.nilCheck (Operand.tmp 39), type := 0, pos := "ref.go:125", after := #[{ on := 1, ground := Ground.data }], guard := none }) (v := ?v2x3) rfl (by kernel_rfl) (by kernel_rfl) (by kernel_rfl) (fun _ _ _ h => h) (Or.inl ⟨by rfl, ?hy2x3⟩) (by trivial) ?rest2x3
      case hy2x3 => (intro w hSw; (first | (go_simp; with_reducible rfl) | go_simp))
      try simp only [Act.put, List.setIfInBounds_toArray, List.set_cons_zero, List.set_cons_succ]
      refine wpAnyH_take (i := 3) (oi := { dst := some 41, op := Op.fieldAddr 88 (Operand.tmp 40) 1, type := 0, pos := "ref.go:125", after := #[{ on := 2, ground := Ground.data }], guard := none }) (v := ?v3x4) rfl (by kernel_rfl) (by kernel_rfl) (by kernel_rfl) (fun _ _ _ h => h) (Or.inl ⟨by rfl, ?hy3x4⟩) (by trivial) ?rest3x4
      case hy3x4 => (intro w hSw; (first | (go_simp; with_reducible rfl) | go_simp))
      try simp only [Act.put, List.setIfInBounds_toArray, List.set_cons_zero, List.set_cons_succ]
      refine wpAnyH_take (i := 5) (oi := { dst := some 43, op := Op.move (Operand.tmp 1), type := 3, pos := "ref.go:125", after := #[], guard := none }) (v := ?v5x5) rfl (by kernel_rfl) (by kernel_rfl) (by kernel_rfl) (fun _ _ _ h => h) (Or.inl ⟨by rfl, ?hy5x5⟩) (by trivial) ?rest5x5
      case hy5x5 => (intro w hSw; (first | (go_simp; with_reducible rfl) | go_simp))
      try simp only [Act.put, List.setIfInBounds_toArray, List.set_cons_zero, List.set_cons_succ]
      refine wpAnyH_take (i := 6) (oi := { dst := some 44, op := Op.binOp BinOp.mul 3 (Operand.const (Value.int IntKind.i64 8)) (Operand.tmp 43) 3, type := 3, pos := "ref.go:125", after := #[{ on := 5, ground := Ground.data }], guard := none }) (v := ?v6x6) rfl (by kernel_rfl) (by kernel_rfl) (by kernel_rfl) (fun _ _ _ h => h) (Or.inl ⟨by rfl, ?hy6x6⟩) (by trivial) ?rest6x6
      case hy6x6 => (intro w hSw; (first | (go_simp; with_reducible rfl) | go_simp))
      try simp only [Act.put, List.setIfInBounds_toArray, List.set_cons_zero, List.set_cons_succ]
      refine wpAnyH_take (i := 7) (oi := { dst := some 45, op := Op.move (Operand.tmp 8), type := 3, pos := "ref.go:125", after := #[], guard := none }) (v := ?v7x7) rfl (by kernel_rfl) (by kernel_rfl) (by kernel_rfl) (fun _ _ _ h => h) (Or.inl ⟨by rfl, ?hy7x7⟩) (by trivial) ?rest7x7
      case hy7x7 => (intro w hSw; (first | (go_simp; with_reducible rfl) | go_simp))
      try simp only [Act.put, List.setIfInBounds_toArray, List.set_cons_zero, List.set_cons_succ]
      refine wpAnyH_take (i := 8) (oi := { dst := some 46, op := Op.binOp BinOp.add 3 (Operand.tmp 44) (Operand.tmp 45) 3, type := 3, pos := "ref.go:125", after := #[{ on := 6, ground := Ground.data }, { on := 7, ground := Ground.data }], guard := none }) (v := ?v8x8) rfl (by kernel_rfl) (by kernel_rfl) (by kernel_rfl) (fun _ _ _ h => h) (Or.inl ⟨by rfl, ?hy8x8⟩) (by trivial) ?rest8x8
      case hy8x8 => (intro w hSw; (first | (go_simp; with_reducible rfl) | go_simp))
      try simp only [Act.put, List.setIfInBounds_toArray, List.set_cons_zero, List.set_cons_succ]
      refine wpAnyH_take (i := 9) (oi := { dst := some 47, op := Op.move (Operand.tmp 9), type := 22, pos := "ref.go:125", after := #[], guard := none }) (v := ?v9x9) rfl (by kernel_rfl) (by kernel_rfl) (by kernel_rfl) (fun _ _ _ h => h) (Or.inl ⟨by rfl, ?hy9x9⟩) (by trivial) ?rest9x9
      case hy9x9 => (intro w hSw; (first | (go_simp; with_reducible rfl) | go_simp))
      try simp only [Act.put, List.setIfInBounds_toArray, List.set_cons_zero, List.set_cons_succ]
      refine wpAnyH_take (i := 10) (oi := { dst := some 48, op := Op.move (Operand.tmp 2), type := 22, pos := "ref.go:125", after := #[], guard := none }) (v := ?v10x10) rfl (by kernel_rfl) (by kernel_rfl) (by kernel_rfl) (fun _ _ _ h => h) (Or.inl ⟨by rfl, ?hy10x10⟩) (by trivial) ?rest10x10
      case hy10x10 => (intro w hSw; (first | (go_simp; with_reducible rfl) | go_simp))
      try simp only [Act.put, List.setIfInBounds_toArray, List.set_cons_zero, List.set_cons_succ]
      refine wpAnyH_take (i := 11) (oi := { dst := some 49, op := Op.move (Operand.tmp 8), type := 3, pos := "ref.go:125", after := #[], guard := none }) (v := ?v11x11) rfl (by kernel_rfl) (by kernel_rfl) (by kernel_rfl) (fun _ _ _ h => h) (Or.inl ⟨by rfl, ?hy11x11⟩) (by trivial) ?rest11x11
      case hy11x11 => (intro w hSw; (first | (go_simp; with_reducible rfl) | go_simp))
      try simp only [Act.put, List.setIfInBounds_toArray, List.set_cons_zero, List.set_cons_succ]
      refine wpAnyH_take (i := 12) (oi := { dst := some 50, op := Op.binOp BinOp.mul 3 (Operand.const (Value.int IntKind.i64 128)) (Operand.tmp 49) 3, type := 3, pos := "ref.go:125", after := #[{ on := 11, ground := Ground.data }], guard := none }) (v := ?v12x12) rfl (by kernel_rfl) (by kernel_rfl) (by kernel_rfl) (fun _ _ _ h => h) (Or.inl ⟨by rfl, ?hy12x12⟩) (by trivial) ?rest12x12
      case hy12x12 => (intro w hSw; (first | (go_simp; with_reducible rfl) | go_simp))
      try simp only [Act.put, List.setIfInBounds_toArray, List.set_cons_zero, List.set_cons_succ]
      refine wpAnyH_take (i := 13) (oi := { dst := some 51, op := Op.move (Operand.tmp 8), type := 3, pos := "ref.go:125", after := #[], guard := none }) (v := ?v13x13) rfl (by kernel_rfl) (by kernel_rfl) (by kernel_rfl) (fun _ _ _ h => h) (Or.inl ⟨by rfl, ?hy13x13⟩) (by trivial) ?rest13x13
      case hy13x13 => (intro w hSw; (first | (go_simp; with_reducible rfl) | go_simp))
      try simp only [Act.put, List.setIfInBounds_toArray, List.set_cons_zero, List.set_cons_succ]
      refine wpAnyH_take (i := 14) (oi := { dst := some 52, op := Op.binOp BinOp.mul 3 (Operand.const (Value.int IntKind.i64 128)) (Operand.tmp 51) 3, type := 3, pos := "ref.go:125", after := #[{ on := 13, ground := Ground.data }], guard := none }) (v := ?v14x14) rfl (by kernel_rfl) (by kernel_rfl) (by kernel_rfl) (fun _ _ _ h => h) (Or.inl ⟨by rfl, ?hy14x14⟩) (by trivial) ?rest14x14
      case hy14x14 => (intro w hSw; (first | (go_simp; with_reducible rfl) | go_simp))
      try simp only [Act.put, List.setIfInBounds_toArray, List.set_cons_zero, List.set_cons_succ]
      refine wpAnyH_take (i := 15) (oi := { dst := some 53, op := Op.binOp BinOp.add 3 (Operand.tmp 52) (Operand.const (Value.int IntKind.i64 128)) 3, type := 3, pos := "ref.go:125", after := #[{ on := 14, ground := Ground.data }], guard := none }) (v := ?v15x15) rfl (by kernel_rfl) (by kernel_rfl) (by kernel_rfl) (fun _ _ _ h => h) (Or.inl ⟨by rfl, ?hy15x15⟩) (by trivial) ?rest15x15
      case hy15x15 => (intro w hSw; (first | (go_simp; with_reducible rfl) | go_simp))
      try simp only [Act.put, List.setIfInBounds_toArray, List.set_cons_zero, List.set_cons_succ]
      refine wpAnyH_take (i := 16) (oi := { dst := some 54, op := Op.slice 22 (Operand.tmp 48) (some (Operand.tmp 50)) (some (Operand.tmp 53)) none, type := 22, pos := "ref.go:125", after := #[{ on := 10, ground := Ground.data }, { on := 12, ground := Ground.data }, { on := 15, ground := Ground.data }], guard := none }) (v := ?v16x16) rfl (by kernel_rfl) (by kernel_rfl) (by kernel_rfl) (fun _ _ _ h => h) (Or.inl ⟨by rfl, ?hy16x16⟩) (by trivial) ?rest16x16
      case hy16x16 => (intro w hSw; (first | (go_simp; with_reducible rfl) | go_simp))
      try simp only [Act.put, List.setIfInBounds_toArray, List.set_cons_zero, List.set_cons_succ]
      refine wpAnyH_ready (rs := [4, 17]) (by kernel_rfl) (by simp) ?_
      refine AllReadyH.cons (o := { dst := some 42, op := Op.load 85 (Operand.tmp 41), type := 85, pos := "ref.go:125", after := #[{ on := 3, ground := Ground.data }], guard := none }) rfl (fun K hK => ?_) (AllReadyH.cons (o := { dst := some 55, op := Op.call { callee := Callee.builtin Builtin.append, args := #[Operand.tmp 47, Operand.tmp 54], argTypes := #[22, 22] }, type := 22, pos := "ref.go:125", after := #[{ on := 9, ground := Ground.data }, { on := 16, ground := Ground.data }], guard := none }) rfl (fun K hK => ?_) AllReadyH.nil)
      · go_simp
        refine hK.out _ _ trivial (fun _hS => ?_)
        clear hK K
        try simp only [Act.put, List.setIfInBounds_toArray, List.set_cons_zero, List.set_cons_succ]
        refine wpAnyH_ready (rs := [17]) (by kernel_rfl) (by simp) ?_
        refine AllReadyH.cons (o := { dst := some 55, op := Op.call { callee := Callee.builtin Builtin.append, args := #[Operand.tmp 47, Operand.tmp 54], argTypes := #[22, 22] }, type := 22, pos := "ref.go:125", after := #[{ on := 9, ground := Ground.data }, { on := 16, ground := Ground.data }], guard := none }) rfl (fun K hK => ?_) AllReadyH.nil
        refine step_of rfl ?_
        refine wp_append_src (.tmp 47) (.tmp 54) 22 22 rfl i0 Tryz.underlying22 hi hz0 hz1 hz2 (.slice none 0 0) [] rfl (Own.nil _) (.slice (some ⟨b, off + 128 * k, none⟩) 128 (cap - 128 * k)) 128 (sec zs k) rfl HSrc.out HLn.out ?_
        intro v5 w5 ho5 hg5 hf5
        obtain ⟨a5, c5, rfl, x5, z5, x6, HO6, HE6⟩ := HA.out v5 w5 ho5 hg5 hf5
        have x7 := x6 _ (below_alloc w5 (.cells #[.int .i64 (8 * (pg : Int) + (k : Int)), .slice a5 128 c5] 118))
        clear ho5 hg5 hf5 x6
        refine hK.out _ _ trivial (fun _hS => ?_)
        clear hK K
        try simp only [Act.put, List.setIfInBounds_toArray, List.set_cons_zero, List.set_cons_succ]
        refine wpAnyH_take (i := 18) (oi := { dst := some 56, op := Op.build 118 #[(0, Operand.tmp 46), (1, Operand.tmp 55)], type := 118, pos := "ref.go:125", after := #[{ on := 8, ground := Ground.data }, { on := 17, ground := Ground.data }], guard := none }) (v := ?v18x17) rfl (by kernel_rfl) (by kernel_rfl) (by kernel_rfl) (fun _ _ _ h => h) (Or.inl ⟨by rfl, ?hy18x17⟩) (by trivial) ?rest18x17
        case hy18x17 => (intro w hSw; (first | (go_simp; with_reducible rfl) | go_simp))
        try simp only [Act.put, List.setIfInBounds_toArray, List.set_cons_zero, List.set_cons_succ]
        refine wpAnyH_ready (rs := [19]) (by kernel_rfl) (by simp) ?_
        refine AllReadyH.cons (o := { dst := some 57, op := Op.buildSlice 85 1 #[(0, Operand.tmp 56)], type := 85, pos := "ref.go:125", after := #[{ on := 18, ground := Ground.data }], guard := none }) rfl (fun K hK => ?_) AllReadyH.nil
        go_simp
        refine hK.out _ _ trivial (fun _hS => ?_)
        clear hK K
        try simp only [Act.put, List.setIfInBounds_toArray, List.set_cons_zero, List.set_cons_succ]
        refine wpAnyH_ready (rs := [20]) (by kernel_rfl) (by simp) ?_
        refine AllReadyH.cons (o := { dst := some 58, op := Op.call { callee := Callee.builtin Builtin.append, args := #[Operand.tmp 42, Operand.tmp 57], argTypes := #[85, 85] }, type := 85, pos := "ref.go:125", after := #[{ on := 4, ground := Ground.data }, { on := 19, ground := Ground.data }, { on := 17, ground := Ground.chain }], guard := none }) rfl (fun K hK => ?_) AllReadyH.nil
        refine step_of rfl ?_
        refine wp_append_at (.tmp 42) (.tmp 57) 85 118 rfl 0 i1 (.agg #[.int .i64 0, .slice none 0 0]) 2 32 Tryz.underlying85 hj hy0 hy1 hy2 rfl (by omega) (.slice ca M cc) M _ rfl HO6.out ⟨w5.heap.size, 0, none⟩ 1 1 [.int .i64 (8 * (pg : Int) + (k : Int)), .slice a5 128 c5] rfl rfl (HNc.out w5 _) (HOne.out a5 c5) HM1.out HM2.out (Nat.zero_le _) ?_
        intro vd w7 h7 hg7 hl7
        obtain ⟨ad, cd, rfl, x8, z8, hfin⟩ := HE6.out vd w7 h7 hg7 hl7
        have HFin := hide hfin
        clear h7 hg7 hl7 hfin
        refine hK.out _ _ trivial (fun _hS => ?_)
        clear hK K
        try simp only [Act.put, List.setIfInBounds_toArray, List.set_cons_zero, List.set_cons_succ]
        refine wpAnyH_take (i := 21) (oi := { dst := some 59, op := Op.nilCheck (Operand.tmp 38), type := 0, pos := "ref.go:125", after := #[{ on := 0, ground := Ground.data }, { on := 0, ground := Ground.phase }, { on := 1, ground := Ground.phase }, { on := 2, ground := Ground.phase }, { on := 3, ground := Ground.phase }, { on := 4, ground := Ground.phase }, { on := 5, ground := Ground.phase }, { on := 6, ground := Ground.phase }, { on := 7, ground := Ground.phase }, { on := 8, ground := Ground.phase }, { on := 9, ground := Ground.phase }, { on := 10, ground := Ground.phase }, { on := 11, ground := Ground.phase }, { on := 12, ground := Ground.phase }, { on := 13, ground := Ground.phase }, { on := 14, ground := Ground.phase }, { on := 15, ground := Ground.phase }, { on := 16, ground := Ground.phase }, { on := 17, ground := Ground.phase }, { on := 18, ground := Ground.phase }, { on := 19, ground := Ground.phase }, { on := 20, ground := Ground.phase }], guard := none }) (v := ?v21x18) rfl (by kernel_rfl) (by kernel_rfl) (by kernel_rfl) (fun _ _ _ h => h) (Or.inl ⟨by rfl, ?hy21x18⟩) (by trivial) ?rest21x18
        case hy21x18 => (intro w hSw; (first | (go_simp; with_reducible rfl) | go_simp))
        try simp only [Act.put, List.setIfInBounds_toArray, List.set_cons_zero, List.set_cons_succ]
        refine wpAnyH_take (i := 22) (oi := { dst := some 60, op := Op.fieldAddr 88 (Operand.tmp 59) 1, type := 0, pos := "ref.go:125", after := #[{ on := 21, ground := Ground.data }, { on := 0, ground := Ground.phase }, { on := 1, ground := Ground.phase }, { on := 2, ground := Ground.phase }, { on := 3, ground := Ground.phase }, { on := 4, ground := Ground.phase }, { on := 5, ground := Ground.phase }, { on := 6, ground := Ground.phase }, { on := 7, ground := Ground.phase }, { on := 8, ground := Ground.phase }, { on := 9, ground := Ground.phase }, { on := 10, ground := Ground.phase }, { on := 11, ground := Ground.phase }, { on := 12, ground := Ground.phase }, { on := 13, ground := Ground.phase }, { on := 14, ground := Ground.phase }, { on := 15, ground := Ground.phase }, { on := 16, ground := Ground.phase }, { on := 17, ground := Ground.phase }, { on := 18, ground := Ground.phase }, { on := 19, ground := Ground.phase }, { on := 20, ground := Ground.phase }], guard := none }) (v := ?v22x19) rfl (by kernel_rfl) (by kernel_rfl) (by kernel_rfl) (fun _ _ _ h => h) (Or.inl ⟨by rfl, ?hy22x19⟩) (by trivial) ?rest22x19
        case hy22x19 => (intro w hSw; (first | (go_simp; with_reducible rfl) | go_simp))
        try simp only [Act.put, List.setIfInBounds_toArray, List.set_cons_zero, List.set_cons_succ]
        refine wpAnyH_ready (rs := [23]) (by kernel_rfl) (by simp) ?_
        refine AllReadyH.cons (o := { dst := none, op := Op.store 85 (Operand.tmp 60) (Operand.tmp 58), type := 0, pos := "ref.go:125", after := #[{ on := 22, ground := Ground.data }, { on := 20, ground := Ground.data }, { on := 20, ground := Ground.chain }, { on := 0, ground := Ground.phase }, { on := 1, ground := Ground.phase }, { on := 2, ground := Ground.phase }, { on := 3, ground := Ground.phase }, { on := 4, ground := Ground.phase }, { on := 5, ground := Ground.phase }, { on := 6, ground := Ground.phase }, { on := 7, ground := Ground.phase }, { on := 8, ground := Ground.phase }, { on := 9, ground := Ground.phase }, { on := 10, ground := Ground.phase }, { on := 11, ground := Ground.phase }, { on := 12, ground := Ground.phase }, { on := 13, ground := Ground.phase }, { on := 14, ground := Ground.phase }, { on := 15, ground := Ground.phase }, { on := 16, ground := Ground.phase }, { on := 17, ground := Ground.phase }, { on := 18, ground := Ground.phase }, { on := 19, ground := Ground.phase }, { on := 20, ground := Ground.phase }], guard := none }) rfl (fun K hK => ?_) AllReadyH.nil
        go_simp
        refine hK.out _ _ trivial (fun _hS => ?_)
        clear hK K
        try simp only [Act.put, List.setIfInBounds_toArray, List.set_cons_zero, List.set_cons_succ]
        refine wpAnyH_done (by kernel_rfl) ?_ _
        refine NoPanic.normal ?_
        go_wp2
        go_roundw
        case rel => exact ⟨k + 1, _, _, hkK, by simp, HFin.out⟩
        case measure => simp [intOf]; omega
      · refine step_of rfl ?_
        refine wp_append_src (.tmp 47) (.tmp 54) 22 22 rfl i0 Tryz.underlying22 hi hz0 hz1 hz2 (.slice none 0 0) [] rfl (Own.nil _) (.slice (some ⟨b, off + 128 * k, none⟩) 128 (cap - 128 * k)) 128 (sec zs k) rfl HSrc.out HLn.out ?_
        intro v5 w5 ho5 hg5 hf5
        obtain ⟨a5, c5, rfl, x5, z5, x6, HO6, HE6⟩ := HA.out v5 w5 ho5 hg5 hf5
        have x7 := x6 _ (below_alloc w5 (.cells #[.int .i64 (8 * (pg : Int) + (k : Int)), .slice a5 128 c5] 118))
        clear ho5 hg5 hf5 x6
        refine hK.out _ _ trivial (fun _hS => ?_)
        clear hK K
        try simp only [Act.put, List.setIfInBounds_toArray, List.set_cons_zero, List.set_cons_succ]
        refine wpAnyH_take (i := 18) (oi := { dst := some 56, op := Op.build 118 #[(0, Operand.tmp 46), (1, Operand.tmp 55)], type := 118, pos := "ref.go:125", after := #[{ on := 8, ground := Ground.data }, { on := 17, ground := Ground.data }], guard := none }) (v := ?v18x20) rfl (by kernel_rfl) (by kernel_rfl) (by kernel_rfl) (fun _ _ _ h => h) (Or.inl ⟨by rfl, ?hy18x20⟩) (by trivial) ?rest18x20
        case hy18x20 => (intro w hSw; (first | (go_simp; with_reducible rfl) | go_simp))
        try simp only [Act.put, List.setIfInBounds_toArray, List.set_cons_zero, List.set_cons_succ]
        refine wpAnyH_ready (rs := [4, 19]) (by kernel_rfl) (by simp) ?_
        refine AllReadyH.cons (o := { dst := some 42, op := Op.load 85 (Operand.tmp 41), type := 85, pos := "ref.go:125", after := #[{ on := 3, ground := Ground.data }], guard := none }) rfl (fun K hK => ?_) (AllReadyH.cons (o := { dst := some 57, op := Op.buildSlice 85 1 #[(0, Operand.tmp 56)], type := 85, pos := "ref.go:125", after := #[{ on := 18, ground := Ground.data }], guard := none }) rfl (fun K hK => ?_) AllReadyH.nil)
        · go_simp
          refine hK.out _ _ trivial (fun _hS => ?_)
          clear hK K
          try simp only [Act.put, List.setIfInBounds_toArray, List.set_cons_zero, List.set_cons_succ]
          refine wpAnyH_ready (rs := [19]) (by kernel_rfl) (by simp) ?_
          refine AllReadyH.cons (o := { dst := some 57, op := Op.buildSlice 85 1 #[(0, Operand.tmp 56)], type := 85, pos := "ref.go:125", after := #[{ on := 18, ground := Ground.data }], guard := none }) rfl (fun K hK => ?_) AllReadyH.nil
          go_simp
          refine hK.out _ _ trivial (fun _hS => ?_)
          clear hK K
          try simp only [Act.put, List.setIfInBounds_toArray, List.set_cons_zero, List.set_cons_succ]
          refine wpAnyH_ready (rs := [20]) (by kernel_rfl) (by simp) ?_
          refine AllReadyH.cons (o := { dst := some 58, op := Op.call { callee := Callee.builtin Builtin.append, args := #[Operand.tmp 42, Operand.tmp 57], argTypes := #[85, 85] }, type := 85, pos := "ref.go:125", after := #[{ on := 4, ground := Ground.data }, { on := 19, ground := Ground.data }, { on := 17, ground := Ground.chain }], guard := none }) rfl (fun K hK => ?_) AllReadyH.nil
          refine step_of rfl ?_
          refine wp_append_at (.tmp 42) (.tmp 57) 85 118 rfl 0 i1 (.agg #[.int .i64 0, .slice none 0 0]) 2 32 Tryz.underlying85 hj hy0 hy1 hy2 rfl (by omega) (.slice ca M cc) M _ rfl HO6.out ⟨w5.heap.size, 0, none⟩ 1 1 [.int .i64 (8 * (pg : Int) + (k : Int)), .slice a5 128 c5] rfl rfl (HNc.out w5 _) (HOne.out a5 c5) HM1.out HM2.out (Nat.zero_le _) ?_
          intro vd w7 h7 hg7 hl7
          obtain ⟨ad, cd, rfl, x8, z8, hfin⟩ := HE6.out vd w7 h7 hg7 hl7
          have HFin := hide hfin
          clear h7 hg7 hl7 hfin
          refine hK.out _ _ trivial (fun _hS => ?_)
          clear hK K
          try simp only [Act.put, List.setIfInBounds_toArray, List.set_cons_zero, List.set_cons_succ]
          refine wpAnyH_take (i := 21) (oi := { dst := some 59, op := Op.nilCheck (Operand.tmp 38), type := 0, pos := "ref.go:125", after := #[{ on := 0, ground := Ground.data }, { on := 0, ground := Ground.phase }, { on := 1, ground := Ground.phase }, { on := 2, ground := Ground.phase }, { on := 3, ground := Ground.phase }, { on := 4, ground := Ground.phase }, { on := 5, ground := Ground.phase }, { on := 6, ground := Ground.phase }, { on := 7, ground := Ground.phase }, { on := 8, ground := Ground.phase }, { on := 9, ground := Ground.phase }, { on := 10, ground := Ground.phase }, { on := 11, ground := Ground.phase }, { on := 12, ground := Ground.phase }, { on := 13, ground := Ground.phase }, { on := 14, ground := Ground.phase }, { on := 15, ground := Ground.phase }, { on := 16, ground := Ground.phase }, { on := 17, ground := Ground.phase }, { on := 18, ground := Ground.phase }, { on := 19, ground := Ground.phase }, { on := 20, ground := Ground.phase }], guard := none }) (v := ?v21x21) rfl (by kernel_rfl) (by kernel_rfl) (by kernel_rfl) (fun _ _ _ h => h) (Or.inl ⟨by rfl, ?hy21x21⟩) (by trivial) ?rest21x21
          case hy21x21 => (intro w hSw; (first | (go_simp; with_reducible rfl) | go_simp))
          try simp only [Act.put, List.setIfInBounds_toArray, List.set_cons_zero, List.set_cons_succ]
          refine wpAnyH_take (i := 22) (oi := { dst := some 60, op := Op.fieldAddr 88 (Operand.tmp 59) 1, type := 0, pos := "ref.go:125", after := #[{ on := 21, ground := Ground.data }, { on := 0, ground := Ground.phase }, { on := 1, ground := Ground.phase }, { on := 2, ground := Ground.phase }, { on := 3, ground := Ground.phase }, { on := 4, ground := Ground.phase }, { on := 5, ground := Ground.phase }, { on := 6, ground := Ground.phase }, { on := 7, ground := Ground.phase }, { on := 8, ground := Ground.phase }, { on := 9, ground := Ground.phase }, { on := 10, ground := Ground.phase }, { on := 11, ground := Ground.phase }, { on := 12, ground := Ground.phase }, { on := 13, ground := Ground.phase }, { on := 14, ground := Ground.phase }, { on := 15, ground := Ground.phase }, { on := 16, ground := Ground.phase }, { on := 17, ground := Ground.phase }, { on := 18, ground := Ground.phase }, { on := 19, ground := Ground.phase }, { on := 20, ground := Ground.phase }], guard := none }) (v := ?v22x22) rfl (by kernel_rfl) (by kernel_rfl) (by kernel_rfl) (fun _ _ _ h => h) (Or.inl ⟨by rfl, ?hy22x22⟩) (by trivial) ?rest22x22
          case hy22x22 => (intro w hSw; (first | (go_simp; with_reducible rfl) | go_simp))
          try simp only [Act.put, List.setIfInBounds_toArray, List.set_cons_zero, List.set_cons_succ]
          refine wpAnyH_ready (rs := [23]) (by kernel_rfl) (by simp) ?_
          refine AllReadyH.cons (o := { dst := none, op := Op.store 85 (Operand.tmp 60) (Operand.tmp 58), type := 0, pos := "ref.go:125", after := #[{ on := 22, ground := Ground.data }, { on := 20, ground := Ground.data }, { on := 20, ground := Ground.chain }, { on := 0, ground := Ground.phase }, { on := 1, ground := Ground.phase }, { on := 2, ground := Ground.phase }, { on := 3, ground := Ground.phase }, { on := 4, ground := Ground.phase }, { on := 5, ground := Ground.phase }, { on := 6, ground := Ground.phase }, { on := 7, ground := Ground.phase }, { on := 8, ground := Ground.phase }, { on := 9, ground := Ground.phase }, { on := 10, ground := Ground.phase }, { on := 11, ground := Ground.phase }, { on := 12, ground := Ground.phase }, { on := 13, ground := Ground.phase }, { on := 14, ground := Ground.phase }, { on := 15, ground := Ground.phase }, { on := 16, ground := Ground.phase }, { on := 17, ground := Ground.phase }, { on := 18, ground := Ground.phase }, { on := 19, ground := Ground.phase }, { on := 20, ground := Ground.phase }], guard := none }) rfl (fun K hK => ?_) AllReadyH.nil
          go_simp
          refine hK.out _ _ trivial (fun _hS => ?_)
          clear hK K
          try simp only [Act.put, List.setIfInBounds_toArray, List.set_cons_zero, List.set_cons_succ]
          refine wpAnyH_done (by kernel_rfl) ?_ _
          refine NoPanic.normal ?_
          go_wp2
          go_roundw
          case rel => exact ⟨k + 1, _, _, hkK, by simp, HFin.out⟩
          case measure => simp [intOf]; omega
        · go_simp
          refine hK.out _ _ trivial (fun _hS => ?_)
          clear hK K
          try simp only [Act.put, List.setIfInBounds_toArray, List.set_cons_zero, List.set_cons_succ]
          refine wpAnyH_ready (rs := [4]) (by kernel_rfl) (by simp) ?_
          refine AllReadyH.cons (o := { dst := some 42, op := Op.load 85 (Operand.tmp 41), type := 85, pos := "ref.go:125", after := #[{ on := 3, ground := Ground.data }], guard := none }) rfl (fun K hK => ?_) AllReadyH.nil
          go_simp
          refine hK.out _ _ trivial (fun _hS => ?_)
          clear hK K
          try simp only [Act.put, List.setIfInBounds_toArray, List.set_cons_zero, List.set_cons_succ]
          refine wpAnyH_ready (rs := [20]) (by kernel_rfl) (by simp) ?_
          refine AllReadyH.cons (o := { dst := some 58, op := Op.call { callee := Callee.builtin Builtin.append, args := #[Operand.tmp 42, Operand.tmp 57], argTypes := #[85, 85] }, type := 85, pos := "ref.go:125", after := #[{ on := 4, ground := Ground.data }, { on := 19, ground := Ground.data }, { on := 17, ground := Ground.chain }], guard := none }) rfl (fun K hK => ?_) AllReadyH.nil
          refine step_of rfl ?_
          refine wp_append_at (.tmp 42) (.tmp 57) 85 118 rfl 0 i1 (.agg #[.int .i64 0, .slice none 0 0]) 2 32 Tryz.underlying85 hj hy0 hy1 hy2 rfl (by omega) (.slice ca M cc) M _ rfl HO6.out ⟨w5.heap.size, 0, none⟩ 1 1 [.int .i64 (8 * (pg : Int) + (k : Int)), .slice a5 128 c5] rfl rfl (HNc.out w5 _) (HOne.out a5 c5) HM1.out HM2.out (Nat.zero_le _) ?_
          intro vd w7 h7 hg7 hl7
          obtain ⟨ad, cd, rfl, x8, z8, hfin⟩ := HE6.out vd w7 h7 hg7 hl7
          have HFin := hide hfin
          clear h7 hg7 hl7 hfin
          refine hK.out _ _ trivial (fun _hS => ?_)
          clear hK K
          try simp only [Act.put, List.setIfInBounds_toArray, List.set_cons_zero, List.set_cons_succ]
          refine wpAnyH_take (i := 21) (oi := { dst := some 59, op := Op.nilCheck (Operand.tmp 38), type := 0, pos := "ref.go:125", after := #[{ on := 0, ground := Ground.data }, { on := 0, ground := Ground.phase }, { on := 1, ground := Ground.phase }, { on := 2, ground := Ground.phase }, { on := 3, ground := Ground.phase }, { on := 4, ground := Ground.phase }, { on := 5, ground := Ground.phase }, { on := 6, ground := Ground.phase }, { on := 7, ground := Ground.phase }, { on := 8, ground := Ground.phase }, { on := 9, ground := Ground.phase }, { on := 10, ground := Ground.phase }, { on := 11, ground := Ground.phase }, { on := 12, ground := Ground.phase }, { on := 13, ground := Ground.phase }, { on := 14, ground := Ground.phase }, { on := 15, ground := Ground.phase }, { on := 16, ground := Ground.phase }, { on := 17, ground := Ground.phase }, { on := 18, ground := Ground.phase }, { on := 19, ground := Ground.phase }, { on := 20, ground := Ground.phase }], guard := none }) (v := ?v21x23) rfl (by kernel_rfl) (by kernel_rfl) (by kernel_rfl) (fun _ _ _ h => h) (Or.inl ⟨by rfl, ?hy21x23⟩) (by trivial) ?rest21x23
          case hy21x23 => (intro w hSw; (first | (go_simp; with_reducible rfl) | go_simp))
          try simp only [Act.put, List.setIfInBounds_toArray, List.set_cons_zero, List.set_cons_succ]
          refine wpAnyH_take (i := 22) (oi := { dst := some 60, op := Op.fieldAddr 88 (Operand.tmp 59) 1, type := 0, pos := "ref.go:125", after := #[{ on := 21, ground := Ground.data }, { on := 0, ground := Ground.phase }, { on := 1, ground := Ground.phase }, { on := 2, ground := Ground.phase }, { on := 3, ground := Ground.phase }, { on := 4, ground := Ground.phase }, { on := 5, ground := Ground.phase }, { on := 6, ground := Ground.phase }, { on := 7, ground := Ground.phase }, { on := 8, ground := Ground.phase }, { on := 9, ground := Ground.phase }, { on := 10, ground := Ground.phase }, { on := 11, ground := Ground.phase }, { on := 12, ground := Ground.phase }, { on := 13, ground := Ground.phase }, { on := 14, ground := Ground.phase }, { on := 15, ground := Ground.phase }, { on := 16, ground := Ground.phase }, { on := 17, ground := Ground.phase }, { on := 18, ground := Ground.phase }, { on := 19, ground := Ground.phase }, { on := 20, ground := Ground.phase }], guard := none }) (v := ?v22x24) rfl (by kernel_rfl) (by kernel_rfl) (by kernel_rfl) (fun _ _ _ h => h) (Or.inl ⟨by rfl, ?hy22x24⟩) (by trivial) ?rest22x24
          case hy22x24 => (intro w hSw; (first | (go_simp; with_reducible rfl) | go_simp))
          try simp only [Act.put, List.setIfInBounds_toArray, List.set_cons_zero, List.set_cons_succ]
          refine wpAnyH_ready (rs := [23]) (by kernel_rfl) (by simp) ?_
          refine AllReadyH.cons (o := { dst := none, op := Op.store 85 (Operand.tmp 60) (Operand.tmp 58), type := 0, pos := "ref.go:125", after := #[{ on := 22, ground := Ground.data }, { on := 20, ground := Ground.data }, { on := 20, ground := Ground.chain }, { on := 0, ground := Ground.phase }, { on := 1, ground := Ground.phase }, { on := 2, ground := Ground.phase }, { on := 3, ground := Ground.phase }, { on := 4, ground := Ground.phase }, { on := 5, ground := Ground.phase }, { on := 6, ground := Ground.phase }, { on := 7, ground := Ground.phase }, { on := 8, ground := Ground.phase }, { on := 9, ground := Ground.phase }, { on := 10, ground := Ground.phase }, { on := 11, ground := Ground.phase }, { on := 12, ground := Ground.phase }, { on := 13, ground := Ground.phase }, { on := 14, ground := Ground.phase }, { on := 15, ground := Ground.phase }, { on := 16, ground := Ground.phase }, { on := 17, ground := Ground.phase }, { on := 18, ground := Ground.phase }, { on := 19, ground := Ground.phase }, { on := 20, ground := Ground.phase }], guard := none }) rfl (fun K hK => ?_) AllReadyH.nil
          go_simp
          refine hK.out _ _ trivial (fun _hS => ?_)
          clear hK K
          try simp only [Act.put, List.setIfInBounds_toArray, List.set_cons_zero, List.set_cons_succ]
          refine wpAnyH_done (by kernel_rfl) ?_ _
          refine NoPanic.normal ?_
          go_wp2
          go_roundw
          case rel => exact ⟨k + 1, _, _, hkK, by simp, HFin.out⟩
          case measure => simp [intOf]; omega
    · have e : k = 1 := by omega
      subst e
      have hcc : decide (128 * ((1 : Nat) : Int) < 128) = false := by simp
      have HE := hide hst
      clear hst
      go_wp2
      go_ret
      exact ⟨rfl, w'', _, _, HH.out.2, HE.out⟩
end Go.Proofs.YtobokocpapfjbaaGreat
