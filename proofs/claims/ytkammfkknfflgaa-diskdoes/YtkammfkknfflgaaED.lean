/- Load of whole pages. -/
import Derived.Test.YtkammfkknfflgaaDT
import Derived.Deep.RegionHeld3
namespace Go.Proofs.Ytkammfkknfflgaa
open Go.RowKit Go.Maps
set_option linter.unusedVariables false

/-- the first k of N sectors are those of these bytes, the others noughts. -/
def lsk (N : Nat) (zs : List Int) (k : Nat) : List (List Int) := (List.range N).map fun i => if i < k then sec zs i else List.replicate 128 0
theorem lsk_len (N : Nat) (zs : List Int) (k : Nat) : (lsk N zs k).length = N := by simp [lsk]
theorem lsk_zero (N : Nat) (zs : List Int) : lsk N zs 0 = (DS.new N).ls := by
  apply List.ext_getElem?
  intro j
  by_cases h : j < N
  · simp [lsk, DS.new, h]
  · simp [lsk, DS.new, h]
theorem lsk_succ (N : Nat) (zs : List Int) (k : Nat) : lsk N zs (k + 1) = (lsk N zs k).set k (sec zs k) := by
  apply List.ext_getElem?
  intro j
  by_cases e : k = j
  · subst e
    by_cases h : k < N
    · rw [List.getElem?_set_self (by rw [lsk_len]; exact h)]; simp [lsk, h]
    · rw [List.getElem?_eq_none (by rw [lsk_len]; omega), List.getElem?_eq_none (by simp [lsk_len]; omega)]
  · rw [List.getElem?_set_ne e]
    unfold lsk
    rw [List.getElem?_map, List.getElem?_map]
    by_cases h : j < N
    · rw [List.getElem?_range h]
      simp only [Option.map_some]
      by_cases h2 : j < k
      · rw [if_pos h2, if_pos (by omega)]
      · rw [if_neg h2, if_neg (by omega)]
    · simp [h]
set_option maxHeartbeats 3200000 in
set_option maxRecDepth 1000000 in
theorem load_any (pg b off cap : Nat) (zs : List Int) (w : World) (h1 : 1 ≤ pg) (h2 : pg ≤ 16384) (hz : zs.length = 1024 * pg) (hr : Row w (some ⟨b, off, none⟩) zs) (hby : Byts zs) (hlc : 1024 * pg ≤ cap) (hcm : cap ≤ 9223372036854775807) :
    Calls Try.prog 11 #[.slice (some ⟨b, off, none⟩) (1024 * pg) cap] w fun e w' => ∃ O p q, e = .returned (.tuple #[.pointer (some ⟨p, 0, none⟩), .int .u16 0]) ∧ DkAt w' p q ((DS.new (8 * pg)).las (lsk (8 * pg) zs (8 * pg))) O ∧ Fd w.heap.size w w' O := by
  have HRw : Hid (∀ W, Below w.heap.size w W → Row W (some ⟨b, off, none⟩) zs) := fun W hb => hr.below hb
  have HZ := hide hz
  have HBy := hide hby
  clear hr hz hby
  have e1 : (1024 * (pg : Int)) % 1024 = 0 := by omega
  have e2 : (1024 * (pg : Int)) / 1024 = (pg : Int) := by omega
  obtain ⟨LB, HLB⟩ : ∃ LB, Hid (LB = 1024 * pg) := ⟨_, rfl⟩
  have e3 : (LB : Int) % 1024 = 0 := by rw [HLB.out]; omega
  have e4 : (LB : Int) / 1024 = (pg : Int) := by rw [HLB.out]; omega
  rw [← HLB.out]
  obtain ⟨N, HN, hN⟩ : ∃ N, Hid (N = 8 * pg) ∧ N ≤ 131072 := ⟨_, rfl, by omega⟩
  rw [← HN.out]
  go_enter Try.func11, Try.ntmps11
  go_wp2_with fail
  refine (new_at pg (pg : Int) w rfl h1 h2).mono ?_
  rintro e w1 ⟨O, p, q, rfl, hd, hf⟩
  obtain ⟨vw, m, hdk, ho⟩ := hd
  have HO := hide ho
  have HF1 := hide hf
  have HN1 : Hid (w.heap.size ≤ w1.heap.size) := hf.size
  rw [← HN.out] at hdk
  have HD1 : Hid (Dk w1 p q vw m ((DS.new N).las (lsk N zs 0))) := by rw [Hid, lsk_zero]; exact hdk
  have HLn : Hid (∀ k, ((DS.new N).las (lsk N zs k)).ls.length = N) := fun k => lsk_len N zs k
  have c0 := HD1.out.c 0 (.slice (some ⟨q, 0, none⟩) N N) (by simp only [cells, HLn.out]; rfl)
  clear hdk ho hf
  go_wp2
  clear c0
  go_loopw [26] (fun i wr' => ∃ k : Nat, k ≤ N ∧ i = .int .i64 (k : Int) ∧ Dk wr' p q vw m ((DS.new N).las (lsk N zs k)) ∧ Fd w.heap.size w wr' O) (fun i _ => N - (intOf i).toNat)
  case atStart => exact ⟨0, Nat.zero_le _, rfl, HD1.out, HF1.out⟩
  case round =>
    clear HD1 HF1
    obtain ⟨k, hk, rfl, hd, hf⟩ := hrel
    have HD := hide hd
    have HF := hide hf
    clear hd hf
    by_cases hlt : k < N
    · have HSc : Hid (∀ W, Row W (some ⟨b, off, none⟩) zs → Calls Try.prog 31 #[.slice (some ⟨b, off, none⟩) LB cap, .int .i64 (k : Int)] W fun e w' => e = .returned (.agg (sv (sec zs k)).toArray) ∧ Below W.heap.size W w') := fun W hr => sectorAt_any b off LB cap zs k W hr (by rw [HZ.out, HLB.out]) (by rw [HLB.out]; exact hlc) hcm (by have := HLB.out; have := HN.out; omega)
      have HSl : Hid ((sec zs k).length = 128) := sec_len zs k (by have := HZ.out; have := HN.out; omega)
      have HC : Hid (∀ W : World, W.heap[p]? = wr.heap[p]? → W.cell? ⟨p, 0, none⟩ = some (.slice (some ⟨q, 0, none⟩) N N)) := fun W e => by
        rw [World.cell?_of_block (w := wr) e]
        exact HD.out.c 0 _ (by simp only [cells, HLn.out]; rfl)
      have hpl : p < wr.heap.size := HD.out.lt p (.inl rfl)
      have HS0 := hide (HC.out wr.drew rfl)
      have HI110 : Hid ((Try.prog.info? 103).map (·.size) = some (sv (sec zs k)).length) := by rw [Hid, sv_len, HSl.out]; exact size110
      have hnb : decide (k < N) = true := by simp [hlt]
      go_wp2
      refine wp_region_noPanic ?_
      refine wp_region_held_drew (S := (fun W => W.cell? ⟨p, 0, none⟩ = some (.slice (some ⟨q, 0, none⟩) N N))) (by kernel_rfl) HS0.out (fun _hS => ?_)
      refine wpAnyH_take (i := 0) (oi := { dst := some 29, op := Op.move (Operand.tmp 4), type := 24, pos := "disk.go:38", after := #[], guard := none }) (v := ?v0x1) rfl (by kernel_rfl) (by kernel_rfl) (by kernel_rfl) (fun _ _ _ h => h) (Or.inl ⟨by rfl, ?hy0x1⟩) (by assumption) ?rest0x1
      case hy0x1 => (intro w hSw; (try dsimp only at hSw); (first | (go_simp; with_reducible rfl) | go_simp))
      try simp only [Act.put, List.setIfInBounds_toArray, List.set_cons_zero, List.set_cons_succ]
      refine wpAnyH_take (i := 1) (oi := { dst := some 30, op := Op.nilCheck (Operand.tmp 29), type := 0, pos := "disk.go:38", after := #[{ on := 0, ground := Ground.data }], guard := none }) (v := ?v1x2) rfl (by kernel_rfl) (by kernel_rfl) (by kernel_rfl) (fun _ _ _ h => h) (Or.inl ⟨by rfl, ?hy1x2⟩) (by assumption) ?rest1x2
      case hy1x2 => (intro w hSw; (try dsimp only at hSw); (first | (go_simp; with_reducible rfl) | go_simp))
      try simp only [Act.put, List.setIfInBounds_toArray, List.set_cons_zero, List.set_cons_succ]
      refine wpAnyH_take (i := 2) (oi := { dst := some 31, op := Op.fieldAddr 92 (Operand.tmp 30) 0, type := 0, pos := "disk.go:38", after := #[{ on := 1, ground := Ground.data }], guard := none }) (v := ?v2x3) rfl (by kernel_rfl) (by kernel_rfl) (by kernel_rfl) (fun _ _ _ h => h) (Or.inl ⟨by rfl, ?hy2x3⟩) (by assumption) ?rest2x3
      case hy2x3 => (intro w hSw; (try dsimp only at hSw); (first | (go_simp; with_reducible rfl) | go_simp))
      try simp only [Act.put, List.setIfInBounds_toArray, List.set_cons_zero, List.set_cons_succ]
      refine wpAnyH_take (i := 3) (oi := { dst := some 32, op := Op.load 82 (Operand.tmp 31), type := 82, pos := "disk.go:38", after := #[{ on := 2, ground := Ground.data }], guard := none }) (v := ?v3x4) rfl (by kernel_rfl) (by kernel_rfl) (by kernel_rfl) (fun _ _ _ h => h) (Or.inl ⟨by rfl, ?hy3x4⟩) (by assumption) ?rest3x4
      case hy3x4 => (intro w hSw; (try dsimp only at hSw); (first | (go_simp; with_reducible rfl) | go_simp))
      try simp only [Act.put, List.setIfInBounds_toArray, List.set_cons_zero, List.set_cons_succ]
      refine wpAnyH_take (i := 4) (oi := { dst := some 33, op := Op.move (Operand.tmp 6), type := 3, pos := "disk.go:38", after := #[], guard := none }) (v := ?v4x5) rfl (by kernel_rfl) (by kernel_rfl) (by kernel_rfl) (fun _ _ _ h => h) (Or.inl ⟨by rfl, ?hy4x5⟩) (by assumption) ?rest4x5
      case hy4x5 => (intro w hSw; (try dsimp only at hSw); (first | (go_simp; with_reducible rfl) | go_simp))
      try simp only [Act.put, List.setIfInBounds_toArray, List.set_cons_zero, List.set_cons_succ]
      refine wpAnyH_take (i := 5) (oi := { dst := some 34, op := Op.move (Operand.tmp 0), type := 63, pos := "disk.go:38", after := #[], guard := none }) (v := ?v5x6) rfl (by kernel_rfl) (by kernel_rfl) (by kernel_rfl) (fun _ _ _ h => h) (Or.inl ⟨by rfl, ?hy5x6⟩) (by assumption) ?rest5x6
      case hy5x6 => (intro w hSw; (try dsimp only at hSw); (first | (go_simp; with_reducible rfl) | go_simp))
      try simp only [Act.put, List.setIfInBounds_toArray, List.set_cons_zero, List.set_cons_succ]
      refine wpAnyH_take (i := 6) (oi := { dst := some 35, op := Op.move (Operand.tmp 6), type := 3, pos := "disk.go:38", after := #[], guard := none }) (v := ?v6x7) rfl (by kernel_rfl) (by kernel_rfl) (by kernel_rfl) (fun _ _ _ h => h) (Or.inl ⟨by rfl, ?hy6x7⟩) (by assumption) ?rest6x7
      case hy6x7 => (intro w hSw; (try dsimp only at hSw); (first | (go_simp; with_reducible rfl) | go_simp))
      try simp only [Act.put, List.setIfInBounds_toArray, List.set_cons_zero, List.set_cons_succ]
      refine wpAnyH_ready (rs := [7]) (by kernel_rfl) (by simp) ?_
      refine AllReadyH.cons (o := { dst := some 36, op := Op.call { callee := Callee.value (Operand.func 31), args := #[Operand.tmp 34, Operand.tmp 35], argTypes := #[63, 3] }, type := 103, pos := "disk.go:38", after := #[{ on := 5, ground := Ground.data }, { on := 6, ground := Ground.data }], guard := none }) rfl (fun K hK => ?_) AllReadyH.nil
      go_simp
      go_at_call 31
      refine (HSc.out _ (HRw.out _ HF.out.below.drew)).mono ?_
      intro r' w5 hh
      obtain ⟨rfl, hb⟩ := hh
      have HB5 := hide ((Below.refl wr.heap.size wr).drew.trans hb)
      clear hb
      go_simp
      refine hK.out _ _ (HC.out w5 (HB5.out.block p hpl)) (fun _hS => ?_)
      clear hK K
      try simp only [Act.put, List.setIfInBounds_toArray, List.set_cons_zero, List.set_cons_succ]
      refine wpAnyH_take (i := 8) (oi := { dst := some 37, op := Op.indexAddr 82 (Operand.tmp 32) (Operand.tmp 33), type := 0, pos := "disk.go:38", after := #[{ on := 3, ground := Ground.data }, { on := 4, ground := Ground.data }, { on := 0, ground := Ground.phase }, { on := 1, ground := Ground.phase }, { on := 2, ground := Ground.phase }, { on := 3, ground := Ground.phase }, { on := 4, ground := Ground.phase }, { on := 5, ground := Ground.phase }, { on := 6, ground := Ground.phase }, { on := 7, ground := Ground.phase }], guard := none }) (v := ?v8x8) rfl (by kernel_rfl) (by kernel_rfl) (by kernel_rfl) (fun _ _ _ h => h) (Or.inl ⟨by rfl, ?hy8x8⟩) (by assumption) ?rest8x8
      case hy8x8 => (intro w hSw; (try dsimp only at hSw); (first | (go_simp; with_reducible rfl) | go_simp))
      try simp only [Act.put, List.setIfInBounds_toArray, List.set_cons_zero, List.set_cons_succ]
      have HD5 := hide (HD.out.below HB5.out)
      have HD6 := hide (HD5.out.put k (sec zs k) (by show k < _; rw [HLn.out]; exact hlt) HSl.out (sec_byts HBy.out k))
      have HFit : Hid (k * 128 + (sv (sec zs k)).length ≤ (flat (lsk N zs k)).toArray.size) := by
        have e1 := flat_len (lsk N zs k) (fun s hs => (HD5.out.good.ls s hs).1)
        rw [Hid, sv_len, HSl.out, List.size_toArray, e1, lsk_len]; omega
      obtain ⟨W6, HW6⟩ : ∃ W6, Hid (W6 = w5.setRow q ((flat (lsk N zs k)).take (k * 128) ++ sv (sec zs k) ++ (flat (lsk N zs k)).drop (k * 128 + (sv (sec zs k)).length)).toArray) := ⟨_, rfl⟩
      have HD7 : Hid (Dk W6 p q vw m ((DS.new N).las (lsk N zs (k + 1)))) := by rw [Hid, HW6.out, lsk_succ]; exact HD6.out
      have HF7 : Hid (Fd w.heap.size w W6 O) := by rw [Hid, HW6.out]; exact (HF.out.on HB5.out).go (Go1.of_mv (mv_setRow w5 q _) ((HO.out q).2 (.inr (.inl rfl))))
      have HC6 := hide (HC.out W6 (by rw [HW6.out, setRow_other w5 q p _ (fun e => HD.out.pq e)]; exact HB5.out.block p hpl))
      refine wpAnyH_ready (rs := [9]) (by kernel_rfl) (by simp) ?_
      refine AllReadyH.cons (o := { dst := none, op := Op.store 103 (Operand.tmp 37) (Operand.tmp 36), type := 0, pos := "disk.go:38", after := #[{ on := 8, ground := Ground.data }, { on := 7, ground := Ground.data }, { on := 7, ground := Ground.chain }, { on := 0, ground := Ground.phase }, { on := 1, ground := Ground.phase }, { on := 2, ground := Ground.phase }, { on := 3, ground := Ground.phase }, { on := 4, ground := Ground.phase }, { on := 5, ground := Ground.phase }, { on := 6, ground := Ground.phase }, { on := 7, ground := Ground.phase }], guard := none }) rfl (fun K hK => ?_) AllReadyH.nil
      refine step_of rfl ?_
      refine wp_store_atL 103 (.tmp 37) (.tmp 36) rfl q (k * 128) (sv (sec zs k)) rfl rfl 103 (flat (lsk N zs k)) HD5.out.las HI110.out HFit.out (sv_one _) W6 HW6.out ?_
      refine hK.out _ _ HC6.out (fun _hS => ?_)
      clear hK K
      try simp only [Act.put]
      refine wpAnyH_done (by kernel_rfl) ?_ _
      refine NoPanic.normal ?_
      go_wp2
      go_roundw
      case rel => exact ⟨k + 1, by omega, by go_num, HD7.out, HF7.out⟩
      case measure => simp [intOf]; omega
    · have e : k = N := by omega
      rw [e] at HD
      have hnb : decide (k < N) = false := by simp; omega
      clear e
      go_wp2
      go_ret2
      exact ⟨O, p, q, rfl, ⟨vw, m, HD.out, HO.out⟩, HF.out⟩
end Go.Proofs.Ytkammfkknfflgaa
