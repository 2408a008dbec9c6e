/- Load of whole pages. -/
import Derived.Test.YtlmofgfkclfgeaaGreatDT
import Derived.Deep.RegionHeld3
import Derived.Test.YtlmofgfkclfgeaaGreatXM
import Derived.Test.YtlmofgfkclfgeaaGreatXF
import Derived.Test.YtlmofgfkclfgeaaGreatXK
import Derived.Test.YtlmofgfkclfgeaaGreatFQ
import Derived.Test.YtlmofgfkclfgeaaGreatRH
namespace Go.Proofs.YtlmofgfkclfgeaaGreat
open Go.RowKit Go.Maps
set_option linter.unusedVariables false

/-- the first k of N sectors are those of these bytes, the others noughts. -/
def lsk (N : Nat) (zs : List Int) (k : Nat) : List (List Int) := (List.range N).map fun i => if i < k then sec zs i else List.replicate 128 0
theorem lsk_len (N : Nat) (zs : List Int) (k : Nat) : (lsk N zs k).length = N := by simp [lsk]
theorem lsk_zero (N : Nat) (zs : List Int) : lsk N zs 0 = (DS.new N).ls := by
  apply List.ext_getElem?
  intro j
  by_cases h : j < N
  · simp [lsk, DS.new, h]
  · simp [lsk, DS.new, h]
theorem lsk_succ (N : Nat) (zs : List Int) (k : Nat) : lsk N zs (k + 1) = (lsk N zs k).set k (sec zs k) := by
  apply List.ext_getElem?
  intro j
  by_cases e : k = j
  · subst e
    by_cases h : k < N
    · rw [List.getElem?_set_self (by rw [lsk_len]; exact h)]; simp [lsk, h]
    · rw [List.getElem?_eq_none (by rw [lsk_len]; omega), List.getElem?_eq_none (by simp [lsk_len]; omega)]
  · rw [List.getElem?_set_ne e]
    unfold lsk
    rw [List.getElem?_map, List.getElem?_map]
    by_cases h : j < N
    · rw [List.getElem?_range h]
      simp only [Option.map_some]
      by_cases h2 : j < k
      · rw [if_pos h2, if_pos (by omega)]
      · rw [if_neg h2, if_neg (by omega)]
    · simp [h]
set_option maxHeartbeats 3200000 in
set_option maxRecDepth 1000000 in
theorem load_any (pg b off cap : Nat) (zs : List Int) (w : World) (h1 : 1 ≤ pg) (h2 : pg ≤ 16384) (hz : zs.length = 1024 * pg) (hr : Row w (some ⟨b, off, none⟩) zs) (hby : Byts zs) (hlc : 1024 * pg ≤ cap) (hcm : cap ≤ 9223372036854775807) :
    Calls Tryz.prog 5 #[.slice (some ⟨b, off, none⟩) (1024 * pg) cap] w fun e w' => ∃ O p q, e = .returned (.tuple #[.pointer (some ⟨p, 0, none⟩), .int .u16 0]) ∧ DkAt w' p q ((DS.new (8 * pg)).las (lsk (8 * pg) zs (8 * pg))) O ∧ Fd w.heap.size w w' O := by
  have HRw : Hid (∀ W, Below w.heap.size w W → Row W (some ⟨b, off, none⟩) zs) := fun W hb => hr.below hb
  have HZ := hide hz
  have HBy := hide hby
  clear hr hz hby
  have e1 : (1024 * (pg : Int)) % 1024 = 0 := by omega
  have e2 : (1024 * (pg : Int)) / 1024 = (pg : Int) := by omega
  obtain ⟨LB, HLB⟩ : ∃ LB, Hid (LB = 1024 * pg) := ⟨_, rfl⟩
  have e3 : (LB : Int) % 1024 = 0 := by rw [HLB.out]; omega
  have e4 : (LB : Int) / 1024 = (pg : Int) := by rw [HLB.out]; omega
  rw [← HLB.out]
  obtain ⟨N, HN, hN⟩ : ∃ N, Hid (N = 8 * pg) ∧ N ≤ 131072 := ⟨_, rfl, by omega⟩
  rw [← HN.out]
  go_enter Tryz.func5, Tryz.ntmps5
  go_wp2_with fail
  refine (new_at pg (pg : Int) w rfl h1 h2).mono ?_
  rintro e w1 ⟨O, p, q, rfl, hd, hf⟩
  obtain ⟨vw, m, hdk, ho⟩ := hd
  have HO := hide ho
  have HF1 := hide hf
  have HN1 : Hid (w.heap.size ≤ w1.heap.size) := hf.size
  rw [← HN.out] at hdk
  have HD1 : Hid (Dk w1 p q vw m ((DS.new N).las (lsk N zs 0))) := by rw [Hid, lsk_zero]; exact hdk
  have HLn : Hid (∀ k, ((DS.new N).las (lsk N zs k)).ls.length = N) := fun k => lsk_len N zs k
  have c0 := HD1.out.c 0 (.slice (some ⟨q, 0, none⟩) N N) (by simp only [cells, HLn.out]; rfl)
  clear hdk ho hf
  go_wp2
  clear c0
  go_loopw [26] (fun i wr' => ∃ k : Nat, k ≤ N ∧ i = .int .i64 (k : Int) ∧ Dk wr' p q vw m ((DS.new N).las (lsk N zs k)) ∧ Fd w.heap.size w wr' O) (fun i _ => N - (intOf i).toNat)
  case atStart => exact ⟨0, Nat.zero_le _, rfl, HD1.out, HF1.out⟩
  case round =>
    clear HD1 HF1
    obtain ⟨k, hk, rfl, hd, hf⟩ := hrel
    have HD := hide hd
    have HF := hide hf
    clear hd hf
    by_cases hlt : k < N
    · have HSc : Hid (∀ W, Row W (some ⟨b, off, none⟩) zs → Calls Tryz.prog 20 #[.slice (some ⟨b, off, none⟩) LB cap, .int .i64 (k : Int)] W fun e w' => e = .returned (.agg (sv (sec zs k)).toArray) ∧ Below W.heap.size W w') := fun W hr => sectorAt_any b off LB cap zs k W hr (by rw [HZ.out, HLB.out]) (by rw [HLB.out]; exact hlc) hcm (by have := HLB.out; have := HN.out; omega)
      have HSl : Hid ((sec zs k).length = 128) := sec_len zs k (by have := HZ.out; have := HN.out; omega)
      have HC : Hid (∀ W : World, W.heap[p]? = wr.heap[p]? → W.cell? ⟨p, 0, none⟩ = some (.slice (some ⟨q, 0, none⟩) N N)) := fun W e => by
        rw [World.cell?_of_block (w := wr) e]
        exact HD.out.c 0 _ (by simp only [cells, HLn.out]; rfl)
      have hpl : p < wr.heap.size := HD.out.lt p (.inl rfl)
      have HS0 := hide (HC.out wr.drew rfl)
      have HI110 : Hid ((Tryz.prog.info? 97).map (·.size) = some (sv (sec zs k)).length) := by rw [Hid, sv_len, HSl.out]; exact size110
      have hnb : decide (k < N) = true := by simp [hlt]
      go_wp2
      refine wp_region_noPanic ?_
      refine wp_region_held_drew (S := (fun W => W.cell? ⟨p, 0, none⟩ = some (.slice (some ⟨q, 0, none⟩) N N))) (by kernel_rfl) HS0.out (fun _hS => ?_)
      refine wpAnyH_take (i := 0) (oi := { dst := some 29, op := Op.move (Operand.tmp 4), type := 25, pos := "disk.go:38", after := #[], guard := none }) (v := ?v0x1) rfl (by kernel_rfl) (by kernel_rfl) (by kernel_rfl) (fun _ _ _ h => h) (Or.inl ⟨by rfl, ?hy0x1⟩) (by assumption) ?rest0x1
      case hy0x1 => (intro w hSw; (try dsimp only at hSw); (first | (go_simp; with_reducible rfl) | go_simp))
      try simp only [Act.put, List.setIfInBounds_toArray, List.set_cons_zero, List.set_cons_succ]
      refine wpAnyH_take (i := 1) (oi := { dst := some 30, op := Op.nilCheck (Operand.tmp 29), type := 0, pos := "disk.go:38", after := #[{ on := 0, ground := Ground.data }], guard := none }) (v := ?v1x2) rfl (by kernel_rfl) (by kernel_rfl) (by kernel_rfl) (fun _ _ _ h => h) (Or.inl ⟨by rfl, ?hy1x2⟩) (by assumption) ?rest1x2
      case hy1x2 => (intro w hSw; (try dsimp only at hSw); (first | (go_simp; with_reducible rfl) | go_simp))
      try simp only [Act.put, List.setIfInBounds_toArray, List.set_cons_zero, List.set_cons_succ]
      refine wpAnyH_take (i := 2) (oi := { dst := some 31, op := Op.fieldAddr 95 (Operand.tmp 30) 0, type := 0, pos := "disk.go:38", after := #[{ on := 1, ground := Ground.data }], guard := none }) (v := ?v2x3) rfl (by kernel_rfl) (by kernel_rfl) (by kernel_rfl) (fun _ _ _ h => h) (Or.inl ⟨by rfl, ?hy2x3⟩) (by assumption) ?rest2x3
      case hy2x3 => (intro w hSw; (try dsimp only at hSw); (first | (go_simp; with_reducible rfl) | go_simp))
      try simp only [Act.put, List.setIfInBounds_toArray, List.set_cons_zero, List.set_cons_succ]
      refine wpAnyH_take (i := 3) (oi := { dst := some 32, op := Op.load 85 (Operand.tmp 31), type := 85, pos := "disk.go:38", after := #[{ on := 2, ground := Ground.data }], guard := none }) (v := ?v3x4) rfl (by kernel_rfl) (by kernel_rfl) (by kernel_rfl) (fun _ _ _ h => h) (Or.inl ⟨by rfl, ?hy3x4⟩) (by assumption) ?rest3x4
      case hy3x4 => (intro w hSw; (try dsimp only at hSw); (first | (go_simp; with_reducible rfl) | go_simp))
      try simp only [Act.put, List.setIfInBounds_toArray, List.set_cons_zero, List.set_cons_succ]
      refine wpAnyH_take (i := 4) (oi := { dst := some 33, op := Op.move (Operand.tmp 6), type := 3, pos := "disk.go:38", after := #[], guard := none }) (v := ?v4x5) rfl (by kernel_rfl) (by kernel_rfl) (by kernel_rfl) (fun _ _ _ h => h) (Or.inl ⟨by rfl, ?hy4x5⟩) (by assumption) ?rest4x5
      case hy4x5 => (intro w hSw; (try dsimp only at hSw); (first | (go_simp; with_reducible rfl) | go_simp))
      try simp only [Act.put, List.setIfInBounds_toArray, List.set_cons_zero, List.set_cons_succ]
      refine wpAnyH_take (i := 5) (oi := { dst := some 34, op := Op.move (Operand.tmp 0), type := 22, pos := "disk.go:38", after := #[], guard := none }) (v := ?v5x6) rfl (by kernel_rfl) (by kernel_rfl) (by kernel_rfl) (fun _ _ _ h => h) (Or.inl ⟨by rfl, ?hy5x6⟩) (by assumption) ?rest5x6
      case hy5x6 => (intro w hSw; (try dsimp only at hSw); (first | (go_simp; with_reducible rfl) | go_simp))
      try simp only [Act.put, List.setIfInBounds_toArray, List.set_cons_zero, List.set_cons_succ]
      refine wpAnyH_take (i := 6) (oi := { dst := some 35, op := Op.move (Operand.tmp 6), type := 3, pos := "disk.go:38", after := #[], guard := none }) (v := ?v6x7) rfl (by kernel_rfl) (by kernel_rfl) (by kernel_rfl) (fun _ _ _ h => h) (Or.inl ⟨by rfl, ?hy6x7⟩) (by assumption) ?rest6x7
      case hy6x7 => (intro w hSw; (try dsimp only at hSw); (first | (go_simp; with_reducible rfl) | go_simp))
      try simp only [Act.put, List.setIfInBounds_toArray, List.set_cons_zero, List.set_cons_succ]
      refine wpAnyH_ready (rs := [7]) (by kernel_rfl) (by simp) ?_
      refine AllReadyH.cons (o := { dst := some 36, op := Op.call { callee := Callee.value (Operand.func 20), args := #[Operand.tmp 34, Operand.tmp 35], argTypes := #[22, 3] }, type := 97, pos := "disk.go:38", after := #[{ on := 5, ground := Ground.data }, { on := 6, ground := Ground.data }], guard := none }) rfl (fun K hK => ?_) AllReadyH.nil
      go_simp
      go_at_call 20
      refine (HSc.out _ (HRw.out _ HF.out.below.drew)).mono ?_
      intro r' w5 hh
      obtain ⟨rfl, hb⟩ := hh
      have HB5 := hide ((Below.refl wr.heap.size wr).drew.trans hb)
      clear hb
      go_simp
      refine hK.out _ _ (HC.out w5 (HB5.out.block p hpl)) (fun _hS => ?_)
      clear hK K
      try simp only [Act.put, List.setIfInBounds_toArray, List.set_cons_zero, List.set_cons_succ]
      refine wpAnyH_take (i := 8) (oi := { dst := some 37, op := Op.indexAddr 85 (Operand.tmp 32) (Operand.tmp 33), type := 0, pos := "disk.go:38", after := #[{ on := 3, ground := Ground.data }, { on := 4, ground := Ground.data }, { on := 0, ground := Ground.phase }, { on := 1, ground := Ground.phase }, { on := 2, ground := Ground.phase }, { on := 3, ground := Ground.phase }, { on := 4, ground := Ground.phase }, { on := 5, ground := Ground.phase }, { on := 6, ground := Ground.phase }, { on := 7, ground := Ground.phase }], guard := none }) (v := ?v8x8) rfl (by kernel_rfl) (by kernel_rfl) (by kernel_rfl) (fun _ _ _ h => h) (Or.inl ⟨by rfl, ?hy8x8⟩) (by assumption) ?rest8x8
      case hy8x8 => (intro w hSw; (try dsimp only at hSw); (first | (go_simp; with_reducible rfl) | go_simp))
      try simp only [Act.put, List.setIfInBounds_toArray, List.set_cons_zero, List.set_cons_succ]
      have HD5 := hide (HD.out.below HB5.out)
      have HD6 := hide (HD5.out.put k (sec zs k) (by show k < _; rw [HLn.out]; exact hlt) HSl.out (sec_byts HBy.out k))
      have HFit : Hid (k * 128 + (sv (sec zs k)).length ≤ (flat (lsk N zs k)).toArray.size) := by
        have e1 := flat_len (lsk N zs k) (fun s hs => (HD5.out.good.ls s hs).1)
        rw [Hid, sv_len, HSl.out, List.size_toArray, e1, lsk_len]; omega
      obtain ⟨W6, HW6⟩ : ∃ W6, Hid (W6 = w5.setRow q ((flat (lsk N zs k)).take (k * 128) ++ sv (sec zs k) ++ (flat (lsk N zs k)).drop (k * 128 + (sv (sec zs k)).length)).toArray) := ⟨_, rfl⟩
      have HD7 : Hid (Dk W6 p q vw m ((DS.new N).las (lsk N zs (k + 1)))) := by rw [Hid, HW6.out, lsk_succ]; exact HD6.out
      have HF7 : Hid (Fd w.heap.size w W6 O) := by rw [Hid, HW6.out]; exact (HF.out.on HB5.out).go (Go1.of_mv (mv_setRow w5 q _) ((HO.out q).2 (.inr (.inl rfl))))
      have HC6 := hide (HC.out W6 (by rw [HW6.out, setRow_other w5 q p _ (fun e => HD.out.pq e)]; exact HB5.out.block p hpl))
      refine wpAnyH_ready (rs := [9]) (by kernel_rfl) (by simp) ?_
      refine AllReadyH.cons (o := { dst := none, op := Op.store 97 (Operand.tmp 37) (Operand.tmp 36), type := 0, pos := "disk.go:38", after := #[{ on := 8, ground := Ground.data }, { on := 7, ground := Ground.data }, { on := 7, ground := Ground.chain }, { on := 0, ground := Ground.phase }, { on := 1, ground := Ground.phase }, { on := 2, ground := Ground.phase }, { on := 3, ground := Ground.phase }, { on := 4, ground := Ground.phase }, { on := 5, ground := Ground.phase }, { on := 6, ground := Ground.phase }, { on := 7, ground := Ground.phase }], guard := none }) rfl (fun K hK => ?_) AllReadyH.nil
      refine step_of rfl ?_
      refine wp_store_atL 97 (.tmp 37) (.tmp 36) rfl q (k * 128) (sv (sec zs k)) rfl rfl 97 (flat (lsk N zs k)) HD5.out.las HI110.out HFit.out (sv_one _) W6 HW6.out ?_
      refine hK.out _ _ HC6.out (fun _hS => ?_)
      clear hK K
      try simp only [Act.put]
      refine wpAnyH_done (by kernel_rfl) ?_ _
      refine NoPanic.normal ?_
      go_wp2
      go_roundw
      case rel => exact ⟨k + 1, by omega, by go_num, HD7.out, HF7.out⟩
      case measure => simp [intOf]; omega
    · have e : k = N := by omega
      rw [e] at HD
      have hnb : decide (k < N) = false := by simp; omega
      clear e
      go_wp2
      go_ret2
      exact ⟨O, p, q, rfl, ⟨vw, m, HD.out, HO.out⟩, HF.out⟩
end Go.Proofs.YtlmofgfkclfgeaaGreat
/- A load that the program's disk refuses; both disks begin in the same state. -/
namespace Go.Proofs.YtlmofgfkclfgeaaGreat
open Go.RowKit Go.Maps
set_option linter.unusedVariables false

theorem new_of (N : Nat) : DS.of (List.replicate N (List.replicate 128 0)) = DS.new N := rfl
theorem load_of (N : Nat) (zs : List Int) : DS.of ((List.range N).map (sec zs)) = (DS.new N).las (lsk N zs N) := by
  have e : (List.range N).map (sec zs) = lsk N zs N := by
    unfold lsk
    apply List.map_congr_left
    intro i hi
    rw [List.mem_range] at hi
    rw [if_pos hi]
  rw [e]; rfl
set_option maxHeartbeats 800000 in
set_option maxRecDepth 1000000 in
theorem load_no (a : Option Addr) (len cap : Nat) (w : World) (h : len = 0 ∨ len % 1024 ≠ 0 ∨ 16777216 < len) (hl : len ≤ 9223372036854775807) : Calls Tryz.prog 5 #[.slice a len cap] w fun e w' => e = .returned (.tuple #[.pointer none, .int .u16 70]) ∧ Below w.heap.size w w' := by
  by_cases h2 : len % 1024 = 0
  · have d3 : ((len : Int) % 1024 != 0) = false := by simp; omega
    obtain ⟨n, HQ⟩ : ∃ n : Nat, Hid (n = len / 1024) := ⟨_, rfl⟩
    have HN : Hid (Calls Tryz.prog 19 #[.int .i64 (n : Int)] w fun e w' => e = .returned (.tuple #[.pointer none, .int .u16 70]) ∧ Below w.heap.size w w') := new_no _ w (by have := HQ.out; omega)
    have hq : (len : Int) / 1024 = (n : Int) := by have := HQ.out; omega
    have hq2 : Int.tdiv (len : Int) 1024 = (n : Int) := by rw [Int.tdiv_eq_ediv_of_nonneg (by omega)]; exact hq
    have hw : IntKind.i64.wrap (n : Int) = (n : Int) := by have := HQ.out; rw [IntKind.wrap_i64]; omega
    clear h h2
    go_enter Tryz.func5, Tryz.ntmps5
    go_wp2_with fail
    refine HN.out.mono ?_
    rintro e w1 ⟨rfl, hb⟩
    have HB := hide hb
    clear hb
    go_wp2
    go_ret2
    exact ⟨rfl, HB.out⟩
  · have d3 : ((len : Int) % 1024 != 0) = true := by simp; omega
    have d6 : ((len : Int) % 1024 == 0) = false := by simp; omega
    clear h h2
    go_enter Tryz.func5, Tryz.ntmps5
    go_wp2
    go_ret2
    exact ⟨rfl, Below.refl _ _⟩
end Go.Proofs.YtlmofgfkclfgeaaGreat
/- Both disks side by side: what each call answers, told by the state that they share. -/
namespace Go.Proofs.YtlmofgfkclfgeaaGreat
open Go.RowKit Go.Maps
set_option linter.unusedVariables false

section
variable {w w' : World} {p f : Nat} {vl vc : Value} {Ls Cs : List Value} {S S' : DS}
theorem RD.ltA (h : RD w p vl Ls vc Cs f S) (k : Nat) (hk : OwR p vl Ls vc Cs f k) : k < w.heap.size := by
  rcases hk with hk | hk | hk | hk | ⟨v, hv, hk⟩ | ⟨v, hv, hk⟩
  · exact h.lt k (.inl hk)
  · exact h.lt k (.inr (.inl hk))
  · exact h.lt k (.inr (.inr (.inl hk)))
  · exact h.lt k (.inr (.inr (.inr hk)))
  · obtain ⟨i, hi, e⟩ := List.getElem_of_mem hv
    have hi' : i < S.ls.length := by rw [← h.lle]; exact hi
    exact Own.lt (h.lsl i _ v (List.getElem?_eq_getElem hi') (by rw [List.getElem?_eq_getElem hi, e])) hk
  · obtain ⟨i, hi, e⟩ := List.getElem_of_mem hv
    have hi' : i < S.ws.length := by rw [← h.cle]; exact hi
    exact Own.lt (h.csl i _ v (List.getElem?_eq_getElem hi') (by rw [List.getElem?_eq_getElem hi, e])) hk
/-- the document's disk, with its blocks. -/
def RdAt (w : World) (r : Nat) (S : DS) (O : Nat → Prop) : Prop := ∃ vl Ls vc Cs f, RD w r vl Ls vc Cs f S ∧ ∀ k, O k ↔ OwR r vl Ls vc Cs f k
theorem RdAt.lt {r : Nat} {O : Nat → Prop} (h : RdAt w r S O) (k : Nat) (hk : O k) : k < w.heap.size := by
  obtain ⟨vl, Ls, vc, Cs, f, h, ho⟩ := h
  exact h.ltA k ((ho k).1 hk)
theorem RdAt.other {r : Nat} {O O1 : Nat → Prop} (h : RdAt w r S O) (hm : Mv O1 w w') (hap : ∀ k, O k → ¬ O1 k) : RdAt w' r S O := by
  obtain ⟨vl, Ls, vc, Cs, f, h, ho⟩ := h
  exact ⟨vl, Ls, vc, Cs, f, h.stays (fun k hk hl => hm.block k hl (hap k ((ho k).2 hk))) hm.size, ho⟩
theorem RdAt.below {r : Nat} {O : Nat → Prop} (h : RdAt w r S O) (hb : Below w.heap.size w w') : RdAt w' r S O := by
  obtain ⟨vl, Ls, vc, Cs, f, h, ho⟩ := h
  exact ⟨vl, Ls, vc, Cs, f, h.below hb, ho⟩
theorem RdAt.good {r : Nat} {O : Nat → Prop} (h : RdAt w r S O) : S.Good := by
  obtain ⟨vl, Ls, vc, Cs, f, h, ho⟩ := h
  exact h.good
theorem rd_to {O O1 : Nat → Prop} {vl' vc' : Value} {Ls' Cs' : List Value} {f' : Nat} (hO : ∀ k, O k ↔ OwR p vl Ls vc Cs f k) (h' : RD w' p vl' Ls' vc' Cs' f' S') (hm : Mv O1 w w') (h1 : ∀ k, O1 k → OwR p vl Ls vc Cs f k) (h2 : ∀ k, OwR p vl' Ls' vc' Cs' f' k → OwR p vl Ls vc Cs f k ∨ w.heap.size ≤ k) : ∃ O', RdAt w' p S' O' ∧ Go1 O w O' w' :=
  ⟨_, ⟨_, _, _, _, _, h', fun k => Iff.rfl⟩, ⟨hm.os, hm.tape, hm.output, hm.size, fun k hk hn => hm.block k hk (fun h => hn ((hO k).2 (h1 k h)))⟩, fun k hk => (h2 k hk).imp_left (hO k).2⟩
theorem rdat_same {O : Nat → Prop} (hO : ∀ k, O k ↔ OwR p vl Ls vc Cs f k) (h' : RD w' p vl Ls vc Cs f S') (hm : Mv (fun k => k = p ∨ k = f) w w') : ∃ O', RdAt w' p S' O' ∧ Go1 O w O' w' :=
  rd_to hO h' hm (fun k hk => hk.elim (fun e => .inl e) (fun e => .inr (.inr (.inr (.inl e))))) (fun k hk => .inl hk)
end
/-- is it a page of the disk? -/
def Pgs (S : DS) (pg : Int) : Prop := 0 ≤ pg ∧ pg < ((S.ls.length / 8 : Nat) : Int)
instance (S : DS) (pg : Int) : Decidable (Pgs S pg) := by unfold Pgs; infer_instance
def rdE (S : DS) (pg : Int) : Nat := if S.er S.s1 S.l1 ≠ 0 then S.er S.s1 S.l1 else if Pgs S pg then 0 else 2
def rdB (S : DS) (pg : Int) : List Int := if S.er S.s1 S.l1 = 0 ∧ Pgs S pg then rd S (8 * pg.toNat) 8 else []
def News (w : World) (v : Value) : Prop := ∀ g, v.ownBlock = some g → w.heap.size ≤ g
theorem News.nil (w : World) : News w (.slice none 0 0) := fun g hg => by simp [Value.ownBlock] at hg
theorem DkAt.good {w : World} {p q : Nat} {S : DS} {O : Nat → Prop} (h : DkAt w p q S O) : S.Good := by
  obtain ⟨vw, m, hd, ho⟩ := h
  exact hd.good
theorem d_read (p q : Nat) (O : Nat → Prop) (S : DS) (pg : Int) (w : World) (h : DkAt w p q S O) (hn : S.n1 + 1 ≤ 1000000) :
    Calls Tryz.prog 77 #[.pointer (some ⟨p, 0, none⟩), .int .i64 pg] w fun e w' => ∃ v, e = .returned (.tuple #[v, .int .u16 (rdE S pg : Int)]) ∧ Own w' v (rdB S pg) ∧ News w v ∧ DkAt w' p q (S.be S.op1) O ∧ Go1 O w O w' := by
  by_cases hr : Pgs S pg
  · obtain ⟨n, rfl⟩ := Int.eq_ofNat_of_zero_le hr.1
    have h2 := hr.2
    refine (read_any p q O S n w h (by omega) hn).mono ?_
    rintro e w' ⟨v, rfl, h1, h2, h3⟩
    by_cases he : S.er S.s1 S.l1 = 0
    · have h4 := h1.1 he
      refine ⟨v, by simp [rdE, he, hr], ?_, h4.2, h2, h3⟩
      unfold rdB
      rw [if_pos ⟨he, hr⟩]
      exact h4.1
    · refine ⟨v, by simp [rdE, he], ?_, ?_, h2, h3⟩
      · unfold rdB
        rw [if_neg (fun h => he h.1), h1.2 he]
        exact Own.nil _
      · rw [h1.2 he]; exact News.nil _
  · refine (read_no p q O S pg w h hr hn).mono ?_
    rintro e w' ⟨rfl, h2, h3⟩
    refine ⟨_, ?_, ?_, News.nil _, h2, h3⟩
    · simp [rdE, DS.rno, hr]
    · unfold rdB
      rw [if_neg (fun h => hr h.2)]
      exact Own.nil _
theorem r_read (r : Nat) (O : Nat → Prop) (S : DS) (pg : Int) (w : World) (h : RdAt w r S O) (hn : S.n1 + 1 ≤ 1000000) :
    Calls Tryz.prog 60 #[.pointer (some ⟨r, 0, none⟩), .int .i64 pg] w fun e w' => ∃ v, e = .returned (.tuple #[v, .int .u16 (rdE S pg : Int)]) ∧ Own w' v (rdB S pg) ∧ News w v ∧ ∃ O', RdAt w' r (S.be S.op1) O' ∧ Go1 O w O' w' := by
  obtain ⟨vl, Ls, vc, Cs, f, h, ho⟩ := h
  by_cases he : S.er S.s1 S.l1 = 0
  · by_cases hr : Pgs S pg
    · obtain ⟨n, rfl⟩ := Int.eq_ofNat_of_zero_le hr.1
      have h2 := hr.2
      refine (rread_any h n hn he (by omega)).mono ?_
      rintro e w' ⟨v, rfl, h1, h2, h3, h4⟩
      refine ⟨v, by simp [rdE, he, hr], ?_, h2, rdat_same ho h3 h4⟩
      unfold rdB
      rw [if_pos ⟨he, hr⟩]
      exact h1
    · refine (rread_no h pg hn he hr).mono ?_
      rintro e w' ⟨rfl, h3, h4⟩
      refine ⟨_, by simp [rdE, he, hr], ?_, News.nil _, rdat_same ho h3 h4⟩
      unfold rdB
      rw [if_neg (fun h => hr h.2)]
      exact Own.nil _
  · refine (rread_er h pg hn he).mono ?_
    rintro e w' ⟨rfl, h3, h4⟩
    refine ⟨_, by simp [rdE, he], ?_, News.nil _, rdat_same ho h3 h4⟩
    unfold rdB
    rw [if_neg (fun h => he h.1)]
    exact Own.nil _
def wrE (S : DS) (pg : Int) (n : Nat) : Nat := if S.er S.s2 S.l2 ≠ 0 then S.er S.s2 S.l2 else if ¬ Pgs S pg then 2 else if n = 1024 ∨ n = 128 then 0 else 1
def wrS (S : DS) (pg : Int) (zs : List Int) : DS := if S.er S.s2 S.l2 = 0 ∧ Pgs S pg ∧ zs.length = 1024 then S.op2.adds (8 * pg.toNat) zs 8 else if S.er S.s2 S.l2 = 0 ∧ Pgs S pg ∧ zs.length = 128 then S.op2.adds (8 * pg.toNat) zs 1 else S.be S.op2
theorem wst_to {w wa w' : World} {p f : Nat} {vl vc vc' : Value} {Ls Cs Cs' : List Value} {S : DS} {O : Nat → Prop} (hO : ∀ k, O k ↔ OwR p vl Ls vc Cs f k) (hm : Mv (fun k => k = p ∨ k = f) w wa) (h : Wst wa w' p vl Ls vc Cs f S vc' Cs') : ∃ O', RdAt w' p S O' ∧ Go1 O w O' w' := by
  have hs := hm.size
  have hv := h.mv
  have hmv : Mv (fun k => k = p ∨ k = f ∨ vc.ownBlock = some k) w w' :=
    ⟨hv.os.trans hm.os, hv.tape.trans hm.tape, hv.output.trans hm.output, Nat.le_trans hm.size hv.size, fun k hk hn => (hv.block k (by omega) (fun e => hn (e.elim .inl (fun e => .inr (.inr e))))).trans (hm.block k hk (fun e => hn (e.elim .inl (fun e => .inr (.inl e)))))⟩
  refine rd_to hO h.rd hmv ?_ ?_
  · rintro k (e | e | e)
    · exact .inl e
    · exact .inr (.inr (.inr (.inl e)))
    · exact .inr (.inr (.inl e))
  · rintro k (e | e | e | e | ⟨v, hv, e⟩ | ⟨v, hv, e⟩)
    · exact .inl (.inl e)
    · exact .inl (.inr (.inl e))
    · exact (h.vb k e).elim (fun e => .inl (.inr (.inr (.inl e)))) (fun e => .inr (by omega))
    · exact .inl (.inr (.inr (.inr (.inl e))))
    · exact .inl (.inr (.inr (.inr (.inr (.inl ⟨v, hv, e⟩)))))
    · exact (h.cb v hv).elim (fun h => .inl (.inr (.inr (.inr (.inr (.inr ⟨v, h, e⟩)))))) (fun h => .inr (by have := h k e; omega))
def trE (S : DS) (n : Int) : Nat := if n < 0 then 1 else if S.dk then 4 else 0
def trS (S : DS) (n : Int) : DS := if n < 0 ∨ S.dk = true then S else S.trip n
def flE (S : DS) (f n : Int) : Nat := if f < 1 ∨ 3 < f ∨ n < 0 then 1 else if S.dk then 4 else 0
def flS (S : DS) (f n : Int) : DS := if (f < 1 ∨ 3 < f ∨ n < 0) ∨ S.dk = true then S else if f = 1 then S.fl1 n else if f = 2 then S.fl2 n else S.fl3 n
end Go.Proofs.YtlmofgfkclfgeaaGreat
/- What a call made, as bytes like any. -/
namespace Go.Proofs.YtlmofgfkclfgeaaGreat
open Go.RowKit
set_option linter.unusedVariables false

theorem Made.inn {w W : World} {a : Option Addr} {n c : Nat} {zs : List Int} (h : Made w (.slice a n c) zs W) (h8 : Byts zs) : Inn W a n c zs ∧ Hid (n = zs.length) := by
  obtain ⟨a', c', e, h1, h2, h3, h4, _⟩ := h.1.shape
  cases e
  exact ⟨⟨rfl, h1, by unfold maxLen at h2; omega, h3, h4, h8⟩, hide rfl⟩
theorem own_inn {w : World} {a : Option Addr} {n c : Nat} {zs : List Int} (h : Own w (.slice a n c) zs) (h8 : Byts zs) : Inn w a n c zs := by
  obtain ⟨a', c', e, h1, h2, h3, h4, _⟩ := h.shape
  cases e
  exact ⟨rfl, h1, by unfold maxLen at h2; omega, h3, h4, h8⟩
theorem text_inn {w : World} {a : Option Addr} {n c : Nat} {zs : List Int} (h : Inn w a n c zs) : (convert 22 9 (.slice a n c)).run Tryz.prog w = .ok (.string (bk zs)) w := run_text w a n c zs h.len h.bare h.row h.byts
end Go.Proofs.YtlmofgfkclfgeaaGreat
