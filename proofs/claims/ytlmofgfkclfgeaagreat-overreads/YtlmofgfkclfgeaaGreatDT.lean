/- Noughts appended. -/
import Derived.Test.YtlmofgfkclfgeaaGreatDP
import Derived.BigQuiet
import Derived.WalkSmall
namespace Go.Proofs.YtlmofgfkclfgeaaGreat
open Go.RowKit Go.Maps
set_option linter.unusedVariables false
theorem zeroCells_eq (n : Nat) : Builtin.zeroCells (Value.int .u8 0).cells n = ((List.replicate n (0 : Int)).map (Value.int .u8)).toArray := by
  apply Array.ext'
  simp only [Builtin.zeroCells, Value.cells]
  apply List.ext_getElem?
  intro j
  by_cases h : j < n
  · simp [h, Nat.mod_one]
  · simp [h]
theorem run_append_zeros (w : World) (ty : TypeId) (v : Value) (zs : List Int) (hown : Own w v zs) (n : Nat) (h0 : 0 < n) (hn : n ≤ 100000) (hp : 0 < zs.length) (hl : zs.length ≤ 100000) :
    ∃ v' w', (Builtin.append_ #[22, 3] ty #[v, .int .i64 (n : Int)]).run Tryz.prog w = .ok v' w' ∧ Own w' v' (zs ++ List.replicate n 0) ∧ w.grownBy w' v.ownBlock ∧ ∀ k, v'.ownBlock = some k → v.ownBlock = some k ∨ w.heap.size ≤ k := by
  obtain ⟨i, hi, hz, h1, hby⟩ := info_parts Tryz.info5
  have hlen : (zs ++ List.replicate n (0 : Int)).length = zs.length + n := by simp
  have hw : IntKind.i64.wrap (n : Int) = (n : Int) := by rw [IntKind.wrap_i64]; omega
  have hnneg : ¬ ((n : Int) < 0) := by omega
  have hnb : ¬ (281474976710656 < (n : Int)) := by omega
  have hn0 : n ≠ 0 := by omega
  have hone : ∀ u ∈ (List.replicate n (0 : Int)).map (Value.int .u8), u.oneCell' = true := ints_oneCell _ _
  rcases hown.2 with ⟨rfl, h0'⟩ | ⟨g, cap, cur, rfl, hbg, hg, hnc, hcm, hcs, htake⟩
  · omega
  · by_cases hroom : zs.length + n ≤ cap
    · have hfit : zs.length * 1 + ((List.replicate n (0 : Int)).map (Value.int .u8)).length ≤ cur.size := by rw [List.length_map, List.length_replicate, hcs]; omega
      have hst := run_storeCells_at Tryz.prog g (zs.length * 1) 5 ((List.replicate n (0 : Int)).map (Value.int .u8)) 0 cur w hg (by simpa using hfit) hone
      simp only [Nat.add_zero] at hst
      refine ⟨.slice (some ⟨g, 0, none⟩) (zs.length + n) cap, w.setRow g (cur.toList.take (zs.length * 1) ++ (List.replicate n (0 : Int)).map (Value.int .u8) ++ cur.toList.drop (zs.length * 1 + ((List.replicate n (0 : Int)).map (Value.int .u8)).length)).toArray, ?_, ⟨by simp, .inr ⟨g, cap, _, by rw [hlen], Nat.zero_le _, setRow_heap w g cur _ 5 _ hg, by rw [hlen]; exact hroom, hcm, ?_, ?_⟩⟩, ⟨rfl, rfl, rfl, by simp, fun k _ hk => setRow_other w g k _ (fun e => hk (by simp [Value.ownBlock, e]))⟩, fun k hk => .inl hk⟩
      · simp [Builtin.append_, run_underlying Tryz.underlying22, run_underlying Tryz.underlying3, sizeOf, typeInfo, zeroValue, hi, hz, h1, hby, asInt, asIntOf, hw, hnneg, hnb, hn0, hroom, zeroCells_eq, Addr.add_lit]
        simp at hst
        simp [hst]
      · simp only [List.size_toArray, List.length_append, List.length_take, List.length_drop, Array.length_toList, List.length_map, List.length_replicate] at hfit ⊢
        omega
      · have e : (zs ++ List.replicate n (0 : Int)).length * 1 = ((zs.map (Value.int .u8)) ++ ((List.replicate n (0 : Int)).map (Value.int .u8))).length := by simp
        rw [htake, e, List.map_append]
        exact List.take_left
    · have holds : ∀ j u, (zs.map (Value.int .u8))[j]? = some u → w.drew.cell? ((⟨g, 0, none⟩ : Addr).add j) = some u := hown.cells (g := g) rfl
      have hold := run_firstCells_some (P := Tryz.prog) w.drew 1 zs.length ⟨g, 0, none⟩ zs.length cap _ (by simp) holds
      have hge := grownCap_ge w (zs.length + n) cap 5
      have hcm' : grownCap w (zs.length + n) cap 5 ≤ maxLen := grownCap_le_maxLen w _ cap 5 (by unfold maxLen; omega)
      have hfit : ¬ (281474976710656 < Builtin.nextslicecap (zs.length + n) cap) := by have := growslice_fits (bytes := 1) (need := zs.length + n) (old := cap) (by omega) (by omega); omega
      have h63' : ¬ (9223372036854775807 < ((zs.length : Int) + (n : Int))) := by omega
      refine ⟨.slice (some ⟨w.heap.size, 0, none⟩) (zs.length + n) (grownCap w (zs.length + n) cap 5), w.drew.alloc (.cells (((zs.map (Value.int .u8)) ++ ((List.replicate n (0 : Int)).map (Value.int .u8))).toArray ++ Builtin.zeroCells (Value.int .u8 0).cells (grownCap w (zs.length + n) cap 5 - (zs.length + n))) 5), ?_, ⟨by simp, .inr ⟨w.heap.size, _, _, by rw [hlen], Nat.zero_le _, heap_alloc_new w.drew _, by rw [hlen]; exact hge, hcm', ?_, ?_⟩⟩, ⟨rfl, rfl, rfl, by simp, fun k hk _ => Below.heap_alloc w.drew _ k hk⟩, fun k hk => .inr (by simp [Value.ownBlock] at hk; omega)⟩
      · simp [Builtin.append_, run_underlying Tryz.underlying22, run_underlying Tryz.underlying3, sizeOf, typeInfo, zeroValue, hi, hz, h1, hby, asInt, asIntOf, hw, hnneg, hnb, hn0, hroom, h63', hfit, Question.forced, zeroCells_eq, hold, newRow, grownCap]
        refine congrArg (fun c => w.drew.alloc (Obj.cells c 5)) ?_
        apply Array.ext'
        simp [List.append_assoc]
      · simp only [Array.size_append, List.size_toArray, size_zeroCells, List.length_append, List.length_map, List.length_replicate]
        simp [Value.cells]; omega
      · have e : (zs ++ List.replicate n (0 : Int)).length * 1 = ((zs.map (Value.int .u8)) ++ ((List.replicate n (0 : Int)).map (Value.int .u8))).length := by simp
        rw [Array.toList_append, e, List.map_append]
        exact List.take_left
def sameB (xs ys : List Int) : Bool := decide (xs = ys)
theorem sameB_len (xs ys : List Int) (h : xs.length ≠ ys.length) : sameB xs ys = false := by
  unfold sameB; rw [decide_eq_false]; intro e; exact h (by rw [e])
theorem sameB_all (xs ys : List Int) (h : xs.length = ys.length) (h2 : ∀ i, i < xs.length → xs.getD i 0 = ys.getD i 0) : sameB xs ys = true := by
  unfold sameB; rw [decide_eq_true]
  apply List.ext_getElem h
  intro i h3 h4
  have := h2 i h3
  simpa [List.getD_eq_getElem?_getD, h3, h4] using this
theorem sameB_at (xs ys : List Int) (i : Nat) (h : xs.getD i 0 ≠ ys.getD i 0) : sameB xs ys = false := by
  unfold sameB; rw [decide_eq_false]; intro e; exact h (by rw [e])

set_option maxHeartbeats 800000 in
theorem sameb_any (a b : Option Addr) (len len2 cap cap2 : Nat) (xs ys : List Int) (w : World) (hl : xs.length = len) (hl2 : ys.length = len2) (hbig : len ≤ 9223372036854775807) (hbig2 : len2 ≤ 9223372036854775807) (hr : Row w a xs) (hr2 : Row w b ys) :
    Calls Tryz.prog 13 #[.slice a len cap, .slice b len2 cap2] w fun e w' => e = .returned (.bool (sameB xs ys)) ∧ Below w.heap.size w w' := by
  have HL := hide hl
  have HL2 := hide hl2
  have HR := hide hr
  have HR2 := hide hr2
  clear hl hl2 hr hr2
  by_cases hne : len = len2
  · subst hne
    have hnb : ((len : Int) != (len : Int)) = false := by simp
    go_enter Tryz.func13, Tryz.ntmps13
    go_wp2
    go_loopw [5] (fun i wr => ∃ k : Nat, k ≤ len ∧ i = .int .i64 k ∧ (∀ j, j < k → xs.getD j 0 = ys.getD j 0) ∧ Below w.heap.size w wr) (fun i _ => len - (intOf i).toNat)
    case atStart => exact ⟨0, Nat.zero_le _, rfl, fun j hj => by omega, Below.refl _ _⟩
    case round =>
      obtain ⟨k, hk, rfl, hsame, hbel⟩ := hrel
      have HSm := hide hsame
      have HBel := hide hbel
      clear hsame hbel
      by_cases hlt : k < len
      · have hlk : k < xs.length := by have := HL.out; omega
        have hlk2 : k < ys.length := by have := HL2.out; omega
        rcases HR.out.below HBel.out with h0 | ⟨b1, o1, rfl, _, hc1⟩
        · subst h0; simp at hlk
        rcases HR2.out.below HBel.out with h0 | ⟨b2, o2, rfl, _, hc2⟩
        · subst h0; simp at hlk2
        have g1 := hc1 k hlk
        have g2 := hc2 k hlk2
        clear hc1 hc2 hlk hlk2
        by_cases hcc : xs.getD k 0 = ys.getD k 0
        · have HCc := hide hcc
          rw [hcc] at g1
          clear hcc
          generalize ys.getD k 0 = c at g1 g2
          have hbn : (c != c) = false := by simp
          go_wp2
          go_quiet (fail)
          go_wp2
          go_roundw
          case rel => exact ⟨k + 1, by omega, by go_num, fun j hj => by
            by_cases e : j = k
            · subst e; exact HCc.out
            · exact HSm.out j (by omega), below_drewN HBel.out _⟩
          case measure => simp [intOf]; omega
        · have HCc := hide (sameB_at xs ys k hcc)
          have hbn : (xs.getD k 0 != ys.getD k 0) = true := by rw [bne_iff_ne]; exact hcc
          clear hcc
          generalize xs.getD k 0 = c at *
          generalize ys.getD k 0 = d at *
          go_wp2
          go_quiet (fail)
          go_wp2
          go_ret
          exact ⟨by rw [HCc.out]; rfl, below_drewN HBel.out _⟩
      · have HAll := hide (sameB_all xs ys (by rw [HL.out, HL2.out]) (fun i hi => HSm.out i (by have := HL.out; omega)))
        go_wp2
        go_ret
        exact ⟨by rw [HAll.out]; rfl, HBel.out⟩
  · have HS := hide (sameB_len xs ys (by rw [HL.out, HL2.out]; exact hne))
    have hnb : ((len : Int) != (len2 : Int)) = true := by rw [bne_iff_ne]; omega
    go_enter Tryz.func13, Tryz.ntmps13
    go_wp2
    go_ret
    exact ⟨by rw [HS.out]; rfl, Below.refl _ _⟩

end Go.Proofs.YtlmofgfkclfgeaaGreat
/- New, Fail, Trip, Dark, Counts. -/
namespace Go.Proofs.YtlmofgfkclfgeaaGreat
open Go.RowKit Go.Maps
set_option linter.unusedVariables false

/-- a disk of noughts. -/
def DS.new (n : Nat) : DS := { ls := List.replicate n (List.replicate 128 0), ws := [], dk := false, ts := false, tl := 0, s1 := false, l1 := 0, s2 := false, l2 := 0, s3 := false, l3 := 0, n1 := 0, n2 := 0, n3 := 0 }
theorem DS.new_good (n : Nat) (h : n ≤ 131072) : (DS.new n).Good :=
  ⟨fun s hs => by
    simp only [DS.new, List.mem_replicate] at hs
    rw [hs.2]
    exact ⟨by simp, fun c hc => by rw [(List.mem_replicate.1 hc).2]; omega⟩, fun x hx => by simp [DS.new] at hx, by simpa [DS.new] using h, by simp [DS.new], Cd0, Cd0, Cd0, Cd0, ⟨Int.le_refl _, by show (0 : Int) ≤ 1000000; omega⟩, ⟨Int.le_refl _, by show (0 : Int) ≤ 1000000; omega⟩, ⟨Int.le_refl _, by show (0 : Int) ≤ 1000000; omega⟩⟩
theorem flat_zero : ∀ n, flat (List.replicate n (List.replicate 128 0)) = List.replicate (n * 128) (Value.int .u8 0)
  | 0 => by simp [flat]
  | n + 1 => by
    have := flat_zero n
    simp only [flat, List.map_replicate] at this ⊢
    rw [List.replicate_succ, List.flatten_cons, this]
    simp only [sv, List.map_replicate, List.replicate_append_replicate]
    congr 1
    omega
theorem made_zero (n : Nat) : madeCells z110 (n * 128) = (List.replicate (n * 128) (Value.int .u8 0)).toArray := by
  apply Array.ext'
  apply List.ext_getElem?
  intro j
  by_cases h : j < n * 128
  · have h2 : j % 128 < 128 := Nat.mod_lt _ (by omega)
    simp [madeCells, z110, h, h2]
  · simp [madeCells, h]
theorem info110 : (Tryz.prog.info? 97).map (fun i => (i.zero, i.size, i.bytes)) = some (some (.agg z110), 128, 128) := by kernel_rfl
theorem make90 (n : Nat) (hn : n ≤ 131072) (W : World) : (Instr.makeSlice 85 (.int .i64 (n : Int)) (.int .i64 (n : Int))).run Tryz.prog W = .ok (.slice (some ⟨W.heap.size, 0, none⟩) n n) (W.alloc (.cells (flat (List.replicate n (List.replicate 128 0))).toArray 97)) := by
  obtain ⟨i0, hi, hz0, hz1, hz2⟩ := info_parts info110
  have := run_make (P := Tryz.prog) W 85 97 i0 _ Tryz.underlying85 hi hz0 .i64 .i64 (n : Int) (n : Int) (by omega) (by omega) (by rw [hz2]; omega) (by omega)
  rw [hz1] at this
  simp only [Int.toNat_natCast, Value.cells] at this
  rw [this, flat_zero, made_zero]
def z100 (a : Value) : Array Value := #[a, .slice none 0 0, .map none, .bool false, .bool false, .int .i64 0, .bool false, .int .i64 0, .bool false, .int .i64 0, .bool false, .int .i64 0, .bool false, .int .i64 0, .int .i64 0, .int .i64 0, .int .i64 0, .int .i64 0]
theorem build100 (q n : Nat) (W : World) : (Instr.build 95 #[(0, .slice (some ⟨q, 0, none⟩) n n)]).run Tryz.prog W = .ok (.agg (z100 (.slice (some ⟨q, 0, none⟩) n n))) W := run_build W 95 _ _ (by kernel_rfl)
set_option maxHeartbeats 800000 in
set_option maxRecDepth 1000000 in
theorem new_any (pg : Nat) (w : World) (h1 : 1 ≤ pg) (h2 : pg ≤ 16384) :
    Calls Tryz.prog 19 #[.int .i64 (pg : Int)] w fun e w' => ∃ O p q, e = .returned (.tuple #[.pointer (some ⟨p, 0, none⟩), .int .u16 0]) ∧ DkAt w' p q (DS.new (8 * pg)) O ∧ (∀ k, O k → w.heap.size ≤ k) ∧ Below w.heap.size w w' := by
  have hmk : ∀ W, (Instr.makeSlice 85 (.int .i64 (8 * (pg : Int))) (.int .i64 (8 * (pg : Int)))).run Tryz.prog W = .ok (.slice (some ⟨W.heap.size, 0, none⟩) (8 * pg) (8 * pg)) (W.alloc (.cells (flat (List.replicate (8 * pg) (List.replicate 128 0))).toArray 97)) := fun W => by
    have := make90 (8 * pg) (by omega) W
    rwa [show ((8 * pg : Nat) : Int) = 8 * (pg : Int) by omega] at this
  have hw : IntKind.i64.wrap ((pg : Int) * 8) = 8 * (pg : Int) := by rw [IntKind.wrap_i64]; omega
  have hd1 : decide ((pg : Int) < 1) = false := by simp; omega
  have hd2 : decide ((16384 : Int) < (pg : Int)) = false := by simp; omega
  have hbd := fun W => build100 w.heap.size (8 * pg) W
  obtain ⟨W1, hW1⟩ : ∃ W1, W1 = w.alloc (.cells (flat (List.replicate (8 * pg) (List.replicate 128 0))).toArray 97) := ⟨_, rfl⟩
  have hs1 : W1.heap.size = w.heap.size + 1 := by rw [hW1]; exact size_al _ _
  have HF : Hid (∃ O p q, (Ending.returned (.tuple #[.pointer (some ⟨w.heap.size + 1, 0, none⟩), .int .u16 0]) : Ending) = .returned (.tuple #[.pointer (some ⟨p, 0, none⟩), .int .u16 0]) ∧ DkAt (W1.alloc (.cells (z100 (.slice (some ⟨w.heap.size, 0, none⟩) (8 * pg) (8 * pg))) 95)) p q (DS.new (8 * pg)) O ∧ (∀ k, O k → w.heap.size ≤ k) ∧ Below w.heap.size w (W1.alloc (.cells (z100 (.slice (some ⟨w.heap.size, 0, none⟩) (8 * pg) (8 * pg))) 95))) := by
    refine ⟨Ow (w.heap.size + 1) w.heap.size (.slice none 0 0) none, w.heap.size + 1, w.heap.size, rfl, ⟨.slice none 0 0, none, ⟨?_, ?_, World.ownsRow_nil _ _ _ _, rfl, by omega, by simp [Value.ownBlock], by simp [Value.ownBlock], by simp, by simp, by simp, DS.new_good _ (by omega)⟩, fun _ => Iff.rfl⟩, ?_, ?_⟩
    · have := heap_alloc_new W1 (.cells (z100 (.slice (some ⟨w.heap.size, 0, none⟩) (8 * pg) (8 * pg))) 95)
      rw [hs1] at this
      rw [this]
      simp [cells, z100, DS.new]
    · rw [Below.heap_alloc W1 _ _ (by omega), hW1]
      exact heap_alloc_new w _
    · intro k hk
      rcases hk with rfl | rfl | hk | hk
      · omega
      · exact Nat.le_refl _
      · simp [Value.ownBlock] at hk
      · cases hk
    · rw [hW1] at hs1 ⊢
      exact (below_alloc w _).trans ((below_alloc _ _).mono (by omega))
  subst hW1
  clear hs1
  go_enter Tryz.func19, Tryz.ntmps19
  go_wp2
  go_ret2
  exact HF.out

/-- a disk with a fault of writes. -/
def DS.fail2 (S : DS) (n : Int) : DS := { S with s2 := true, l2 := n }
theorem build96 (n : Int) (W : World) : (Instr.build 91 #[(0, .bool true), (1, .int .i64 n)]).run Tryz.prog W = .ok (.agg #[.bool true, .int .i64 n]) W := run_build W 91 _ _ (by kernel_rfl)
end Go.Proofs.YtlmofgfkclfgeaaGreat
/- Counts and Pending. -/
namespace Go.Proofs.YtlmofgfkclfgeaaGreat
open Go.RowKit Go.Maps
set_option linter.unusedVariables false

theorem build82 (a b c : Int) (W : World) : (Instr.build 74 #[(0, .int .i64 a), (1, .int .i64 b), (2, .int .i64 c)]).run Tryz.prog W = .ok (.agg #[.int .i64 a, .int .i64 b, .int .i64 c]) W := run_build W 74 _ _ (by kernel_rfl)
theorem zero82 : ∀ w, (zeroValue 74).run Tryz.prog w = .ok (.agg #[.int .i64 0, .int .i64 0, .int .i64 0]) w := (zero_of_info (P := Tryz.prog) (t := 74) (v := .agg #[.int .i64 0, .int .i64 0, .int .i64 0]) (n := 3) (by kernel_rfl)).1
set_option maxHeartbeats 1600000 in
set_option maxRecDepth 1000000 in
theorem counts_any (p q : Nat) (O : Nat → Prop) (S : DS) (w : World) (h : DkAt w p q S O) : Calls Tryz.prog 15 #[.pointer (some ⟨p, 0, none⟩)] w fun e w' => e = .returned (.agg #[.int .i64 S.n1, .int .i64 S.n2, .int .i64 S.n3]) ∧ Below w.heap.size w w' := by
  obtain ⟨vw, m, hd, ho⟩ := h
  have hd0 := hd.below (below_alloc w (.cells #[.int .i64 0, .int .i64 0, .int .i64 0] 74))
  have c15 := hd0.c 15 (.int .i64 S.n1) rfl
  have c16 := hd0.c 16 (.int .i64 S.n2) rfl
  have c17 := hd0.c 17 (.int .i64 S.n3) rfl
  have hbd := build82 S.n1 S.n2 S.n3
  have hz := zero82
  clear hd ho hd0
  generalize S.n1 = a at *
  generalize S.n2 = b at *
  generalize S.n3 = c at *
  go_enter Tryz.func15, Tryz.ntmps15
  go_wp2
  go_region
  have HB : Hid (Below w.heap.size w (w.alloc (.cells #[.int .i64 a, .int .i64 b, .int .i64 c] 74)).drew) := (below_alloc w _).drew
  have HN : Hid ((w.alloc (.cells #[.int .i64 a, .int .i64 b, .int .i64 c] 74)).drew.heap[w.heap.size]? = some (.cells #[.int .i64 a, .int .i64 b, .int .i64 c] 74 (0, 0))) := heap_alloc_new w _
  go_wp2
  refine bodyPost_ret (v := .agg #[.int .i64 a, .int .i64 b, .int .i64 c]) ?_ rfl ?_
  · exact results_cell_row (p := 2) (ty := 74) rfl _ _ w.heap.size 74 _ (0, 0) _ rfl HN.out Tryz.underlying74 rfl (by kernel_rfl)
  · exact ⟨rfl, HB.out⟩

theorem Tryz.info3 : (Tryz.prog.info? 3).map (fun i => (i.zero, i.size, i.bytes)) = some (some (.int .i64 0), 1, 8) := by kernel_rfl
/-- a row of ints of the call's own. -/
def OwnI (w : World) (v : Value) (zs : List Nat) : Prop := w.ownsRow 0 3 1 v zs.length (zs.map fun (n : Nat) => Value.int .i64 (n : Int))
theorem OwnI.of_block {w w' : World} {v : Value} {zs : List Nat} (h : OwnI w v zs) (hb : ∀ k, v.ownBlock = some k → w'.heap[k]? = w.heap[k]?) : OwnI w' v zs := by
  obtain ⟨h1, h2⟩ := h
  refine ⟨h1, ?_⟩
  rcases h2 with h2 | ⟨g, cap, cur, rfl, hg, hh, r⟩
  · exact .inl h2
  · exact .inr ⟨g, cap, cur, rfl, hg, by rw [hb g rfl]; exact hh, r⟩
theorem wpList_append_at {P : Program} {w : World} {ops : Array Oper} {rest : List Oper} {o : Oper} {a : Act} {Q : Exit → Act → World → Prop} (hgd : o.guard = none) (s x : Operand) (t e : TypeId) (ho : o.op = .call { callee := .builtin .append, args := #[s, x], argTypes := #[t, t] })
    (base : Nat) (i : TypeInfo) (z : Value) (size bytes : Nat) (ht : P.underlying t = some (.slice e)) (hi : P.info? e = some i) (hz : i.zero = some z) (hsize : i.size = size) (hby : i.bytes = bytes) (hzs : z.cells.size = size) (hsz : 0 < size)
    (v : Value) (n : Nat) (xs : List Value) (hs : a.eval s = v) (hown : w.ownsRow base e size v n xs) (ad : Addr) (m c : Nat) (news : List Value) (hx : a.eval x = .slice (some ad) m c) (hl : news.length = m * size) (hnews : ∀ j u, news[j]? = some u → w.cell? (ad.add j) = some u) (h1 : ∀ u ∈ news, u.oneCell' = true)
    (h63 : n + m ≤ maxLen) (hbytes : (n + m) * bytes ≤ 140737488355328) (hbase : base ≤ w.heap.size)
    (h : ∀ v' w', w'.ownsRow base e size v' (n + m) (xs ++ news) → w.grownBy w' v.ownBlock → (v'.ownBlock = v.ownBlock ∨ v'.ownBlock = some w.heap.size) → wpList P ops Q rest (a.put o.dst v') w') : wpList P ops Q (o :: rest) a w :=
  wpList_plain hgd fun _ hK => wp_append_at s x t e ho base i z size bytes ht hi hz hsize hby hzs hsz v n xs hs hown ad m c news hx hl hnews h1 h63 hbytes hbase fun v' w' h2 h3 h4 => hK _ _ (h v' w' h2 h3 h4)
end Go.Proofs.YtlmofgfkclfgeaaGreat
/- A disk in a walk: what a statement says of it between two calls; the calls as the statements make them. -/
namespace Go.Proofs.YtlmofgfkclfgeaaGreat
open Go.RowKit Go.Maps
set_option linter.unusedVariables false

/-- nothing below B has turned since w0, and what a disk owns lies from B on. -/
structure Fd (B : Nat) (w0 w : World) (O : Nat → Prop) : Prop where
  below : Below B w0 w
  size : B ≤ w.heap.size
  own : ∀ k, O k → B ≤ k
theorem Fd.go {B : Nat} {w0 w w' : World} {O O' : Nat → Prop} (h : Fd B w0 w O) (hg : Go1 O w O' w') : Fd B w0 w' O' :=
  ⟨h.below.trans (hg.mv.below h.size h.own), Nat.le_trans h.size hg.mv.size, fun k hk => (hg.own k hk).elim (h.own k) (fun hl => Nat.le_trans h.size hl)⟩
theorem Fd.on {B : Nat} {w0 w w' : World} {O : Nat → Prop} (h : Fd B w0 w O) (hb : Below w.heap.size w w') : Fd B w0 w' O := h.go (Go1.of_below hb)
/-- a slice that lies apart from what is owned. -/
def Ap (w : World) (O : Nat → Prop) (v : Value) : Prop := ∀ k, v.ownBlock = some k → k < w.heap.size ∧ ¬ O k
theorem Ap.go {w w' : World} {O O' : Nat → Prop} {v : Value} (h : Ap w O v) (hg : Go1 O w O' w') : Ap w' O' v := fun k hk =>
  ⟨Nat.lt_of_lt_of_le (h k hk).1 hg.mv.size, fun ho => (hg.own k ho).elim (h k hk).2 (fun hl => by have := (h k hk).1; omega)⟩
theorem Ap.on {w w' : World} {O : Nat → Prop} {v : Value} (h : Ap w O v) (hb : Below w.heap.size w w') : Ap w' O v := h.go (Go1.of_below hb)
theorem Own.go {w w' : World} {O O' : Nat → Prop} {v : Value} {zs : List Int} (h : Own w v zs) (ha : Ap w O v) (hg : Go1 O w O' w') : Own w' v zs := h.of_block fun k hk => hg.mv.block k (ha k hk).1 (ha k hk).2
theorem Own.on {w w' : World} {v : Value} {zs : List Int} (h : Own w v zs) (hb : Below w.heap.size w w') : Own w' v zs := h.of_block fun k hk => hb.block k (h.lt hk)
theorem OwnI.go {w w' : World} {O O' : Nat → Prop} {v : Value} {zs : List Nat} (h : OwnI w v zs) (ha : Ap w O v) (hg : Go1 O w O' w') : OwnI w' v zs := h.of_block fun k hk => hg.mv.block k (ha k hk).1 (ha k hk).2
theorem OwnI.on {w w' : World} {v : Value} {zs : List Nat} (h : OwnI w v zs) (hb : Below w.heap.size w w') : OwnI w' v zs := h.of_block fun k hk => hb.block k (World.ownsRow.lt h k hk).2

theorem rep_byts (n : Nat) (c : Int) (h : 0 ≤ c ∧ c ≤ 255) : Byts (List.replicate n c) := fun x hx => by rw [(List.mem_replicate.1 hx).2]; exact h
theorem read_ok (p q : Nat) (O : Nat → Prop) (S : DS) (pg : Nat) (P : Int) (w : World) (h : DkAt w p q S O) (hP : P = (pg : Int)) (hpg : pg < S.ls.length / 8) (hn : S.n1 + 1 ≤ 1000000) (he : S.er S.s1 S.l1 = 0) :
    Calls Tryz.prog 77 #[.pointer (some ⟨p, 0, none⟩), .int .i64 P] w fun e w' => ∃ v, e = .returned (.tuple #[v, .int .u16 0]) ∧ Own w' v (rd S (8 * pg) 8) ∧ Ap w' O v ∧ (∀ g, v.ownBlock = some g → w.heap.size ≤ g) ∧ DkAt w' p q S.op1 O ∧ Go1 O w O w' := by
  subst hP
  refine (read_any p q O S pg w h hpg hn).mono ?_
  rintro e w' ⟨v, rfl, hr, hd, hg⟩
  obtain ⟨ho, hnew⟩ := hr.1 he
  refine ⟨v, by rw [he]; rfl, ho, fun k hk => ⟨ho.lt hk, fun hO => ?_⟩, hnew, ?_, hg⟩
  · have h1 := h.lt k hO
    have h2 := hnew k hk
    omega
  · rwa [be_zero he] at hd
theorem new_at (pg : Nat) (P : Int) (w : World) (hP : P = (pg : Int)) (h1 : 1 ≤ pg) (h2 : pg ≤ 16384) :
    Calls Tryz.prog 19 #[.int .i64 P] w fun e w' => ∃ O p q, e = .returned (.tuple #[.pointer (some ⟨p, 0, none⟩), .int .u16 0]) ∧ DkAt w' p q (DS.new (8 * pg)) O ∧ Fd w.heap.size w w' O := by
  subst hP
  refine (new_any pg w h1 h2).mono ?_
  rintro e w' ⟨O, p, q, rfl, hd, ho, hb⟩
  exact ⟨O, p, q, rfl, hd, hb, hb.size, ho⟩

/-! the states of 'known' -/
end Go.Proofs.YtlmofgfkclfgeaaGreat
