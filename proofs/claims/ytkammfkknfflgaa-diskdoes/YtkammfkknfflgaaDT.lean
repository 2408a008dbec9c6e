/- Noughts appended. -/
import Derived.Test.YtkammfkknfflgaaDP
import Derived.BigQuiet
import Derived.WalkSmall
namespace Go.Proofs.Ytkammfkknfflgaa
open Go.RowKit Go.Maps
set_option linter.unusedVariables false
theorem zeroCells_eq (n : Nat) : Builtin.zeroCells (Value.int .u8 0).cells n = ((List.replicate n (0 : Int)).map (Value.int .u8)).toArray := by
  apply Array.ext'
  simp only [Builtin.zeroCells, Value.cells]
  apply List.ext_getElem?
  intro j
  by_cases h : j < n
  · simp [h, Nat.mod_one]
  · simp [h]
theorem run_append_zeros (w : World) (ty : TypeId) (v : Value) (zs : List Int) (hown : Own w v zs) (n : Nat) (h0 : 0 < n) (hn : n ≤ 100000) (hp : 0 < zs.length) (hl : zs.length ≤ 100000) :
    ∃ v' w', (Builtin.append_ #[63, 3] ty #[v, .int .i64 (n : Int)]).run Try.prog w = .ok v' w' ∧ Own w' v' (zs ++ List.replicate n 0) ∧ w.grownBy w' v.ownBlock ∧ ∀ k, v'.ownBlock = some k → v.ownBlock = some k ∨ w.heap.size ≤ k := by
  obtain ⟨i, hi, hz, h1, hby⟩ := info_parts Try.info5
  have hlen : (zs ++ List.replicate n (0 : Int)).length = zs.length + n := by simp
  have hw : IntKind.i64.wrap (n : Int) = (n : Int) := by rw [IntKind.wrap_i64]; omega
  have hnneg : ¬ ((n : Int) < 0) := by omega
  have hnb : ¬ (281474976710656 < (n : Int)) := by omega
  have hn0 : n ≠ 0 := by omega
  have hone : ∀ u ∈ (List.replicate n (0 : Int)).map (Value.int .u8), u.oneCell' = true := ints_oneCell _ _
  rcases hown.2 with ⟨rfl, h0'⟩ | ⟨g, cap, cur, rfl, hbg, hg, hnc, hcm, hcs, htake⟩
  · omega
  · by_cases hroom : zs.length + n ≤ cap
    · have hfit : zs.length * 1 + ((List.replicate n (0 : Int)).map (Value.int .u8)).length ≤ cur.size := by rw [List.length_map, List.length_replicate, hcs]; omega
      have hst := run_storeCells_at Try.prog g (zs.length * 1) 5 ((List.replicate n (0 : Int)).map (Value.int .u8)) 0 cur w hg (by simpa using hfit) hone
      simp only [Nat.add_zero] at hst
      refine ⟨.slice (some ⟨g, 0, none⟩) (zs.length + n) cap, w.setRow g (cur.toList.take (zs.length * 1) ++ (List.replicate n (0 : Int)).map (Value.int .u8) ++ cur.toList.drop (zs.length * 1 + ((List.replicate n (0 : Int)).map (Value.int .u8)).length)).toArray, ?_, ⟨by simp, .inr ⟨g, cap, _, by rw [hlen], Nat.zero_le _, setRow_heap w g cur _ 5 _ hg, by rw [hlen]; exact hroom, hcm, ?_, ?_⟩⟩, ⟨rfl, rfl, rfl, by simp, fun k _ hk => setRow_other w g k _ (fun e => hk (by simp [Value.ownBlock, e]))⟩, fun k hk => .inl hk⟩
      · simp [Builtin.append_, run_underlying Try.underlying63, run_underlying Try.underlying3, sizeOf, typeInfo, zeroValue, hi, hz, h1, hby, asInt, asIntOf, hw, hnneg, hnb, hn0, hroom, zeroCells_eq, Addr.add_lit]
        simp at hst
        simp [hst]
      · simp only [List.size_toArray, List.length_append, List.length_take, List.length_drop, Array.length_toList, List.length_map, List.length_replicate] at hfit ⊢
        omega
      · have e : (zs ++ List.replicate n (0 : Int)).length * 1 = ((zs.map (Value.int .u8)) ++ ((List.replicate n (0 : Int)).map (Value.int .u8))).length := by simp
        rw [htake, e, List.map_append]
        exact List.take_left
    · have holds : ∀ j u, (zs.map (Value.int .u8))[j]? = some u → w.drew.cell? ((⟨g, 0, none⟩ : Addr).add j) = some u := hown.cells (g := g) rfl
      have hold := run_firstCells_some (P := Try.prog) w.drew 1 zs.length ⟨g, 0, none⟩ zs.length cap _ (by simp) holds
      have hge := grownCap_ge w (zs.length + n) cap 5
      have hcm' : grownCap w (zs.length + n) cap 5 ≤ maxLen := grownCap_le_maxLen w _ cap 5 (by unfold maxLen; omega)
      have hfit : ¬ (281474976710656 < Builtin.nextslicecap (zs.length + n) cap) := by have := growslice_fits (bytes := 1) (need := zs.length + n) (old := cap) (by omega) (by omega); omega
      have h63' : ¬ (9223372036854775807 < ((zs.length : Int) + (n : Int))) := by omega
      refine ⟨.slice (some ⟨w.heap.size, 0, none⟩) (zs.length + n) (grownCap w (zs.length + n) cap 5), w.drew.alloc (.cells (((zs.map (Value.int .u8)) ++ ((List.replicate n (0 : Int)).map (Value.int .u8))).toArray ++ Builtin.zeroCells (Value.int .u8 0).cells (grownCap w (zs.length + n) cap 5 - (zs.length + n))) 5), ?_, ⟨by simp, .inr ⟨w.heap.size, _, _, by rw [hlen], Nat.zero_le _, heap_alloc_new w.drew _, by rw [hlen]; exact hge, hcm', ?_, ?_⟩⟩, ⟨rfl, rfl, rfl, by simp, fun k hk _ => Below.heap_alloc w.drew _ k hk⟩, fun k hk => .inr (by simp [Value.ownBlock] at hk; omega)⟩
      · simp [Builtin.append_, run_underlying Try.underlying63, run_underlying Try.underlying3, sizeOf, typeInfo, zeroValue, hi, hz, h1, hby, asInt, asIntOf, hw, hnneg, hnb, hn0, hroom, h63', hfit, Question.forced, zeroCells_eq, hold, newRow, grownCap]
        refine congrArg (fun c => w.drew.alloc (Obj.cells c 5)) ?_
        apply Array.ext'
        simp [List.append_assoc]
      · simp only [Array.size_append, List.size_toArray, size_zeroCells, List.length_append, List.length_map, List.length_replicate]
        simp [Value.cells]; omega
      · have e : (zs ++ List.replicate n (0 : Int)).length * 1 = ((zs.map (Value.int .u8)) ++ ((List.replicate n (0 : Int)).map (Value.int .u8))).length := by simp
        rw [Array.toList_append, e, List.map_append]
        exact List.take_left
def sameB (xs ys : List Int) : Bool := decide (xs = ys)
theorem sameB_len (xs ys : List Int) (h : xs.length ≠ ys.length) : sameB xs ys = false := by
  unfold sameB; rw [decide_eq_false]; intro e; exact h (by rw [e])
theorem sameB_all (xs ys : List Int) (h : xs.length = ys.length) (h2 : ∀ i, i < xs.length → xs.getD i 0 = ys.getD i 0) : sameB xs ys = true := by
  unfold sameB; rw [decide_eq_true]
  apply List.ext_getElem h
  intro i h3 h4
  have := h2 i h3
  simpa [List.getD_eq_getElem?_getD, h3, h4] using this
theorem sameB_at (xs ys : List Int) (i : Nat) (h : xs.getD i 0 ≠ ys.getD i 0) : sameB xs ys = false := by
  unfold sameB; rw [decide_eq_false]; intro e; exact h (by rw [e])

set_option maxHeartbeats 800000 in
theorem sameb_any (a b : Option Addr) (len len2 cap cap2 : Nat) (xs ys : List Int) (w : World) (hl : xs.length = len) (hl2 : ys.length = len2) (hbig : len ≤ 9223372036854775807) (hbig2 : len2 ≤ 9223372036854775807) (hr : Row w a xs) (hr2 : Row w b ys) :
    Calls Try.prog 17 #[.slice a len cap, .slice b len2 cap2] w fun e w' => e = .returned (.bool (sameB xs ys)) ∧ Below w.heap.size w w' := by
  have HL := hide hl
  have HL2 := hide hl2
  have HR := hide hr
  have HR2 := hide hr2
  clear hl hl2 hr hr2
  by_cases hne : len = len2
  · subst hne
    have hnb : ((len : Int) != (len : Int)) = false := by simp
    go_enter Try.func17, Try.ntmps17
    go_wp2
    go_loopw [5] (fun i wr => ∃ k : Nat, k ≤ len ∧ i = .int .i64 k ∧ (∀ j, j < k → xs.getD j 0 = ys.getD j 0) ∧ Below w.heap.size w wr) (fun i _ => len - (intOf i).toNat)
    case atStart => exact ⟨0, Nat.zero_le _, rfl, fun j hj => by omega, Below.refl _ _⟩
    case round =>
      obtain ⟨k, hk, rfl, hsame, hbel⟩ := hrel
      have HSm := hide hsame
      have HBel := hide hbel
      clear hsame hbel
      by_cases hlt : k < len
      · have hlk : k < xs.length := by have := HL.out; omega
        have hlk2 : k < ys.length := by have := HL2.out; omega
        rcases HR.out.below HBel.out with h0 | ⟨b1, o1, rfl, _, hc1⟩
        · subst h0; simp at hlk
        rcases HR2.out.below HBel.out with h0 | ⟨b2, o2, rfl, _, hc2⟩
        · subst h0; simp at hlk2
        have g1 := hc1 k hlk
        have g2 := hc2 k hlk2
        clear hc1 hc2 hlk hlk2
        by_cases hcc : xs.getD k 0 = ys.getD k 0
        · have HCc := hide hcc
          rw [hcc] at g1
          clear hcc
          generalize ys.getD k 0 = c at g1 g2
          have hbn : (c != c) = false := by simp
          go_wp2
          go_quiet (fail)
          go_wp2
          go_roundw
          case rel => exact ⟨k + 1, by omega, by go_num, fun j hj => by
            by_cases e : j = k
            · subst e; exact HCc.out
            · exact HSm.out j (by omega), below_drewN HBel.out _⟩
          case measure => simp [intOf]; omega
        · have HCc := hide (sameB_at xs ys k hcc)
          have hbn : (xs.getD k 0 != ys.getD k 0) = true := by rw [bne_iff_ne]; exact hcc
          clear hcc
          generalize xs.getD k 0 = c at *
          generalize ys.getD k 0 = d at *
          go_wp2
          go_quiet (fail)
          go_wp2
          go_ret
          exact ⟨by rw [HCc.out]; rfl, below_drewN HBel.out _⟩
      · have HAll := hide (sameB_all xs ys (by rw [HL.out, HL2.out]) (fun i hi => HSm.out i (by have := HL.out; omega)))
        go_wp2
        go_ret
        exact ⟨by rw [HAll.out]; rfl, HBel.out⟩
  · have HS := hide (sameB_len xs ys (by rw [HL.out, HL2.out]; exact hne))
    have hnb : ((len : Int) != (len2 : Int)) = true := by rw [bne_iff_ne]; omega
    go_enter Try.func17, Try.ntmps17
    go_wp2
    go_ret
    exact ⟨by rw [HS.out]; rfl, Below.refl _ _⟩

end Go.Proofs.Ytkammfkknfflgaa
/- New, Fail, Trip, Dark, Counts. -/
namespace Go.Proofs.Ytkammfkknfflgaa
open Go.RowKit Go.Maps
set_option linter.unusedVariables false

/-- a disk of noughts. -/
def DS.new (n : Nat) : DS := { ls := List.replicate n (List.replicate 128 0), ws := [], dk := false, ts := false, tl := 0, s1 := false, l1 := 0, s2 := false, l2 := 0, s3 := false, l3 := 0, n1 := 0, n2 := 0, n3 := 0 }
theorem DS.new_good (n : Nat) (h : n ≤ 131072) : (DS.new n).Good :=
  ⟨fun s hs => by
    simp only [DS.new, List.mem_replicate] at hs
    rw [hs.2]
    exact ⟨by simp, fun c hc => by rw [(List.mem_replicate.1 hc).2]; omega⟩, fun x hx => by simp [DS.new] at hx, by simpa [DS.new] using h, by simp [DS.new], Cd0, Cd0, Cd0, Cd0, ⟨Int.le_refl _, by show (0 : Int) ≤ 40000000; omega⟩, ⟨Int.le_refl _, by show (0 : Int) ≤ 40000000; omega⟩, ⟨Int.le_refl _, by show (0 : Int) ≤ 40000000; omega⟩⟩
theorem flat_zero : ∀ n, flat (List.replicate n (List.replicate 128 0)) = List.replicate (n * 128) (Value.int .u8 0)
  | 0 => by simp [flat]
  | n + 1 => by
    have := flat_zero n
    simp only [flat, List.map_replicate] at this ⊢
    rw [List.replicate_succ, List.flatten_cons, this]
    simp only [sv, List.map_replicate, List.replicate_append_replicate]
    congr 1
    omega
theorem made_zero (n : Nat) : madeCells z110 (n * 128) = (List.replicate (n * 128) (Value.int .u8 0)).toArray := by
  apply Array.ext'
  apply List.ext_getElem?
  intro j
  by_cases h : j < n * 128
  · have h2 : j % 128 < 128 := Nat.mod_lt _ (by omega)
    simp [madeCells, z110, h, h2]
  · simp [madeCells, h]
theorem info110 : (Try.prog.info? 103).map (fun i => (i.zero, i.size, i.bytes)) = some (some (.agg z110), 128, 128) := by kernel_rfl
theorem make90 (n : Nat) (hn : n ≤ 131072) (W : World) : (Instr.makeSlice 82 (.int .i64 (n : Int)) (.int .i64 (n : Int))).run Try.prog W = .ok (.slice (some ⟨W.heap.size, 0, none⟩) n n) (W.alloc (.cells (flat (List.replicate n (List.replicate 128 0))).toArray 103)) := by
  obtain ⟨i0, hi, hz0, hz1, hz2⟩ := info_parts info110
  have := run_make (P := Try.prog) W 82 103 i0 _ Try.underlying82 hi hz0 .i64 .i64 (n : Int) (n : Int) (by omega) (by omega) (by rw [hz2]; omega) (by omega)
  rw [hz1] at this
  simp only [Int.toNat_natCast, Value.cells] at this
  rw [this, flat_zero, made_zero]
def z100 (a : Value) : Array Value := #[a, .slice none 0 0, .map none, .bool false, .bool false, .int .i64 0, .bool false, .int .i64 0, .bool false, .int .i64 0, .bool false, .int .i64 0, .bool false, .int .i64 0, .int .i64 0, .int .i64 0, .int .i64 0, .int .i64 0]
theorem build100 (q n : Nat) (W : World) : (Instr.build 92 #[(0, .slice (some ⟨q, 0, none⟩) n n)]).run Try.prog W = .ok (.agg (z100 (.slice (some ⟨q, 0, none⟩) n n))) W := run_build W 92 _ _ (by kernel_rfl)
set_option maxHeartbeats 800000 in
set_option maxRecDepth 1000000 in
theorem new_any (pg : Nat) (w : World) (h1 : 1 ≤ pg) (h2 : pg ≤ 16384) :
    Calls Try.prog 6 #[.int .i64 (pg : Int)] w fun e w' => ∃ O p q, e = .returned (.tuple #[.pointer (some ⟨p, 0, none⟩), .int .u16 0]) ∧ DkAt w' p q (DS.new (8 * pg)) O ∧ (∀ k, O k → w.heap.size ≤ k) ∧ Below w.heap.size w w' := by
  have hmk : ∀ W, (Instr.makeSlice 82 (.int .i64 (8 * (pg : Int))) (.int .i64 (8 * (pg : Int)))).run Try.prog W = .ok (.slice (some ⟨W.heap.size, 0, none⟩) (8 * pg) (8 * pg)) (W.alloc (.cells (flat (List.replicate (8 * pg) (List.replicate 128 0))).toArray 103)) := fun W => by
    have := make90 (8 * pg) (by omega) W
    rwa [show ((8 * pg : Nat) : Int) = 8 * (pg : Int) by omega] at this
  have hw : IntKind.i64.wrap ((pg : Int) * 8) = 8 * (pg : Int) := by rw [IntKind.wrap_i64]; omega
  have hd1 : decide ((pg : Int) < 1) = false := by simp; omega
  have hd2 : decide ((16384 : Int) < (pg : Int)) = false := by simp; omega
  have hbd := fun W => build100 w.heap.size (8 * pg) W
  obtain ⟨W1, hW1⟩ : ∃ W1, W1 = w.alloc (.cells (flat (List.replicate (8 * pg) (List.replicate 128 0))).toArray 103) := ⟨_, rfl⟩
  have hs1 : W1.heap.size = w.heap.size + 1 := by rw [hW1]; exact size_al _ _
  have HF : Hid (∃ O p q, (Ending.returned (.tuple #[.pointer (some ⟨w.heap.size + 1, 0, none⟩), .int .u16 0]) : Ending) = .returned (.tuple #[.pointer (some ⟨p, 0, none⟩), .int .u16 0]) ∧ DkAt (W1.alloc (.cells (z100 (.slice (some ⟨w.heap.size, 0, none⟩) (8 * pg) (8 * pg))) 92)) p q (DS.new (8 * pg)) O ∧ (∀ k, O k → w.heap.size ≤ k) ∧ Below w.heap.size w (W1.alloc (.cells (z100 (.slice (some ⟨w.heap.size, 0, none⟩) (8 * pg) (8 * pg))) 92))) := by
    refine ⟨Ow (w.heap.size + 1) w.heap.size (.slice none 0 0) none, w.heap.size + 1, w.heap.size, rfl, ⟨.slice none 0 0, none, ⟨?_, ?_, World.ownsRow_nil _ _ _ _, rfl, by omega, by simp [Value.ownBlock], by simp [Value.ownBlock], by simp, by simp, by simp, DS.new_good _ (by omega)⟩, fun _ => Iff.rfl⟩, ?_, ?_⟩
    · have := heap_alloc_new W1 (.cells (z100 (.slice (some ⟨w.heap.size, 0, none⟩) (8 * pg) (8 * pg))) 92)
      rw [hs1] at this
      rw [this]
      simp [cells, z100, DS.new]
    · rw [Below.heap_alloc W1 _ _ (by omega), hW1]
      exact heap_alloc_new w _
    · intro k hk
      rcases hk with rfl | rfl | hk | hk
      · omega
      · exact Nat.le_refl _
      · simp [Value.ownBlock] at hk
      · cases hk
    · rw [hW1] at hs1 ⊢
      exact (below_alloc w _).trans ((below_alloc _ _).mono (by omega))
  subst hW1
  clear hs1
  go_enter Try.func6, Try.ntmps6
  go_wp2
  go_ret2
  exact HF.out

set_option maxHeartbeats 800000 in
set_option maxRecDepth 1000000 in
theorem dark_any (p q : Nat) (O : Nat → Prop) (S : DS) (w : World) (h : DkAt w p q S O) : Calls Try.prog 27 #[.pointer (some ⟨p, 0, none⟩)] w fun e w' => e = .returned (.bool S.dk) ∧ Below w.heap.size w w' := by
  obtain ⟨vw, m, hd, ho⟩ := h
  have c3 := hd.c 3 (.bool S.dk) rfl
  clear hd ho
  go_enter Try.func27, Try.ntmps27
  go_wp2
  go_ret
  exact ⟨rfl, Below.refl _ _⟩

/-- a disk with a fault of writes. -/
def DS.fail2 (S : DS) (n : Int) : DS := { S with s2 := true, l2 := n }
theorem build96 (n : Int) (W : World) : (Instr.build 88 #[(0, .bool true), (1, .int .i64 n)]).run Try.prog W = .ok (.agg #[.bool true, .int .i64 n]) W := run_build W 88 _ _ (by kernel_rfl)
set_option maxHeartbeats 800000 in
set_option maxRecDepth 1000000 in
theorem fail2_any (p q : Nat) (O : Nat → Prop) (S : DS) (n : Int) (w : World) (h : DkAt w p q S O) (h0 : 0 ≤ n) (h1 : n ≤ 9223372036854775807) (hdk : S.dk = false) :
    Calls Try.prog 23 #[.pointer (some ⟨p, 0, none⟩), .int .i64 2, .int .i64 n] w fun e w' => e = .returned (.int .u16 0) ∧ DkAt w' p q (S.fail2 n) O ∧ Go1 O w O w' := by
  obtain ⟨vw, m, hd, ho⟩ := h
  have c3 := hd.c 3 (.bool S.dk) rfl
  rw [hdk] at c3
  have c10 := hd.c 10 _ rfl
  have c11 := hd.c 11 _ rfl
  have f10 := hd.f 10
  have f11 := hd.f 11
  have hbd := build96 n
  have hn : decide (n < 0) = false := by simp; omega
  have HF : Hid (DkAt (sets w p [(10, .bool true), (11, .int .i64 n)]) p q (S.fail2 n) O ∧ Go1 O w O (sets w p [(10, .bool true), (11, .int .i64 n)])) := by
    refine ⟨⟨vw, m, hd.fields (S' := S.fail2 n) rfl rfl ⟨hd.good.ls, hd.good.ws, hd.good.most, hd.good.few, hd.good.t, hd.good.f1, ⟨h0, h1⟩, hd.good.f3, hd.good.n1, hd.good.n2, hd.good.n3⟩ ?_ (fun k hk => sets_other p k hk _ w), ho⟩, Go1.of_mv (sets_mv p _ w) ((ho p).2 (.inl rfl))⟩
    rw [sets_blk p 92 _ w _ hd.blk]
    simp only [List.foldl_cons, List.foldl_nil, cells, List.setIfInBounds_toArray, List.set_cons_succ, List.set_cons_zero, DS.fail2]
  clear hd ho h0 h1
  go_enter Try.func23, Try.ntmps23
  go_wp2
  go_ret
  exact ⟨rfl, HF.out⟩
end Go.Proofs.Ytkammfkknfflgaa
/- Counts and Pending. -/
namespace Go.Proofs.Ytkammfkknfflgaa
open Go.RowKit Go.Maps
set_option linter.unusedVariables false

theorem build82 (a b c : Int) (W : World) : (Instr.build 80 #[(0, .int .i64 a), (1, .int .i64 b), (2, .int .i64 c)]).run Try.prog W = .ok (.agg #[.int .i64 a, .int .i64 b, .int .i64 c]) W := run_build W 80 _ _ (by kernel_rfl)
theorem zero82 : ∀ w, (zeroValue 80).run Try.prog w = .ok (.agg #[.int .i64 0, .int .i64 0, .int .i64 0]) w := (zero_of_info (P := Try.prog) (t := 80) (v := .agg #[.int .i64 0, .int .i64 0, .int .i64 0]) (n := 3) (by kernel_rfl)).1
set_option maxHeartbeats 1600000 in
set_option maxRecDepth 1000000 in
theorem counts_any (p q : Nat) (O : Nat → Prop) (S : DS) (w : World) (h : DkAt w p q S O) : Calls Try.prog 24 #[.pointer (some ⟨p, 0, none⟩)] w fun e w' => e = .returned (.agg #[.int .i64 S.n1, .int .i64 S.n2, .int .i64 S.n3]) ∧ Below w.heap.size w w' := by
  obtain ⟨vw, m, hd, ho⟩ := h
  have hd0 := hd.below (below_alloc w (.cells #[.int .i64 0, .int .i64 0, .int .i64 0] 80))
  have c15 := hd0.c 15 (.int .i64 S.n1) rfl
  have c16 := hd0.c 16 (.int .i64 S.n2) rfl
  have c17 := hd0.c 17 (.int .i64 S.n3) rfl
  have hbd := build82 S.n1 S.n2 S.n3
  have hz := zero82
  clear hd ho hd0
  generalize S.n1 = a at *
  generalize S.n2 = b at *
  generalize S.n3 = c at *
  go_enter Try.func24, Try.ntmps24
  go_wp2
  go_region
  have HB : Hid (Below w.heap.size w (w.alloc (.cells #[.int .i64 a, .int .i64 b, .int .i64 c] 80)).drew) := (below_alloc w _).drew
  have HN : Hid ((w.alloc (.cells #[.int .i64 a, .int .i64 b, .int .i64 c] 80)).drew.heap[w.heap.size]? = some (.cells #[.int .i64 a, .int .i64 b, .int .i64 c] 80 (0, 0))) := heap_alloc_new w _
  go_wp2
  refine bodyPost_ret (v := .agg #[.int .i64 a, .int .i64 b, .int .i64 c]) ?_ rfl ?_
  · exact results_cell_row (p := 2) (ty := 80) rfl _ _ w.heap.size 80 _ (0, 0) _ rfl HN.out Try.underlying80 rfl (by kernel_rfl)
  · exact ⟨rfl, HB.out⟩

theorem Try.info3 : (Try.prog.info? 3).map (fun i => (i.zero, i.size, i.bytes)) = some (some (.int .i64 0), 1, 8) := by kernel_rfl
/-- a row of ints of the call's own. -/
def OwnI (w : World) (v : Value) (zs : List Nat) : Prop := w.ownsRow 0 3 1 v zs.length (zs.map fun (n : Nat) => Value.int .i64 (n : Int))
theorem OwnI.of_block {w w' : World} {v : Value} {zs : List Nat} (h : OwnI w v zs) (hb : ∀ k, v.ownBlock = some k → w'.heap[k]? = w.heap[k]?) : OwnI w' v zs := by
  obtain ⟨h1, h2⟩ := h
  refine ⟨h1, ?_⟩
  rcases h2 with h2 | ⟨g, cap, cur, rfl, hg, hh, r⟩
  · exact .inl h2
  · exact .inr ⟨g, cap, cur, rfl, hg, by rw [hb g rfl]; exact hh, r⟩
theorem make77 (n : Nat) (hn : n ≤ 40000000) (W : World) : (Instr.makeSlice 73 (.int .i64 0) (.int .i64 (n : Int))).run Try.prog W = .ok (.slice (some ⟨W.heap.size, 0, none⟩) 0 n) (W.alloc (.cells (madeCells #[.int .i64 0] n) 3)) := by
  obtain ⟨i0, hi, hz0, hz1, hz2⟩ := info_parts Try.info3
  have := run_make (P := Try.prog) W 73 3 i0 _ Try.underlying73 hi hz0 .i64 .i64 0 (n : Int) (by omega) (by omega) (by rw [hz2]; omega) (by omega)
  rw [hz1] at this
  simpa [Value.cells] using this
theorem wpList_append_at {P : Program} {w : World} {ops : Array Oper} {rest : List Oper} {o : Oper} {a : Act} {Q : Exit → Act → World → Prop} (hgd : o.guard = none) (s x : Operand) (t e : TypeId) (ho : o.op = .call { callee := .builtin .append, args := #[s, x], argTypes := #[t, t] })
    (base : Nat) (i : TypeInfo) (z : Value) (size bytes : Nat) (ht : P.underlying t = some (.slice e)) (hi : P.info? e = some i) (hz : i.zero = some z) (hsize : i.size = size) (hby : i.bytes = bytes) (hzs : z.cells.size = size) (hsz : 0 < size)
    (v : Value) (n : Nat) (xs : List Value) (hs : a.eval s = v) (hown : w.ownsRow base e size v n xs) (ad : Addr) (m c : Nat) (news : List Value) (hx : a.eval x = .slice (some ad) m c) (hl : news.length = m * size) (hnews : ∀ j u, news[j]? = some u → w.cell? (ad.add j) = some u) (h1 : ∀ u ∈ news, u.oneCell' = true)
    (h63 : n + m ≤ maxLen) (hbytes : (n + m) * bytes ≤ 140737488355328) (hbase : base ≤ w.heap.size)
    (h : ∀ v' w', w'.ownsRow base e size v' (n + m) (xs ++ news) → w.grownBy w' v.ownBlock → (v'.ownBlock = v.ownBlock ∨ v'.ownBlock = some w.heap.size) → wpList P ops Q rest (a.put o.dst v') w') : wpList P ops Q (o :: rest) a w :=
  wpList_plain hgd fun _ hK => wp_append_at s x t e ho base i z size bytes ht hi hz hsize hby hzs hsz v n xs hs hown ad m c news hx hl hnews h1 h63 hbytes hbase fun v' w' h2 h3 h4 => hK _ _ (h v' w' h2 h3 h4)
set_option maxHeartbeats 3200000 in
set_option maxRecDepth 1000000 in
theorem pending_any (p q : Nat) (O : Nat → Prop) (S : DS) (w : World) (h : DkAt w p q S O) : Calls Try.prog 20 #[.pointer (some ⟨p, 0, none⟩)] w fun e w' => ∃ v, e = .returned v ∧ OwnI w' v (S.ws.map (·.1)) ∧ (∀ g, v.ownBlock = some g → w.heap.size ≤ g) ∧ Below w.heap.size w w' := by
  obtain ⟨vw, m, hd, ho⟩ := h
  have HD : Hid (∀ W, Below w.heap.size w W → Dk W p q vw m S) := fun W hb => hd.below hb
  have c1 := hd.c 1 vw rfl
  have HG := hide hd.good
  obtain ⟨a, len, cap, rfl, hlen, hnn⟩ : ∃ a len cap, vw = .slice a len cap ∧ len = S.ws.length ∧ (a = none ∧ len = 0 ∨ ∃ g, a = some ⟨g, 0, none⟩ ∧ len ≤ cap) := by
    rcases hd.wri.2 with ⟨e, e2⟩ | ⟨g, cap, cur, e, _, _, hle, _⟩
    · exact ⟨none, 0, 0, e, e2.symm, .inl ⟨rfl, rfl⟩⟩
    · exact ⟨_, _, cap, e, rfl, .inr ⟨g, rfl, hle⟩⟩
  have HL := hide hlen
  have hfew : len ≤ 40000000 := by rw [hlen]; exact hd.good.few
  have hmk := make77 len hfew
  have c1' : (w.alloc (.cells (madeCells #[.int .i64 0] len) 3)).cell? ⟨p, 1, none⟩ = some (.slice a len cap) := cell_old c1 _
  have hbt := zero117
  obtain ⟨i0, hi, hz0, hz1, hz2⟩ := info_parts Try.info3
  clear hd ho hlen
  go_enter Try.func20, Try.ntmps20
  go_wp2
  go_loopw [19, 3] (fun i v wr' => ∃ k : Nat, k ≤ len ∧ i = .int .i64 (k : Int) ∧ OwnI wr' v ((S.ws.map (·.1)).take k) ∧ (∀ g, v.ownBlock = some g → w.heap.size ≤ g) ∧ Below w.heap.size w wr') (fun i _ _ => len - (intOf i).toNat)
  case atStart =>
    refine ⟨0, Nat.zero_le _, rfl, ?_, ?_, below_alloc _ _⟩
    · exact World.ownsRow_made w _ len (Nat.zero_le _) (by unfold maxLen; omega) (by rw [size_madeCells, Nat.mul_one])
    · intro g hg; simp only [Value.ownBlock] at hg; cases hg; exact Nat.le_refl _
  case round =>
    obtain ⟨k, hk, rfl, hown, hnew, hb⟩ := hrel
    have HO := hide hown
    have HNw := hide hnew
    have HB := hide hb
    clear hown hnew hb c1 c1'
    by_cases hlt : k < len
    · rcases hnn with ⟨rfl, h0⟩ | ⟨g, rfl, hle⟩
      · omega
      · obtain ⟨⟨n, ys⟩, hx⟩ : ∃ x, S.ws[k]? = some x := ⟨_, List.getElem?_eq_getElem (by rw [← HL.out]; exact hlt)⟩
        obtain ⟨hn, hy, hby⟩ := HG.out.ws (n, ys) (List.mem_of_getElem? hx)
        have HY : Hid ((wv (n, ys)).length = 129) := by simp [wv, sv_len, hy, Hid]
        have HR0 : Hid (wr.rangeAt g (k * 129) (wv (n, ys))) := Dk.wr_at (S := S) (by have := HD.out wr HB.out; rw [HL.out] at this; exact this) k (n, ys) hx
        have HI : Hid ((Try.prog.info? 110).map (·.size) = some (wv (n, ys)).length) := by rw [Hid, HY.out]; exact size117
        have HI2 : Hid ((Try.prog.info? 110).map (·.size) = some (wv (n, ys)).toArray.size) := by rw [Hid, List.size_toArray, HY.out]; exact size117
        have HT : Hid ((wr.alloc (.cells z117 110)).heap[wr.heap.size]? = some (.cells z117 110 (0, 0))) := heap_alloc_new wr _
        have HZ : Hid (z117.size = (wv (n, ys)).toArray.size) := by simp only [Hid, List.size_toArray, HY.out]; rfl
        have H1 := hide (all_oneCell_toArray (wv_one (n, ys)))
        have HTk : Hid ((S.ws.map (·.1)).take (k + 1) = (S.ws.map (·.1)).take k ++ [n]) := by
          rw [Hid, List.take_add_one]
          simp [hx]
        have HTl : Hid (((S.ws.map (·.1)).take k).length = k) := by rw [Hid, List.length_take, List.length_map, ← HL.out]; omega
        obtain ⟨W3, HW3⟩ : ∃ W3, Hid (W3 = wr.alloc (.cells (wv (n, ys)).toArray 110)) := ⟨_, rfl⟩
        have hb3 : Below wr.heap.size wr W3 := by rw [HW3.out]; exact below_alloc wr _
        have c0 : W3.cell? ⟨wr.heap.size, 0, none⟩ = some (.int .i64 (n : Int)) := by rw [HW3.out, cell_of_row _ _ 0 _ 110 (0, 0) (heap_alloc_new wr _)]; rfl
        have HB3 := hide (HB.out.trans (hb3.mono HB.out.size))
        have HO3 : Hid ((W3.alloc (.cells #[.int .i64 (n : Int)] 3)).ownsRow 0 3 1 u3 ((S.ws.map (·.1)).take k).length (((S.ws.map (·.1)).take k).map fun (n : Nat) => Value.int .i64 (n : Int))) := World.ownsRow.alloc (HO.out.of_block (fun g hg => hb3.block g (HO.out.lt g hg).2)) _
        have HNc : Hid (∀ j u, [Value.int .i64 (n : Int)][j]? = some u → (W3.alloc (.cells #[.int .i64 (n : Int)] 3)).cell? ((⟨W3.heap.size, 0, none⟩ : Addr).add j) = some u) := fun j u hu => by
          rw [Addr.add_lit, cell_of_row _ _ (0 + j) _ 3 (0, 0) (heap_alloc_new W3 _)]
          simpa using hu
        have HOne : Hid (∀ u ∈ [Value.int .i64 (n : Int)], u.oneCell' = true) := fun u hu => by simp only [List.mem_singleton] at hu; rw [hu]; rfl
        have HB1 : Hid (((S.ws.map (·.1)).take k).length + 1 ≤ maxLen) := by rw [Hid, HTl.out]; unfold maxLen; omega
        have HB2 : Hid ((((S.ws.map (·.1)).take k).length + 1) * 8 ≤ 140737488355328) := by rw [Hid, HTl.out]; omega
        have HEnd : Hid (∀ v' w4, w4.ownsRow 0 3 1 v' (((S.ws.map (·.1)).take k).length + 1) ((((S.ws.map (·.1)).take k).map fun (n : Nat) => Value.int .i64 (n : Int)) ++ [.int .i64 (n : Int)]) → (W3.alloc (.cells #[.int .i64 (n : Int)] 3)).grownBy w4 u3.ownBlock → (v'.ownBlock = u3.ownBlock ∨ v'.ownBlock = some (W3.alloc (.cells #[.int .i64 (n : Int)] 3)).heap.size) → ∃ k' : Nat, k' ≤ len ∧ Value.int .i64 ((k : Int) + 1) = .int .i64 (k' : Int) ∧ OwnI w4 v' ((S.ws.map (·.1)).take k') ∧ (∀ g, v'.ownBlock = some g → w.heap.size ≤ g) ∧ Below w.heap.size w w4) := fun v' w4 ho hg hl => by
          refine ⟨k + 1, by omega, by simp, ?_, ?_, ?_⟩
          · rw [HTk.out]
            unfold OwnI
            rw [List.length_append, List.length_singleton, List.map_append]
            exact ho
          · intro g hv
            rcases hl with e | e
            · exact HNw.out g (by rw [← e]; exact hv)
            · rw [e] at hv; cases hv; rw [size_al]; have := HB3.out.size; omega
          · have hx := below_alloc W3 (.cells #[.int .i64 (n : Int)] 3)
            refine ⟨hg.os.trans HB3.out.os, hg.tape.trans HB3.out.tape, hg.output.trans HB3.out.output, Nat.le_trans HB3.out.size (Nat.le_trans hx.size hg.size), fun j hj => ?_⟩
            rw [hg.block j (Nat.lt_of_lt_of_le hj (Nat.le_trans HB3.out.size hx.size)) (fun e => by have := HNw.out j e.symm; omega), hx.block j (Nat.lt_of_lt_of_le hj HB3.out.size)]
            exact HB3.out.block j hj
        clear hx hy hby hb3
        go_wp2_with (first | (refine wpList_load_mid (by rfl) 110 (.tmp 21) (by rfl) g (k * 129) (by rfl) (wv (n, ys)) _ HR0.out Try.underlying110 rfl HI.out ?_) | (refine wpList_store_row (by rfl) 110 (.tmp 5) (.tmp 22) (by rfl) wr.heap.size (wv (n, ys)).toArray (by rfl) (by rfl) 110 z117 HT.out HI2.out HZ.out H1.out ?_; rw [World.setRow_alloc_new, ← HW3.out]) | (at_builtin; refine wpList_append_at (by rfl) (.tmp 23) (.tmp 26) 73 3 (by rfl) 0 i0 (.int .i64 0) 1 8 Try.underlying73 hi hz0 hz1 hz2 rfl (by omega) u3 _ _ (by rfl) HO3.out ⟨W3.heap.size, 0, none⟩ 1 1 [.int .i64 (n : Int)] (by rfl) rfl HNc.out HOne.out HB1.out HB2.out (Nat.zero_le _) ?_; intro v' w4 ho4 hg4 hl4; have HO4 := hide ho4; have HG4 := hide hg4; have HL4 := hide hl4; clear ho4 hg4 hl4))
        go_roundw
        case rel => exact HEnd.out v' w4 HO4.out HG4.out HL4.out
        case measure => simp [intOf]; omega
    · have e : k = len := by omega
      subst e
      have HE : Hid ((S.ws.map (·.1)).take k = S.ws.map (·.1)) := by rw [Hid, List.take_of_length_le]; rw [List.length_map, ← HL.out]; exact Nat.le_refl _
      rw [HE.out] at HO
      go_wp2
      go_ret
      exact ⟨_, rfl, HO.out, HNw.out, HB.out⟩
end Go.Proofs.Ytkammfkknfflgaa
/- A disk in a walk: what a statement says of it between two calls; the calls as the statements make them. -/
namespace Go.Proofs.Ytkammfkknfflgaa
open Go.RowKit Go.Maps
set_option linter.unusedVariables false

/-- nothing below B has turned since w0, and what a disk owns lies from B on. -/
structure Fd (B : Nat) (w0 w : World) (O : Nat → Prop) : Prop where
  below : Below B w0 w
  size : B ≤ w.heap.size
  own : ∀ k, O k → B ≤ k
theorem Fd.go {B : Nat} {w0 w w' : World} {O O' : Nat → Prop} (h : Fd B w0 w O) (hg : Go1 O w O' w') : Fd B w0 w' O' :=
  ⟨h.below.trans (hg.mv.below h.size h.own), Nat.le_trans h.size hg.mv.size, fun k hk => (hg.own k hk).elim (h.own k) (fun hl => Nat.le_trans h.size hl)⟩
theorem Fd.on {B : Nat} {w0 w w' : World} {O : Nat → Prop} (h : Fd B w0 w O) (hb : Below w.heap.size w w') : Fd B w0 w' O := h.go (Go1.of_below hb)
/-- a slice that lies apart from what is owned. -/
def Ap (w : World) (O : Nat → Prop) (v : Value) : Prop := ∀ k, v.ownBlock = some k → k < w.heap.size ∧ ¬ O k
theorem Ap.go {w w' : World} {O O' : Nat → Prop} {v : Value} (h : Ap w O v) (hg : Go1 O w O' w') : Ap w' O' v := fun k hk =>
  ⟨Nat.lt_of_lt_of_le (h k hk).1 hg.mv.size, fun ho => (hg.own k ho).elim (h k hk).2 (fun hl => by have := (h k hk).1; omega)⟩
theorem Ap.on {w w' : World} {O : Nat → Prop} {v : Value} (h : Ap w O v) (hb : Below w.heap.size w w') : Ap w' O v := h.go (Go1.of_below hb)
theorem Own.go {w w' : World} {O O' : Nat → Prop} {v : Value} {zs : List Int} (h : Own w v zs) (ha : Ap w O v) (hg : Go1 O w O' w') : Own w' v zs := h.of_block fun k hk => hg.mv.block k (ha k hk).1 (ha k hk).2
theorem Own.on {w w' : World} {v : Value} {zs : List Int} (h : Own w v zs) (hb : Below w.heap.size w w') : Own w' v zs := h.of_block fun k hk => hb.block k (h.lt hk)
theorem OwnI.go {w w' : World} {O O' : Nat → Prop} {v : Value} {zs : List Nat} (h : OwnI w v zs) (ha : Ap w O v) (hg : Go1 O w O' w') : OwnI w' v zs := h.of_block fun k hk => hg.mv.block k (ha k hk).1 (ha k hk).2
theorem OwnI.on {w w' : World} {v : Value} {zs : List Nat} (h : OwnI w v zs) (hb : Below w.heap.size w w') : OwnI w' v zs := h.of_block fun k hk => hb.block k (World.ownsRow.lt h k hk).2

theorem filled_at (n : Nat) (I : Int) (c : Int) (w : World) (hI : I = (n : Int)) (hn : n ≤ 100000) :
    Calls Try.prog 19 #[.int .i64 I, .int .u8 c] w fun e w' => e = .returned (.slice (some ⟨w.heap.size, 0, none⟩) n n) ∧ Row w' (some ⟨w.heap.size, 0, none⟩) (List.replicate n c) ∧ w.heap.size < w'.heap.size ∧ Below w.heap.size w w' := by
  subst hI
  exact filled_any n c w hn
theorem rep_byts (n : Nat) (c : Int) (h : 0 ≤ c ∧ c ≤ 255) : Byts (List.replicate n c) := fun x hx => by rw [(List.mem_replicate.1 hx).2]; exact h
/-- a disk's page is written, or its first sector, with bytes that are all alike. -/
theorem write_ok (p q : Nat) (O : Nat → Prop) (S : DS) (pg : Nat) (P : Int) (b len : Nat) (c : Int) (N : Nat) (w : World) (h : DkAt w p q S O) (hP : P = (pg : Int)) (hc : 0 ≤ c ∧ c ≤ 255)
    (ob : ¬ O b) (hr : Row w (some ⟨b, 0, none⟩) (List.replicate len c)) (hbl : b < w.heap.size) (hpg : pg < S.ls.length / 8) (hl8 : S.ls.length % 8 = 0) (hN : len = 1024 ∧ N = 8 ∨ len = 128 ∧ N = 1) (hf : S.ws.length + 8 ≤ 40000000) (hn : S.n2 + 1 ≤ 40000000) (he : S.er S.s2 S.l2 = 0) :
    Calls Try.prog 18 #[.pointer (some ⟨p, 0, none⟩), .int .i64 P, .slice (some ⟨b, 0, none⟩) len len] w fun e w' => e = .returned (.int .u16 0) ∧ ∃ O', DkAt w' p q (S.op2.adds (8 * pg) (List.replicate len c) N) O' ∧ Go1 O w O' w' := by
  subst hP
  refine (write_any p q O S pg b 0 len len (List.replicate len c) N w h ob hr hbl (by simp) (rep_byts len c hc) (Nat.le_refl _) (by omega) hpg hl8 hN hf hn).mono ?_
  rintro e w' ⟨rfl, O', hd, hg⟩
  refine ⟨by rw [he]; rfl, O', ?_, hg⟩
  rwa [DS.wr, if_pos he] at hd
theorem write_io (p q : Nat) (O : Nat → Prop) (S : DS) (pg : Nat) (P : Int) (b len : Nat) (c : Int) (N : Nat) (w : World) (h : DkAt w p q S O) (hP : P = (pg : Int)) (hc : 0 ≤ c ∧ c ≤ 255)
    (ob : ¬ O b) (hr : Row w (some ⟨b, 0, none⟩) (List.replicate len c)) (hbl : b < w.heap.size) (hpg : pg < S.ls.length / 8) (hl8 : S.ls.length % 8 = 0) (hN : len = 1024 ∧ N = 8 ∨ len = 128 ∧ N = 1) (hf : S.ws.length + 8 ≤ 40000000) (hn : S.n2 + 1 ≤ 40000000) (he : S.er S.s2 S.l2 = 6) :
    Calls Try.prog 18 #[.pointer (some ⟨p, 0, none⟩), .int .i64 P, .slice (some ⟨b, 0, none⟩) len len] w fun e w' => e = .returned (.int .u16 6) ∧ ∃ O', DkAt w' p q (S.be S.op2) O' ∧ Go1 O w O' w' := by
  subst hP
  refine (write_any p q O S pg b 0 len len (List.replicate len c) N w h ob hr hbl (by simp) (rep_byts len c hc) (Nat.le_refl _) (by omega) hpg hl8 hN hf hn).mono ?_
  rintro e w' ⟨rfl, O', hd, hg⟩
  refine ⟨by rw [he]; rfl, O', ?_, hg⟩
  rwa [DS.wr, if_neg (by omega)] at hd
theorem read_ok (p q : Nat) (O : Nat → Prop) (S : DS) (pg : Nat) (P : Int) (w : World) (h : DkAt w p q S O) (hP : P = (pg : Int)) (hpg : pg < S.ls.length / 8) (hn : S.n1 + 1 ≤ 40000000) (he : S.er S.s1 S.l1 = 0) :
    Calls Try.prog 22 #[.pointer (some ⟨p, 0, none⟩), .int .i64 P] w fun e w' => ∃ v, e = .returned (.tuple #[v, .int .u16 0]) ∧ Own w' v (rd S (8 * pg) 8) ∧ Ap w' O v ∧ (∀ g, v.ownBlock = some g → w.heap.size ≤ g) ∧ DkAt w' p q S.op1 O ∧ Go1 O w O w' := by
  subst hP
  refine (read_any p q O S pg w h hpg hn).mono ?_
  rintro e w' ⟨v, rfl, hr, hd, hg⟩
  obtain ⟨ho, hnew⟩ := hr.1 he
  refine ⟨v, by rw [he]; rfl, ho, fun k hk => ⟨ho.lt hk, fun hO => ?_⟩, hnew, ?_, hg⟩
  · have h1 := h.lt k hO
    have h2 := hnew k hk
    omega
  · rwa [be_zero he] at hd
theorem sync_ok (p q : Nat) (O : Nat → Prop) (S : DS) (w : World) (h : DkAt w p q S O) (hn : S.n3 + 1 ≤ 40000000) (he : S.er S.s3 S.l3 = 0) :
    Calls Try.prog 42 #[.pointer (some ⟨p, 0, none⟩)] w fun e w' => e = .returned (.int .u16 0) ∧ ∃ O', DkAt w' p q (S.op3.set yes) O' ∧ Go1 O w O' w' := by
  refine (sync_any p q O S w h hn).mono ?_
  rintro e w' ⟨rfl, O', hd, hg⟩
  refine ⟨by rw [he]; rfl, O', ?_, hg⟩
  rwa [DS.sy, if_pos he] at hd
theorem new_at (pg : Nat) (P : Int) (w : World) (hP : P = (pg : Int)) (h1 : 1 ≤ pg) (h2 : pg ≤ 16384) :
    Calls Try.prog 6 #[.int .i64 P] w fun e w' => ∃ O p q, e = .returned (.tuple #[.pointer (some ⟨p, 0, none⟩), .int .u16 0]) ∧ DkAt w' p q (DS.new (8 * pg)) O ∧ Fd w.heap.size w w' O := by
  subst hP
  refine (new_any pg w h1 h2).mono ?_
  rintro e w' ⟨O, p, q, rfl, hd, ho, hb⟩
  exact ⟨O, p, q, rfl, hd, hb, hb.size, ho⟩

/-! the states of 'known' -/
def K0 : DS := DS.new 16
def K1 : DS := K0.op2.adds 0 (List.replicate 1024 97) 8
def K2 : DS := K1.op2.adds 8 (List.replicate 1024 98) 8
def K3 : DS := K2.cut [true]
def K4 : DS := K3.op1
def K5 : DS := K4.fail2 0
def K6 : DS := K5.be K5.op2
def K7 : DS := K6.op2.adds 0 (List.replicate 128 100) 1
def K8 : DS := K7.op1
theorem k0 : K0.er K0.s2 K0.l2 = 0 ∧ K0.ls.length = 16 ∧ K0.ws.length = 0 ∧ K0.n2 = 0 := by decide +kernel
theorem k1 : K1.er K1.s2 K1.l2 = 0 ∧ K1.ls.length = 16 ∧ K1.ws.length = 8 ∧ K1.n2 = 1 := by decide +kernel
theorem k2 : K2.ws.map (·.1) = List.range 16 := by decide +kernel
theorem k3 : K3.er K3.s1 K3.l1 = 0 ∧ K3.ls.length = 16 ∧ K3.n1 = 0 ∧ K3.dk = false := by decide +kernel
theorem k3r : rd K3 0 8 = List.replicate 128 97 ++ List.replicate 896 0 := by decide +kernel
theorem k5 : K5.er K5.s2 K5.l2 = 6 ∧ K5.ls.length = 16 ∧ K5.ws.length = 0 ∧ K5.n2 = 2 := by decide +kernel
theorem k6 : K6.er K6.s2 K6.l2 = 0 ∧ K6.ls.length = 16 ∧ K6.ws.length = 0 ∧ K6.n2 = 3 := by decide +kernel
theorem k7 : K7.er K7.s1 K7.l1 = 0 ∧ K7.ls.length = 16 ∧ K7.n1 = 1 := by decide +kernel
theorem k7r : rd K7 0 8 = List.replicate 128 100 ++ List.replicate 896 0 := by decide +kernel
theorem k8 : K8.n1 = 2 ∧ K8.n2 = 4 ∧ K8.n3 = 0 := by decide +kernel
theorem k4 : K4.dk = false := by decide +kernel
end Go.Proofs.Ytkammfkknfflgaa
