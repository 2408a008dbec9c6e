/- Disks that are refused for their size; Load of the document's own disk. -/
import Derived.Test.YtlmofgfkclfgeaaGreatXK
namespace Go.Proofs.YtlmofgfkclfgeaaGreat
open Go.RowKit Go.Maps
set_option linter.unusedVariables false

set_option maxHeartbeats 800000 in
set_option maxRecDepth 1000000 in
theorem new_no (n : Int) (w : World) (h : n < 1 ∨ 16384 < n) : Calls Tryz.prog 19 #[.int .i64 n] w fun e w' => e = .returned (.tuple #[.pointer none, .int .u16 70]) ∧ Below w.heap.size w w' := by
  by_cases h1 : n < 1
  · have d1 : decide (n < 1) = true := by simp [h1]
    clear h h1
    go_enter Tryz.func19, Tryz.ntmps19
    go_wp2
    go_ret2
    exact ⟨rfl, Below.refl _ _⟩
  · have d1 : decide (n < 1) = false := by simp [h1]
    have d2 : decide ((16384 : Int) < n) = true := by simp; omega
    clear h h1
    go_enter Tryz.func19, Tryz.ntmps19
    go_wp2
    go_ret2
    exact ⟨rfl, Below.refl _ _⟩
set_option maxHeartbeats 800000 in
set_option maxRecDepth 1000000 in
theorem rload_no (a : Option Addr) (len cap : Nat) (w : World) (h : len = 0 ∨ len % 1024 ≠ 0 ∨ 16777216 < len) (hl : len ≤ 9223372036854775807) : Calls Tryz.prog 6 #[.slice a len cap] w fun e w' => e = .returned (.tuple #[.pointer none, .int .u16 70]) ∧ w' = w := by
  by_cases h1 : len = 0
  · subst h1
    clear h
    go_enter Tryz.func6, Tryz.ntmps6
    go_wp2
    go_ret2
    exact ⟨rfl, rfl⟩
  · have d1 : ((len : Int) == 0) = false := by simp; omega
    by_cases h2 : len % 1024 = 0
    · have d3 : ((len : Int) % 1024 != 0) = false := by simp; omega
      have d4 : decide ((16777216 : Int) < (len : Int)) = true := by simp; omega
      have d5 : decide (16777216 < len) = true := by simp; omega
      clear h h1 h2
      go_enter Tryz.func6, Tryz.ntmps6
      go_wp2
      go_ret2
      exact ⟨rfl, rfl⟩
    · have d3 : ((len : Int) % 1024 != 0) = true := by simp; omega
      clear h h1 h2
      go_enter Tryz.func6, Tryz.ntmps6
      go_wp2
      go_ret2
      exact ⟨rfl, rfl⟩
end Go.Proofs.YtlmofgfkclfgeaaGreat
/- Load, of the document's own disk. -/
namespace Go.Proofs.YtlmofgfkclfgeaaGreat
open Go.RowKit Go.Maps
set_option linter.unusedVariables false

/-- a table of the first k sectors of these bytes. -/
structure Tbz (w wr : World) (zs : List Int) (v : Value) (k : Nat) (Ls : List Value) : Prop where
  row : wr.ownsRow 0 22 1 v k Ls
  sl : ∀ i u, Ls[i]? = some u → Sl wr u (sec zs i) ∧ ∀ g, u.ownBlock = some g → w.heap.size ≤ g
  vb : ∀ g, v.ownBlock = some g → w.heap.size ≤ g
  be : Below w.heap.size w wr
theorem Tbz.more {w wr w5 w7 : World} {zs : List Int} {v v' x : Value} {k : Nat} {Ls : List Value} (h : Tbz w wr zs v k Ls) (h5 : Below wr.heap.size wr w5) (hx : Sl w5 x (sec zs k)) (hxn : ∀ g, x.ownBlock = some g → wr.heap.size ≤ g)
    (ho : w7.ownsRow 0 22 1 v' (k + 1) (Ls ++ [x])) (hg : (w5.alloc (.cells #[x] 22)).grownBy w7 v.ownBlock) (hl : v'.ownBlock = v.ownBlock ∨ v'.ownBlock = some (w5.alloc (.cells #[x] 22)).heap.size) :
    Tbz w w7 zs v' (k + 1) (Ls ++ [x]) := by
  have s2 : (w5.alloc (.cells #[x] 22)).heap.size = w5.heap.size + 1 := size_al _ _
  have b2 := below_alloc w5 (.cells #[x] 22)
  have b3 := h5.trans (b2.mono h5.size)
  have hsz := h.be.size
  have h5s := h5.size
  have hvl : ∀ g, v.ownBlock = some g → g < wr.heap.size := fun g hv => (h.row.lt g hv).2
  have hlen : Ls.length = k := by have := h.row.1; omega
  refine ⟨ho, fun i u hu => ?_, fun g hv => ?_, ⟨hg.os.trans (b3.os.trans h.be.os), hg.tape.trans (b3.tape.trans h.be.tape), hg.output.trans (b3.output.trans h.be.output), Nat.le_trans hsz (Nat.le_trans b3.size hg.size), fun j hj => ?_⟩⟩
  · by_cases hi : i < Ls.length
    · rw [List.getElem?_append_left hi] at hu
      refine ⟨(h.sl i u hu).1.stays (fun j hj hlt => ?_) (Nat.le_trans b3.size hg.size), (h.sl i u hu).2⟩
      rw [hg.block j (by omega) (fun e => ?_), b3.block j hlt]
      obtain ⟨c1, g1, h1⟩ := row_type h.row e.symm
      obtain ⟨c2, g2, h2⟩ := (h.sl i u hu).1.type hj
      rw [h1] at h2; simp at h2
    · rw [List.getElem?_append_right (by omega)] at hu
      have e0 : i - Ls.length = 0 := by
        have := (List.getElem?_eq_some_iff.1 hu).1
        simp at this
        omega
      rw [e0] at hu
      cases hu
      have ei : i = k := by omega
      rw [ei]
      refine ⟨hx.stays (fun j hj hlt => ?_) (Nat.le_trans b2.size hg.size), fun g hv => Nat.le_trans hsz (hxn g hv)⟩
      have := hxn j hj
      rw [hg.block j (by omega) (fun e => by have := hvl j e.symm; omega), b2.block j hlt]
  · rcases hl with e | e
    · exact h.vb g (e ▸ hv)
    · rw [e, s2] at hv; cases hv; omega
  · rw [hg.block j (by omega) (fun e => by have := h.vb j e.symm; omega), b3.block j (by omega)]
    exact h.be.block j hj
set_option maxHeartbeats 1600000 in
set_option maxRecDepth 1000000 in
theorem rload_any (N : Nat) (b off cap : Nat) (zs : List Int) (w : World) (h1 : 1 ≤ N) (h2 : N ≤ 16384) (hr : Row w (some ⟨b, off, none⟩) zs) (hz : zs.length = 1024 * N) (hby : Byts zs) (hlc : 1024 * N ≤ cap) (hcm : cap ≤ 9223372036854775807) : Calls Tryz.prog 6 #[.slice (some ⟨b, off, none⟩) (1024 * N) cap] w fun e w' => ∃ p f vl Ls, e = .returned (.tuple #[.pointer (some ⟨p, 0, none⟩), .int .u16 0]) ∧ RD w' p vl Ls (.slice none 0 0) [] f (DS.of ((List.range (8 * N)).map (sec zs))) ∧ (∀ k, OwR p vl Ls (.slice none 0 0) [] f k → w.heap.size ≤ k) ∧ Below w.heap.size w w' := by
  obtain ⟨L, HL⟩ : ∃ L, Hid (L = 1024 * N) := ⟨_, rfl⟩
  rw [← HL.out] at hz hlc ⊢
  have d1 : ((L : Int) == 0) = false := by have := HL.out; simp; omega
  have d3 : ((L : Int) % 1024 != 0) = false := by have := HL.out; simp; omega
  have d4 : decide ((16777216 : Int) < (L : Int)) = false := by have := HL.out; simp; omega
  have d5 : decide (16777216 < L) = false := by have := HL.out; simp; omega
  have HRw : Hid (∀ W, Below w.heap.size w W → Row W (some ⟨b, off, none⟩) zs) := fun W hb => hr.below hb
  have HZ := hide hz
  have HBy := hide hby
  have hL24 : L ≤ 16777216 := by have := HL.out; omega
  have h1' := hide h1
  have h2' := hide h2
  clear hr hz hby h1 h2
  obtain ⟨i0, hi, hz0, hz1, hz2⟩ := info_parts Tryz.info5
  obtain ⟨i1, hj, hy0, hy1, hy2⟩ := info_parts info63
  have hz35 : ∀ w, (zeroValue 44).run Tryz.prog w = .ok (.slice none 0 0) w := (zero_of_info (P := Tryz.prog) (t := 44) (v := .slice none 0 0) (n := 1) (by kernel_rfl)).1
  go_enter Tryz.func6, Tryz.ntmps6
  go_wp2
  go_loopw [5, 4] (fun i v wr' => ∃ (q k : Nat) (Ls : List Value), k ≤ 8 * N ∧ i = .int .i64 (q : Int) ∧ Hid (q = 128 * k) ∧ Tbz w wr' zs v k Ls) (fun i _ _ => L - (intOf i).toNat)
  case atStart => exact ⟨0, 0, [], Nat.zero_le _, rfl, rfl, World.ownsRow_nil _ _ _ _, fun i u hu => by simp at hu, fun g hg => by simp [Value.ownBlock] at hg, Below.refl _ _⟩
  case round =>
    obtain ⟨q, k, Ls, hk, rfl, HQ, ht⟩ := hrel
    have HT := hide ht
    clear ht
    by_cases hlt : q < L
    · have hcc : decide (q < L) = true := by simp [hlt]
      have hcd : decide ((q : Int) < (L : Int)) = true := by simp [hlt]
      have hkN : k + 1 ≤ 8 * N := by have := HQ.out; have := HL.out; omega
      have hqL : q + 128 ≤ L := by have := HQ.out; have := HL.out; omega
      have hw3 : IntKind.i64.wrap ((q : Int) + 128) = (q : Int) + 128 := by rw [IntKind.wrap_i64]; omega
      have sb1 : (0 : Int) ≤ (q : Int) := by omega
      have sb2 : (q : Int) ≤ (q : Int) + 128 := by omega
      have sb3 : (q : Int) + 128 ≤ (cap : Int) := by omega
      have t1 : ((q : Int)).toNat = q := by omega
      have t2 : ((q : Int) + 128).toNat = q + 128 := by omega
      have t3 : q + 128 - q = 128 := by omega
      have t4 : ¬ cap = q := by omega
      have HSrc : Hid (Src Tryz.prog 1 22 (.slice (some ⟨b, off + q, none⟩) 128 (cap - q)) 128 ((sec zs k).map (Value.int .u8)) wr) := by
        have e := HQ.out
        refine src_row wr _ 128 _ (sec zs k) (sec_len zs k (by have := HZ.out; omega)) (by intro h; cases h) ?_
        have := (HRw.out wr HT.out.be).within q 128 (by have := HZ.out; omega) (by have := HZ.out; omega)
        rw [sec, Nat.mul_comm k 128, ← e]
        exact this
      have HLn : Hid (([] : List Int).length + 128 ≤ 140737488355328) := by rw [Hid]; simp
      have HA : Hid (∀ v5 w5, Own w5 v5 ([] ++ sec zs k) → wr.grownBy w5 (Value.ownBlock (.slice none 0 0)) → (∀ g, v5.ownBlock = some g → (Value.slice none 0 0).ownBlock = some g ∨ wr.heap.size ≤ g) → ∃ a5 c5, v5 = .slice a5 128 c5 ∧ Hid (Below wr.heap.size wr w5) ∧ Hid ((w5.alloc (.cells #[.slice a5 128 c5] 22)).ownsRow 0 22 1 u4 k Ls) ∧ Hid (∀ v' w7, w7.ownsRow 0 22 1 v' (k + 1) (Ls ++ [.slice a5 128 c5]) → (w5.alloc (.cells #[.slice a5 128 c5] 22)).grownBy w7 u4.ownBlock → (v'.ownBlock = u4.ownBlock ∨ v'.ownBlock = some (w5.alloc (.cells #[.slice a5 128 c5] 22)).heap.size) → Tbz w w7 zs v' (k + 1) (Ls ++ [.slice a5 128 c5]))) := by
        intro v5 w5 g1 g2 g3
        have hsl := sec_len zs k (by have := HZ.out; have := HQ.out; omega)
        obtain ⟨a5, c5, e5, -⟩ := Own.shape g1
        rw [List.nil_append, hsl] at e5
        have hb5 : Below wr.heap.size wr w5 := ⟨g2.os, g2.tape, g2.output, g2.size, fun q hq => g2.block q hq (fun e => by simp [Value.ownBlock] at e)⟩
        refine ⟨a5, c5, e5, hb5, (row_keep HT.out.row (fun q hq => hb5.block q (HT.out.row.lt q hq).2)).alloc _, fun v' w7 ho hg hl => ?_⟩
        exact HT.out.more hb5 (by rw [← e5]; exact g1) (fun g hg => by rw [← e5] at hg; exact (g3 g hg).elim (fun e => by simp [Value.ownBlock] at e) id) ho hg hl
      have HNc : Hid (∀ (w5 : World) (y : Value) j u, [y][j]? = some u → (w5.alloc (.cells #[y] 22)).cell? ((⟨w5.heap.size, 0, none⟩ : Addr).add j) = some u) := fun w5 y j u hu => by
        rw [Addr.add_lit, cell_of_row _ _ (0 + j) _ 22 (0, 0) (heap_alloc_new w5 _)]
        simpa using hu
      have HOne : Hid (∀ (a5 : Option Addr) (c5 : Nat), ∀ u ∈ [Value.slice a5 128 c5], u.oneCell' = true) := fun a5 c5 u hu => by simp only [List.mem_singleton] at hu; rw [hu]; rfl
      have hk17 : k ≤ 131072 := by have := h2'.out; omega
      have HB1 : Hid (k + 1 ≤ maxLen) := by rw [Hid]; unfold maxLen; omega
      have HB2 : Hid ((k + 1) * 24 ≤ 140737488355328) := by rw [Hid]; omega
      have HQ2 : Hid (q + 128 = 128 * (k + 1)) := by rw [Hid, HQ.out]; omega
      go_wp2_with (at_builtin; first | (refine wpList_append_src (by rfl) (.tmp 28) (.tmp 33) 22 22 (by rfl) i0 Tryz.underlying22 hi hz0 hz1 hz2 (.slice none 0 0) [] (by rfl) (Own.nil _) (.slice (some ⟨b, off + q, none⟩) 128 (cap - q)) 128 (sec zs k) (by rfl) HSrc.out HLn.out ?_; intro v5 w5 ho5 hg5 hf5; obtain ⟨a5, c5, rfl, HB5, HO6, HE6⟩ := HA.out v5 w5 ho5 hg5 hf5; clear ho5 hg5 hf5) | (refine wpList_append_at (by rfl) (.tmp 27) (.tmp 35) 44 22 (by rfl) 0 i1 (.slice none 0 0) 1 24 Tryz.underlying44 hj hy0 hy1 hy2 rfl (by omega) u4 k Ls (by rfl) HO6.out ⟨w5.heap.size, 0, none⟩ 1 1 [.slice a5 128 c5] (by rfl) rfl (HNc.out w5 _) (HOne.out a5 c5) HB1.out HB2.out (Nat.zero_le _) ?_; intro v' w4 ho4 hg4 hl4; have HT4 := hide (HE6.out v' w4 ho4 hg4 hl4); clear ho4 hg4 hl4))
      go_roundw
      case rel => exact ⟨q + 128, k + 1, _, hkN, by simp, HQ2.out, HT4.out⟩
      case measure => simp [intOf]; omega
    · have HE : Hid (k = 8 * N) := by have := HQ.out; have := HL.out; rw [Hid]; omega
      have hcc : decide (q < L) = false := by simp [hlt]
      have hcd : decide ((q : Int) < (L : Int)) = false := by simp; omega
      obtain ⟨la, lc, rfl⟩ := row_len HT.out.row
      have HM := hide (rmade_any la k lc wr)
      go_wp2_with fail
      refine HM.out.mono ?_
      rintro e2 w4 ⟨p, f, rfl, hp, hf, hbp, hbf, hb⟩
      have HFin : Hid (RD w4 p (.slice la k lc) Ls (.slice none 0 0) [] f (DS.of ((List.range (8 * N)).map (sec zs))) ∧ (∀ q, OwR p (.slice la k lc) Ls (.slice none 0 0) [] f q → w.heap.size ≤ q) ∧ Below w.heap.size w w4) := by
        have hsz := HT.out.be.size
        have hll : ((List.range (8 * N)).map (sec zs)).length = k := by rw [List.length_map, List.length_range, HE.out]
        refine ⟨⟨hbp, ?_, ?_, ?_, World.ownsRow_nil _ _ _ _, rfl, fun i x v g1 g2 => by simp at g2, hbf, ?_⟩, ?_, HT.out.be.trans (hb.mono hsz)⟩
        · show w4.ownsRow 0 22 1 (.slice la k lc) ((List.range (8 * N)).map (sec zs)).length Ls
          rw [hll]
          exact row_keep HT.out.row (fun q hq => hb.block q (HT.out.row.lt q hq).2)
        · show Ls.length = ((List.range (8 * N)).map (sec zs)).length
          rw [hll]
          have := HT.out.row.1
          omega
        · intro i ys v g1 g2
          have g1' : ((List.range (8 * N)).map (sec zs))[i]? = some ys := g1
          have hi8 : i < 8 * N := by
            have := (List.getElem?_eq_some_iff.1 g1').1
            rw [hll, HE.out] at this
            exact this
          rw [List.getElem?_map, List.getElem?_range hi8] at g1'
          cases g1'
          exact (HT.out.sl i v g2).1.stays (fun q hq hl => hb.block q hl) hb.size
        · refine ⟨fun s hs => ?_, fun x hx => by simp [DS.of] at hx, by show ((List.range (8 * N)).map (sec zs)).length ≤ _; rw [hll, HE.out]; have := h2'.out; omega, by simp [DS.of], Cd0, Cd0, Cd0, Cd0, by simp [DS.of], by simp [DS.of], by simp [DS.of]⟩
          have hs' : s ∈ (List.range (8 * N)).map (sec zs) := hs
          obtain ⟨i, hi', rfl⟩ := List.mem_map.1 hs'
          rw [List.mem_range] at hi'
          exact ⟨sec_len zs i (by have := HZ.out; have := HL.out; omega), sec_byts HBy.out i⟩
        · intro q hq
          rcases hq with rfl | hq | hq | rfl | ⟨v, hv, hq⟩ | ⟨v, hv, _⟩
          · omega
          · exact HT.out.vb q hq
          · simp [Value.ownBlock] at hq
          · omega
          · obtain ⟨i, hi'⟩ := List.getElem?_of_mem hv
            exact (HT.out.sl i v hi').2 q hq
          · simp at hv
      clear hp hf hbp hbf hb
      go_wp2
      go_ret2
      exact ⟨p, f, _, _, rfl, HFin.out⟩
end Go.Proofs.YtlmofgfkclfgeaaGreat
