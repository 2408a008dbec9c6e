/- Image and Pending, of the document's own disk. -/
import Derived.Test.YtkammfkknfflgaaQE
import Derived.Test.YtkammfkknfflgaaDY
namespace Go.Proofs.Ytkammfkknfflgaa
open Go.RowKit Go.Maps
set_option linter.unusedVariables false
variable {w w' : World} {p f : Nat} {vl vc : Value} {Ls Cs : List Value} {S S' : DS}

set_option maxHeartbeats 1600000 in
set_option maxRecDepth 1000000 in
theorem rimage_any (h : RD w p vl Ls vc Cs f S) : Calls Try.prog 51 #[.pointer (some ⟨p, 0, none⟩)] w fun e w' => ∃ v, e = .returned v ∧ Own w' v S.ls.flatten ∧ (∀ g, v.ownBlock = some g → w.heap.size ≤ g) ∧ Below w.heap.size w w' := by
  obtain ⟨N, HN, hNm⟩ : ∃ N, Hid (N = S.ls.length) ∧ N ≤ 131072 := ⟨_, rfl, h.good.most⟩
  have HG := hide h.good
  obtain ⟨ca, cc, hvl⟩ := row_len h.las
  rw [← HN.out] at hvl
  have HC0 : Hid (∀ W, Below w.heap.size w W → W.cell? ⟨p, 0, none⟩ = some (.slice ca N cc)) := fun W hb => by rw [← hvl]; exact (h.below hb).c 0 vl rfl
  have c0 := HC0.out w (Below.refl _ _)
  have HC : Hid (∀ W k, Below w.heap.size w W → k < N → ∃ b v, ca = some ⟨b, 0, none⟩ ∧ W.cell? ⟨b, k, none⟩ = some v ∧ Sl W v (S.ls.getD k [])) := by
    intro W k hb hk
    have hk' : k < S.ls.length := by rw [← HN.out]; exact hk
    have hW := h.below hb
    obtain ⟨b, cap', e1, -, -, -, HR, -⟩ := row_at hW.las (by omega)
    have hC : k < Ls.length := by rw [h.lle]; exact hk'
    have hx := List.getElem?_eq_getElem hk'
    have hv := List.getElem?_eq_getElem hC
    rw [hvl] at e1
    injection e1 with e1
    refine ⟨b, _, e1, HR.out _ _ hv, ?_⟩
    rw [List.getD_eq_getElem?_getD, hx]
    exact hW.lsl k _ _ hx hv
  have hz := zero63
  obtain ⟨i0, hi, hz0, hz1, hz2⟩ := info_parts Try.info5
  clear h hvl
  go_enter Try.func51, Try.ntmps51
  go_wp2
  clear c0
  go_loopw [4, 3] (fun i v wr' => ∃ k : Nat, k ≤ N ∧ i = .int .i64 (k : Int) ∧ Own wr' v (S.ls.take k).flatten ∧ (∀ g, v.ownBlock = some g → w.heap.size ≤ g) ∧ Below w.heap.size w wr') (fun i _ _ => N - (intOf i).toNat)
  case atStart => exact ⟨0, Nat.zero_le _, rfl, World.ownsRow_nil _ _ _ _, fun g hg => by simp [Value.ownBlock] at hg, Below.refl _ _⟩
  case round =>
    obtain ⟨k, hk, rfl, hown, hnew, hb⟩ := hrel
    have HO := hide hown
    have HNw := hide hnew
    have HB := hide hb
    clear hown hnew hb
    have c0 := HC0.out wr HB.out
    by_cases hlt : k < N
    · have hkl : k < S.ls.length := by rw [← HN.out]; exact hlt
      have hnb : decide (k < N) = true := by simp [hlt]
      obtain ⟨b, v, rfl, d0, hsl⟩ := HC.out wr k HB.out hlt
      have hsr := hsl.src
      rw [(HG.out.ls _ (getD_mem S.ls k [] hkl)).1] at hsr
      have HSr := hide hsr
      clear hsr hsl
      have HBd : Hid ((S.ls.take k).flatten.length + 128 ≤ 140737488355328) := by
        rw [Hid, flat_tlen S.ls (fun s hs => (HG.out.ls s hs).1) k (by omega)]; omega
      have HEnd : Hid (∀ v' w4, Own w4 v' ((S.ls.take k).flatten ++ S.ls.getD k []) → wr.grownBy w4 u3.ownBlock → (∀ g, v'.ownBlock = some g → u3.ownBlock = some g ∨ wr.heap.size ≤ g) → ∃ k' : Nat, k' ≤ N ∧ Value.int .i64 ((k : Int) + 1) = .int .i64 (k' : Int) ∧ Own w4 v' (S.ls.take k').flatten ∧ (∀ g, v'.ownBlock = some g → w.heap.size ≤ g) ∧ Below w.heap.size w w4) := fun v' w4 ho hg hl => by
        refine ⟨k + 1, by omega, by simp, by rw [flat_take S.ls k hkl]; exact ho, fun g hv => (hl g hv).elim (HNw.out g) (fun h => Nat.le_trans HB.out.size h), ?_⟩
        refine ⟨hg.os.trans HB.out.os, hg.tape.trans HB.out.tape, hg.output.trans HB.out.output, Nat.le_trans HB.out.size hg.size, fun j hj => ?_⟩
        rw [hg.block j (Nat.lt_of_lt_of_le hj HB.out.size) (fun e => by have := HNw.out j e.symm; omega)]
        exact HB.out.block j hj
      clear hkl
      go_wp2_with (at_builtin; refine wpList_append_src (by rfl) (.tmp 14) (.tmp 21) 63 63 (by rfl) i0 Try.underlying63 hi hz0 hz1 hz2 u3 _ (by rfl) HO.out _ 128 (S.ls.getD k []) (by rfl) HSr.out HBd.out ?_; intro v' w4 ho4 hg4 hl4; have HO4 := hide ho4; have HG4 := hide hg4; have HL4 := hide hl4; clear ho4 hg4 hl4)
      go_roundw
      case rel => exact HEnd.out v' w4 HO4.out HG4.out HL4.out
      case measure => simp [intOf]; omega
    · have e : k = N := by omega
      subst e
      have HE : Hid (S.ls.take k = S.ls) := by rw [Hid, HN.out]; exact List.take_length
      rw [HE.out] at HO
      go_wp2
      go_ret
      exact ⟨_, rfl, HO.out, HNw.out, HB.out⟩
set_option maxHeartbeats 1600000 in
set_option maxRecDepth 1000000 in
theorem rpending_any (h : RD w p vl Ls vc Cs f S) : Calls Try.prog 50 #[.pointer (some ⟨p, 0, none⟩)] w fun e w' => ∃ v, e = .returned v ∧ OwnI w' v (S.ws.map (·.1)) ∧ (∀ g, v.ownBlock = some g → w.heap.size ≤ g) ∧ Below w.heap.size w w' := by
  obtain ⟨M, HM, hMm⟩ : ∃ M, Hid (M = S.ws.length) ∧ M ≤ 40000000 := ⟨_, rfl, h.good.few⟩
  have HG := hide h.good
  obtain ⟨ca, cc, hvc⟩ := row_len h.cac
  rw [← HM.out] at hvc
  have HC0 : Hid (∀ W, Below w.heap.size w W → W.cell? ⟨p, 1, none⟩ = some (.slice ca M cc)) := fun W hb => by rw [← hvc]; exact (h.below hb).c 1 vc rfl
  have c0 := HC0.out w (Below.refl _ _)
  have HC : Hid (∀ W k, Below w.heap.size w W → k < M → ∃ b n, ca = some ⟨b, 0, none⟩ ∧ W.cell? ⟨b, k * 2, none⟩ = some (.int .i64 ((n : Nat) : Int)) ∧ (S.ws.map (·.1)).take (k + 1) = (S.ws.map (·.1)).take k ++ [n]) := by
    intro W k hb hk
    have hk' : k < S.ws.length := by rw [← HM.out]; exact hk
    have hW := h.below hb
    obtain ⟨b, cap', e1, -, -, -, HR, -⟩ := row_at hW.cac (by omega)
    have hC : k < Cs.length := by rw [h.cle]; exact hk'
    have hx := List.getElem?_eq_getElem hk'
    have hv := List.getElem?_eq_getElem hC
    rw [hvc] at e1
    injection e1 with e1
    refine ⟨b, S.ws[k].1, e1, HR.out _ _ (rwc_at S.ws Cs k _ _ hx hv).1, ?_⟩
    rw [List.take_add_one]
    simp [hx]
  have hz : ∀ w, (zeroValue 73).run Try.prog w = .ok (.slice none 0 0) w := (zero_of_info (P := Try.prog) (t := 73) (v := .slice none 0 0) (n := 1) (by kernel_rfl)).1
  obtain ⟨i0, hi, hz0, hz1, hz2⟩ := info_parts Try.info3
  clear h hvc
  go_enter Try.func50, Try.ntmps50
  go_wp2
  clear c0
  go_loopw [4, 3] (fun i v wr' => ∃ k : Nat, k ≤ M ∧ i = .int .i64 (k : Int) ∧ OwnI wr' v ((S.ws.map (·.1)).take k) ∧ (∀ g, v.ownBlock = some g → w.heap.size ≤ g) ∧ Below w.heap.size w wr') (fun i _ _ => M - (intOf i).toNat)
  case atStart => exact ⟨0, Nat.zero_le _, rfl, World.ownsRow_nil _ _ _ _, fun g hg => by simp [Value.ownBlock] at hg, Below.refl _ _⟩
  case round =>
    obtain ⟨k, hk, rfl, hown, hnew, hb⟩ := hrel
    have HO := hide hown
    have HNw := hide hnew
    have HB := hide hb
    clear hown hnew hb
    have c0 := HC0.out wr HB.out
    by_cases hlt : k < M
    · have hnb : decide (k < M) = true := by simp [hlt]
      obtain ⟨b, n, rfl, d0, htk⟩ := HC.out wr k HB.out hlt
      have HTk := hide htk
      clear htk
      have HTl : Hid (((S.ws.map (·.1)).take k).length = k) := by rw [Hid, List.length_take, List.length_map, ← HM.out]; omega
      have HO3 : Hid ((wr.alloc (.cells #[.int .i64 (n : Int)] 3)).ownsRow 0 3 1 u3 ((S.ws.map (·.1)).take k).length (((S.ws.map (·.1)).take k).map fun (n : Nat) => Value.int .i64 (n : Int))) := World.ownsRow.alloc HO.out _
      have HNc : Hid (∀ j u, [Value.int .i64 (n : Int)][j]? = some u → (wr.alloc (.cells #[.int .i64 (n : Int)] 3)).cell? ((⟨wr.heap.size, 0, none⟩ : Addr).add j) = some u) := fun j u hu => by
        rw [Addr.add_lit, cell_of_row _ _ (0 + j) _ 3 (0, 0) (heap_alloc_new wr _)]
        simpa using hu
      have HOne : Hid (∀ u ∈ [Value.int .i64 (n : Int)], u.oneCell' = true) := fun u hu => by simp only [List.mem_singleton] at hu; rw [hu]; rfl
      have HB1 : Hid (((S.ws.map (·.1)).take k).length + 1 ≤ maxLen) := by rw [Hid, HTl.out]; unfold maxLen; omega
      have HB2 : Hid ((((S.ws.map (·.1)).take k).length + 1) * 8 ≤ 140737488355328) := by rw [Hid, HTl.out]; omega
      have HEnd : Hid (∀ v' w4, w4.ownsRow 0 3 1 v' (((S.ws.map (·.1)).take k).length + 1) ((((S.ws.map (·.1)).take k).map fun (n : Nat) => Value.int .i64 (n : Int)) ++ [.int .i64 (n : Int)]) → (wr.alloc (.cells #[.int .i64 (n : Int)] 3)).grownBy w4 u3.ownBlock → (v'.ownBlock = u3.ownBlock ∨ v'.ownBlock = some (wr.alloc (.cells #[.int .i64 (n : Int)] 3)).heap.size) → ∃ k' : Nat, k' ≤ M ∧ Value.int .i64 ((k : Int) + 1) = .int .i64 (k' : Int) ∧ OwnI w4 v' ((S.ws.map (·.1)).take k') ∧ (∀ g, v'.ownBlock = some g → w.heap.size ≤ g) ∧ Below w.heap.size w w4) := fun v' w4 ho hg hl => by
        refine ⟨k + 1, by omega, by simp, ?_, ?_, ?_⟩
        · rw [HTk.out]
          unfold OwnI
          rw [List.length_append, List.length_singleton, List.map_append]
          exact ho
        · intro g hv
          rcases hl with e | e
          · exact HNw.out g (by rw [← e]; exact hv)
          · rw [e] at hv; cases hv; rw [size_al]; have := HB.out.size; omega
        · have hx := below_alloc wr (.cells #[.int .i64 (n : Int)] 3)
          refine ⟨hg.os.trans HB.out.os, hg.tape.trans HB.out.tape, hg.output.trans HB.out.output, Nat.le_trans HB.out.size (Nat.le_trans hx.size hg.size), fun j hj => ?_⟩
          rw [hg.block j (Nat.lt_of_lt_of_le hj (Nat.le_trans HB.out.size hx.size)) (fun e => by have := HNw.out j e.symm; omega), hx.block j (Nat.lt_of_lt_of_le hj HB.out.size)]
          exact HB.out.block j hj
      go_wp2_with (at_builtin; refine wpList_append_at (by rfl) (.tmp 14) (.tmp 23) 73 3 (by rfl) 0 i0 (.int .i64 0) 1 8 Try.underlying73 hi hz0 hz1 hz2 rfl (by omega) u3 _ _ (by rfl) HO3.out ⟨wr.heap.size, 0, none⟩ 1 1 [.int .i64 (n : Int)] (by rfl) rfl HNc.out HOne.out HB1.out HB2.out (Nat.zero_le _) ?_; intro v' w4 ho4 hg4 hl4; have HO4 := hide ho4; have HG4 := hide hg4; have HL4 := hide hl4; clear ho4 hg4 hl4)
      go_roundw
      case rel => exact HEnd.out v' w4 HO4.out HG4.out HL4.out
      case measure => simp [intOf]; omega
    · have e : k = M := by omega
      subst e
      have HE : Hid ((S.ws.map (·.1)).take k = S.ws.map (·.1)) := by rw [Hid, List.take_of_length_le]; rw [List.length_map, ← HM.out]; exact Nat.le_refl _
      rw [HE.out] at HO
      go_wp2
      go_ret
      exact ⟨_, rfl, HO.out, HNw.out, HB.out⟩
end Go.Proofs.Ytkammfkknfflgaa
