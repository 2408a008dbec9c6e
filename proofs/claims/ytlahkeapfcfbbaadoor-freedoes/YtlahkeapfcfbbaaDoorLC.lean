/- A list: the reach has fallen: the ready pages are laid anew. -/
import Derived.Test.YtlahkeapfcfbbaaDoorLB
namespace Go.Proofs.YtlahkeapfcfbbaaDoor
open Go.RowKit Go.Maps
set_option linter.unusedVariables false
variable {w w' : World} {l pw pr : Nat} {vw vr vw' vr' : Value} {ms : List Nat} {R : Int} {A B A' B' : List Pg}
/-- the row of the ready pages is let go. -/
theorem Lm.emptied (h : Lm w l pw pr vw vr ms R A B) : Lm (w.setCell ⟨pr, 0, none⟩ (.slice none 0 0)) l pw pr vw (.slice none 0 0) ms R [] B ∧ Go1 (OwL l pw pr vw vr) w (OwL l pw pr vw (.slice none 0 0)) (w.setCell ⟨pr, 0, none⟩ (.slice none 0 0)) := by
  refine h.ready (vr' := .slice none 0 0) (A' := []) ⟨?_, World.ownsRow_nil _ _ _ _, by simp [Value.ownBlock]⟩ (heap_nil _) ⟨(Mv.refl _ w).setB (.inl rfl) 0 _, fun k hk => hk.elim (fun e => .inl (.inl e)) (fun e => by simp [Value.ownBlock] at e)⟩
  rw [heap_setCell_same w pr 0 _ _ _ h.rd.blk]; rfl
set_option maxHeartbeats 1600000 in
set_option maxRecDepth 1000000 in
theorem layAgain_any (h : Lm w l pw pr vw vr ms R A B) (hf : A.length + B.length + 1 ≤ 1000000) :
    Calls Tryd.prog 64 #[.pointer (some ⟨l, 0, none⟩)] w fun e w' => e = .returned (.tuple #[]) ∧ ∃ vw' vr' A' B', Lm w' l pw pr vw' vr' ms R A' B' ∧ (A' ++ B').Perm (A ++ B) ∧ (∀ x ∈ A', x.2 ≤ R) ∧ (∀ x ∈ B', x ∈ B ∨ R < x.2) ∧ Go1 (OwL l pw pr vw vr) w (OwL l pw pr vw' vr') w' := by
  obtain ⟨-, -, c2, c3⟩ := h.c
  obtain ⟨a, c, rfl, hc1, hc2, hg⟩ := h.rd.shape
  have d0 := h.rd.c0
  have z0 := h.rd.fz 0
  have HE := hide h.emptied
  have HG := hide hg
  have HL := hide h
  have hn2 := h.n2
  clear h hg
  go_enter Tryd.func64, Tryd.ntmps64
  go_wp2
  go_loopw [20] (fun i wr => ∃ (k : Nat) (vw' vr' : Value) (A' B' : List Pg), k ≤ A.length ∧ i = .int .i64 k ∧ Lm wr l pw pr vw' vr' ms R A' B' ∧ (A' ++ B').Perm (A.take k ++ B) ∧ (∀ x ∈ A', x.2 ≤ R) ∧ (∀ x ∈ B', x ∈ B ∨ R < x.2) ∧ Go1 (OwL l pw pr vw (.slice none 0 0)) (w.setCell ⟨pr, 0, none⟩ (.slice none 0 0)) (OwL l pw pr vw' vr') wr) (fun i _ => A.length - (intOf i).toNat)
  case atStart => exact ⟨0, vw, _, [], B, Nat.zero_le _, rfl, HE.out.1, by simp, by simp, fun x hx => .inl hx, Go1.refl _ _⟩
  case round =>
    obtain ⟨k, vw', vr', A', B', hk, rfl, hl, hpe, ha, hb, hgo⟩ := hrel
    have HLr := hide hl
    have HPe := hide hpe
    have HA := hide ha
    have HB := hide hb
    have HGo := hide hgo
    have hlen : A'.length + B'.length = k + B.length := by
      have := hpe.length_eq
      simp only [List.length_append, List.length_take] at this
      omega
    clear hl hpe ha hb hgo
    by_cases hlt : k < A.length
    · obtain ⟨g, ea, ho, hne, hfz, hcell⟩ := HG.out (by omega)
      obtain ⟨e1, e2⟩ := hcell k hlt
      have hgl : g < w.heap.size := HL.out.rd.vlt ho
      have hgw : wr.heap[g]? = w.heap[g]? := by
        rw [HGo.out.mv.block g (by simpa [World.setCell] using hgl) (fun hx => ?_), set_other _ _ _ _ _ hne]
        rcases hx with hx | (hx | hx) | (hx | hx)
        · exact HL.out.r1 (by rw [← hx]; exact ho)
        · exact HL.out.r2 (by rw [← hx]; exact ho)
        · exact HL.out.wr g hx ho
        · exact hne hx
        · simp [Value.ownBlock] at hx
      have e1' : wr.cell? ⟨g, k * 2, none⟩ = some (.int .u32 (pat A k).1) := (World.cell?_of_block (w := w) (a := ⟨g, k * 2, none⟩) hgw).trans e1
      have e2' : wr.cell? ⟨g, k * 2 + 1, none⟩ = some (.int .u64 (pat A k).2) := (World.cell?_of_block (w := w) (a := ⟨g, k * 2 + 1, none⟩) hgw).trans e2
      have hgl' : g < wr.heap.size := Nat.lt_of_lt_of_le (by simpa [World.setCell] using hgl) HGo.out.mv.size
      subst ea
      have HC := hide (fun W (hW : Below wr.heap.size wr W) => lay_any (HLr.out.below hW) (pat A k) (by omega))
      clear hcell hfz ho e1 e2 hgw
      unfold pgv at HC
      have ht : A.take (k + 1) = A.take k ++ [pat A k] := by rw [List.take_succ_eq_append_getElem hlt, pat_lt hlt]
      have HT := hide ht
      clear ht
      go_wp2_with (go_at_call 27; refine (HC.out _ (below_alloc wr _)).mono ?_; rintro e w1 ⟨rfl, vw1, vr1, A1, B1, h1, h2, h3, h4⟩; have H1 := hide h1; have H2 := hide h2; have H3 := hide h3; have H4 := hide h4; clear h1 h2 h3 h4)
      go_roundw
      case rel =>
        refine ⟨k + 1, vw1, vr1, A1, B1, by omega, by go_num, H1.out, ?_, ?_, ?_, HGo.out.trans ((Go1.of_below (below_alloc wr _)).trans H4.out)⟩
        · rw [HT.out]
          refine (H2.out.append H3.out).trans ?_
          refine List.Perm.trans ?_ ((List.Perm.cons (pat A k) HPe.out).trans ?_)
          · split
            · exact List.Perm.refl _
            · exact List.perm_middle
          · simp only [List.append_assoc, List.singleton_append]
            exact List.perm_middle.symm
        · intro x hx
          have := H2.out.mem_iff.1 hx
          split at this
          · rename_i hle
            rcases List.mem_cons.1 this with rfl | hm
            · exact hle
            · exact HA.out x hm
          · exact HA.out x this
        · intro x hx
          have := H3.out.mem_iff.1 hx
          split at this
          · exact HB.out x this
          · rename_i hle
            rcases List.mem_cons.1 this with rfl | hm
            · exact .inr (by omega)
            · exact HB.out x hm
      case measure => simp [intOf]; omega
    · obtain rfl : k = A.length := by omega
      go_wp2
      go_end0
      refine ⟨rfl, vw', vr', A', B', HLr.out, ?_, HA.out, HB.out, HE.out.2.trans HGo.out⟩
      have := HPe.out
      rwa [List.take_length] at this
end Go.Proofs.YtlahkeapfcfbbaaDoor
