/- A key is added to a set; a span. -/
import Derived.Test.YtpoanlbjhhlagaaAD
namespace Go.Proofs.Ytpoanlbjhhlagaa
open Go.RowKit Go.Maps
set_option linter.unusedVariables false

theorem ordI_snoc (key : List Int) (c : Int) : ordI key (key ++ [c]) < 0 := by
  have := ordI_pre key [] [c]
  rw [List.append_nil] at this
  rw [this]; simp [ordI]
/-- a nought behind bytes of the call's own. -/
theorem zero_app {w2 : World} {v2 : Value} {key : List Int} (h : Own w2 v2 key) (hl : key.length ≤ 40000) : ∃ v6 w6, (Builtin.append_ #[33, 33] 33 #[v2, .slice (some ⟨w2.heap.size, 0, none⟩) 1 1]).run Try.prog (w2.alloc (.cells #[.int .u8 0] 5)) = .ok v6 w6 ∧ Own w6 v6 (key ++ [0]) ∧ (w2.alloc (.cells #[.int .u8 0] 5)).grownBy w6 v2.ownBlock ∧ ∀ k, v6.ownBlock = some k → v2.ownBlock = some k ∨ w2.heap.size ≤ k := by
  obtain ⟨i0, hi, hz0, hz1, hz2⟩ := info_parts Try.info5
  have hb := below_alloc w2 (.cells #[.int .u8 0] 5)
  have hr : Row (w2.alloc (.cells #[.int .u8 0] 5)) (some ⟨w2.heap.size, 0, none⟩) [0] := .inr ⟨w2.heap.size, 0, rfl, by simp, fun j hj => by
    have : j = 0 := by simpa using hj
    subst this
    have e := heap_alloc_new w2 (.cells #[.int .u8 0] 5)
    simp only [World.cell?, e]
    rfl⟩
  obtain ⟨v6, w6, h1, h2, h3, h4⟩ := run_append_src (P := Try.prog) (w2.alloc (.cells #[.int .u8 0] 5)) 33 33 33 i0 Try.underlying33 hi hz0 hz1 hz2 v2 key (h.of_block fun k hk => hb.block k (h.lt hk)) (.slice (some ⟨w2.heap.size, 0, none⟩) 1 1) 1 [0] (src_row _ _ 1 1 [0] rfl (by intro e; cases e) hr) (by omega)
  exact ⟨v6, w6, h1, h2, h3, fun k hk => (h4 k hk).imp id fun h => by simp at h; omega⟩
set_option maxHeartbeats 3200000 in
set_option maxRecDepth 1000000 in
theorem key_any {w : World} {p B : Nat} {L : List Ee} {O E : Nat → Prop} (h : Sx w p B L O E) (hn : L.length ≤ 900) (ka : Option Addr) (kn kc : Nat) (key : List Int) (hk : Inn w ka kn kc key) (hkl : kn ≤ 30000) :
    Calls Try.prog 24 #[.pointer (some ⟨p, 0, none⟩), .slice ka kn kc] w fun e w' => e = .returned (.tuple #[]) ∧ ∃ O' E', Sx w' p B (L ++ [⟨key, key ++ [0], false⟩]) O' E' ∧ Go1 O w O' w' ∧ ∀ k, E' k → E k ∨ w.heap.size ≤ k := by
  have hlen := hk.len
  subst hlen
  have H := hide h
  have HK := hide hk
  have HC1 := hide (clone_any ka _ kc key w hk (by omega))
  clear h hk
  go_enter Try.func24, Try.ntmps24
  go_wp2_with fail
  refine HC1.out.mono ?_
  rintro e w1 ⟨v1, rfl, hm1⟩
  obtain ⟨a1, c1, rfl, -⟩ := hm1.1.shape
  have HM1 := hide hm1
  have HC2 := hide (clone_any ka _ kc key w1 (HK.out.below hm1.2.2) (by omega))
  clear hm1 HC1
  go_wp2_with fail
  refine HC2.out.mono ?_
  rintro e w2 ⟨v2, rfl, hm2⟩
  obtain ⟨a2, c2, rfl, -⟩ := hm2.1.shape
  obtain ⟨v6, w6, run6, hown6, hg6, hl6⟩ := zero_app hm2.1 (by omega)
  obtain ⟨a6, c6, rfl, -⟩ := hown6.shape
  have hb3 := below_alloc w2 (.cells #[.int .u8 0] 5)
  have b1 := HM1.out.2.2
  have b2 := b1.trans (hm2.2.2.mono b1.size)
  have b3 := b2.trans (hb3.mono b2.size)
  have b6 : Below w.heap.size w w6 := b3.grown hg6 b3.size fun k hk => Nat.le_trans b1.size (hm2.2.1 k hk)
  have hp := H.out.olt H.out.op
  have hBw : B ≤ w.heap.size := by omega
  have hv1 : Own w6 (.slice a1 key.length c1) key := HM1.out.1.of_block fun k hk => by
    have h1 := HM1.out.1.lt hk
    have h2 := hm2.2.2.size
    rw [hg6.block k (by simp; omega) (fun e => by have := hm2.2.1 k e.symm; omega), hb3.block k (by omega), hm2.2.2.block k h1]
  have HA := hide (add_any (H.out.below b6) hn ⟨⟨key, key ++ [0], false⟩, a1, c1, a6, c6⟩ ⟨hv1, hown6, fun k hk => Nat.le_trans hBw (HM1.out.2.1 k hk), fun k hk => (hl6 k hk).elim (fun e => Nat.le_trans hBw (Nat.le_trans b1.size (hm2.2.1 k e))) fun h => Nat.le_trans hBw (Nat.le_trans b2.size h), HK.out.byts, HK.out.byts.append (by intro c hc; simp at hc; omega)⟩ (.inr ⟨rfl, ordI_snoc key 0⟩) ⟨by show key.length ≤ 40000; omega, by show (key ++ [0]).length ≤ 40000; simp; omega⟩)
  have HE : Hid (∀ k, (⟨⟨key, key ++ [0], false⟩, a1, c1, a6, c6⟩ : En).has k → w.heap.size ≤ k) := hide fun k hk => by
    rcases hk with hk | hk
    · exact HM1.out.2.1 k hk
    · rcases hl6 k hk with e | h
      · exact Nat.le_trans b1.size (hm2.2.1 k e)
      · exact Nat.le_trans b2.size h
  simp only [List.length_append, List.length_singleton] at HA
  have RUN6 := hide run6
  have HB6 := hide b6
  clear hm2 run6 hown6 hg6 hl6 hb3 b1 b2 b3 b6 hp hv1 HC2
  go_wp2_with (at_builtin; refine wpList_run_append (by rfl) (.tmp 8) (.tmp 9) 33 (by rfl) (by rfl) (by rfl) RUN6.out ?_)
  refine HA.out.mono ?_
  rintro e w7 ⟨rfl, O', E', g1, g2, g3⟩
  go_wp2
  go_end0
  exact ⟨rfl, O', E', g1, (Go1.of_below HB6.out).trans g2, fun k hk => (g3 k hk).imp id (HE.out k)⟩
end Go.Proofs.Ytpoanlbjhhlagaa
