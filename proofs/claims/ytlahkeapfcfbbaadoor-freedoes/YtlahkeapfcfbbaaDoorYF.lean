/- The document's own list: Take. -/
import Derived.Test.YtlahkeapfcfbbaaDoorYE
namespace Go.Proofs.YtlahkeapfcfbbaaDoor
open Go.RowKit Go.Maps
set_option linter.unusedVariables false
variable {w w' : World} {r : Nat} {v : Value} {L : List Pg}
theorem fst1_cons (x : Pg) (xs : List Pg) (G : Int) : fst1 (x :: xs) G = if x.2 ≤ G then 0 else fst1 xs G + 1 := by
  unfold fst1
  rw [List.findIdx_cons]
  by_cases hx : x.2 ≤ G <;> simp [hx]
theorem fst1_le (L : List Pg) (G : Int) : fst1 L G ≤ L.length := List.findIdx_le_length
theorem fst1_lt {L : List Pg} {G : Int} {i : Nat} (h : i < fst1 L G) : ¬ (pat L i).2 ≤ G := by
  induction L generalizing i with
  | nil => simp [fst1] at h
  | cons x xs ih =>
    rw [fst1_cons] at h
    split at h
    · omega
    · cases i with
      | zero => rw [pat_zero]; assumption
      | succ i => rw [pat_cons]; exact ih (by omega)
theorem fst1_at {L : List Pg} {G : Int} (h : fst1 L G < L.length) : (pat L (fst1 L G)).2 ≤ G := by
  induction L with
  | nil => simp [fst1] at h
  | cons x xs ih =>
    rw [fst1_cons] at h ⊢
    split at h
    · rename_i hx
      rw [if_pos hx, pat_zero]
      exact hx
    · rename_i hx
      rw [if_neg hx, pat_cons]
      exact ih (by simp at h; omega)
theorem takep_flat {L : List Pg} {k : Nat} : pflat (takep L k) = pflat (L.take k) ++ pflat (L.drop (k + 1)) := by
  unfold takep
  rw [pflat_app]
/-- behind an append to a new row, nothing elder has turned. -/
theorem one_below {w w1 : World} (g2 : w.grownBy w1 (Value.slice none 0 0).ownBlock) : Below w.heap.size w w1 := ⟨g2.os, g2.tape, g2.output, g2.size, fun k hk => g2.block k hk (fun e => by cases e)⟩
set_option maxHeartbeats 1600000 in
set_option maxRecDepth 1000000 in
theorem rtake_walk (h : Rl w r v L) (hf : L.length ≤ 900000) (G : Int) (k : Nat) (hk : fst1 L G = k) :
    Calls Tryd.prog 9 #[.pointer (some ⟨r, 0, none⟩), .int .u64 G] w fun e w' => (k < L.length ∧ e = .returned (.tuple #[.int .u32 (pat L k).1, .bool true]) ∧ ∃ v2, Rl w' r v2 (takep L k) ∧ Mv (fun j => j = r) w w' ∧ ∀ j, v2.ownBlock = some j → w.heap.size ≤ j) ∨ (¬ k < L.length ∧ e = .returned (.tuple #[.int .u32 0, .bool false]) ∧ w' = w) := by
  obtain ⟨i0, hi, hz0, hz1, hz2⟩ := info_parts infoRp
  obtain ⟨a, c, rfl⟩ := own_slice2 h.row
  obtain ⟨a', c', e', h1, h2, h3, -, h4⟩ := h.shape
  cases e'
  have c0 := h.c
  have HR := hide h
  have HKl : Hid (∀ i, i < k → ¬ (pat L i).2 ≤ G) := fun i hi => fst1_lt (by rw [hk]; exact hi)
  have HKa : Hid (k < L.length → (pat L k).2 ≤ G) := fun hl => by have := fst1_at (L := L) (G := G); rw [hk] at this; exact this hl
  have hkl : k ≤ L.length := by rw [← hk]; exact fst1_le L G
  obtain ⟨N, hN⟩ : ∃ N, L.length = N := ⟨_, rfl⟩
  simp only [hN] at h1 h3 h4 c0 hf hkl
  have HN := hide hN
  have H4 := hide h4
  have H3 := hide h3
  clear h hN h4 h3 hk
  go_enter Tryd.func9, Tryd.ntmps9
  go_wp2
  go_loopw [6] (fun x wr => ∃ i : Nat, i ≤ k ∧ x = .int .i64 (i : Int) ∧ wr = w) (fun x _ => k - (intOf x).toNat)
  case atStart => exact ⟨0, Nat.zero_le _, rfl, rfl⟩
  case round =>
    obtain ⟨i, hik, rfl, rfl⟩ := hrel
    by_cases hlt : i < k
    · have hiN : i < N := by omega
      obtain ⟨g, rfl, e1, e2⟩ := H4.out i hiN
      have hlp := HKl.out i hlt
      have hil : (i : Int) < (N : Int) := by omega
      clear e1
      generalize pat L i = x at *
      go_wp2
      go_roundw
      case rel => exact ⟨i + 1, by omega, by go_num, by trivial⟩
      case measure => simp [intOf]; omega
    · have hie : k = i := by omega
      subst hie
      by_cases hkN : k < N
      · obtain ⟨g, rfl, e1, e2⟩ := H4.out k hkN
        have hlp := HKa.out (by rw [HN.out]; exact hkN)
        have hil : (k : Int) < (N : Int) := by omega
        have hkc : k < c := by omega
        obtain ⟨x, hx⟩ : ∃ x, x = pat L k := ⟨_, rfl⟩
        rw [← hx] at e1 e2 hlp
        have HXp := hide hx
        clear hx
        have HSz1 : Hid ((0 + k) * i0.bytes ≤ 140737488355328) := by rw [Hid, hz2]; omega
        have HSz2 : Hid (0 + k ≤ 140737488355328) := by rw [Hid]; omega
        have HSz5 : Hid ((k + (N - (k + 1))) * i0.bytes ≤ 140737488355328) := by rw [Hid, hz2]; omega
        have HSz6 : Hid (k + (N - (k + 1)) ≤ 140737488355328) := by rw [Hid]; omega
        have HS1 : Hid (Src Tryd.prog 2 27 (.slice (some ⟨g, 0, none⟩) k c) k (pflat (L.take k)) wr) := by
          have := src_part HR.out 0 k (Nat.zero_le _) (by rw [HN.out]; exact hkl) (some ⟨g, 0, none⟩) c (fun _ => ⟨g, rfl, by simp⟩) (fun e => by cases e) uRp
          exact hide (by simpa using this)
        by_cases hck : c = k + 1
        · have hNk : N = k + 1 := by omega
          subst hNk
          subst hck
          have HSz7 : Hid ((k + 0) * i0.bytes ≤ 140737488355328) := by rw [Hid, hz2]; omega
          have HSz8 : Hid (k + 0 ≤ 140737488355328) := by rw [Hid]; omega
          have M1 := hide trivial
          go_wp2_with (first | (at_builtin; have hmk := M1; clear hmk M1; refine wpList_append_two (by rfl) _ _ 27 27 89 (by rfl) i0 _ uRp hi hz0 hz1 rfl (.slice none 0 0) 0 [] (by rfl) (World.ownsRow_nil _ _ _ _) _ k _ (by rfl) HS1.out HSz1.out HSz2.out ?_; intro v1 w1 g1 g2 g3 g4; simp only [Nat.zero_add, List.nil_append] at g1; obtain ⟨xa, xc, rfl⟩ := own_slice2 g1; have G1 := hide g1; have G2 := hide g2; have G3 := hide g3; have hb2 := one_below g2; have HB2 := hide hb2; have hR2 := HR.out.below hb2; have c2 := hR2.c; rw [HN.out] at c2; have hs3 := src_part hR2 (k + 1) L.length (by rw [HN.out]; omega) (Nat.le_refl _) (some ⟨g, 0, none⟩) (0) (fun hl => by rw [HN.out] at hl; omega) (fun e => by cases e) uRp; rw [HN.out, List.take_of_length_le (by rw [HN.out]; exact Nat.le_refl _)] at hs3; simp only [Nat.sub_self] at hs3; have HS3 := hide hs3; clear g1 g2 g3 g4 hb2 hR2 hs3 c0; have M2 := hide trivial) | (at_builtin; have hmk := M2; clear hmk M2; refine wpList_append_two (by rfl) _ _ 27 27 89 (by rfl) i0 _ uRp hi hz0 hz1 rfl (.slice xa k xc) k _ (by rfl) G1.out _ 0 _ (by rfl) HS3.out HSz7.out HSz8.out ?_; intro v3 w3 g1 g2 g3 g4; obtain ⟨za, zc, rfl⟩ := own_slice2 g1; have J1 := hide g1; have J2 := hide g2; have J3 := hide g3; have hUl : ∀ j, (Value.slice xa k xc).ownBlock = some j → wr.heap.size ≤ j := fun j hj => by { rcases G3.out j hj with h | h; { cases h }; { exact h } }; have HUl := hide hUl; have hE := rl_end HR.out.blk HB2.out hUl (by rw [← takep_flat] at g1; exact g1) (by have h9 := (takep_perm (L := L) (i := k) (by rw [HN.out]; exact hkN)).length_eq; rw [List.length_cons, HN.out] at h9; omega) g2 g3; have HE := hide hE; have hx3 : w3.heap[r]? = some (.cells #[.slice (some ⟨g, 0, none⟩) L.length (k + 1)] 29 (0, 0)) := (g2.block r (Nat.lt_of_lt_of_le (lt_of_block HR.out.blk) HB2.out.size) (fun e => by { have := hUl r e.symm; have := lt_of_block HR.out.blk; omega })).trans ((HB2.out.block r (lt_of_block HR.out.blk)).trans HR.out.blk); have c3 := cell_of_one hx3; have f3 : w3.frozen? ⟨r, 0, none⟩ = false := by { simp [World.frozen?, hx3] }; clear g1 g2 g3 g4 c2 hUl hE hx3))
          go_ret2
          exact .inl ⟨by rw [HN.out]; exact hkN, by rw [← HXp.out]; rfl, _, HE.out⟩
        · have hck2 : ¬ k + 1 = c := fun e => hck e.symm
          have M1 := hide trivial
          go_wp2_with (first | (at_builtin; have hmk := M1; clear hmk M1; refine wpList_append_two (by rfl) _ _ 27 27 89 (by rfl) i0 _ uRp hi hz0 hz1 rfl (.slice none 0 0) 0 [] (by rfl) (World.ownsRow_nil _ _ _ _) _ k _ (by rfl) HS1.out HSz1.out HSz2.out ?_; intro v1 w1 g1 g2 g3 g4; simp only [Nat.zero_add, List.nil_append] at g1; obtain ⟨xa, xc, rfl⟩ := own_slice2 g1; have G1 := hide g1; have G2 := hide g2; have G3 := hide g3; have hb2 := one_below g2; have HB2 := hide hb2; have hR2 := HR.out.below hb2; have c2 := hR2.c; rw [HN.out] at c2; have hs3 := src_part hR2 (k + 1) L.length (by rw [HN.out]; omega) (Nat.le_refl _) (some ⟨g, (k + 1) * 2, none⟩) (c - (k + 1)) (fun _ => ⟨g, rfl, rfl⟩) (fun e => by cases e) uRp; rw [HN.out, List.take_of_length_le (by rw [HN.out]; exact Nat.le_refl _)] at hs3; have HS3 := hide hs3; clear g1 g2 g3 g4 hb2 hR2 hs3 c0; have M2 := hide trivial) | (at_builtin; have hmk := M2; clear hmk M2; refine wpList_append_two (by rfl) _ _ 27 27 89 (by rfl) i0 _ uRp hi hz0 hz1 rfl (.slice xa k xc) k _ (by rfl) G1.out _ (N - (k + 1)) _ (by rfl) HS3.out HSz5.out HSz6.out ?_; intro v3 w3 g1 g2 g3 g4; obtain ⟨za, zc, rfl⟩ := own_slice2 g1; have J1 := hide g1; have J2 := hide g2; have J3 := hide g3; have hUl : ∀ j, (Value.slice xa k xc).ownBlock = some j → wr.heap.size ≤ j := fun j hj => by { rcases G3.out j hj with h | h; { cases h }; { exact h } }; have HUl := hide hUl; have hE := rl_end HR.out.blk HB2.out hUl (by rw [← takep_flat] at g1; exact g1) (by have h9 := (takep_perm (L := L) (i := k) (by rw [HN.out]; exact hkN)).length_eq; rw [List.length_cons, HN.out] at h9; omega) g2 g3; have HE := hide hE; have hx3 : w3.heap[r]? = some (.cells #[.slice (some ⟨g, 0, none⟩) L.length c] 29 (0, 0)) := (g2.block r (Nat.lt_of_lt_of_le (lt_of_block HR.out.blk) HB2.out.size) (fun e => by { have := hUl r e.symm; have := lt_of_block HR.out.blk; omega })).trans ((HB2.out.block r (lt_of_block HR.out.blk)).trans HR.out.blk); have c3 := cell_of_one hx3; have f3 : w3.frozen? ⟨r, 0, none⟩ = false := by { simp [World.frozen?, hx3] }; clear g1 g2 g3 g4 c2 hUl hE hx3))
          go_ret2
          exact .inl ⟨by rw [HN.out]; exact hkN, by rw [← HXp.out]; rfl, _, HE.out⟩
      · have hil : ¬ (k : Int) < (N : Int) := by omega
        go_wp2
        go_ret2
        exact .inr ⟨by rw [HN.out]; omega, rfl, rfl⟩
end Go.Proofs.YtlahkeapfcfbbaaDoor
