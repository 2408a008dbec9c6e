/- The document's own list: Add. -/
import Derived.Test.YtlahkeapfcfbbaaDoorYD
namespace Go.Proofs.YtlahkeapfcfbbaaDoor
open Go.RowKit Go.Maps
set_option linter.unusedVariables false
variable {w w' : World} {r : Nat} {v : Value} {L : List Pg}
set_option maxHeartbeats 1600000 in
set_option maxRecDepth 1000000 in
theorem radd_off (n : Nat) (hn : n ≤ 4294967295) (G : Int) (ho : ¬ (2 ≤ n ∧ n ≤ 16383)) : Calls Tryd.prog 7 #[.pointer (some ⟨r, 0, none⟩), .int .u32 (n : Int), .int .u64 G] w fun e w' => e = .returned (.int .u16 110) ∧ w' = w := by
  by_cases h2 : n < 2
  · have d1 : (n : Int) < 2 := by omega
    go_enter Tryd.func7, Tryd.ntmps7
    go_wp2
    go_ret
    exact ⟨rfl, rfl⟩
  · have d1 : ¬ (n : Int) < 2 := by omega
    have d2 : (16383 : Int) < (n : Int) := by omega
    go_enter Tryd.func7, Tryd.ntmps7
    go_wp2
    go_ret
    exact ⟨rfl, rfl⟩
/-- the document's list with its blocks. -/
def RlAt (w : World) (r : Nat) (L : List Pg) (O : Nat → Prop) : Prop := ∃ v, Rl w r v L ∧ ∀ k, O k ↔ k = r ∨ v.ownBlock = some k
theorem row_keep {V V' : World} {t s : Nat} {v : Value} {n : Nat} {xs : List Value} (h : V.ownsRow 0 t s v n xs) (hb : ∀ k, v.ownBlock = some k → V'.heap[k]? = V.heap[k]?) : V'.ownsRow 0 t s v n xs := by
  refine ⟨h.1, ?_⟩
  rcases h.2 with h2 | ⟨g, cap, cur, rfl, hg, hh, rr⟩
  · exact .inl h2
  · exact .inr ⟨g, cap, cur, rfl, hg, by rw [hb g rfl]; exact hh, rr⟩
/-- a page in a block of its own, as what is appended. -/
theorem src_box (W : World) (n G : Int) : Src Tryd.prog 2 27 (.slice (some ⟨W.heap.size, 0, none⟩) 1 1) 1 (pgc (n, G)) (W.alloc (.cells #[.int .u32 n, .int .u64 G] 89)) := by
  have hx := heap_alloc_new W (.cells #[.int .u32 n, .int .u64 G] 89)
  refine Src.ofSlice _ uRp _ _ _ _ (by rfl) (fun j u hu => ?_) (fun u hu => ?_)
  · rw [Addr.add_lit, Nat.zero_add]
    simp only [pgc] at hu
    match j, hu with
    | 0, hu => simp at hu; rw [← hu]; simp only [World.cell?]; rw [hx]; rfl
    | 1, hu => simp at hu; rw [← hu]; simp only [World.cell?]; rw [hx]; rfl
    | k + 2, hu => simp at hu
  · simp only [pgc, List.mem_cons, List.not_mem_nil, or_false] at hu
    rcases hu with rfl | rfl <;> rfl
/-- behind two appends to a new row, nothing elder has turned. -/
theorem two_below {w w1 w2 : World} {x : Value} {o : Obj} (g2 : w.grownBy w1 (Value.slice none 0 0).ownBlock) (g3 : ∀ k, x.ownBlock = some k → (Value.slice none 0 0).ownBlock = some k ∨ w.heap.size ≤ k) (k2 : (w1.alloc o).grownBy w2 x.ownBlock) : Below w.heap.size w w2 := by
  have h1 : Below w.heap.size w w1 := ⟨g2.os, g2.tape, g2.output, g2.size, fun k hk => g2.block k hk (fun e => by cases e)⟩
  have h2 := h1.alloc h1.size o
  exact ⟨k2.os.trans h2.os, k2.tape.trans h2.tape, k2.output.trans h2.output, Nat.le_trans h2.size k2.size, fun k hk => (k2.block k (Nat.lt_of_lt_of_le hk h2.size) (fun e => by
    rcases g3 k e.symm with h | h
    · cases h
    · omega)).trans (h2.block k hk)⟩
theorem putp_flat {L : List Pg} {n G : Int} {k : Nat} (hk : ahd L n = k) : pflat (putp L n G) = (pflat (L.take k) ++ pgc (n, G)) ++ pflat (L.drop k) := by
  unfold putp
  rw [hk, pflat_app, List.append_assoc, show (n, G) :: L.drop k = [(n, G)] ++ L.drop k from rfl, pflat_app, pflat_one]
/-- the end of Add and Take: the list has a new row. -/
theorem rl_end {w w2 w3 : World} {r N : Nat} {L : List Pg} {v v2 u : Value} (hR : w.heap[r]? = some (.cells #[v] 29 (0, 0))) (hb2 : Below w.heap.size w w2) (hu : ∀ k, u.ownBlock = some k → w.heap.size ≤ k) (g1 : w3.ownsRow 0 89 2 v2 N (pflat L)) (hN : L.length = N) (g2 : w2.grownBy w3 u.ownBlock) (g3 : ∀ k, v2.ownBlock = some k → u.ownBlock = some k ∨ w2.heap.size ≤ k) :
    Rl (w3.setCell ⟨r, 0, none⟩ v2) r v2 L ∧ Mv (fun j => j = r) w (w3.setCell ⟨r, 0, none⟩ v2) ∧ ∀ j, v2.ownBlock = some j → w.heap.size ≤ j := by
  have hr := lt_of_block hR
  have hlow : ∀ j, v2.ownBlock = some j → w.heap.size ≤ j := fun j hj => by
    rcases g3 j hj with h | h
    · exact hu j h
    · exact Nat.le_trans hb2.size h
  have h3 : Below w.heap.size w w3 := ⟨g2.os.trans hb2.os, g2.tape.trans hb2.tape, g2.output.trans hb2.output, Nat.le_trans hb2.size g2.size, fun k hk => (g2.block k (Nat.lt_of_lt_of_le hk hb2.size) (fun e => by have := hu k e.symm; omega)).trans (hb2.block k hk)⟩
  refine ⟨⟨set_cell1 ((h3.block r hr).trans hR), by rw [hN]; exact row_keep g1 (fun k hk => Below.heap_setCell _ _ _ _ (fun e => by have h9 := hlow k hk; have e9 : k = r := e; omega))⟩, ⟨h3.os, h3.tape, h3.output, by simp [World.setCell]; exact h3.size, fun k hk hne => (Below.heap_setCell _ _ _ _ hne).trans (h3.block k hk)⟩, hlow⟩
set_option maxHeartbeats 1600000 in
set_option maxRecDepth 1000000 in
theorem radd_walk (h : Rl w r v L) (hf : L.length ≤ 900000) (n : Nat) (hn : 2 ≤ n ∧ n ≤ 16383) (G : Int) (k : Nat) (hk : ahd L (n : Int) = k) :
    Calls Tryd.prog 7 #[.pointer (some ⟨r, 0, none⟩), .int .u32 (n : Int), .int .u64 G] w fun e w' => (k < L.length ∧ (pat L k).1 = (n : Int) ∧ e = .returned (.int .u16 110) ∧ w' = w) ∨ (¬ (k < L.length ∧ (pat L k).1 = (n : Int)) ∧ e = .returned (.int .u16 0) ∧ ∃ v2, Rl w' r v2 (putp L (n : Int) G) ∧ Mv (fun j => j = r) w w' ∧ ∀ j, v2.ownBlock = some j → w.heap.size ≤ j) := by
  obtain ⟨i0, hi, hz0, hz1, hz2⟩ := info_parts infoRp
  obtain ⟨a, c, rfl⟩ := own_slice2 h.row
  obtain ⟨a', c', e', h1, h2, h3, -, h4⟩ := h.shape
  cases e'
  have c0 := h.c
  have HR := hide h
  have HKl : Hid (∀ i, i < k → (pat L i).1 < (n : Int)) := fun i hi => ahd_lt (by rw [hk]; exact hi)
  have HKa : Hid (k < L.length → ¬ (pat L k).1 < (n : Int)) := fun hl => by have := ahd_at (L := L) (n := (n : Int)); rw [hk] at this; exact this hl
  have hkl : k ≤ L.length := by rw [← hk]; exact ahd_le L n
  have HK := hide hk
  obtain ⟨N, hN⟩ : ∃ N, L.length = N := ⟨_, rfl⟩
  simp only [hN] at h1 h3 h4 c0 hf hkl
  have HN := hide hN
  have H4 := hide h4
  have H3 := hide h3
  have d1 : ¬ (n : Int) < 2 := by omega
  have d2 : ¬ (16383 : Int) < (n : Int) := by omega
  clear h hN h4 h3 hk
  go_enter Tryd.func7, Tryd.ntmps7
  go_wp2
  go_loopw [7] (fun x wr => ∃ i : Nat, i ≤ k ∧ x = .int .i64 (i : Int) ∧ wr = w) (fun x _ => k - (intOf x).toNat)
  case atStart => exact ⟨0, Nat.zero_le _, rfl, rfl⟩
  case round =>
    obtain ⟨i, hik, rfl, rfl⟩ := hrel
    by_cases hlt : i < k
    · have hiN : i < N := by omega
      obtain ⟨g, rfl, e1, e2⟩ := H4.out i hiN
      have hlp := HKl.out i hlt
      have hil : (i : Int) < (N : Int) := by omega
      clear e2
      generalize pat L i = x at *
      go_wp2
      go_roundw
      case rel => exact ⟨i + 1, by omega, by go_num, by trivial⟩
      case measure => simp [intOf]; omega
    · have hie : k = i := by omega
      subst hie
      by_cases hkN : k < N
      · obtain ⟨g, rfl, e1, e2⟩ := H4.out k hkN
        have hlp := HKa.out (by rw [HN.out]; exact hkN)
        have hil : (k : Int) < (N : Int) := by omega
        by_cases hxn : (pat L k).1 = (n : Int)
        · have HXn := hide hxn
          rw [hxn] at e1 hlp
          clear hxn e2
          go_wp2
          go_ret
          exact .inl ⟨by rw [HN.out]; exact hkN, HXn.out, rfl, rfl⟩
        · have HXn := hide hxn
          obtain ⟨x, hx⟩ : ∃ x, x = (pat L k).1 := ⟨_, rfl⟩
          rw [← hx] at e1 hlp hxn
          have dx : (x == (n : Int)) = false := by simpa using hxn
          clear e2 hx
          have HSz1 : Hid ((0 + k) * i0.bytes ≤ 140737488355328) := by rw [Hid, hz2]; omega
          have HSz2 : Hid (0 + k ≤ 140737488355328) := by rw [Hid]; omega
          have HS1 : Hid (Src Tryd.prog 2 27 (.slice (some ⟨g, 0, none⟩) k c) k (pflat (L.take k)) wr) := by
            have := src_part HR.out 0 k (Nat.zero_le _) (by rw [HN.out]; exact hkl) (some ⟨g, 0, none⟩) c (fun _ => ⟨g, rfl, by simp⟩) (fun e => by cases e) uRp
            exact hide (by simpa using this)
          have HSz3 : Hid ((k + 1) * i0.bytes ≤ 140737488355328) := by rw [Hid, hz2]; omega
          have HSz4 : Hid (k + 1 ≤ 140737488355328) := by rw [Hid]; omega
          have HSz5 : Hid ((k + 1 + (N - k)) * i0.bytes ≤ 140737488355328) := by rw [Hid, hz2]; omega
          have HSz6 : Hid (k + 1 + (N - k) ≤ 140737488355328) := by rw [Hid]; omega
          have hck : ¬ c = k := by omega
          have M1 := hide trivial
          go_wp2_with (first | (at_builtin; have hmk := M1; clear hmk M1; refine wpList_append_two (by rfl) _ _ 27 27 89 (by rfl) i0 _ uRp hi hz0 hz1 rfl (.slice none 0 0) 0 [] (by rfl) (World.ownsRow_nil _ _ _ _) _ k _ (by rfl) HS1.out HSz1.out HSz2.out ?_; intro v1 w1 g1 g2 g3 g4; rw [Nat.zero_add, List.nil_append] at g1; obtain ⟨xa, xc, rfl⟩ := own_slice2 g1; have G1 := hide g1; have G2 := hide g2; have G3 := hide g3; have HSb := hide (src_box w1 (n : Int) G); have hO2 : (w1.alloc (.cells #[.int .u32 (n : Int), .int .u64 G] 89)).ownsRow 0 89 2 (.slice xa k xc) k (pflat (L.take k)) := row_keep g1 (fun j hj => Below.heap_alloc _ _ j (World.ownsRow.lt g1 j hj).2); have HO2 := hide hO2; clear g1 g2 g3 g4 hO2; have M2 := hide trivial) | (at_builtin; have hmk := M2; clear hmk M2; refine wpList_append_two (by rfl) _ _ 27 27 89 (by rfl) i0 _ uRp hi hz0 hz1 rfl (.slice xa k xc) k _ (by rfl) HO2.out _ 1 _ (by rfl) HSb.out HSz3.out HSz4.out ?_; intro v2 w2 g1 g2 g3 g4; obtain ⟨ya, yc, rfl⟩ := own_slice2 g1; have K1 := hide g1; have K2 := hide g2; have K3 := hide g3; have hb2 := two_below G2.out G3.out g2; have HB2 := hide hb2; have hR2 := HR.out.below hb2; have c2 := hR2.c; rw [HN.out] at c2; have hs3 := src_part hR2 k L.length (by rw [HN.out]; exact hkl) (Nat.le_refl _) (some ⟨g, k * 2, none⟩) (c - k) (fun _ => ⟨g, rfl, rfl⟩) (fun e => by cases e) uRp; rw [HN.out, List.take_of_length_le (by rw [HN.out]; exact Nat.le_refl _)] at hs3; have HS3 := hide hs3; clear g1 g2 g3 g4 hb2 hR2 hs3 c0; have M3 := hide trivial) | (at_builtin; have hmk := M3; clear hmk M3; refine wpList_append_two (by rfl) _ _ 27 27 89 (by rfl) i0 _ uRp hi hz0 hz1 rfl (.slice ya (k + 1) yc) (k + 1) _ (by rfl) K1.out _ (N - k) _ (by rfl) HS3.out HSz5.out HSz6.out ?_; intro v3 w3 g1 g2 g3 g4; obtain ⟨za, zc, rfl⟩ := own_slice2 g1; have J1 := hide g1; have J2 := hide g2; have J3 := hide g3; have hUl : ∀ j, (Value.slice ya (k + 1) yc).ownBlock = some j → wr.heap.size ≤ j := fun j hj => by { rcases K3.out j hj with h | h; { rcases G3.out j h with h | h; { cases h }; { exact h } }; { exact Nat.le_trans (by have := G2.out.size; simp; omega) h } }; have HUl := hide hUl; have hE := rl_end HR.out.blk HB2.out hUl (by rw [← putp_flat HK.out] at g1; exact g1) (by have h9 := (putp_perm L n G).length_eq; rw [List.length_cons, HN.out] at h9; omega) g2 g3; have HE := hide hE; have hx3 : w3.heap[r]? = some (.cells #[.slice (some ⟨g, 0, none⟩) L.length c] 29 (0, 0)) := (g2.block r (Nat.lt_of_lt_of_le (lt_of_block HR.out.blk) HB2.out.size) (fun e => by { have := hUl r e.symm; have := lt_of_block HR.out.blk; omega })).trans ((HB2.out.block r (lt_of_block HR.out.blk)).trans HR.out.blk); have c3 := cell_of_one hx3; have f3 : w3.frozen? ⟨r, 0, none⟩ = false := by { simp [World.frozen?, hx3] }; clear g1 g2 g3 g4 c2 hUl hE hx3))
          go_ret
          exact .inr ⟨fun h => HXn.out h.2, rfl, _, HE.out⟩
      · have hil : ¬ (k : Int) < (N : Int) := by omega
        have hkN2 : k = N := by omega
        cases a with
        | none =>
          obtain ⟨hN0, hc0⟩ := H3.out rfl
          have hk0 : k = 0 := by omega
          subst hkN2
          subst hc0
          subst hk0
          have HSz1 : Hid ((0 + 0) * i0.bytes ≤ 140737488355328) := by rw [Hid, hz2]; omega
          have HSz2 : Hid (0 + 0 ≤ 140737488355328) := by rw [Hid]; omega
          have HS1 : Hid (Src Tryd.prog 2 27 (.slice none 0 0) 0 (pflat (L.take 0)) wr) := hide (by
            have := src_part HR.out 0 0 (Nat.zero_le _) (by rw [HN.out]; omega) none 0 (fun hl => by omega) (fun _ => ⟨by omega, rfl⟩) uRp
            simpa using this)
          have HSz3 : Hid ((0 + 1) * i0.bytes ≤ 140737488355328) := by rw [Hid, hz2]; omega
          have HSz4 : Hid (0 + 1 ≤ 140737488355328) := by rw [Hid]; omega
          have HSz5 : Hid ((0 + 1 + 0) * i0.bytes ≤ 140737488355328) := by rw [Hid, hz2]; omega
          have HSz6 : Hid (0 + 1 + 0 ≤ 140737488355328) := by rw [Hid]; omega
          have M1 := hide trivial
          go_wp2_with (first | (at_builtin; have hmk := M1; clear hmk M1; refine wpList_append_two (by rfl) _ _ 27 27 89 (by rfl) i0 _ uRp hi hz0 hz1 rfl (.slice none 0 0) 0 [] (by rfl) (World.ownsRow_nil _ _ _ _) _ 0 _ (by rfl) HS1.out HSz1.out HSz2.out ?_; intro v1 w1 g1 g2 g3 g4; simp only [Nat.zero_add, List.nil_append] at g1; obtain ⟨xa, xc, rfl⟩ := own_slice2 g1; have G1 := hide g1; have G2 := hide g2; have G3 := hide g3; have HSb := hide (src_box w1 (n : Int) G); have hO2 : (w1.alloc (.cells #[.int .u32 (n : Int), .int .u64 G] 89)).ownsRow 0 89 2 (.slice xa 0 xc) 0 (pflat (L.take 0)) := row_keep g1 (fun j hj => Below.heap_alloc _ _ j (World.ownsRow.lt g1 j hj).2); have HO2 := hide hO2; clear g1 g2 g3 g4 hO2; have M2 := hide trivial) | (at_builtin; have hmk := M2; clear hmk M2; refine wpList_append_two (by rfl) _ _ 27 27 89 (by rfl) i0 _ uRp hi hz0 hz1 rfl (.slice xa 0 xc) 0 _ (by rfl) HO2.out _ 1 _ (by rfl) HSb.out HSz3.out HSz4.out ?_; intro v2 w2 g1 g2 g3 g4; obtain ⟨ya, yc, rfl⟩ := own_slice2 g1; have K1 := hide g1; have K2 := hide g2; have K3 := hide g3; have hb2 := two_below G2.out G3.out g2; have HB2 := hide hb2; have hR2 := HR.out.below hb2; have c2 := hR2.c; rw [HN.out] at c2; have hs3 := src_part hR2 0 L.length (by rw [HN.out]; omega) (Nat.le_refl _) none 0 (fun hl => by rw [HN.out] at hl; omega) (fun _ => ⟨by rw [HN.out], rfl⟩) uRp; rw [HN.out, List.take_of_length_le (by rw [HN.out]; exact Nat.le_refl _), Nat.sub_self] at hs3; have HS3 := hide hs3; clear g1 g2 g3 g4 hb2 hR2 hs3 c0; have M3 := hide trivial) | (at_builtin; have hmk := M3; clear hmk M3; refine wpList_append_two (by rfl) _ _ 27 27 89 (by rfl) i0 _ uRp hi hz0 hz1 rfl (.slice ya (0 + 1) yc) (0 + 1) _ (by rfl) K1.out _ 0 _ (by rfl) HS3.out HSz5.out HSz6.out ?_; intro v3 w3 g1 g2 g3 g4; obtain ⟨za, zc, rfl⟩ := own_slice2 g1; have J1 := hide g1; have J2 := hide g2; have J3 := hide g3; have hUl : ∀ j, (Value.slice ya (0 + 1) yc).ownBlock = some j → wr.heap.size ≤ j := fun j hj => by { rcases K3.out j hj with h | h; { rcases G3.out j h with h | h; { cases h }; { exact h } }; { exact Nat.le_trans (by have := G2.out.size; simp; omega) h } }; have HUl := hide hUl; have hE := rl_end HR.out.blk HB2.out hUl (by rw [← putp_flat HK.out] at g1; exact g1) (by have h9 := (putp_perm L n G).length_eq; rw [List.length_cons, HN.out] at h9; omega) g2 g3; have HE := hide hE; have hx3 : w3.heap[r]? = some (.cells #[.slice none L.length 0] 29 (0, 0)) := (g2.block r (Nat.lt_of_lt_of_le (lt_of_block HR.out.blk) HB2.out.size) (fun e => by { have := hUl r e.symm; have := lt_of_block HR.out.blk; omega })).trans ((HB2.out.block r (lt_of_block HR.out.blk)).trans HR.out.blk); have c3 := cell_of_one hx3; have f3 : w3.frozen? ⟨r, 0, none⟩ = false := by { simp [World.frozen?, hx3] }; clear g1 g2 g3 g4 c2 hUl hE hx3))
          go_ret
          refine .inr ⟨?_, rfl, _, HE.out⟩; first | (intro h; have h5 := h.1; rw [HN.out] at h5; omega) | (intro h; rw [HN.out] at h; omega) | (intro h; have h5 := h; simp only [HN.out] at h5; omega) | (simp [HN.out]) | (intro h hq; have h5 := h; rw [HN.out] at h5; omega)
        | some ad =>
          obtain ⟨g, hg⟩ : ∃ g, ad = ⟨g, 0, none⟩ := by
            rcases HR.out.row.2 with ⟨e, _⟩ | ⟨g, cap, cur, e, _⟩
            · cases e
            · simp at e; exact ⟨g, e.1⟩
          subst hg
          subst hkN2
          by_cases hck : k = c
          · subst hck
            have HSz1 : Hid ((0 + k) * i0.bytes ≤ 140737488355328) := by rw [Hid, hz2]; omega
            have HSz2 : Hid (0 + k ≤ 140737488355328) := by rw [Hid]; omega
            have HS1 : Hid (Src Tryd.prog 2 27 (.slice (some ⟨g, 0, none⟩) k k) k (pflat (L.take k)) wr) := hide (by
              have := src_part HR.out 0 k (Nat.zero_le _) (by rw [HN.out]; omega) (some ⟨g, 0, none⟩) k (fun _ => ⟨g, rfl, by simp⟩) (fun e => by cases e) uRp
              simpa using this)
            have HSz3 : Hid ((k + 1) * i0.bytes ≤ 140737488355328) := by rw [Hid, hz2]; omega
            have HSz4 : Hid (k + 1 ≤ 140737488355328) := by rw [Hid]; omega
            have HSz5 : Hid ((k + 1 + 0) * i0.bytes ≤ 140737488355328) := by rw [Hid, hz2]; omega
            have HSz6 : Hid (k + 1 + 0 ≤ 140737488355328) := by rw [Hid]; omega
            have M1 := hide trivial
            go_wp2_with (first | (at_builtin; have hmk := M1; clear hmk M1; refine wpList_append_two (by rfl) _ _ 27 27 89 (by rfl) i0 _ uRp hi hz0 hz1 rfl (.slice none 0 0) 0 [] (by rfl) (World.ownsRow_nil _ _ _ _) _ k _ (by rfl) HS1.out HSz1.out HSz2.out ?_; intro v1 w1 g1 g2 g3 g4; simp only [Nat.zero_add, List.nil_append] at g1; obtain ⟨xa, xc, rfl⟩ := own_slice2 g1; have G1 := hide g1; have G2 := hide g2; have G3 := hide g3; have HSb := hide (src_box w1 (n : Int) G); have hO2 : (w1.alloc (.cells #[.int .u32 (n : Int), .int .u64 G] 89)).ownsRow 0 89 2 (.slice xa k xc) k (pflat (L.take k)) := row_keep g1 (fun j hj => Below.heap_alloc _ _ j (World.ownsRow.lt g1 j hj).2); have HO2 := hide hO2; clear g1 g2 g3 g4 hO2; have M2 := hide trivial) | (at_builtin; have hmk := M2; clear hmk M2; refine wpList_append_two (by rfl) _ _ 27 27 89 (by rfl) i0 _ uRp hi hz0 hz1 rfl (.slice xa k xc) k _ (by rfl) HO2.out _ 1 _ (by rfl) HSb.out HSz3.out HSz4.out ?_; intro v2 w2 g1 g2 g3 g4; obtain ⟨ya, yc, rfl⟩ := own_slice2 g1; have K1 := hide g1; have K2 := hide g2; have K3 := hide g3; have hb2 := two_below G2.out G3.out g2; have HB2 := hide hb2; have hR2 := HR.out.below hb2; have c2 := hR2.c; rw [HN.out] at c2; have hs3 := src_part hR2 k L.length (by rw [HN.out]; omega) (Nat.le_refl _) (some ⟨g, 0, none⟩) 0 (fun hl => by rw [HN.out] at hl; omega) (fun e => by cases e) uRp; rw [HN.out, List.take_of_length_le (by rw [HN.out]; exact Nat.le_refl _), Nat.sub_self] at hs3; have HS3 := hide hs3; clear g1 g2 g3 g4 hb2 hR2 hs3 c0; have M3 := hide trivial) | (at_builtin; have hmk := M3; clear hmk M3; refine wpList_append_two (by rfl) _ _ 27 27 89 (by rfl) i0 _ uRp hi hz0 hz1 rfl (.slice ya (k + 1) yc) (k + 1) _ (by rfl) K1.out _ 0 _ (by rfl) HS3.out HSz5.out HSz6.out ?_; intro v3 w3 g1 g2 g3 g4; obtain ⟨za, zc, rfl⟩ := own_slice2 g1; have J1 := hide g1; have J2 := hide g2; have J3 := hide g3; have hUl : ∀ j, (Value.slice ya (k + 1) yc).ownBlock = some j → wr.heap.size ≤ j := fun j hj => by { rcases K3.out j hj with h | h; { rcases G3.out j h with h | h; { cases h }; { exact h } }; { exact Nat.le_trans (by have := G2.out.size; simp; omega) h } }; have HUl := hide hUl; have hE := rl_end HR.out.blk HB2.out hUl (by rw [← putp_flat HK.out] at g1; exact g1) (by have h9 := (putp_perm L n G).length_eq; rw [List.length_cons, HN.out] at h9; omega) g2 g3; have HE := hide hE; have hx3 : w3.heap[r]? = some (.cells #[.slice (some ⟨g, 0, none⟩) L.length k] 29 (0, 0)) := (g2.block r (Nat.lt_of_lt_of_le (lt_of_block HR.out.blk) HB2.out.size) (fun e => by { have := hUl r e.symm; have := lt_of_block HR.out.blk; omega })).trans ((HB2.out.block r (lt_of_block HR.out.blk)).trans HR.out.blk); have c3 := cell_of_one hx3; have f3 : w3.frozen? ⟨r, 0, none⟩ = false := by { simp [World.frozen?, hx3] }; clear g1 g2 g3 g4 c2 hUl hE hx3))
            go_ret
            refine .inr ⟨?_, rfl, _, HE.out⟩; first | (intro h; have h5 := h.1; rw [HN.out] at h5; omega) | (intro h; rw [HN.out] at h; omega) | (intro h; have h5 := h; simp only [HN.out] at h5; omega) | (simp [HN.out]) | (intro h hq; have h5 := h; rw [HN.out] at h5; omega)
          · have hck2 : ¬ c = k := fun e => hck e.symm
            have HSz1 : Hid ((0 + k) * i0.bytes ≤ 140737488355328) := by rw [Hid, hz2]; omega
            have HSz2 : Hid (0 + k ≤ 140737488355328) := by rw [Hid]; omega
            have HS1 : Hid (Src Tryd.prog 2 27 (.slice (some ⟨g, 0, none⟩) k c) k (pflat (L.take k)) wr) := hide (by
              have := src_part HR.out 0 k (Nat.zero_le _) (by rw [HN.out]; omega) (some ⟨g, 0, none⟩) c (fun _ => ⟨g, rfl, by simp⟩) (fun e => by cases e) uRp
              simpa using this)
            have HSz3 : Hid ((k + 1) * i0.bytes ≤ 140737488355328) := by rw [Hid, hz2]; omega
            have HSz4 : Hid (k + 1 ≤ 140737488355328) := by rw [Hid]; omega
            have HSz5 : Hid ((k + 1 + 0) * i0.bytes ≤ 140737488355328) := by rw [Hid, hz2]; omega
            have HSz6 : Hid (k + 1 + 0 ≤ 140737488355328) := by rw [Hid]; omega
            have M1 := hide trivial
            go_wp2_with (first | (at_builtin; have hmk := M1; clear hmk M1; refine wpList_append_two (by rfl) _ _ 27 27 89 (by rfl) i0 _ uRp hi hz0 hz1 rfl (.slice none 0 0) 0 [] (by rfl) (World.ownsRow_nil _ _ _ _) _ k _ (by rfl) HS1.out HSz1.out HSz2.out ?_; intro v1 w1 g1 g2 g3 g4; simp only [Nat.zero_add, List.nil_append] at g1; obtain ⟨xa, xc, rfl⟩ := own_slice2 g1; have G1 := hide g1; have G2 := hide g2; have G3 := hide g3; have HSb := hide (src_box w1 (n : Int) G); have hO2 : (w1.alloc (.cells #[.int .u32 (n : Int), .int .u64 G] 89)).ownsRow 0 89 2 (.slice xa k xc) k (pflat (L.take k)) := row_keep g1 (fun j hj => Below.heap_alloc _ _ j (World.ownsRow.lt g1 j hj).2); have HO2 := hide hO2; clear g1 g2 g3 g4 hO2; have M2 := hide trivial) | (at_builtin; have hmk := M2; clear hmk M2; refine wpList_append_two (by rfl) _ _ 27 27 89 (by rfl) i0 _ uRp hi hz0 hz1 rfl (.slice xa k xc) k _ (by rfl) HO2.out _ 1 _ (by rfl) HSb.out HSz3.out HSz4.out ?_; intro v2 w2 g1 g2 g3 g4; obtain ⟨ya, yc, rfl⟩ := own_slice2 g1; have K1 := hide g1; have K2 := hide g2; have K3 := hide g3; have hb2 := two_below G2.out G3.out g2; have HB2 := hide hb2; have hR2 := HR.out.below hb2; have c2 := hR2.c; rw [HN.out] at c2; have hs3 := src_part hR2 k L.length (by rw [HN.out]; omega) (Nat.le_refl _) (some ⟨g, k * 2, none⟩) (c - k) (fun hl => by rw [HN.out] at hl; omega) (fun e => by cases e) uRp; rw [HN.out, List.take_of_length_le (by rw [HN.out]; exact Nat.le_refl _), Nat.sub_self] at hs3; have HS3 := hide hs3; clear g1 g2 g3 g4 hb2 hR2 hs3 c0; have M3 := hide trivial) | (at_builtin; have hmk := M3; clear hmk M3; refine wpList_append_two (by rfl) _ _ 27 27 89 (by rfl) i0 _ uRp hi hz0 hz1 rfl (.slice ya (k + 1) yc) (k + 1) _ (by rfl) K1.out _ 0 _ (by rfl) HS3.out HSz5.out HSz6.out ?_; intro v3 w3 g1 g2 g3 g4; obtain ⟨za, zc, rfl⟩ := own_slice2 g1; have J1 := hide g1; have J2 := hide g2; have J3 := hide g3; have hUl : ∀ j, (Value.slice ya (k + 1) yc).ownBlock = some j → wr.heap.size ≤ j := fun j hj => by { rcases K3.out j hj with h | h; { rcases G3.out j h with h | h; { cases h }; { exact h } }; { exact Nat.le_trans (by have := G2.out.size; simp; omega) h } }; have HUl := hide hUl; have hE := rl_end HR.out.blk HB2.out hUl (by rw [← putp_flat HK.out] at g1; exact g1) (by have h9 := (putp_perm L n G).length_eq; rw [List.length_cons, HN.out] at h9; omega) g2 g3; have HE := hide hE; have hx3 : w3.heap[r]? = some (.cells #[.slice (some ⟨g, 0, none⟩) L.length c] 29 (0, 0)) := (g2.block r (Nat.lt_of_lt_of_le (lt_of_block HR.out.blk) HB2.out.size) (fun e => by { have := hUl r e.symm; have := lt_of_block HR.out.blk; omega })).trans ((HB2.out.block r (lt_of_block HR.out.blk)).trans HR.out.blk); have c3 := cell_of_one hx3; have f3 : w3.frozen? ⟨r, 0, none⟩ = false := by { simp [World.frozen?, hx3] }; clear g1 g2 g3 g4 c2 hUl hE hx3))
            go_ret
            refine .inr ⟨?_, rfl, _, HE.out⟩; first | (intro h; have h5 := h.1; rw [HN.out] at h5; omega) | (intro h; rw [HN.out] at h; omega) | (intro h; have h5 := h; simp only [HN.out] at h5; omega) | (simp [HN.out]) | (intro h hq; have h5 := h; rw [HN.out] at h5; omega)
end Go.Proofs.YtlahkeapfcfbbaaDoor
