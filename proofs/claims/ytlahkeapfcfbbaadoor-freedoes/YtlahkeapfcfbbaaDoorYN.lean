/- Each call of FreeDoes, told of all that there is. -/
import Derived.Test.YtlahkeapfcfbbaaDoorYM
namespace Go.Proofs.YtlahkeapfcfbbaaDoor
open Go.RowKit Go.Maps
set_option linter.unusedVariables false
variable {w0 w w' w1 w2 : World} {O O' O1 : Nat → Prop} {l r q n : Nat} {M L : List Pg} {el wa : Value} {X : Th}
theorem take_at {w : World} {l : Nat} {M : List Pg} {O : Nat → Prop} (h : LsAt w l M O) (G : Int) (x0 : Pg) (M0 : List Pg) (hp : M.Perm (x0 :: M0)) (hg : x0.2 ≤ G) (hl : ∀ y ∈ M, y.2 ≤ G → x0.1 ≤ y.1) (hf : M.length ≤ 900000) : Calls Tryd.prog 8 #[.pointer (some ⟨l, 0, none⟩), .int .u64 G] w fun e w' => e = .returned (.tuple #[.int .u32 x0.1, .bool true]) ∧ ∃ O', LsAt w' l M0 O' ∧ Go1 O w O' w' := by
  have hx0 : x0 ∈ M := hp.mem_iff.2 (List.mem_cons_self ..)
  refine (take_some h G ⟨x0, hx0, hg⟩ hf).mono ?_
  rintro e w' ⟨x, M', rfl, h4, h5, h6, O', h7, h8⟩
  have hx : x ∈ M := h4.mem_iff.2 (List.mem_cons_self ..)
  have e1 : x = x0 := nodup_eq h.nd hx hx0 (Int.le_antisymm (h6 x0 hx0 hg) (hl x hx h5))
  subst e1
  exact ⟨rfl, O', h7.perm ((h4.symm.trans hp).cons_inv), h8⟩
theorem rl_go {v v2 : Value} {L' : List Pg} (h1 : Rl w r v L) (h2 : ∀ k, O k ↔ k = r ∨ v.ownBlock = some k) (g1 : Rl w' r v2 L') (g2 : Mv (fun j => j = r) w w') (g3 : ∀ j, v2.ownBlock = some j → w.heap.size ≤ j) : ∃ O', RlAt w' r L' O' ∧ Go1 O w O' w' :=
  ⟨fun k => k = r ∨ v2.ownBlock = some k, ⟨v2, g1, fun k => Iff.rfl⟩, g2.mono (fun k hk => (h2 k).2 (.inl hk)), fun k hk => hk.elim (fun e => .inl ((h2 k).2 (.inl e))) (fun e => .inr (g3 k e))⟩
/-- Add. -/
theorem st_add (h : St w0 w l r q n M L el wa X) (hrel : Rel M L) (hl : M.length ≤ 300) (p : Nat) (hp : p ≤ 4294967295) (G : Int) :
    ∃ (z : Int) (M' L' : List Pg), Rel M' L' ∧ M'.length ≤ M.length + 1 ∧ (∀ W, Same w W → Calls Tryd.prog 6 #[.pointer (some ⟨l, 0, none⟩), .int .u32 (p : Int), .int .u64 G] W fun e w' => e = .returned (.int .u16 z) ∧ St w0 w' l r q n M' L el wa X) ∧
      ∀ W, St w0 W l r q n M' L el wa X → Calls Tryd.prog 7 #[.pointer (some ⟨r, 0, none⟩), .int .u32 (p : Int), .int .u64 G] W fun e w' => e = .returned (.int .u16 z) ∧ St w0 w' l r q n M' L' el wa X := by
  have hll : L.length ≤ 300 := by rw [← hrel.len]; exact hl
  by_cases h1 : 2 ≤ p ∧ p ≤ 16383
  · by_cases h2 : (p : Int) ∈ M.map (·.1)
    · refine ⟨110, M, L, hrel, by omega, fun W hW => ?_, fun W hW => ?_⟩
      · obtain ⟨O1, x1, x2⟩ := (h.same hW).xx
        refine (add_there x1 p h1 G h2).mono ?_
        rintro e w' ⟨rfl, hs⟩
        exact ⟨rfl, (h.same hW).same hs⟩
      · obtain ⟨O1, ⟨v, r1, r2⟩, x2⟩ := hW.rr
        refine (radd_walk r1 (by omega) p h1 G _ rfl).mono ?_
        rintro e w' (⟨_, _, rfl, rfl⟩ | ⟨hn, _⟩)
        · exact ⟨rfl, hW⟩
        · exact absurd (hrel.there.1 h2) hn
    · refine ⟨0, ((p : Int), G) :: M, putp L (p : Int) G, hrel.add h2, by simp, fun W hW => ?_, fun W hW => ?_⟩
      · obtain ⟨O1, x1, x2⟩ := (h.same hW).xx
        refine (add_ok x1 p h1 G h2 (by omega)).mono ?_
        rintro e w' ⟨rfl, O', y1, y2⟩
        exact ⟨rfl, x2 y1 y2⟩
      · obtain ⟨O1, ⟨v, r1, r2⟩, x2⟩ := hW.rr
        refine (radd_walk r1 (by omega) p h1 G _ rfl).mono ?_
        rintro e w' (⟨e1, e2, rfl, rfl⟩ | ⟨hn, rfl, v2, g1, g2, g3⟩)
        · exact absurd (hrel.there.2 ⟨e1, e2⟩) h2
        · obtain ⟨O', k1, k2⟩ := rl_go r1 r2 g1 g2 g3
          exact ⟨rfl, x2 k1 k2⟩
  · refine ⟨110, M, L, hrel, by omega, fun W hW => ?_, fun W hW => ?_⟩
    · obtain ⟨O1, x1, x2⟩ := (h.same hW).xx
      refine (add_off x1 p hp G h1).mono ?_
      rintro e w' ⟨rfl, hs⟩
      exact ⟨rfl, (h.same hW).same hs⟩
    · refine (radd_off p hp G h1).mono ?_
      rintro e w' ⟨rfl, rfl⟩
      exact ⟨rfl, hW⟩
/-- Take. -/
theorem st_take (h : St w0 w l r q n M L el wa X) (hrel : Rel M L) (hl : M.length ≤ 300) (G : Int) :
    ∃ (z : Int) (b : Bool) (M' L' : List Pg), Rel M' L' ∧ M'.length ≤ M.length ∧ (∀ W, Same w W → Calls Tryd.prog 8 #[.pointer (some ⟨l, 0, none⟩), .int .u64 G] W fun e w' => e = .returned (.tuple #[.int .u32 z, .bool b]) ∧ St w0 w' l r q n M' L el wa X) ∧
      ∀ W, St w0 W l r q n M' L el wa X → Calls Tryd.prog 9 #[.pointer (some ⟨r, 0, none⟩), .int .u64 G] W fun e w' => e = .returned (.tuple #[.int .u32 z, .bool b]) ∧ St w0 w' l r q n M' L' el wa X := by
  have hll : L.length ≤ 300 := by rw [← hrel.len]; exact hl
  by_cases h1 : fst1 L G < L.length
  · obtain ⟨t1, t2, t3, t4⟩ := hrel.take h1
    refine ⟨(pat L (fst1 L G)).1, true, takep L (fst1 L G), takep L (fst1 L G), ⟨List.Perm.refl _, t4⟩, ?_, fun W hW => ?_, fun W hW => ?_⟩
    · have := t1.length_eq
      rw [List.length_cons] at this
      omega
    · obtain ⟨O1, x1, x2⟩ := (h.same hW).xx
      refine (take_at x1 G _ _ t1 t2 t3 (by omega)).mono ?_
      rintro e w' ⟨rfl, O', y1, y2⟩
      exact ⟨rfl, x2 y1 y2⟩
    · obtain ⟨O1, ⟨v, r1, r2⟩, x2⟩ := hW.rr
      refine (rtake_walk r1 (by omega) G _ rfl).mono ?_
      rintro e w' (⟨_, rfl, v2, g1, g2, g3⟩ | ⟨hn, _⟩)
      · obtain ⟨O', k1, k2⟩ := rl_go r1 r2 g1 g2 g3
        exact ⟨rfl, x2 k1 k2⟩
      · exact absurd h1 hn
  · refine ⟨0, false, M, L, hrel, Nat.le_refl _, fun W hW => ?_, fun W hW => ?_⟩
    · obtain ⟨O1, x1, x2⟩ := (h.same hW).xx
      refine (take_none x1 G (hrel.none h1) (by omega)).mono ?_
      rintro e w' ⟨rfl, O', y1, y2⟩
      exact ⟨rfl, x2 y1 y2⟩
    · obtain ⟨O1, ⟨v, r1, r2⟩, x2⟩ := hW.rr
      refine (rtake_walk r1 (by omega) G _ rfl).mono ?_
      rintro e w' (⟨hn, _⟩ | ⟨_, rfl, rfl⟩)
      · exact absurd hn h1
      · exact ⟨rfl, hW⟩
/-- May. -/
theorem st_may (h : St w0 w l r q n M L el wa X) (hl : M.length ≤ 300) (G : Int) : Calls Tryd.prog 12 #[.pointer (some ⟨l, 0, none⟩), .int .u64 G] w fun e w' => e = .returned (.int .i64 ((M.countP (fun x => decide (x.2 ≤ G)) : Nat) : Int)) ∧ St w0 w' l r q n M L el wa X ∧ Below w.heap.size w w' := by
  obtain ⟨O1, x1, x2⟩ := h.xx
  refine (may_any x1 (by omega) G).mono ?_
  rintro e w' ⟨rfl, hb⟩
  exact ⟨rfl, h.on hb, hb⟩
theorem st_rmay (h : St w0 w l r q n M L el wa X) (hrel : Rel M L) (hl : M.length ≤ 300) (G : Int) : Calls Tryd.prog 13 #[.pointer (some ⟨r, 0, none⟩), .int .u64 G] w fun e w' => e = .returned (.int .i64 ((M.countP (fun x => decide (x.2 ≤ G)) : Nat) : Int)) ∧ w' = w := by
  obtain ⟨O1, ⟨v, r1, r2⟩, x2⟩ := h.rr
  rw [hrel.may]
  exact rmay_any r1 (by rw [← hrel.len]; omega) G
/-- Len. -/
theorem st_len (h : St w0 w l r q n M L el wa X) (hl : M.length ≤ 300) : Calls Tryd.prog 18 #[.pointer (some ⟨l, 0, none⟩)] w fun e w' => e = .returned (.int .i64 (M.length : Int)) ∧ Same w w' := by
  obtain ⟨O1, x1, x2⟩ := h.xx
  exact len_any x1 (by omega)
theorem St.rl (h : St w0 w l r q n M L el wa X) : ∃ a c, w.cell? ⟨r, 0, none⟩ = some (.slice a L.length c) := by
  obtain ⟨O1, ⟨v, r1, r2⟩, x2⟩ := h.rr
  obtain ⟨a, c, rfl, _⟩ := r1.shape
  exact ⟨a, c, r1.c⟩
/-- words as numbers. -/
theorem ownk_of {v : Value} {Z : List Nat} (h : OwnW w v Z) : Bo.OwnK .u32 56 w v (Z.map fun (z : Nat) => (z : Int)) := by
  unfold Bo.OwnK
  rw [List.length_map, List.map_map]
  exact h
theorem told_len {Z : List Nat} (h : Told Z M) (hl : M.length ≤ 300) : Z.length ≤ 300 := by rw [h.len]; exact hl
/-- words are put into the book. -/
theorem st_words {a : Option Addr} {c m : Nat} {Z : List Nat} (h : St w0 w l r q n M L el wa X) (hb : Below w.heap.size w w') (ho : OwnW w' (.slice a m c) Z) (hm : m = Z.length) (hZ : Z.length ≤ 300) (hn : n ≤ 300) (hlow : ∀ k, (Value.slice a m c).ownBlock = some k → w.heap.size ≤ k) :
    Calls Tryd.prog 11 #[.pointer (some ⟨q, 0, none⟩), .slice a m c] w' fun e w2 => e = .returned (.tuple #[]) ∧ St w0 w2 l r q (n + 1) M L el wa X ∧ Rw w2 a Z := by
  subst hm
  obtain ⟨O1, k1, k2, k3⟩ := h.kk
  have hlt : ∀ k, O1 k → k < w.heap.size := fun k hk => goodK.lt k1 hk
  have hs := hb.size
  obtain ⟨f, v, A, C, Y, g1, g2, g3, g4, g5, g6⟩ := k1
  have g1' := g1.below hb
  have g4' := g4.of_block (w' := w') (fun k hk => hb.block k (g4.lt k hk))
  have hob : ∀ k, (∃ ad, a = some ad ∧ ad.block = k) → w.heap.size ≤ k := fun k ⟨ad, e1, e2⟩ => hlow k (by subst e1; exact congrArg some e2)
  refine (Bo.bookWords_any q f v g2 n A C Y a c (Z.map fun (z : Nat) => (z : Int)) Z.length (by simp) w' g1' g4' (ownk_of ho) (fun k hk hk2 => ?_) (by omega)).mono ?_
  · have := hlt k ((g6 k).2 (.inr (.inr hk)))
    have := hob k hk2
    omega
  · rintro e w2 ⟨rfl, v', e1, e2, e3, e4⟩
    have hrow := e2.rows n (by omega)
    rw [Bo.putf_same, Bo.putf_same, Bo.putf_same] at hrow
    have hw2 : OwnW w2 (.slice a Z.length c) Z := by
      have h9 := hrow
      unfold Bo.OwnK Bo.rv at h9
      rw [List.length_map, List.map_map] at h9
      exact h9
    obtain ⟨a', c', e', _, _, hr, _⟩ := hw2.shape
    cases e'
    refine ⟨rfl, k3 (O1' := fun k => k = q ∨ (Bo.blks v' k ∨ Bo.rft (n + 1) (Bo.putf A n a) k)) ⟨Bo.putf f 5 v', v', Bo.putf A n a, Bo.putf C n c, Bo.putf Y n (Z.map fun (z : Nat) => (z : Int)), e1, Bo.putf_same _ _ _, fun j hj => (Bo.putf_other _ _ _ _ hj).trans (g3 j hj), e2, fun i hi => ?_, fun k => Iff.rfl⟩ ⟨⟨e3.os.trans hb.os, e3.tape.trans hb.tape, e3.output.trans hb.output, Nat.le_trans hb.size e3.size, fun k hk hn => ?_⟩, fun k hk => ?_⟩, hr⟩
    · by_cases e : i = n
      · subst e; rw [Bo.putf_same, List.length_map]; omega
      · rw [Bo.putf_other _ _ _ _ e]; exact g5 i (by omega)
    · refine (e3.block k (by omega) (fun h9 => hn ?_)).trans (hb.block k hk)
      rcases h9 with h9 | h9
      · exact (g6 k).2 (.inl h9)
      · exact (g6 k).2 (.inr (.inl h9))
    · rcases hk with hk | hk | ⟨i, hi, hk⟩
      · exact .inl ((g6 k).2 (.inl hk))
      · rcases e4 k hk with h9 | h9
        · exact .inl ((g6 k).2 (.inr (.inl h9)))
        · exact .inr (Nat.le_trans hs h9)
      · by_cases e : i = n
        · subst e; rw [Bo.putf_same] at hk; exact .inr (hob k hk)
        · rw [Bo.putf_other _ _ _ _ e] at hk; exact .inl ((g6 k).2 (.inr (.inr ⟨i, by omega, hk⟩)))
/-- All, and what it gives is put into the book. -/
theorem st_all (h : St w0 w l r q n M L el wa X) (ht : Tb w0) (hl : M.length ≤ 300) (hn : n ≤ 300) :
    Calls Tryd.prog 10 #[.pointer (some ⟨l, 0, none⟩)] w fun e w' => ∃ a c m Z, e = .returned (.slice a m c) ∧ Hid (Told Z M ∧ m = Z.length ∧ Rw w' a Z ∧ St w0 w' l r q n M L el wa X ∧ Below w.heap.size w w' ∧
      Calls Tryd.prog 11 #[.pointer (some ⟨q, 0, none⟩), .slice a m c] w' fun e w2 => e = .returned (.tuple #[]) ∧ St w0 w2 l r q (n + 1) M L el wa X ∧ Rw w2 a Z) := by
  obtain ⟨O1, x1, x2⟩ := h.xx
  refine (all_any x1 (ht.below h.bel) (by omega)).mono ?_
  rintro e w' ⟨v, Z, rfl, g1, g2, g3, g4⟩
  obtain ⟨a, c, rfl, hc1, hc2, hr, _⟩ := g1.shape
  exact ⟨a, c, _, Z, rfl, g2, rfl, hr, h.on g4, g4, st_words h g4 g1 rfl (told_len g2 hl) hn g3⟩
/-- the document's All. -/
theorem st_rall {Z : List Nat} (h : St w0 w l r q n M L el wa X) (hrel : Rel M L) (ht : Told Z M) (hl : M.length ≤ 300) : Calls Tryd.prog 15 #[.pointer (some ⟨r, 0, none⟩)] w fun e w' => ∃ a c m, e = .returned (.slice a m c) ∧ Hid (m = Z.length ∧ Rw w' a Z ∧ Below w.heap.size w w') := by
  obtain ⟨O1, ⟨v, r1, r2⟩, x2⟩ := h.rr
  refine (rall_told r1 (by rw [← hrel.len]; omega) ht hrel).mono ?_
  rintro e w' ⟨u, rfl, h1, h2, h3⟩
  obtain ⟨a, c, rfl, hc1, hc2, hr, _⟩ := h1.shape
  exact ⟨a, c, _, rfl, rfl, hr, h3⟩
/-- both lists tell the same words. -/
theorem two_all {l r : Nat} {v : Value} (h1 : LsAt w l M O) (h2 : Rl w r v L) (hrel : Rel M L) (ht : Tb w) (hl : M.length ≤ 300) :
    Calls Tryd.prog 10 #[.pointer (some ⟨l, 0, none⟩)] w fun e w' => ∃ a c m, e = .returned (.slice a m c) ∧ Hid (Below w.heap.size w w' ∧
      Calls Tryd.prog 15 #[.pointer (some ⟨r, 0, none⟩)] w' fun e w2 => ∃ b d, e = .returned (.slice b m d) ∧ Hid (Below w'.heap.size w' w2 ∧ Calls Tryd.prog 14 #[.slice a m c, .slice b m d] w2 fun e w3 => e = .returned (.bool true) ∧ Same w2 w3)) := by
  refine (all_any h1 ht (by omega)).mono ?_
  rintro e w' ⟨v, Z, rfl, g1, g2, g3, g4⟩
  obtain ⟨a, c, rfl, hc1, hc2, hr, _⟩ := g1.shape
  refine ⟨a, c, _, rfl, g4, ?_⟩
  refine (rall_told (h2.below g4) (by rw [← hrel.len]; omega) g2 hrel).mono ?_
  rintro e w2 ⟨u, rfl, h4, h5, h6⟩
  obtain ⟨b, d, rfl, hd1, hd2, hr2, _⟩ := h4.shape
  exact ⟨b, d, rfl, h6, samew_eq w2 a b _ c d Z rfl (by have := told_len g2 hl; omega) (hr.below h6) hr2⟩
theorem st_two (h : St w0 w l r q n M L el wa X) (hrel : Rel M L) (ht : Tb w0) (hl : M.length ≤ 300) :
    Calls Tryd.prog 10 #[.pointer (some ⟨l, 0, none⟩)] w fun e w' => ∃ a c m, e = .returned (.slice a m c) ∧ Hid (Below w.heap.size w w' ∧
      Calls Tryd.prog 15 #[.pointer (some ⟨r, 0, none⟩)] w' fun e w2 => ∃ b d, e = .returned (.slice b m d) ∧ Hid (Below w'.heap.size w' w2 ∧ Calls Tryd.prog 14 #[.slice a m c, .slice b m d] w2 fun e w3 => e = .returned (.bool true) ∧ Same w2 w3)) := by
  obtain ⟨O1, x1, _⟩ := h.xx
  obtain ⟨O2, ⟨v, r1, _⟩, _⟩ := h.rr
  exact two_all x1 r1 hrel (ht.below h.bel) hl
/-- what came out is its owner's. -/
theorem st_own (h : St w0 w l r q n M L el wa X) (hn : n ≤ 300) : Calls Tryd.prog 19 #[.pointer (some ⟨q, 0, none⟩)] w fun e w' => e = .returned (.bool true) ∧ Below w0.heap.size w0 w' := by
  obtain ⟨O1, ⟨f, v, A, C, Y, g1, g2, g3, g4, g5, g6⟩, k2, k3⟩ := h.kk
  refine (Bo.bookOwn_any q f v g2 n A C Y w g1 g3 g4 (by omega) (fun i hi => by have := g5 i hi; omega)).mono ?_
  rintro e w' ⟨rfl, hk⟩
  refine ⟨rfl, ?_⟩
  have hb := h.bel
  have hs := hb.size
  exact ⟨hk.os.trans hb.os, hk.tape.trans hb.tape, hk.output.trans hb.output, Nat.le_trans hs hk.size, fun k hlt => (hk.block k (by omega) (fun h9 => by have := k2 k ((g6 k).2 (.inr (.inr h9))); omega)).trans (hb.block k hlt)⟩
/-- Clone. -/
theorem st_clone (h : St w0 w l r q n M L el wa X) (hrel : Rel M L) (hl : M.length ≤ 300) : Calls Tryd.prog 16 #[.pointer (some ⟨l, 0, none⟩)] w fun e w' => ∃ l', e = .returned (.pointer (some ⟨l', 0, none⟩)) ∧ Hid (
      Calls Tryd.prog 17 #[.pointer (some ⟨r, 0, none⟩)] w' fun e w2 => ∃ r', e = .returned (.pointer (some ⟨r', 0, none⟩)) ∧ St w0 w2 l' r' q n M L (ptr l) (ptr r) Emp) := by
  obtain ⟨O1, x1, x2⟩ := h.xx
  refine (clone_at x1 (by omega)).mono ?_
  rintro e w' ⟨l', O', rfl, y1, y2, y3⟩
  refine ⟨l', rfl, ?_⟩
  obtain ⟨O2, ⟨v, r1, r2⟩, _⟩ := h.rr
  refine (rclone_any (r1.below y3) (by rw [← hrel.len]; omega)).mono ?_
  rintro e w2 ⟨v2, rfl, z1, z2, z3⟩
  exact ⟨_, rfl, h.clone hrel hl y3 y1 y2 z2 z1 (Nat.le_refl _) z3⟩
end Go.Proofs.YtlahkeapfcfbbaaDoor
