/- Copies of nodes; where a node is parted. -/
import Derived.Test.YtjojpohnmfkanaaHB
namespace Go.Proofs.Ytjojpohnmfkanaa
open Go.RowKit
set_option linter.unusedVariables false

theorem pair_boxes (w : World) (a b c d : Value) : Below w.heap.size w ((w.alloc (.cells #[a, b] 25)).alloc (.cells #[c, d] 25)) ∧ ((w.alloc (.cells #[a, b] 25)).alloc (.cells #[c, d] 25)).heap[w.heap.size]? = some (.cells #[a, b] 25 (0, 0)) ∧ ((w.alloc (.cells #[a, b] 25)).alloc (.cells #[c, d] 25)).heap[w.heap.size + 1]? = some (.cells #[c, d] 25 (0, 0)) ∧ ((w.alloc (.cells #[a, b] 25)).alloc (.cells #[c, d] 25)).heap.size = w.heap.size + 2 := by
  refine ⟨two_alloc _ _, (Below.heap_alloc _ _ _ (by simp)).trans (heap_alloc_new w _), ?_, by simp⟩
  have := heap_alloc_new (w.alloc (.cells #[a, b] 25)) (.cells #[c, d] 25)
  rwa [World.size_alloc] at this
theorem two_set {w : World} {q t : Nat} {a b u v : Value} (h : w.heap[q]? = some (.cells #[a, b] t (0, 0))) : ((w.setCell ⟨q, 0, none⟩ u).setCell ⟨q, 1, none⟩ v).heap[q]? = some (.cells #[u, v] t (0, 0)) := by
  have h1 : (w.setCell ⟨q, 0, none⟩ u).heap[q]? = some (.cells #[u, b] t (0, 0)) := by rw [heap_setCell_same w q 0 _ t _ h]; rfl
  rw [heap_setCell_same _ q 1 _ t _ h1]; rfl
theorem frozen_blk {w : World} {q t j : Nat} {cs : Array Value} (h : w.heap[q]? = some (.cells cs t (0, 0))) : w.frozen? ⟨q, j, none⟩ = false := by simp [World.frozen?, h]
theorem Cl.mono {B C : Nat} {w : World} {v : Value} {ys : List En} (h : Cl C w v ys) (hb : B ≤ C) : Cl B w v ys := by
  refine ⟨⟨h.row.1, ?_⟩, fun y hy => (h.each y hy).mono hb, h.apart⟩
  rcases h.row.2 with h2 | ⟨g, cap, cur, rfl, hg, r⟩
  · exact .inl h2
  · exact .inr ⟨g, cap, cur, rfl, Nat.le_trans hb hg, r⟩
theorem Cl.other {B : Nat} {w w' : World} {v : Value} {ys : List En} (h : Cl B w v ys) (hb : ∀ k, B ≤ k → w'.heap[k]? = w.heap[k]?) : Cl B w' v ys :=
  h.of_block (fun k hk => hb k (h.block hk).1) (fun y hy k hk => hb k ((h.each y hy).ge hk))
set_option maxHeartbeats 3200000 in
set_option maxRecDepth 1000000 in
theorem cnode_any (leaf : Bool) (a : Option Addr) (n c : Nat) (xs : List En) (w : World) (h : Ens w a n c xs) (hn : n ≤ 1000000) (hw : wts (ers xs) ≤ 1000000) :
    Calls Try.prog 61 #[.agg #[.bool leaf, .slice a n c]] w fun e w' => ∃ v ys, e = .returned (.agg #[.bool leaf, v]) ∧ ers ys = ers xs ∧ Cl w.heap.size w' v ys ∧ Below w.heap.size w w' := by
  obtain ⟨hB, hb0, hb1, hs1⟩ := pair_boxes w (.bool leaf) (.slice a n c) (.bool false) (.slice none 0 0)
  obtain ⟨c0, c1, -⟩ := cells_two hb0
  have HC := hide (fun W (hW : Below ((w.alloc (.cells #[.bool leaf, .slice a n c] 25)).alloc (.cells #[.bool false, .slice none 0 0] 25)).heap.size ((w.alloc (.cells #[.bool leaf, .slice a n c] 25)).alloc (.cells #[.bool false, .slice none 0 0] 25)) W) => centries_any a n c xs W ((h.below hB).below hW) hn hw)
  have HB := hide hB
  have HB0 := hide hb0
  have HB1 := hide hb1
  have HS1 := hide hs1
  clear h hB hb0 hb1 hs1
  go_enter Try.func61, Try.ntmps61
  go_wp2
  generalize (w.alloc (.cells #[.bool leaf, .slice a n c] 25)).alloc (.cells #[.bool false, .slice none 0 0] 25) = w1 at *
  go_region_with (first
    | (go_at_call 63; refine (HC.out _ (Below.refl _ _).drew).mono ?_; rintro e w2 ⟨v, ys, rfl, her, hcl, hso, hb2⟩; obtain ⟨a2, c2, rfl, -⟩ := hcl.ens; have HB2 := hide ((Below.refl w1.heap.size w1).drew.trans hb2); have hbz0 := (HB2.out.block _ (lt_of_block HB0.out)).trans HB0.out; have hbz1 := (HB2.out.block _ (lt_of_block HB1.out)).trans HB1.out; obtain ⟨d0, d1, -⟩ := cells_two hbz0; obtain ⟨f0, f1, -⟩ := cells_two hbz1; have g0 := frozen_blk (j := 0) hbz1; have g1 := frozen_blk (j := 1) hbz1; have HBz1 := hide hbz1; have HEr := hide her; have HCl := hide hcl; clear her hcl hso hb2 hbz0 hbz1))
  all_goals
    go_wp2
    have hf := two_set (u := .bool leaf) (v := .slice a2 ys.length c2) HBz1.out
    obtain ⟨q0, q1, -⟩ := cells_two hf
    refine bodyPost_ret (v := .agg #[.bool leaf, .slice a2 ys.length c2]) ?_ rfl ?_
    · simp [results, Try.results61, go_sem, q0, q1]
    · have hcl : Cl (w.heap.size + 2) w2 (.slice a2 ys.length c2) ys := by have := HCl.out; simp only [World.drew] at this; rw [HS1.out] at this; exact this
      exact ⟨_, ys, rfl, HEr.out, (hcl.other (fun k hk => two_other (by omega))).mono (by omega), ((HB.out.trans (HB2.out.mono HB.out.size)).setCell (p := ⟨w.heap.size + 1, 0, none⟩) (show w.heap.size ≤ w.heap.size + 1 by omega) _).setCell (p := ⟨w.heap.size + 1, 1, none⟩) (show w.heap.size ≤ w.heap.size + 1 by omega) _⟩
end Go.Proofs.Ytjojpohnmfkanaa
/- Where a node is parted. -/
namespace Go.Proofs.Ytjojpohnmfkanaa
open Go.RowKit
set_option linter.unusedVariables false

/-- the first half has m entries. -/
structure Mid (leaf : Bool) (es : List Ee) (m : Nat) : Prop where
  one : 1 ≤ m
  some : m + 1 ≤ es.length
  small : ∀ j, 1 ≤ j → j < m → esum leaf (es.take j) < (esum leaf es + 1) / 2
  big : (esum leaf es + 1) / 2 ≤ esum leaf (es.take m) ∨ m + 1 = es.length
set_option maxHeartbeats 3200000 in
set_option maxRecDepth 1000000 in
theorem middle_any (leaf : Bool) (a : Option Addr) (n c : Nat) (xs : List En) (w : World) (h : Ens w a n c xs) (hn : n ≤ 1000000) (hw : wts (ers xs) ≤ 1000000) (h2 : 2 ≤ n) :
    Calls Try.prog 62 #[.agg #[.bool leaf, .slice a n c]] w fun e w' => ∃ m : Nat, e = .returned (.int .i64 (m : Int)) ∧ Mid leaf (ers xs) m ∧ Below w.heap.size w w' := by
  have hb := heap_alloc_new w (.cells #[.bool leaf, .slice a n c] 25)
  obtain ⟨n0, n1, -⟩ := cells_two hb
  have hB0 := below_alloc w (.cells #[.bool leaf, .slice a n c] 25)
  have HB0 := hide hB0
  have HE := hide (h.below hB0)
  have HB := hide hb
  have HS := hide (size_any leaf a n c xs _ HE.out hn hw)
  have hsum : esum leaf (ers xs) ≤ 11000000 := by have := esum_le leaf (ers xs); rw [ers_len, h.len] at this; omega
  have HSum := hide hsum
  have HW := hide hw
  have hcap := h.cap
  have hmax := h.max
  have HD : Hid (nsz leaf (ers xs) = 2 + esum leaf (ers xs)) := hide rfl
  rw [HD.out] at HS
  clear h hB0 hb hw HD
  generalize hTT : esum leaf (ers xs) = T at *
  have HTT := hide hTT
  clear hTT
  go_enter Try.func62, Try.ntmps62
  go_wp2_with fail
  refine HS.out.mono ?_
  rintro e w2 ⟨rfl, hb2⟩
  have hbk := (hb2.block _ (lt_of_block HB.out)).trans HB.out
  obtain ⟨m0, m1, -⟩ := cells_two hbk
  have HE2 := hide (HE.out.below hb2)
  have HB2 := hide (HB0.out.trans (hb2.mono HB0.out.size))
  have HBk2 := hide hbk
  clear hb2 hbk HS
  go_wp2
  have eH : (2 + (T : Int) - 2 + 1) / 2 = (((T + 1) / 2 : Nat) : Int) := by omega
  rw [eH]
  clear eH
  obtain ⟨L, hL⟩ : ∃ L, n = L + 1 := ⟨n - 1, by omega⟩
  have HNL := hide hL
  have HT2 : Hid ((T + 1) / 2 = (esum leaf (ers xs) + 1) / 2) := by rw [Hid, HTT.out]
  generalize (T + 1) / 2 = H at *
  rw [show (n : Int) - 1 = (L : Int) by omega, show n - 1 = L by omega]
  have HLn := hide (HE2.out.len.trans hL)
  have hLn : L < n := by omega
  clear hL
  go_loopw [5, 22] (fun s i wr => ∃ k : Nat, k ≤ L ∧ i = .int .i64 (k : Int) ∧ s = .int .i64 ((esum leaf (ers (xs.take k)) : Nat) : Int) ∧ (∀ j, 1 ≤ j → j ≤ k → esum leaf ((ers xs).take j) < (esum leaf (ers xs) + 1) / 2) ∧ Below w2.heap.size w2 wr) (fun _ i _ => L - (intOf i).toNat)
  case atStart => exact ⟨0, Nat.zero_le _, rfl, by simp [ers, esum], fun j h1 h2 => by omega, Below.refl _ _⟩
  case round =>
    obtain ⟨k, hk, rfl, rfl, hsm, hbl⟩ := hrel
    have HSm := hide hsm
    have HBl := hide hbl
    clear hsm
    obtain ⟨y0, y1, -⟩ := cells_two ((hbl.block _ (lt_of_block HBk2.out)).trans HBk2.out)
    by_cases hlt : k < L
    · obtain ⟨x, hx, hok⟩ := (HE2.out.below hbl).at (show k < n by omega)
      obtain ⟨b, off, rfl, hbs, c0, c1, c2, c3⟩ := (HE2.out.below hbl).cells hx
      have hl := mem_wts hx
      have HX := hide (fun W => esize_any leaf x W (by have := HW.out; omega) (by have := HW.out; omega))
      have hs1 := esum_snoc leaf xs k x hx
      have hs2 := esum_take_le leaf xs (k + 1)
      have hs3 : esum leaf (ers (xs.take k)) ≤ 11000000 := by have := HSum.out; have := HTT.out; omega
      have hz : (x.e.sz leaf : Int) ≤ 11000000 := by have := HSum.out; have := HTT.out; omega
      have HS1 := hide hs1
      have hBn := below_alloc wr (.cells #[.slice x.ka x.e.key.length x.kc, .slice x.va x.e.val.length x.vc, .int .u32 (x.e.page : Int), .int .u32 (x.e.size : Int)] 68)
      have HBn := hide (hbl.trans (hBn.mono hbl.size))
      have y2 := (hBn.cell (p := ⟨w.heap.size, 0, none⟩) (World.block_lt_of_cell? wr _ y0)).trans y0
      clear hs1 hs2 hl hok hbl hx hBn
      have HEr : Hid ((ers xs).take (k + 1) = ers (xs.take (k + 1))) := hide (ers_take xs (k + 1))
      generalize esum leaf (ers (xs.take k)) = E at *
      generalize x.e.sz leaf = Z at *
      by_cases hg : H ≤ E + Z
      · have d1 : (H : Int) ≤ (E : Int) + (Z : Int) := by omega
        have HG := hide hg
        clear hg
        go_wp2_with (go_at_call 70; refine (HX.out _).mono ?_; rintro e w3 ⟨rfl, hb3⟩)
        go_ret
        exact ⟨k + 1, rfl, ⟨by omega, by rw [ers_len, HLn.out]; omega, fun j h1 h2 => HSm.out j h1 (by omega), .inl (by rw [← HT2.out, HEr.out, HS1.out]; exact HG.out)⟩, HB2.out.trans ((HBn.out.trans (hb3.mono HBn.out.size)).mono HB2.out.size)⟩
      · have d1 : ¬ (H : Int) ≤ (E : Int) + (Z : Int) := by omega
        have HG := hide hg
        clear hg
        go_wp2_with (go_at_call 70; refine (HX.out _).mono ?_; rintro e w3 ⟨rfl, hb3⟩)
        go_roundw
        case rel =>
          refine ⟨k + 1, by omega, by go_num, by rw [HS1.out]; go_num, fun j h1 h2 => ?_, HBn.out.trans (hb3.mono HBn.out.size)⟩
          by_cases e : j = k + 1
          · subst e
            rw [← HT2.out, HEr.out, HS1.out]
            have := HG.out
            omega
          · exact HSm.out j h1 (by omega)
        case measure => simp [intOf]; omega
    · obtain rfl : k = L := by omega
      go_wp2
      go_ret
      exact ⟨k, rfl, ⟨by have := HNL.out; omega, by rw [ers_len, HLn.out]; omega, fun j h1 h2 => HSm.out j h1 (by omega), .inr (by rw [ers_len, HLn.out])⟩, HB2.out.trans (HBl.out.mono HB2.out.size)⟩
end Go.Proofs.Ytjojpohnmfkanaa
