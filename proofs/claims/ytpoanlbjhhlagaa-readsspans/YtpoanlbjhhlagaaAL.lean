/- All: the spans of a set, in memory of their own. -/
import Derived.Test.YtpoanlbjhhlagaaRS
namespace Go.Proofs.Ytpoanlbjhhlagaa
open Go.RowKit Go.Maps
set_option linter.unusedVariables false

/-- what All leaves: a list of its own, from C on, and the set, which lies below C. -/
def AllOut (w : World) (p B : Nat) (L : List Ee) (O E : Nat → Prop) (r : Ending) (w' : World) : Prop := ∃ C v ys, r = .returned v ∧ w.heap.size ≤ C ∧ Cl C w' v ys ∧ Apt (ers ys) ∧ (∀ k, U (ers ys) k ↔ U L k) ∧ ys.length ≤ L.length ∧ (∀ y ∈ ys, y.e.key.length ≤ 40000 ∧ y.e.val.length ≤ 40000) ∧ ∃ O' E', Sx w' p B L O' E' ∧ Go1 O w O' w' ∧ (∀ k, E' k → E k) ∧ ∀ k, O' k ∨ E' k → k < C
set_option maxHeartbeats 3200000 in
set_option maxRecDepth 1000000 in
theorem all_any {w : World} {p B : Nat} {L : List Ee} {O E : Nat → Prop} (h : Sx w p B L O E) (hn : L.length ≤ 1000) :
    Calls Try.prog 17 #[.pointer (some ⟨p, 0, none⟩)] w (AllOut w p B L O E) := by
  obtain ⟨i0, hi, hz0, hz1, hz2⟩ := info_parts Try.infoE
  have HS := hide (settle_any h hn)
  clear h
  go_enter Try.func17, Try.ntmps17
  go_wp2_with fail
  refine HS.out.mono ?_
  rintro e ws ⟨rfl, O', E', hss, hgo, hE⟩
  have HSS := hide hss
  have HGO := hide hgo
  have HEE := hide hE
  obtain ⟨sv, xs, h1, h2, h3, h6, h7, h8, h9⟩ := hss
  obtain ⟨a, c, rfl, h⟩ := h1.ens
  obtain ⟨s0, s1, f0⟩ := cells_two h1.blk
  have HBF := hide h1
  obtain ⟨n, hnx⟩ : ∃ n, n = xs.length := ⟨_, rfl⟩
  rw [← hnx] at h s0 h6
  have HNX := hide hnx
  have HE := hide h
  have hw : ∀ x ∈ xs, x.e.key.length ≤ 140737488351232 ∧ x.e.val.length ≤ 140737488351232 := fun x hx => by have := h9 x hx; omega
  have HW := hide hw
  have HU := hide h2
  have HAp := hide h3
  have HLn := hide h9
  have HFin : Hid (∀ (wr : World) (ys : List En), ers ys = ers xs → Cl ws.heap.size wr (.slice (some ⟨ws.heap.size, 0, none⟩) n n) ys → Below ws.heap.size ws wr → AllOut w p B L O E (.returned (.slice (some ⟨ws.heap.size, 0, none⟩) n n)) wr) := hide fun wr ys he hcl hbl => by
    refine ⟨ws.heap.size, _, ys, rfl, HGO.out.mv.size, hcl, by rw [he]; exact h3, by rw [he]; exact h2, ?_, fun y hy => ?_, O', E', (HSS.out.below hbl).sx, HGO.out.trans (Go1.of_below hbl), HEE.out, fun k hk => hk.elim (fun h => (HSS.out.sx.olt h).1) fun h => (HSS.out.sx.elt h).1⟩
    · have := congrArg List.length he
      rw [ers_len, ers_len] at this
      omega
    · have hm : y.e ∈ ers xs := by rw [← he]; exact List.mem_map.2 ⟨y, hy, rfl⟩
      obtain ⟨x, hx, e⟩ := List.mem_map.1 hm
      rw [← e]; exact h9 x hx
  clear h hw h1 h2 h3 h7 h8 h9 hnx hgo hE
  go_wp2_with (at_make; refine wpList_make_own _ rfl _ _ 23 rfl ws.heap.size 65 i0 _ 3 Try.underlying23 hi hz0 hz1 _ _ _ n rfl rfl rfl (by rw [hz2]; omega) (by unfold maxLen; omega) (Nat.le_refl _) ?_; intro w0 hown0 hgrow0; have s2 := (cells_two ((hgrow0.block _ (lt_of_block HBF.out.blk) (by simp)).trans HBF.out.blk)).1; rw [← HNX.out] at s2)
  have HC0 : Hid (Cl ws.heap.size w0 (.slice (some ⟨ws.heap.size, 0, none⟩) 0 n) []) := hide ⟨by simpa [rowc] using hown0, (by intro y hy; simp at hy), (by intro i j yi yj k hi; simp at hi)⟩
  have HB0 := hide ((Below.refl ws.heap.size ws).grown hgrow0 (Nat.le_refl _) (fun k h => by cases h))
  clear hown0 hgrow0
  go_loopw [3, 19] (fun s i wr => ∃ (k : Nat) (ys : List En), k ≤ n ∧ i = .int .i64 (k : Int) ∧ s = .slice (some ⟨ws.heap.size, 0, none⟩) k n ∧ ers ys = ers (xs.take k) ∧ Cl ws.heap.size wr (.slice (some ⟨ws.heap.size, 0, none⟩) k n) ys ∧ Below ws.heap.size ws wr) (fun _ i _ => n - (intOf i).toNat)
  case atStart => exact ⟨0, [], Nat.zero_le _, rfl, rfl, by simp [ers], HC0.out, HB0.out⟩
  case round =>
    obtain ⟨k, ys, hk, rfl, rfl, her, hcl, hbl⟩ := hrel
    have HBl := hide hbl
    have HEr := hide her
    have HCl := hide hcl
    clear her hcl
    by_cases hlt : k < n
    · obtain ⟨x, hx, hok⟩ := (HE.out.below hbl).at hlt
      obtain ⟨b, off, rfl, hbs, q0, q1, q2⟩ := (HE.out.below hbl).cells hx
      have hl := HW.out x (List.mem_of_getElem? hx)
      have hBn := below_alloc wr (.cells #[.slice x.ka x.e.key.length x.kc, .slice x.va x.e.val.length x.vc, .bool x.e.del] 65)
      have HX := hide (centry_any x _ (hok.below hBn) hl.1 hl.2)
      have HCl1 := hide (HCl.out.below hBn)
      have HBn := hide (hbl.trans (hBn.mono hbl.size))
      clear hl hok hbl hBn
      go_wp2_with fail
      refine HX.out.mono ?_
      rintro e w2 ⟨y, rfl, hye, hyo, hb2⟩
      simp only [En.v]
      have HYe := hide hye
      have HYo := hide hyo
      have HCl2 := hide (HCl1.out.below hb2)
      have HB2 := hide (HBn.out.trans (hb2.mono HBn.out.size))
      have HW2 := hide hb2
      have HEy : Hid (ers (ys ++ [y]) = ers (xs.take (k + 1))) := by rw [Hid, take_at hx, ers_app, ers_app, HEr.out]; simp [ers, hye]
      have HLn : Hid (ys.length = k) := by have := congrArg List.length HEr.out; rw [ers_len, ers_len, List.length_take, HE.out.len] at this; rw [Hid, this]; omega
      have hyl : ys.length ≤ 1000000 := by rw [HLn.out]; omega
      have hsz : ws.heap.size ≤ w2.heap.size := HB2.out.size
      have hrow := (HCl2.out.below (below_alloc w2 (.cells #[.slice y.ka y.e.key.length y.kc, .slice y.va y.e.val.length y.vc, .bool y.e.del] 65))).row
      rw [HLn.out] at hrow
      obtain ⟨w3, run3, hown3, hg3⟩ := run_append_fits (P := Try.prog) (w2.alloc (.cells #[.slice y.ka y.e.key.length y.kc, .slice y.va y.e.val.length y.vc, .bool y.e.del] 65)) ws.heap.size 23 23 65 i0 3 Try.underlying23 hi hz1 ws.heap.size k n (rowc ys) hrow ⟨w2.heap.size, 0, none⟩ 1 1 y.cells (by rfl) (box_news w2 y) (cells_one y) (by omega)
      have HC3 := hide (HCl1.out.snoc (v' := .slice (some ⟨ws.heap.size, 0, none⟩) (k + 1) n) (w' := w3) HBn.out.size (hb2.trans ((below_alloc w2 _).mono hb2.size)) (hyo.below (below_alloc w2 _)) hg3 (by rw [HLn.out]; exact hown3))
      have HB3 := hide ((HB2.out.alloc hsz _).grown hg3 (by simp; omega) (fun k hk => by cases hk; exact Nat.le_refl _))
      clear hye hyo hb2 hx hown3 hg3 hrow
      go_wp2_with (at_builtin; refine wpList_run_append (by rfl) (.tmp 23) (.tmp 26) 23 (by rfl) (by rfl) (by rfl) run3 ?_)
      go_roundw
      case rel =>
        exact ⟨k + 1, ys ++ [y], by omega, by go_num, by rfl, HEy.out, HC3.out, HB3.out⟩
      case measure => simp [intOf]; omega
    · obtain rfl : k = n := by omega
      have HF : Hid (xs.take k = xs) := hide (List.take_of_length_le (by rw [HE.out.len]; exact Nat.le_refl _))
      go_wp2
      go_ret
      exact HFin.out wr ys (by rw [HEr.out, HF.out]) HCl.out HBl.out
end Go.Proofs.Ytpoanlbjhhlagaa
