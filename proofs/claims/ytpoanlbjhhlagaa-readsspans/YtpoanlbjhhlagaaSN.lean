/- A span is added to a set. -/
import Derived.Test.YtpoanlbjhhlagaaKY
namespace Go.Proofs.Ytpoanlbjhhlagaa
open Go.RowKit Go.Maps
set_option linter.unusedVariables false

/-- what a span adds. -/
def sps (x : Ee) : List Ee := if x.del = true then [⟨x.key, [], true⟩] else if ordI x.key x.val < 0 then [x] else []
set_option maxHeartbeats 3200000 in
set_option maxRecDepth 1000000 in
theorem span_any {w : World} {p B : Nat} {L : List Ee} {O E : Nat → Prop} (h : Sx w p B L O E) (hn : L.length ≤ 900) (x : En) (hx : x.Ok w) (hl : x.e.key.length ≤ 30000 ∧ x.e.val.length ≤ 30000) :
    Calls Try.prog 23 #[.pointer (some ⟨p, 0, none⟩), .agg #[.slice x.ka x.e.key.length x.kc, .slice x.va x.e.val.length x.vc, .bool x.e.del]] w fun e w' => e = .returned (.tuple #[]) ∧ ∃ O' E', Sx w' p B (L ++ sps x.e) O' E' ∧ Go1 O w O' w' ∧ ∀ k, E' k → E k ∨ w.heap.size ≤ k := by
  have hb1 := below_alloc w (.cells #[.slice x.ka x.e.key.length x.kc, .slice x.va x.e.val.length x.vc, .bool x.e.del] 65)
  obtain ⟨b0, b1, b2⟩ := box3 w (.slice x.ka x.e.key.length x.kc) (.slice x.va x.e.val.length x.vc) (.bool x.e.del) 65
  have hp := h.olt h.op
  have hBw : B ≤ w.heap.size := by omega
  have HB1 := hide hb1
  have HK := hide hx.key.byts
  have HH := hide (fun W (hW : Below w.heap.size w W) => h.below hW)
  have HC1 := hide (clone_any x.ka x.e.key.length x.kc x.e.key _ (hx.key.below hb1) (by omega))
  have HCm := hide (compare_any (hx.key.below hb1) (hx.val.below hb1))
  have HCl := hide (centry_any x _ (hx.below hb1) (by omega) (by omega))
  clear h hx hb1
  cases hd : x.e.del
  · rw [hd] at b0 b1 b2 HB1 HC1 HCm HCl
    by_cases hlt : ordI x.e.key x.e.val < 0
    · have hs : sps x.e = [x.e] := by unfold sps; rw [if_neg (by rw [hd]; simp), if_pos hlt]
      rw [hs]
      have HD := hide hd
      go_enter Try.func23, Try.ntmps23
      go_wp2_with (first | (go_at_call 68; refine HCm.out.mono ?_; rintro r' w9 ⟨rfl, rfl⟩))
      refine HCl.out.mono ?_
      rintro e w2 ⟨y, rfl, hye, hyo, hb2⟩
      simp only [En.v]
      have b02 := HB1.out.trans (hb2.mono HB1.out.size)
      have HA := hide (add_any (HH.out w2 b02) hn y (hyo.lo.mono (Nat.le_trans hBw HB1.out.size)) (by rw [hye]; exact .inr ⟨HD.out, hlt⟩) (by rw [hye]; omega))
      have HG := hide (fun k (hk : y.has k) => Nat.le_trans HB1.out.size (hyo.ge hk))
      have HB2 := hide b02
      have HYe := hide hye
      clear hye hyo hb2 b02
      go_wp2_with fail
      refine HA.out.mono ?_
      rintro e w7 ⟨rfl, O', E', g1, g2, g3⟩
      go_wp2
      go_end0
      rw [HYe.out] at g1
      exact ⟨rfl, O', E', g1, (Go1.of_below HB2.out).trans g2, fun k hk => (g3 k hk).imp id (HG.out k)⟩
    · have hs : sps x.e = [] := by unfold sps; rw [if_neg (by rw [hd]; simp), if_neg hlt]
      rw [hs, List.append_nil]
      clear HC1 HCl
      go_enter Try.func23, Try.ntmps23
      go_wp2_with (first | (go_at_call 68; refine HCm.out.mono ?_; rintro r' w9 ⟨rfl, rfl⟩))
      go_end0
      exact ⟨rfl, _, _, HH.out _ HB1.out, Go1.of_below HB1.out, fun k hk => .inl hk⟩
  · rw [hd] at b0 b1 b2 HB1 HC1 HCm HCl
    have hs : sps x.e = [⟨x.e.key, [], true⟩] := by unfold sps; rw [if_pos hd]
    rw [hs]
    clear HCm HCl
    go_enter Try.func23, Try.ntmps23
    go_wp2_with fail
    refine HC1.out.mono ?_
    rintro e w2 ⟨v1, rfl, hm1⟩
    obtain ⟨a1, c1, rfl, -⟩ := hm1.1.shape
    have b02 := HB1.out.trans (hm1.2.2.mono HB1.out.size)
    have HA := hide (add_any (HH.out w2 b02) hn ⟨⟨x.e.key, [], true⟩, a1, c1, none, 0⟩ ⟨hm1.1, Own.nil _, fun k hk => Nat.le_trans hBw (Nat.le_trans HB1.out.size (hm1.2.1 k hk)), fun k hk => by simp [Value.ownBlock] at hk, HK.out, by intro c hc; simp at hc⟩ (.inl ⟨rfl, rfl⟩) ⟨by show x.e.key.length ≤ 40000; omega, by simp⟩)
    have HG : Hid (∀ k, (⟨⟨x.e.key, [], true⟩, a1, c1, none, 0⟩ : En).has k → w.heap.size ≤ k) := hide fun k hk => by
      rcases hk with hk | hk
      · exact Nat.le_trans HB1.out.size (hm1.2.1 k hk)
      · simp [Value.ownBlock] at hk
    have HB2 := hide b02
    clear hm1 b02
    go_wp2_with fail
    refine HA.out.mono ?_
    rintro e w7 ⟨rfl, O', E', g1, g2, g3⟩
    go_wp2
    go_end0
    exact ⟨rfl, O', E', g1, (Go1.of_below HB2.out).trans g2, fun k hk => (g3 k hk).imp id (HG.out k)⟩
end Go.Proofs.Ytpoanlbjhhlagaa
