/- Whether a value is a document or has one below it, of any value. -/
import Derived.Test.YtegoeaofjnpehaaVJ
import Derived.Test.YtegoeaofjnpehaaI
namespace Go.Proofs.Ytegoeaofjnpehaa
open Go.RowKit
set_option linter.unusedVariables false

mutual
def T.hd : T → Bool
  | .mk k _ _ _ _ _ _ _ _ l _ _ _ => decide (k = 7) || l.hd
def TL.hd : TL → Bool
  | .nil => false
  | .cons v r => v.hd || r.hd
end
theorem TL.hd_is (l : TL) : l.hd = l.list.any T.hd := by
  match l with
  | .nil => simp [TL.hd, TL.list]
  | .cons v r => simp [TL.hd, TL.list, TL.hd_is r]

set_option maxHeartbeats 1600000 in
set_option maxRecDepth 1000000 in
theorem index_gen (n₀ : Nat) (la : Option Addr) (lc : Nat) (l : TL) (w : World) (hm : l.Mem n₀ w la 0) (hlen : l.list.length ≤ 9223372036854775807) (hn : n₀ ≤ w.heap.size)
    (HI : Hid (∀ c ∈ l.list, ∀ W, c.Mem n₀ W → n₀ ≤ W.heap.size → Calls Try.prog 24 #[c.val] W fun e w' => e = .returned (.bool c.hd) ∧ Below W.heap.size W w')) :
    Calls Try.prog 51 #[.slice la l.list.length lc, .func (.func 24) #[] #[]] w fun e w' => (∃ i : Int, e = .returned (.int .i64 i) ∧ decide (0 ≤ i) = l.hd) ∧ Below w.heap.size w w' := by
  have HM := hide hm
  clear hm
  have HH := hide (TL.hd_is l)
  go_enter Try.func51, Try.ntmps51
  go_wp2
  go_loopw [8] (fun i wr => ∃ j : Nat, j ≤ l.list.length ∧ i = .int .i64 (j : Int) ∧ Below w.heap.size w wr ∧ w.heap.size ≤ wr.heap.size ∧ ∀ c ∈ l.list.take j, c.hd = false) (fun i _ => l.list.length - (intOf i).toNat)
  case atStart => exact ⟨0, by omega, rfl, Below.refl _ _, Nat.le_refl _, by simp⟩
  case round =>
    obtain ⟨j, hj, rfl, hB, hS, hA⟩ := hrel
    have HB := hide hB
    have HA := hide hA
    clear hB hA
    by_cases hlt : j < l.list.length
    · obtain ⟨c, hc⟩ : ∃ c, l.list[j]? = some c := ⟨_, List.getElem?_eq_getElem hlt⟩
      have HTk := hide (take_next l.list j c hc)
      have hmem : c ∈ l.list := List.mem_of_getElem? hc
      have HMw := hide (HM.out.on (HB.out.mono hn))
      have HIc := hide (fun W => HI.out c hmem W)
      have HMc := hide (TL.Mem.at l 0 HMw.out j c hc).2
      have HMem := hide hmem
      clear hmem
      cases c with
      | mk ck cbo cn ct cya cyc cy cla clc cl cfa cfc cf =>
      obtain ⟨b', o', rfl, hb', c0, c1, c2, c3, c4, c5, c6⟩ := HMw.out.cells hc
      clear hc
      simp only [T.val] at HIc
      go_wp2_with fail
      refine (HIc.out wr HMc.out (by omega)).mono ?_
      rintro e W3 ⟨rfl, hb3⟩
      have HB3 := hide hb3
      clear hb3 c0 c1 c2 c3 c4 c5 c6
      generalize hβ : (T.mk ck cbo cn ct cya cyc cy cla clc cl cfa cfc cf).hd = β at *
      have HBe := hide hβ
      clear hβ
      cases β
      · go_wp2
        go_roundw
        case rel => exact ⟨j + 1, by omega, by go_num, HB.out.trans (HB3.out.mono hS), Nat.le_trans hS HB3.out.size, by rw [HTk.out]; intro c hc; rcases List.mem_append.1 hc with h | h; exact HA.out c h; rw [List.mem_singleton.1 h]; exact HBe.out⟩
        case measure => simp [intOf]; omega
      · go_wp2
        go_ret
        exact ⟨⟨_, rfl, by rw [HH.out]; have : l.list.any T.hd = true := List.any_eq_true.2 ⟨_, HMem.out, HBe.out⟩; rw [this]; simp⟩, HB.out.trans (HB3.out.mono hS)⟩
    · go_wp2
      go_ret
      refine ⟨⟨_, rfl, ?_⟩, HB.out⟩
      have hall := HA.out
      rw [List.take_of_length_le (by omega)] at hall
      have : l.list.any T.hd = false := List.any_eq_false.2 (fun c hc => by rw [hall c hc]; simp)
      rw [HH.out, this]
      rfl
set_option maxHeartbeats 800000 in
theorem contains_gen (n₀ : Nat) (la : Option Addr) (lc : Nat) (l : TL) (w : World) (hm : l.Mem n₀ w la 0) (hlen : l.list.length ≤ 9223372036854775807) (hn : n₀ ≤ w.heap.size)
    (HI : Hid (∀ c ∈ l.list, ∀ W, c.Mem n₀ W → n₀ ≤ W.heap.size → Calls Try.prog 24 #[c.val] W fun e w' => e = .returned (.bool c.hd) ∧ Below W.heap.size W w')) :
    Calls Try.prog 35 #[.slice la l.list.length lc, .func (.func 24) #[] #[]] w fun e w' => e = .returned (.bool l.hd) ∧ Below w.heap.size w w' := by
  have HC := hide (index_gen n₀ la lc l w hm hlen hn HI)
  clear hm
  go_enter Try.func35, Try.ntmps35
  go_wp2_with fail
  refine HC.out.mono ?_
  rintro e w1 ⟨⟨i, rfl, hi⟩, hb⟩
  have HD := hide hi
  have HB := hide hb
  clear hi hb
  go_wp2
  go_ret
  exact ⟨ret_bool HD.out, HB.out⟩
set_option maxHeartbeats 800000 in
theorem hasdoc_gen (n₀ : Nat) : ∀ (N : Nat) (v : T), v.sz ≤ N → ∀ (w : World), v.Mem n₀ w → n₀ ≤ w.heap.size → Calls Try.prog 24 #[v.val] w fun e w' => e = .returned (.bool v.hd) ∧ Below w.heap.size w w' := by
  intro N
  induction N with
  | zero => intro v hv; cases v; simp [T.sz] at hv
  | succ N ih =>
    intro v hv w hm hn
    cases v with
    | mk k bo n t ya yc y la lc l fa fc f =>
    have HI : Hid (∀ c ∈ l.list, ∀ W, c.Mem n₀ W → n₀ ≤ W.heap.size → Calls Try.prog 24 #[c.val] W fun e w' => e = .returned (.bool c.hd) ∧ Below W.heap.size W w') := by
      intro c hc W h1 h2
      refine ih c ?_ W h1 h2
      have := T.kid_sz (.mk k bo n t ya yc y la lc l fa fc f) c (by simp only [T.kids]; exact List.mem_append_left _ hc)
      omega
    clear ih hv
    have HX := hide (below_alloc w (.cells #[.int .u8 k, .bool bo, .int .i64 n, .string t, .slice ya y.length yc, .slice la l.list.length lc, .slice fa f.list.length fc] 41))
    have HC := hide (contains_gen n₀ la lc l _ ((hm.2.2.2.2.1).on (HX.out.mono hn)) hm.2.2.2.2.2.2.1 (by simp; omega) HI)
    clear hm
    simp only [T.val, T.hd]
    by_cases hk : k = 7
    · subst hk
      go_enter Try.func24, Try.ntmps24
      go_wp2
      go_ret
      exact ⟨by simp, HX.out⟩
    · have hk2 : (k == 7) = false := by simp [hk]
      have HK := hide hk
      clear hk
      go_enter Try.func24, Try.ntmps24
      go_wp2_with fail
      refine HC.out.mono ?_
      rintro e w1 ⟨rfl, hb⟩
      have HB := hide hb
      clear hb
      generalize hβ : l.hd = β at *
      have HBe := hide hβ
      clear hβ
      go_wp2
      go_ret
      exact ⟨ret_bool (by simp [HK.out]; exact HBe.out.symm), HX.out.trans (HB.out.mono (by simp))⟩
end Go.Proofs.Ytegoeaofjnpehaa
