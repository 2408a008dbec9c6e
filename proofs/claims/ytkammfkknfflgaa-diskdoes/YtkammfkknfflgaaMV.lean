/- Are the acts more than is looked at? -/
import Derived.Test.YtkammfkknfflgaaAD
namespace Go.Proofs.Ytkammfkknfflgaa
open Go.RowKit
set_option linter.unusedVariables false

def Mu (xs : List Ac) (k r : Nat) : Prop := k ≤ r ∧ ∀ i x, i < k → xs[i]? = some x → x.db.length ≤ r ∧ x.kb.length ≤ r
theorem Mu.zero (xs : List Ac) : Mu xs 0 0 := ⟨Nat.le_refl _, fun i x hi => by omega⟩
theorem Mu.next {xs : List Ac} {k r d : Nat} {x : Ac} (h : Mu xs k r) (hx : xs[k]? = some x) (hd : x.db.length + x.kb.length + 1 ≤ d) : Mu xs (k + 1) (r + d) := by
  have h1 := h.1
  refine ⟨by omega, ?_⟩
  intro i y hi hy
  by_cases e : i = k
  · subst e
    rw [hx] at hy
    cases hy
    omega
  · have := h.2 i y (by omega) hy
    omega
def MuchOut (xs : List Ac) (e : Ending) : Prop := e = .returned (.bool true) ∨ (e = .returned (.bool false) ∧ xs.length ≤ 2000000 ∧ ∀ x ∈ xs, x.db.length ≤ 2000000 ∧ x.kb.length ≤ 2000000)
theorem below_drewN {w w' : World} (h : Below w.heap.size w w') (k : Nat) : Below w.heap.size w (w'.drewN k) := ⟨h.os, h.tape, h.output, h.size, h.block⟩
set_option maxHeartbeats 3200000 in
set_option maxRecDepth 1000000 in
theorem much_any (a : Option Addr) (n c : Nat) (xs : List Ac) (w : World) (h : Acs w a n c xs) (hs : Sza xs) (pg : Nat) (hpg : pg ≤ 16384) :
    Calls Try.prog 8 #[.int .i64 (pg : Int), .slice a n c] w fun e w' => MuchOut xs e ∧ Below w.heap.size w w' := by
  have HE := hide h
  have HS := hide hs
  have hnn : n ≤ 140737488355328 := by have := hs.1; rwa [h.len] at this
  clear h hs
  go_enter Try.func8, Try.ntmps8
  go_wp2
  go_loopw [5, 6] (fun s i wr => ∃ (k r : Nat), k ≤ n ∧ i = .int .i64 (k : Int) ∧ s = .int .i64 (r : Int) ∧ r ≤ 422212500000000 ∧ Hid (Mu xs k r) ∧ Below w.heap.size w wr) (fun _ i _ => n - (intOf i).toNat)
  case atStart => exact ⟨0, 0, Nat.zero_le _, rfl, rfl, by omega, hide (Mu.zero xs), Below.refl _ _⟩
  case round =>
    obtain ⟨k, r, hk, rfl, rfl, hr, HMu, hb⟩ := hrel
    have HB := hide hb
    clear hb
    by_cases hlt : k < n
    · have d1 : (k : Int) < (n : Int) := by omega
      by_cases hr2 : r ≤ 2000000
      · have d2 : (r : Int) ≤ 2000000 := by omega
        obtain ⟨x, b, off, hx, rfl, hbl, hat, hok⟩ := (HE.out.below HB.out).at hlt
        have hsz := HS.out.2 x (List.mem_of_getElem? hx)
        have l1 : x.db.length ≤ 140737488355328 := hsz.1
        have l2 : x.kb.length ≤ 140737488355328 := hsz.2
        have hxk := hok.k
        have c0 : ∀ q, (wr.drewN q).cell? ⟨b, off + k * 5, none⟩ = some (.int .u8 (x.k : Int)) := fun q => hat.c0
        have c3 := hat.c3
        have c4 := hat.c4
        have HM1 : Hid (∀ d, x.db.length + x.kb.length + 1 ≤ d → Mu xs (k + 1) (r + d)) := hide (fun d hd => HMu.out.next hx hd)
        clear hx hat hok hsz
        generalize x.db.length = ld at *
        generalize x.kb.length = lk at *
        go_wp2
        go_quiet (fail)
        have c0' := c0 nq
        have HBn := hide (below_drewN HB.out nq)
        clear c0
        generalize wr.drewN nq = wn at *
        by_cases h6 : x.k % 9 = 6
        · have e6 : (x.k : Int) % 9 = 6 := by omega
          go_wp2
          go_roundw
          case rel => exact ⟨k + 1, r + (ld + lk + 1 + pg * 1024), by omega, by go_num, by go_num, by omega, hide (HM1.out _ (by omega)), HBn.out⟩
          case measure => simp [intOf]; omega
        · have e6 : ¬ (x.k : Int) % 9 = 6 := by omega
          have e7 : (((x.k : Int) % 9) == 6) = false := by simpa using e6
          go_wp2
          go_roundw
          case rel => exact ⟨k + 1, r + (ld + lk + 1), by omega, by go_num, by go_num, by omega, hide (HM1.out _ (by omega)), HBn.out⟩
          case measure => simp [intOf]; omega
      · have d2 : ¬ (r : Int) ≤ 2000000 := by omega
        have d3 : (2000000 : Int) < (r : Int) := by omega
        go_wp2
        go_ret
        exact ⟨.inl rfl, HB.out⟩
    · have d1 : ¬ (k : Int) < (n : Int) := by omega
      by_cases hr2 : r ≤ 2000000
      · have d2 : ¬ (2000000 : Int) < (r : Int) := by omega
        go_wp2
        go_ret
        exact ⟨.inr ⟨rfl, (by have h1 := HE.out.len; have h2 := HMu.out.1; omega), fun x hx => by
          obtain ⟨i, hi, e⟩ := List.getElem_of_mem hx
          have hl := HE.out.len
          have := HMu.out.2 i x (by omega) (by rw [List.getElem?_eq_getElem hi, e])
          omega⟩, HB.out⟩
      · have d2 : (2000000 : Int) < (r : Int) := by omega
        go_wp2
        go_ret
        exact ⟨.inl rfl, HB.out⟩
end Go.Proofs.Ytkammfkknfflgaa
