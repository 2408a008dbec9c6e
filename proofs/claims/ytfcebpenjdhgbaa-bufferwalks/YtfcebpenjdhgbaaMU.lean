/- Are the calls more than is looked at? -/
import Derived.Test.YtfcebpenjdhgbaaAC
namespace Go.Proofs.Ytfcebpenjdhgbaa
open Go.RowKit
set_option linter.unusedVariables false

def Mu (xs : List Ac) (k r : Nat) : Prop := ∀ i x, i < k → xs[i]? = some x → x.db.length / 8 ≤ r ∧ x.kb.length / 8 ≤ r
theorem Mu.zero (xs : List Ac) (r : Nat) : Mu xs 0 r := fun i x hi => by omega
theorem Mu.next {xs : List Ac} {k r d : Nat} {x : Ac} (h : Mu xs k r) (hx : xs[k]? = some x) (hd : x.db.length / 8 + x.kb.length / 8 ≤ d) : Mu xs (k + 1) (r + d) := by
  intro i y hi hy
  by_cases e : i = k
  · subst e
    rw [hx] at hy
    cases hy
    omega
  · have := h i y (by omega) hy
    omega
def MuchOut (xs : List Ac) (e : Ending) : Prop := e = .returned (.bool true) ∨ (e = .returned (.bool false) ∧ xs.length ≤ 300 ∧ ∀ x ∈ xs, x.db.length ≤ 30000 ∧ x.kb.length ≤ 30000)
set_option maxHeartbeats 3200000 in
set_option maxRecDepth 1000000 in
theorem much_any (a : Option Addr) (n c : Nat) (xs : List Ac) (w : World) (h : Acs w a n c xs) (hs : Sza xs) :
    Calls Try.prog 5 #[.slice a n c] w fun e w' => MuchOut xs e ∧ Below w.heap.size w w' := by
  have HE := hide h
  have HS := hide hs
  have hnn : n ≤ 140737488355328 := by have := hs.1; rwa [h.len] at this
  clear h hs
  go_enter Try.func5, Try.ntmps5
  go_wp2
  go_loopw [3, 4] (fun s i wr => ∃ (k r : Nat), k ≤ n ∧ i = .int .i64 (k : Int) ∧ s = .int .i64 (r : Int) ∧ r ≤ 422212500000000 ∧ n ≤ r ∧ Hid (Mu xs k r) ∧ Below w.heap.size w wr) (fun _ i _ => n - (intOf i).toNat)
  case atStart => exact ⟨0, n, Nat.zero_le _, rfl, rfl, by omega, Nat.le_refl _, hide (Mu.zero xs n), Below.refl _ _⟩
  case round =>
    obtain ⟨k, r, hk, rfl, rfl, hr, hnr, HMu, hb⟩ := hrel
    have HB := hide hb
    clear hb
    by_cases hlt : k < n
    · have d1 : (k : Int) < (n : Int) := by omega
      by_cases hr2 : r ≤ 3000
      · have d2 : (r : Int) ≤ 3000 := by omega
        obtain ⟨x, b, off, hx, rfl, hbl, hat, hok⟩ := (HE.out.below HB.out).at hlt
        have hsz := HS.out.2 x (List.mem_of_getElem? hx)
        have l1 : x.db.length ≤ 140737488355328 := hsz.1
        have l2 : x.kb.length ≤ 140737488355328 := hsz.2
        have c1 : ∀ q, (wr.drewN q).cell? ⟨b, off + k * 5 + 1, none⟩ = some (.slice x.da x.db.length x.dc) := fun q => hat.c1
        have c2 : ∀ q, (wr.drewN q).cell? ⟨b, off + k * 5 + 2, none⟩ = some (.slice x.ka x.kb.length x.kc) := fun q => hat.c2
        have HM1 : Hid (∀ d, x.db.length / 8 + x.kb.length / 8 ≤ d → Mu xs (k + 1) (r + d)) := hide (fun d hd => HMu.out.next hx hd)
        clear hx hat hok hsz
        generalize x.db.length = ld at *
        generalize x.kb.length = lk at *
        go_wp2
        go_quiet (fail)
        have HBn := hide (below_drewN HB.out nq)
        clear c1 c2
        generalize wr.drewN nq = wn at *
        go_wp2
        refine ⟨⟨k + 1, r + (ld / 8 + lk / 8), by omega, by go_num, by go_num, by omega, by omega, hide (HM1.out _ (by omega)), HBn.out⟩, ?_⟩
        simp [intOf]; omega
      · have d2 : ¬ (r : Int) ≤ 3000 := by omega
        have d3 : (3000 : Int) < (r : Int) := by omega
        go_wp2
        go_ret
        exact ⟨.inl rfl, HB.out⟩
    · have d1 : ¬ (k : Int) < (n : Int) := by omega
      by_cases hr2 : r ≤ 3000
      · have d2 : ¬ (3000 : Int) < (r : Int) := by omega
        by_cases hn3 : n ≤ 300
        · have d3 : ¬ (300 : Int) < (n : Int) := by omega
          go_wp2
          go_ret
          exact ⟨.inr ⟨rfl, by rw [HE.out.len]; exact hn3, fun x hx => by
            obtain ⟨i, hi, e⟩ := List.getElem_of_mem hx
            have hl := HE.out.len
            have := HMu.out i x (by omega) (by rw [List.getElem?_eq_getElem hi, e])
            omega⟩, HB.out⟩
        · have d3 : (300 : Int) < (n : Int) := by omega
          go_wp2
          go_ret
          exact ⟨.inl rfl, HB.out⟩
      · have d2 : (3000 : Int) < (r : Int) := by omega
        go_wp2
        go_ret
        exact ⟨.inl rfl, HB.out⟩
end Go.Proofs.Ytfcebpenjdhgbaa
