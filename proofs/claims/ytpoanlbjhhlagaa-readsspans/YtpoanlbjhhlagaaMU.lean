/- Are keys, are spans more than is looked at? -/
import Derived.Test.YtpoanlbjhhlagaaFL
import Derived.Deep.QuietTactic
namespace Go.Proofs.Ytpoanlbjhhlagaa
open Go.RowKit
set_option linter.unusedVariables false

def Szk (ks : List Ky) : Prop := ks.length ≤ 140737488355328 ∧ ∀ x ∈ ks, x.key.length ≤ 140737488355328
def Szs (xs : List En) : Prop := xs.length ≤ 140737488355328 ∧ ∀ x ∈ xs, x.e.key.length ≤ 140737488355328 ∧ x.e.val.length ≤ 140737488355328
def Mu (xs : List En) (k r : Nat) : Prop := ∀ i x, i < k → xs[i]? = some x → x.e.key.length ≤ r ∧ x.e.val.length ≤ r
theorem Mu.zero (xs : List En) (r : Nat) : Mu xs 0 r := fun i x hi => by omega
theorem Mu.next {xs : List En} {k r d : Nat} {x : En} (h : Mu xs k r) (hx : xs[k]? = some x) (hd : x.e.key.length + x.e.val.length ≤ d) : Mu xs (k + 1) (r + d) := by
  intro i y hi hy
  by_cases e : i = k
  · subst e
    rw [hx] at hy
    cases hy
    omega
  · have := h i y (by omega) hy
    omega
def MuchOut (xs : List En) (e : Ending) : Prop := e = .returned (.bool true) ∨ (e = .returned (.bool false) ∧ xs.length ≤ 300 ∧ ∀ x ∈ xs, x.e.key.length ≤ 30000 ∧ x.e.val.length ≤ 30000)
set_option maxHeartbeats 320000 in
set_option maxRecDepth 1000000 in
theorem much_any (a : Option Addr) (n c : Nat) (xs : List En) (w : World) (h : Ens w a n c xs) (hs : Szs xs) :
    Calls Try.prog 8 #[.slice a n c] w fun e w' => MuchOut xs e ∧ Below w.heap.size w w' := by
  have HE := hide h
  have HS := hide hs
  have hnn : n ≤ 140737488355328 := by have := hs.1; rwa [h.len] at this
  clear h hs
  go_enter Try.func8, Try.ntmps8
  go_wp2
  go_loopw [3, 4] (fun s i wr => ∃ (k r : Nat), k ≤ n ∧ i = .int .i64 (k : Int) ∧ s = .int .i64 (r : Int) ∧ r ≤ 422212500000000 ∧ n ≤ r ∧ Hid (Mu xs k r) ∧ Below w.heap.size w wr) (fun _ i _ => n - (intOf i).toNat)
  case atStart => exact ⟨0, n, Nat.zero_le _, rfl, rfl, by omega, Nat.le_refl _, hide (Mu.zero xs n), Below.refl _ _⟩
  case round =>
    obtain ⟨k, r, hk, rfl, rfl, hr, hnr, HMu, hb⟩ := hrel
    have HB := hide hb
    clear hb
    by_cases hlt : k < n
    · have d1 : (k : Int) < (n : Int) := by omega
      by_cases hr2 : r ≤ 20000
      · have d2 : (r : Int) ≤ 20000 := by omega
        obtain ⟨x, hx, hok⟩ := (HE.out.below HB.out).at hlt
        obtain ⟨b, off, rfl, hbl, hat0, hat1, -⟩ := (HE.out.below HB.out).cells hx
        have hsz := HS.out.2 x (List.mem_of_getElem? hx)
        have l1 : x.e.key.length ≤ 140737488355328 := hsz.1
        have l2 : x.e.val.length ≤ 140737488355328 := hsz.2
        have c1 : ∀ q, (wr.drewN q).cell? ⟨b, off + k * 3, none⟩ = some (.slice x.ka x.e.key.length x.kc) := fun q => hat0
        have c2 : ∀ q, (wr.drewN q).cell? ⟨b, off + k * 3 + 1, none⟩ = some (.slice x.va x.e.val.length x.vc) := fun q => hat1
        have HM1 : Hid (∀ d, x.e.key.length + x.e.val.length ≤ d → Mu xs (k + 1) (r + d)) := hide (fun d hd => HMu.out.next hx hd)
        clear hx hat0 hat1 hok hsz
        generalize x.e.key.length = ld at *
        generalize x.e.val.length = lk at *
        go_wp2
        go_quiet (fail)
        have HBn := hide (below_drewN HB.out nq)
        clear c1 c2
        generalize wr.drewN nq = wn at *
        go_wp2
        refine ⟨⟨k + 1, r + (ld + lk), by omega, by go_num, by go_num, by omega, by omega, hide (HM1.out _ (by omega)), HBn.out⟩, ?_⟩
        simp [intOf]; omega
      · have d2 : ¬ (r : Int) ≤ 20000 := by omega
        have d3 : (20000 : Int) < (r : Int) := by omega
        go_wp2
        go_ret
        exact ⟨.inl rfl, HB.out⟩
    · have d1 : ¬ (k : Int) < (n : Int) := by omega
      by_cases hr2 : r ≤ 20000
      · have d2 : ¬ (20000 : Int) < (r : Int) := by omega
        by_cases hn3 : n ≤ 300
        · have d3 : ¬ (300 : Int) < (n : Int) := by omega
          go_wp2
          go_ret
          exact ⟨.inr ⟨rfl, by rw [HE.out.len]; exact hn3, fun x hx => by
            obtain ⟨i, hi, e⟩ := List.getElem_of_mem hx
            have hl := HE.out.len
            have := HMu.out i x (by omega) (by rw [List.getElem?_eq_getElem hi, e])
            omega⟩, HB.out⟩
        · have d3 : (300 : Int) < (n : Int) := by omega
          go_wp2
          go_ret
          exact ⟨.inl rfl, HB.out⟩
      · have d2 : (20000 : Int) < (r : Int) := by omega
        go_wp2
        go_ret
        exact ⟨.inl rfl, HB.out⟩
def Mk (xs : List Ky) (k r : Nat) : Prop := ∀ i x, i < k → xs[i]? = some x → x.key.length ≤ r
theorem Mk.zero (xs : List Ky) (r : Nat) : Mk xs 0 r := fun i x hi => by omega
theorem Mk.next {xs : List Ky} {k r d : Nat} {x : Ky} (h : Mk xs k r) (hx : xs[k]? = some x) (hd : x.key.length ≤ d) : Mk xs (k + 1) (r + d) := by
  intro i y hi hy
  by_cases e : i = k
  · subst e
    rw [hx] at hy
    cases hy
    omega
  · have := h i y (by omega) hy
    omega
def ManyOut (xs : List Ky) (e : Ending) : Prop := e = .returned (.bool true) ∨ (e = .returned (.bool false) ∧ xs.length ≤ 300 ∧ ∀ x ∈ xs, x.key.length ≤ 30000)
set_option maxHeartbeats 320000 in
set_option maxRecDepth 1000000 in
theorem many_any (a : Option Addr) (n c : Nat) (xs : List Ky) (w : World) (h : Kys w a n c xs) (hs : Szk xs) :
    Calls Try.prog 7 #[.slice a n c] w fun e w' => ManyOut xs e ∧ Below w.heap.size w w' := by
  have HE := hide h
  have HS := hide hs
  have hnn : n ≤ 140737488355328 := by have := hs.1; rwa [h.len] at this
  clear h hs
  go_enter Try.func7, Try.ntmps7
  go_wp2
  go_loopw [3, 4] (fun s i wr => ∃ (k r : Nat), k ≤ n ∧ i = .int .i64 (k : Int) ∧ s = .int .i64 (r : Int) ∧ r ≤ 422212500000000 ∧ n ≤ r ∧ Hid (Mk xs k r) ∧ Below w.heap.size w wr) (fun _ i _ => n - (intOf i).toNat)
  case atStart => exact ⟨0, n, Nat.zero_le _, rfl, rfl, by omega, Nat.le_refl _, hide (Mk.zero xs n), Below.refl _ _⟩
  case round =>
    obtain ⟨k, r, hk, rfl, rfl, hr, hnr, HMk, hb⟩ := hrel
    have HB := hide hb
    clear hb
    by_cases hlt : k < n
    · have d1 : (k : Int) < (n : Int) := by omega
      by_cases hr2 : r ≤ 20000
      · have d2 : (r : Int) ≤ 20000 := by omega
        obtain ⟨x, b, off, hx, rfl, hbl, hat0, hok⟩ := (HE.out.below HB.out).at hlt
        have hsz := HS.out.2 x (List.mem_of_getElem? hx)
        have l1 : x.key.length ≤ 140737488355328 := hsz
        have HM1 : Hid (∀ d, x.key.length ≤ d → Mk xs (k + 1) (r + d)) := hide (fun d hd => HMk.out.next hx hd)
        clear hx hok hsz
        generalize x.key.length = ld at *
        go_wp2
        refine ⟨⟨k + 1, r + ld, by omega, by go_num, by go_num, by omega, by omega, hide (HM1.out _ (by omega)), HB.out⟩, ?_⟩
        simp [intOf]; omega
      · have d2 : ¬ (r : Int) ≤ 20000 := by omega
        have d3 : (20000 : Int) < (r : Int) := by omega
        go_wp2
        go_ret
        exact ⟨.inl rfl, HB.out⟩
    · have d1 : ¬ (k : Int) < (n : Int) := by omega
      by_cases hr2 : r ≤ 20000
      · have d2 : ¬ (20000 : Int) < (r : Int) := by omega
        by_cases hn3 : n ≤ 300
        · have d3 : ¬ (300 : Int) < (n : Int) := by omega
          go_wp2
          go_ret
          exact ⟨.inr ⟨rfl, by rw [HE.out.len]; exact hn3, fun x hx => by
            obtain ⟨i, hi, e⟩ := List.getElem_of_mem hx
            have hl := HE.out.len
            have := HMk.out i x (by omega) (by rw [List.getElem?_eq_getElem hi, e])
            omega⟩, HB.out⟩
        · have d3 : (300 : Int) < (n : Int) := by omega
          go_wp2
          go_ret
          exact ⟨.inl rfl, HB.out⟩
      · have d2 : (20000 : Int) < (r : Int) := by omega
        go_wp2
        go_ret
        exact ⟨.inl rfl, HB.out⟩
end Go.Proofs.Ytpoanlbjhhlagaa
