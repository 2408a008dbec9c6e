/- A disk's pages as they are told: what a write, a sync and a cut make of them. -/
import Derived.Test.YtpcckaahfaobeaaDT
namespace Go.Proofs.Ytpcckaahfaobeaa
open Go.RowKit Go.Maps
set_option linter.unusedVariables false

theorem newest_same {S S' : DS} (h1 : S'.ls = S.ls) (h2 : S'.ws = S.ws) (n : Nat) : newest S' n = newest S n := by unfold newest; rw [h1, h2]
theorem newest_add (S : DS) (n : Nat) (ys : List Int) (m : Nat) : newest (S.add n ys) m = if n = m then ys else newest S m := by
  unfold newest DS.add
  simp only
  rw [lastAt_snoc]
  by_cases h : n = m
  · simp [h]
  · simp only [h, if_false]
    cases hl : lastAt S.ws m with
    | none => rfl
    | some i =>
      have := (lastAt_some hl).1
      simp [List.getD_eq_getElem?_getD, List.getElem?_append_left this]
theorem newest_adds (S : DS) (b : Nat) (zs : List Int) : ∀ k n, newest (S.adds b zs k) n = if b ≤ n ∧ n < b + k then sec zs (n - b) else newest S n
  | 0, n => by rw [DS.adds_zero, if_neg (by omega)]
  | k + 1, n => by
    rw [DS.adds_succ, newest_add, newest_adds S b zs k n]
    by_cases h : b + k = n
    · subst h
      rw [if_pos rfl, if_pos (by omega), Nat.add_sub_cancel_left]
    · rw [if_neg h]
      by_cases h2 : b ≤ n ∧ n < b + k
      · rw [if_pos h2, if_pos (by omega)]
      · rw [if_neg h2, if_neg (by omega)]
theorem rd_congr {S S' : DS} (b k : Nat) (h : ∀ i, i < k → newest S' (b + i) = newest S (b + i)) : rd S' b k = rd S b k := by
  unfold rd
  congr 1
  apply List.map_congr_left
  intro i hi
  exact h i (List.mem_range.1 hi)
theorem secs (zs : List Int) : ∀ k, ((List.range k).map (sec zs)).flatten = zs.take (k * 128)
  | 0 => by simp
  | k + 1 => by
    rw [List.range_succ, List.map_append, List.flatten_append, secs zs k]
    simp only [List.map_cons, List.map_nil, List.flatten_cons, List.flatten_nil, List.append_nil]
    rw [Nat.add_mul, Nat.one_mul, List.take_add]
    rfl
theorem rd_adds_same (S : DS) (pg : Nat) (zs : List Int) (h : zs.length = 1024) : rd (S.adds (8 * pg) zs 8) (8 * pg) 8 = zs := by
  have e : rd (S.adds (8 * pg) zs 8) (8 * pg) 8 = ((List.range 8).map (sec zs)).flatten := by
    unfold rd
    congr 1
    apply List.map_congr_left
    intro i hi
    have hi := List.mem_range.1 hi
    rw [newest_adds, if_pos (by omega), Nat.add_sub_cancel_left]
  rw [e, secs, List.take_of_length_le (by omega)]
theorem rd_adds_other (S : DS) (pg pg' : Nat) (zs : List Int) (h : pg ≠ pg') : rd (S.adds (8 * pg) zs 8) (8 * pg') 8 = rd S (8 * pg') 8 :=
  rd_congr _ _ fun i hi => by rw [newest_adds, if_neg (by omega)]
theorem rd_same {S S' : DS} (h1 : S'.ls = S.ls) (h2 : S'.ws = S.ws) (b k : Nat) : rd S' b k = rd S b k := rd_congr _ _ fun i _ => newest_same h1 h2 _
theorem settled_left' (ls : List (List Int)) (ws vs : List (Nat × List Int)) (f : Nat → Bool) : ∀ k, k ≤ ws.length → settled ls (ws ++ vs) f k = settled ls ws f k
  | 0, _ => rfl
  | k + 1, hk => by
    rw [settled, settled, settled_left' ls ws vs f k (by omega)]
    have e : (ws ++ vs).getD k (0, []) = ws.getD k (0, []) := by simp [List.getD_eq_getElem?_getD, List.getElem?_append_left (show k < ws.length by omega)]
    rw [e]
theorem settled_newest (ls : List (List Int)) : ∀ (k : Nat) (S : DS), S.ls = ls → S.ws.length = k → ∀ n, n < ls.length → (settled ls S.ws yes k).getD n [] = newest S n
  | 0, S, hls, hk, n, hn => by
    have e : S.ws = [] := List.eq_nil_of_length_eq_zero hk
    simp [settled, newest, e, lastAt, hls]
  | k + 1, S, hls, hk, n, hn => by
    obtain ⟨ws, x, e⟩ : ∃ ws x, S.ws = ws ++ [x] := by
      rcases List.eq_nil_or_concat S.ws with e | ⟨ws, x, e⟩
      · rw [e] at hk; simp at hk
      · exact ⟨ws, x, by rw [e, List.concat_eq_append]⟩
    have hk' : ws.length = k := by rw [e] at hk; simpa using hk
    have hS : newest S n = newest ({ S with ws := ws } |>.add x.1 x.2) n := newest_same (S' := S) (S := { S with ws := ws } |>.add x.1 x.2) rfl e n
    rw [hS, newest_add, e, settled, settled_left' ls ws [x] yes k (by omega), if_pos (show yes k = true from rfl)]
    have e2 : (ws ++ [x]).getD k (0, []) = x := by rw [← hk']; simp
    have ih := settled_newest ls k { S with ws := ws } hls hk' n hn
    simp only at ih
    rw [e2]
    by_cases h : x.1 = n
    · rw [if_pos h, h]
      simp [List.getD_eq_getElem?_getD, settled_len, hn]
    · rw [if_neg h, ← ih]
      simp [List.getD_eq_getElem?_getD, h]
theorem newest_set {S : DS} (n : Nat) (hn : n < S.ls.length) : newest (S.set yes) n = newest S n := by
  rw [← settled_newest S.ls S.ws.length S rfl rfl n hn]
  simp [newest, DS.set, lastAt]
theorem rd_set {S : DS} (b k : Nat) (h : b + k ≤ S.ls.length) : rd (S.set yes) b k = rd S b k := rd_congr _ _ fun i hi => newest_set _ (by omega)
theorem rd_cut {S : DS} (b k : Nat) (bs : List Bool) (h : S.ws = []) : rd (S.cut bs) b k = rd S b k := rd_congr _ _ fun i hi => by
  refine newest_same ?_ ?_ _
  · show settled S.ls S.ws _ S.ws.length = S.ls
    rw [h]; rfl
  · rw [h]; rfl
theorem new_newest (n i : Nat) (h : i < n) : newest (DS.new n) i = List.replicate 128 0 := by
  simp [newest, DS.new, lastAt, h, List.getD_eq_getElem?_getD]
theorem new_rd (n b k : Nat) (h : b + k ≤ n) : rd (DS.new n) b k = List.replicate (k * 128) 0 := by
  induction k with
  | zero => simp [rd]
  | succ k ih => rw [rd_succ, ih (by omega), new_newest n (b + k) (by omega), List.replicate_append_replicate, Nat.add_mul, Nat.one_mul]
theorem rd_byts {S : DS} (h : S.Good) (b : Nat) : ∀ k, b + k ≤ S.ls.length → Byts (rd S b k)
  | 0, _ => by intro c hc; simp [rd] at hc
  | k + 1, hk => by
    rw [rd_succ]
    refine (rd_byts h b k (by omega)).append ?_
    unfold newest
    cases hl : lastAt S.ws (b + k) with
    | none =>
      simp only
      rw [List.getD_eq_getElem?_getD, List.getElem?_eq_getElem (by omega)]
      exact (h.ls _ (List.getElem_mem _)).2
    | some i =>
      obtain ⟨h1, x, h2, h3⟩ := lastAt_some hl
      simp only
      rw [List.getD_eq_getElem?_getD, h2]
      exact (h.ws x (List.mem_of_getElem? h2)).2.2
end Go.Proofs.Ytpcckaahfaobeaa
