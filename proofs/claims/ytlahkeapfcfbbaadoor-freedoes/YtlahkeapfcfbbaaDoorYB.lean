/- The document's own list of free pages. -/
import Derived.Test.YtlahkeapfcfbbaaDoorYA
import Derived.Test.YtlahkeapfcfbbaaDoorYC
namespace Go.Proofs.YtlahkeapfcfbbaaDoor
open Go.RowKit Go.Maps
set_option linter.unusedVariables false
variable {w w' : World} {r : Nat} {v : Value} {L : List Pg}

/-- the document's list in memory. -/
structure Rl (w : World) (r : Nat) (v : Value) (L : List Pg) : Prop where
  blk : w.heap[r]? = some (.cells #[v] 29 (0, 0))
  row : w.ownsRow 0 89 2 v L.length (pflat L)
theorem Rl.c (h : Rl w r v L) : w.cell? ⟨r, 0, none⟩ = some v := by simp [World.cell?, h.blk]
theorem Rl.fz (h : Rl w r v L) : w.frozen? ⟨r, 0, none⟩ = false := by simp [World.frozen?, h.blk]
theorem Rl.pv (h : Rl w r v L) : v.ownBlock ≠ some r := fun e => by
  rcases h.row.2 with ⟨rfl, _⟩ | ⟨g, cap, cur, rfl, _, hg, _⟩
  · cases e
  · cases e
    have := h.blk
    rw [hg] at this
    simp at this
theorem Rl.keep (h : Rl w r v L) (hr : w'.heap[r]? = w.heap[r]?) (hb : ∀ k, v.ownBlock = some k → w'.heap[k]? = w.heap[k]?) : Rl w' r v L := by
  refine ⟨hr.trans h.blk, h.row.1, ?_⟩
  rcases h.row.2 with h2 | ⟨g, cap, cur, rfl, hg, hh, rr⟩
  · exact .inl h2
  · exact .inr ⟨g, cap, cur, rfl, hg, by rw [hb g rfl]; exact hh, rr⟩
theorem Rl.below (h : Rl w r v L) (hb : Below w.heap.size w w') : Rl w' r v L := h.keep (hb.block r (lt_of_block h.blk)) (fun k hk => hb.block k (World.ownsRow.lt h.row k hk).2)
theorem Rl.shape (h : Rl w r v L) : ∃ a c, v = .slice a L.length c ∧ L.length ≤ c ∧ c ≤ maxLen ∧ (a = none → L.length = 0 ∧ c = 0) ∧ (L = [] ∨ ∃ g, a = some ⟨g, 0, none⟩ ∧ g < w.heap.size) ∧ ∀ i, i < L.length → ∃ g, a = some ⟨g, 0, none⟩ ∧ w.cell? ⟨g, i * 2, none⟩ = some (.int .u32 (pat L i).1) ∧ w.cell? ⟨g, i * 2 + 1, none⟩ = some (.int .u64 (pat L i).2) := by
  rcases h.row.2 with ⟨rfl, h0⟩ | ⟨g, cap, cur, rfl, _, hg, hn, hm, _⟩
  · exact ⟨none, 0, by rw [h0], by omega, by unfold maxLen; omega, fun _ => ⟨h0, rfl⟩, .inl (List.eq_nil_of_length_eq_zero h0), fun i hi => by omega⟩
  · refine ⟨_, cap, rfl, hn, hm, fun e => (by cases e), .inr ⟨g, rfl, lt_of_block hg⟩, fun i hi => ⟨g, rfl, ?_, ?_⟩⟩
    · have := h.row.cells (g := g) rfl (i * 2 + 0) _ (pflat_at hi 0 _ rfl)
      rwa [Addr.add_lit, Nat.zero_add] at this
    · have := h.row.cells (g := g) rfl (i * 2 + 1) _ (pflat_at hi 1 _ rfl)
      rwa [Addr.add_lit, Nat.zero_add] at this
theorem pat_at {L : List Pg} {i : Nat} (h : i < L.length) : L[i]? = some (pat L i) := by
  unfold pat
  rw [List.getD_eq_getElem?_getD, List.getElem?_eq_getElem h]; rfl
theorem count_take {L : List Pg} {p : Pg → Bool} {i : Nat} (h : i < L.length) : (L.take (i + 1)).countP p = (L.take i).countP p + (if p (pat L i) then 1 else 0) := by
  rw [List.take_add_one, pat_at h, List.countP_append]
  simp [List.countP_cons]
set_option maxHeartbeats 1600000 in
set_option maxRecDepth 1000000 in
theorem rmay_any (h : Rl w r v L) (hf : L.length ≤ 900000) (G : Int) : Calls Tryd.prog 13 #[.pointer (some ⟨r, 0, none⟩), .int .u64 G] w fun e w' => e = .returned (.int .i64 ((L.countP (fun x => decide (x.2 ≤ G)) : Nat) : Int)) ∧ w' = w := by
  obtain ⟨a, c, rfl, h1, h2, h3, -, h4⟩ := h.shape
  have c0 := h.c
  have HP := hide (fun i hi => count_take (L := L) (p := fun x => decide (x.2 ≤ G)) (i := i) hi)
  clear h
  obtain ⟨N, hN⟩ : ∃ N, L.length = N := ⟨_, rfl⟩
  simp only [hN] at h1 h3 h4 c0 hf
  have HN := hide hN
  have H4 := hide h4
  clear hN h4 h3
  go_enter Tryd.func13, Tryd.ntmps13
  go_wp2
  go_loopw [5, 6] (fun x y wr => ∃ i : Nat, i ≤ N ∧ x = .int .i64 (((L.take i).countP (fun x => decide (x.2 ≤ G)) : Nat) : Int) ∧ y = .int .i64 (i : Int) ∧ wr = w) (fun _ y _ => N - (intOf y).toNat)
  case atStart => exact ⟨0, Nat.zero_le _, rfl, rfl, rfl⟩
  case round =>
    obtain ⟨i, hi, rfl, rfl, rfl⟩ := hrel
    have hcl : (L.take i).countP (fun x => decide (x.2 ≤ G)) ≤ 900000 := by
      have h5 := List.countP_le_length (p := fun x : Pg => decide (x.2 ≤ G)) (l := L.take i)
      rw [List.length_take] at h5
      have := HN.out
      omega
    by_cases hlt : i < N
    · obtain ⟨g, rfl, e1, e2⟩ := H4.out i hlt
      have hc := HP.out i (by rw [HN.out]; exact hlt)
      have HC := hide hc
      have hil : (i : Int) < (N : Int) := by omega
      clear hc
      generalize pat L i = x at *
      generalize (L.take i).countP (fun x => decide (x.2 ≤ G)) = K at *
      by_cases hG : x.2 ≤ G
      · go_wp2
        go_roundw
        case rel => exact ⟨i + 1, by omega, by rw [HC.out]; simp [hG], by go_num, by trivial⟩
        case measure => simp [intOf]; omega
      · go_wp2
        go_roundw
        case rel => exact ⟨i + 1, by omega, by rw [HC.out]; simp [hG], by go_num, by trivial⟩
        case measure => simp [intOf]; omega
    · have hil : ¬ (i : Int) < (N : Int) := by omega
      have HE : Hid ((L.take i).countP (fun x => decide (x.2 ≤ G)) = L.countP (fun x => decide (x.2 ≤ G))) := by rw [Hid, List.take_of_length_le (by have := HN.out; omega)]
      generalize hK : (L.take i).countP (fun x => decide (x.2 ≤ G)) = K at *
      clear hK
      go_wp2
      go_ret
      exact ⟨by rw [← HE.out]; rfl, rfl⟩
theorem pflat_app (xs ys : List Pg) : pflat (xs ++ ys) = pflat xs ++ pflat ys := by simp [pflat]
theorem pflat_one (x : Pg) : pflat [x] = pgc x := by simp [pflat]
theorem pflat_cells (L : List Pg) : ∀ u ∈ pflat L, u.oneCell' = true := by
  intro u hu
  simp only [pflat, List.mem_flatten, List.mem_map] at hu
  obtain ⟨s, ⟨x, _, rfl⟩, hu⟩ := hu
  simp only [pgc, List.mem_cons, List.not_mem_nil, or_false] at hu
  rcases hu with rfl | rfl <;> rfl
set_option maxRecDepth 1000000 in
theorem infoRp : (Tryd.prog.info? 89).map (fun i => (i.zero, i.size, i.bytes)) = some (some (.agg #[.int .u32 0, .int .u64 0]), 2, 16) := by kernel_rfl
/-- a part of a list, from i to j, as what is appended. -/
theorem src_part {a : Option Addr} {c : Nat} (h : Rl w r (.slice a L.length c) L) (i j : Nat) (hij : i ≤ j) (hj : j ≤ L.length) (b : Option Addr) (cc : Nat) (hb : i < j → ∃ g, a = some ⟨g, 0, none⟩ ∧ b = some ⟨g, i * 2, none⟩) (h0 : b = none → j - i = 0 ∧ cc = 0) (hu : Tryd.prog.underlying 27 = some (.slice 89)) : Src Tryd.prog 2 27 (.slice b (j - i) cc) (j - i) (pflat ((L.take j).drop i)) w := by
  by_cases hlt : i < j
  · obtain ⟨g, rfl, rfl⟩ := hb hlt
    refine Src.ofSlice _ hu _ _ _ _ (by rw [pflat_len, List.length_drop, List.length_take]; omega) (fun k u hk => ?_) (pflat_cells _)
    have hk' : (pflat L)[i * 2 + k]? = some u := by
      have e1 : pflat L = pflat (L.take i) ++ pflat ((L.take j).drop i) ++ pflat (L.drop j) := by
        have e2 : (L.take j).take i ++ (L.take j).drop i = L.take j := List.take_append_drop _ _
        rw [List.take_take, Nat.min_eq_left hij] at e2
        rw [← pflat_app, ← pflat_app, e2, List.take_append_drop]
      have el : (pflat (L.take i)).length = i * 2 := by rw [pflat_len, List.length_take]; omega
      have hkl := (List.getElem?_eq_some_iff.1 hk).1
      rw [e1, List.append_assoc, List.getElem?_append_right (by omega), el, Nat.add_sub_cancel_left, List.getElem?_append_left hkl]
      exact hk
    have := h.row.cells (g := g) rfl (i * 2 + k) u hk'
    rw [Addr.add_lit] at this ⊢
    simpa using this
  · have e : j - i = 0 := by omega
    have e2 : (L.take j).drop i = [] := List.drop_of_length_le (by rw [List.length_take]; omega)
    rw [e, e2]
    cases b with
    | none => obtain ⟨_, rfl⟩ := h0 rfl; exact Src.ofNil _ hu 0
    | some ad => exact Src.ofSlice _ hu ad 0 cc [] rfl (fun k u hk => by simp at hk) (fun u hu => by simp at hu)
end Go.Proofs.YtlahkeapfcfbbaaDoor
