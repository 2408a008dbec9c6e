/- A sector as it was written last, of the document's own disk. -/
import Derived.Test.YtkammfkknfflgaaQC
namespace Go.Proofs.Ytkammfkknfflgaa
open Go.RowKit Go.Maps
set_option linter.unusedVariables false
variable {w w' : World} {p f : Nat} {vl vc : Value} {Ls Cs : List Value} {S S' : DS}

theorem row_at {t sz : Nat} {v : Value} {n : Nat} {xs : List Value} (h : w.ownsRow 0 t sz v n xs) (hn : 0 < n) : ∃ g cap, v = .slice (some ⟨g, 0, none⟩) n cap ∧ n ≤ cap ∧ cap ≤ maxLen ∧ g < w.heap.size ∧ Hid (∀ i x, xs[i]? = some x → w.cell? ⟨g, i, none⟩ = some x) ∧ Hid (∀ i, w.frozen? ⟨g, i, none⟩ = false) := by
  rcases h.2 with ⟨rfl, h0⟩ | ⟨g, cap, cur, rfl, _, hh, h1, h2, h3, h4⟩
  · omega
  · refine ⟨g, cap, rfl, h1, h2, lt_of_block hh, fun i x hx => ?_, fun i => by simp [World.frozen?, hh]⟩
    rw [← h4, List.getElem?_take] at hx
    split at hx
    · simp [World.cell?, hh]
      simpa using hx
    · simp at hx
/-- the slice of the cache, also where it is empty. -/
theorem row_len {t sz : Nat} {v : Value} {n : Nat} {xs : List Value} (h : w.ownsRow 0 t sz v n xs) : ∃ a cap, v = .slice a n cap := by
  rcases h.2 with ⟨rfl, rfl⟩ | ⟨g, cap, cur, rfl, _⟩
  · exact ⟨_, _, rfl⟩
  · exact ⟨_, _, rfl⟩
/-- what the first writes of the cache make of a sector. -/
def nw (S : DS) (n k : Nat) : List Int := newest { S with ws := S.ws.take k } n
theorem nw_zero (S : DS) (n : Nat) : nw S n 0 = S.ls.getD n [] := by simp [nw, newest, lastAt]
theorem nw_all (S : DS) (n : Nat) : nw S n S.ws.length = newest S n := by rw [nw, List.take_length]
theorem getD_take {α : Type} (L : List α) (k i : Nat) (d : α) (h : i < k) : (L.take k).getD i d = L.getD i d := by simp [List.getD_eq_getElem?_getD, h]
theorem nw_succ (S : DS) (n k : Nat) (x : Nat × List Int) (hx : S.ws[k]? = some x) : nw S n (k + 1) = if x.1 = n then x.2 else nw S n k := by
  have hk := (List.getElem?_eq_some_iff.1 hx).1
  have e : S.ws.take (k + 1) = S.ws.take k ++ [x] := by rw [List.take_add_one, hx]; rfl
  unfold nw newest
  simp only
  rw [e, lastAt_snoc, List.length_take, Nat.min_eq_left (by omega)]
  by_cases hn : x.1 = n
  · rw [if_pos hn, if_pos hn]
    simp only
    rw [← e, getD_take _ _ _ _ (by omega), List.getD_eq_getElem?_getD, hx]; rfl
  · rw [if_neg hn, if_neg hn]
    cases hl : lastAt (S.ws.take k) n with
    | none => rfl
    | some i =>
      have hi := (lastAt_some hl).1
      simp only
      rw [List.getD_eq_getElem?_getD, List.getD_eq_getElem?_getD, List.getElem?_append_left hi]
set_option maxHeartbeats 1600000 in
set_option maxRecDepth 1000000 in
theorem rsector_any (h : RD w p vl Ls vc Cs f S) (n : Nat) (hn : n < S.ls.length) :
    Calls Try.prog 80 #[.pointer (some ⟨p, 0, none⟩), .int .i64 (n : Int)] w fun e w' => ∃ v, e = .returned v ∧ Sl w v (newest S n) ∧ w' = w := by
  obtain ⟨N, HN, hNm⟩ : ∃ N, Hid (N = S.ls.length) ∧ N ≤ 131072 := ⟨_, rfl, h.good.most⟩
  obtain ⟨M, HM, hMm⟩ : ∃ M, Hid (M = S.ws.length) ∧ M ≤ 40000000 := ⟨_, rfl, h.good.few⟩
  have hnN : n < N := by rw [HN.out]; exact hn
  have HH := hide h
  have HX := hide h.good.ws
  obtain ⟨g, cap, hvl, hc1, hc2, -, HL, -⟩ := row_at h.las (by omega)
  obtain ⟨ca, cc, hvc⟩ := row_len h.cac
  rw [← HN.out] at hvl
  rw [← HM.out] at hvc
  have c0 := h.c 0 vl rfl
  have c1 := h.c 1 vc rfl
  rw [hvl] at c0
  rw [hvc] at c1
  have hLn : n < Ls.length := by rw [h.lle]; exact hn
  obtain ⟨v0, hv0⟩ : ∃ v, Ls[n]? = some v := ⟨_, List.getElem?_eq_getElem hLn⟩
  have l0 := HL.out n v0 hv0
  have HS0 : Hid (Sl w v0 (nw S n 0)) := by
    rw [nw_zero, List.getD_eq_getElem?_getD, List.getElem?_eq_getElem hn]
    exact h.lsl n _ v0 (List.getElem?_eq_getElem hn) hv0
  have HC : Hid (∀ k, k < M → ∃ b x v, ca = some ⟨b, 0, none⟩ ∧ w.cell? ⟨b, k * 2, none⟩ = some (.int .i64 (x.1 : Int)) ∧ w.cell? ⟨b, k * 2 + 1, none⟩ = some v ∧ S.ws[k]? = some x ∧ Sl w v x.2) := by
    intro k hk
    have hk' : k < S.ws.length := by rw [← HM.out]; exact hk
    obtain ⟨b, cap', e1, -, -, -, HR, -⟩ := row_at h.cac (by omega)
    have hC : k < Cs.length := by rw [h.cle]; exact hk'
    have hx := List.getElem?_eq_getElem hk'
    have hv := List.getElem?_eq_getElem hC
    have ha := rwc_at S.ws Cs k _ _ hx hv
    rw [hvc] at e1
    injection e1 with e1
    exact ⟨b, _, _, e1, HR.out _ _ ha.1, HR.out _ _ ha.2, hx, h.csl k _ _ hx hv⟩
  clear h hvl hvc HL hLn hv0 HX
  go_enter Try.func80, Try.ntmps80
  go_wp2
  clear c0 l0
  go_loopw [6, 5] (fun i b wr' => ∃ k : Nat, k ≤ M ∧ i = .int .i64 (k : Int) ∧ Sl w b (nw S n k) ∧ wr' = w) (fun i _ _ => M - (intOf i).toNat)
  case atStart => exact ⟨0, Nat.zero_le _, rfl, HS0.out, rfl⟩
  case round =>
    obtain ⟨k, hk, rfl, hsl, rfl⟩ := hrel
    have HSl := hide hsl
    clear hsl
    by_cases hlt : k < M
    · obtain ⟨b, x, v, rfl, d0, d1, hx, hv⟩ := HC.out k hlt
      have HX := hide hx
      have HV := hide hv
      have hnb : decide (k < M) = true := by simp [hlt]
      clear hx hv
      by_cases hat : x.1 = n
      · have he : (((x.1 : Nat) : Int) == (n : Int)) = true := by simp [hat]
        have HE : Hid (Sl wr v (nw S n (k + 1))) := by rw [nw_succ S n k x HX.out, if_pos hat]; exact HV.out
        clear hat
        go_wp2
        exact ⟨⟨k + 1, by omega, by simp, HE.out, trivial⟩, by simp [intOf]; omega⟩
      · have he : (((x.1 : Nat) : Int) == (n : Int)) = false := by simp; omega
        have HE : Hid (Sl wr u5 (nw S n (k + 1))) := by rw [nw_succ S n k x HX.out, if_neg hat]; exact HSl.out
        clear hat
        go_wp2
        exact ⟨⟨k + 1, by omega, by simp, HE.out, trivial⟩, by simp [intOf]; omega⟩
    · have hnb : decide (k < M) = false := by simp [hlt]
      have HE : Hid (Sl wr u5 (newest S n)) := by rw [← nw_all, ← HM.out, show M = k by omega]; exact HSl.out
      go_wp2
      go_ret
      exact ⟨_, rfl, HE.out, rfl⟩
end Go.Proofs.Ytkammfkknfflgaa
