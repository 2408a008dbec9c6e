/- Lists of numbers that have grown. -/
import Derived.Test.YtpoanlbjhhlagaaGC
namespace Go.Proofs.Ytpoanlbjhhlagaa.Bo
open Go.RowKit
set_option linter.unusedVariables false

section
variable {K : IntKind} {et lty : TypeId} {mF nF : Nat → Nat → Int}
theorem Fam.same {w : World} {v : Value} {n : Nat} {A : Nat → Option Addr} {C : Nat → Nat} {Z Y : Nat → List Int} (h : Fam K et lty w v n A C Z) (e : Z = Y) : Fam K et lty w v n A C Y := e ▸ h

theorem OwnK.list {w : World} {v : Value} {zs : List Int} (h : OwnK K et w v zs) : w.ownsRow 0 et 1 v (zs.map (Value.int K)).length (zs.map (Value.int K)) := by rw [List.length_map]; exact h
theorem OwnK.of_list {w : World} {v : Value} {zs : List Int} {c : Int} (h : w.ownsRow 0 et 1 v (zs.map (Value.int K) ++ [Value.int K c]).length (zs.map (Value.int K) ++ [Value.int K c])) : OwnK K et w v (zs ++ [c]) := by
  have e : zs.map (Value.int K) ++ [Value.int K c] = (zs ++ [c]).map (Value.int K) := by simp
  rw [e, List.length_map] at h
  exact h
/-- a list within a family of lists stands in another block than the others. -/
theorem fam_apart {w : World} {v : Value} {n : Nat} {A : Nat → Option Addr} {C : Nat → Nat} {Z : Nat → List Int} (h : Fam K et lty w v n A C Z) {i j k : Nat} (hi : i < n) (hj : j < n) (hne : i ≠ j) (h1 : blks (rv (A i) (C i) (Z i)) k) : ¬ blks (rv (A j) (C j) (Z j)) k := h.apart i j hi hj hne k h1
/-- lists that have grown: each is its marks and those behind them; it lies where the list lay that it grew out of, or in a block made since. -/
structure Lg (K : IntKind) (et lty : TypeId) (mF nF : Nat → Nat → Int) (n : Nat) (A : Nat → Option Addr) (C : Nat → Nat) (fv : Value) (w0 w : World) (v : Value) (i : Nat) (Z : Nat → List Int) (X : Nat → Value) : Prop where
  kp : Kp (rft n A) w0 w
  fam : Fam K et lty w fv n A C (zf mF Z n 0)
  list : w.ownsRow 0 lty 1 v i ((List.range i).map X)
  rows : ∀ j, j < i → OwnK K et w (X j) (mks mF j (Z j).length ++ mks nF j 16)
  lies : ∀ j, j < i → ∀ k, blks (X j) k → (∃ ad, A j = some ad ∧ ad.block = k) ∨ w0.heap.size ≤ k
  low : ∀ k, blks v k → w0.heap.size ≤ k
/-- within one list that grows: the row it grew out of stays, nothing but its block turns. -/
structure Gs (K : IntKind) (et : TypeId) (r : Value) (ms : List Int) (W1 w : World) (x : Value) (zs : List Int) : Prop where
  own : OwnK K et w x (ms ++ zs)
  row : OwnK K et w r ms
  lies : ∀ b, blks x b → blks r b ∨ W1.heap.size ≤ b
  kp : Kp (blks r) W1 w
theorem grow_step {W1 wr w' : World} {r x v' : Value} {ms zs : List Int} {c : Int} {o : Obj} (h : Gs K et r ms W1 wr x zs)
    (h1 : w'.ownsRow 0 et 1 v' ((ms ++ zs).map (Value.int K) ++ [Value.int K c]).length ((ms ++ zs).map (Value.int K) ++ [Value.int K c])) (h2 : (wr.alloc o).grownBy w' x.ownBlock) (h3 : ∀ k, v'.ownBlock = some k → x.ownBlock = some k ∨ (wr.alloc o).heap.size ≤ k)
    (h4 : 0 < 1 → (Below (wr.alloc o).heap.size (wr.alloc o) w' ∧ ∀ k, v'.ownBlock = some k → (wr.alloc o).heap.size ≤ k) ∨ ∃ a m c, x = .slice a m c ∧ v' = .slice a (m + 1) c) :
    Gs K et r ms W1 w' v' (zs ++ [c]) := by
  have hs : wr.heap.size ≤ (wr.alloc o).heap.size := (below_alloc wr o).size
  have hs1 := h.kp.size
  have ho : OwnK K et w' v' (ms ++ (zs ++ [c])) := by rw [← List.append_assoc]; exact OwnK.of_list h1
  have hra : OwnK K et (wr.alloc o) r ms := h.row.alloc o
  refine ⟨ho, ?_, ?_, ?_⟩
  · by_cases hx : ∃ b, blks x b ∧ blks r b
    · obtain ⟨b, hxb, hrb⟩ := hx
      rcases h4 (by omega) with ⟨h5, _⟩ | ⟨a, m, cc, hxe, hve⟩
      · exact hra.of_block fun k hk => h5.block k (hra.lt hk)
      · obtain ⟨cr, er⟩ := h.row.some_at hrb
        obtain ⟨cx, ex⟩ := h.own.some_at hxb
        have hroom := h.row.room er h.own ex
        rw [ex] at hxe
        cases hxe
        exact h.row.front er ho hve hroom rfl
    · exact hra.of_block fun k hk => h2.block k (hra.lt hk) (fun e => hx ⟨k, e.symm, hk⟩)
  · intro b hb
    rcases h3 b hb with h5 | h5
    · exact h.lies b h5
    · exact .inr (by omega)
  · refine ⟨h2.os.trans h.kp.os, h2.tape.trans h.kp.tape, h2.output.trans h.kp.output, by have := h2.size; omega, fun k hk hr => ?_⟩
    rw [h2.block k (by omega) (fun e => (h.lies k e.symm).elim hr (fun h => by omega)), Below.heap_alloc wr o k (by omega)]
    exact h.kp.block k hk hr
theorem Lg.more {n i : Nat} {A : Nat → Option Addr} {C : Nat → Nat} {fv : Value} {w0 wi w w' : World} {v v' x : Value} {Z : Nat → List Int} {X : Nat → Value} {o : Obj} (h : Lg K et lty mF nF n A C fv w0 wi v i Z X) (hi : i < n) (g : Gs K et (rv (A i) (C i) (mks mF i (Z i).length)) (mks mF i (Z i).length) wi w x (mks nF i 16)) (hlow : ∀ k, rft n A k → k < w0.heap.size) (hfv : ∀ k, blks fv k → k < w0.heap.size)
    (h1 : w'.ownsRow 0 lty 1 v' ((List.range i).map X ++ [x]).length ((List.range i).map X ++ [x])) (h2 : (w.alloc o).grownBy w' v.ownBlock) (h3 : ∀ k, v'.ownBlock = some k → v.ownBlock = some k ∨ (w.alloc o).heap.size ≤ k) :
    Lg K et lty mF nF n A C fv w0 w' v' (i + 1) Z (putf X i x) := by
  have hs : w.heap.size ≤ (w.alloc o).heap.size := (below_alloc w o).size
  have hs0 := h.kp.size
  have hs1 := g.kp.size
  have hs2 := h2.size
  have hrb : ∀ k, blks (rv (A i) (C i) (mks mF i (Z i).length)) k ↔ ∃ ad, A i = some ad ∧ ad.block = k := fun k => blks_rv _ _ _ k
  have hblk : ∀ k, k < wi.heap.size → (¬ ∃ ad, A i = some ad ∧ ad.block = k) → ¬ blks v k → w'.heap[k]? = wi.heap[k]? := by
    intro k hk hr hv
    rw [h2.block k (by omega) (fun e => hv e.symm), Below.heap_alloc w o k (by omega)]
    exact g.kp.block k hk (fun h => hr ((hrb k).1 h))
  have hrow' : ∀ u ys, OwnK K et w u ys → (∀ k, blks u k → ¬ blks v k) → OwnK K et w' u ys := fun u ys hu hne =>
    (hu.alloc o).of_block fun k hk => h2.block k ((hu.alloc o).lt hk) (fun e => hne k hk e.symm)
  have hvlow : ∀ k, blks v k → w0.heap.size ≤ k := h.low
  have hvA : ∀ k, blks v k → ¬ rft n A k := fun k hk hr => by have := hlow k hr; have := hvlow k hk; omega
  have hlist : w.ownsRow 0 lty 1 v i ((List.range i).map X) := list_of_block h.list fun k hk => g.kp.block k (list_lt h.list k hk) (fun hr => hvA k hk ⟨i, hi, (hrb k).1 hr⟩)
  have hxv : ∀ k, blks x k → ¬ blks v k := fun k hx hv => list_ne_row h.fam.ne hlist g.own k hv hx
  refine ⟨⟨?_, ?_, ?_, by omega, ?_⟩, ⟨h.fam.ne, ?_, ?_, h.fam.apart⟩, ?_, ?_, ?_, ?_⟩
  · exact (h2.os.trans g.kp.os).trans h.kp.os
  · exact (h2.tape.trans g.kp.tape).trans h.kp.tape
  · exact (h2.output.trans g.kp.output).trans h.kp.output
  · intro k hk hr
    rw [hblk k (by omega) (fun hh => hr ⟨i, hi, hh⟩) (fun hv => by have := hvlow k hv; omega)]
    exact h.kp.block k hk hr
  · refine list_of_block h.fam.list fun k hk => hblk k (list_lt h.fam.list k hk) (fun hh => ?_) (fun hv => by have := hvlow k hv; have := hfv k hk; omega)
    exact list_ne_row h.fam.ne h.fam.list (h.fam.rows i hi) k hk ((blks_rv _ _ _ k).2 hh)
  · intro j hj
    by_cases e : j = i
    · subst e
      rw [zf_end Z n j hj]
      exact hrow' _ _ g.row (fun k hk hv => hvA k hv ⟨j, hj, (hrb k).1 hk⟩)
    · refine (h.fam.rows j hj).of_block fun k hk => hblk k ((h.fam.rows j hj).lt hk) (fun hh => ?_) (fun hv => hvA k hv ⟨j, hj, (blks_rv _ _ _ k).1 hk⟩)
      exact h.fam.apart j i hj hi e k hk ((blks_rv _ _ _ k).2 hh)
  · have e : (List.range (i + 1)).map (putf X i x) = (List.range i).map X ++ [x] := by
      rw [List.range_succ, List.map_append]
      congr 1
      · apply List.map_congr_left
        intro j hj
        exact putf_other _ _ _ _ (by have := List.mem_range.1 hj; omega)
      · simp [putf_same]
    rw [e]
    have e2 : ((List.range i).map X ++ [x]).length = i + 1 := by simp
    rw [e2] at h1
    exact h1
  · intro j hj
    by_cases e : j = i
    · subst e
      rw [putf_same]
      exact hrow' _ _ g.own hxv
    · rw [putf_other _ _ _ _ e]
      have hj' : j < i := by omega
      refine (h.rows j hj').of_block fun k hk => hblk k ((h.rows j hj').lt hk) (fun hh => ?_) (fun hv => list_ne_row h.fam.ne h.list (h.rows j hj') k hv hk)
      rcases h.lies j hj' k hk with h5 | h5
      · exact h.fam.apart j i (by omega) hi e k ((blks_rv _ _ _ k).2 h5) ((blks_rv _ _ _ k).2 hh)
      · have := hlow k ⟨i, hi, hh⟩; omega
  · intro j hj k hk
    by_cases e : j = i
    · subst e
      rw [putf_same] at hk
      rcases g.lies k hk with h5 | h5
      · exact .inl ((hrb k).1 h5)
      · exact .inr (by omega)
    · rw [putf_other _ _ _ _ e] at hk
      exact h.lies j (by omega) k hk
  · intro k hk
    rcases h3 k hk with h4 | h4
    · exact h.low k h4
    · omega

theorem long_at {w : World} {x : Value} {i N : Nat} (h : OwnK K et w x (mks mF i N ++ mks nF i 16)) : ∃ b c, x = .slice (some ⟨b, 0, none⟩) (N + 16) c ∧ ∀ k, k < N + 16 → w.cell? ⟨b, k, none⟩ = some (.int K ((mks mF i N ++ mks nF i 16).getD k 0)) := by
  have e : (mks mF i N ++ mks nF i 16).length = N + 16 := by rw [List.length_append, mks_len, mks_len]
  rcases h.2 with ⟨_, h0⟩ | ⟨g, cap, cur, rfl, _⟩
  · omega
  · obtain ⟨_, _, _, h4, _⟩ := h.at_
    rw [e] at h4 ⊢
    exact ⟨g, cap, rfl, h4⟩
theorem both_left (i N m k : Nat) (h : k < N) : (mks mF i N ++ mks nF i m).getD k 0 = mF i k := by
  rw [List.getD_eq_getElem?_getD, List.getElem?_append_left (by rw [mks_len]; exact h), ← List.getD_eq_getElem?_getD, mks_at _ _ _ h]
theorem both_right (i N m k : Nat) (h : k < m) : (mks mF i N ++ mks nF i m).getD (N + k) 0 = nF i k := by
  rw [List.getD_eq_getElem?_getD, List.getElem?_append_right (by rw [mks_len]; omega), mks_len, Nat.add_sub_cancel_left, ← List.getD_eq_getElem?_getD, mks_at _ _ _ h]

end
end Go.Proofs.Ytpoanlbjhhlagaa.Bo
