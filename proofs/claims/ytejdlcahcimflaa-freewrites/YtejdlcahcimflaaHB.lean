/- Rows of rows: marks in them, and rows that have grown. -/
import Derived.Test.YtejdlcahcimflaaHA
namespace Go.Proofs.Ytejdlcahcimflaa.Bv
open Go.RowKit Go.Proofs.Ytejdlcahcimflaa.Bo
set_option linter.unusedVariables false

section
variable {et lty : TypeId}
/-- lists that have grown: each is its marks and those behind them; it lies where the list lay that it grew out of, or in a block made since. -/
structure Lg (et lty : TypeId) (n : Nat) (A : Nat → Option Addr) (C : Nat → Nat) (fv : Value) (w0 w : World) (v : Value) (i : Nat) (M T : Nat → List Value) (X : Nat → Value) : Prop where
  kp : Kp (rft n A) w0 w
  fam : Fv et lty w fv n A C M
  list : w.ownsRow 0 lty 1 v i ((List.range i).map X)
  rows : ∀ j, j < i → OwnV et w (X j) (M j ++ T j)
  lies : ∀ j, j < i → ∀ k, blks (X j) k → (∃ ad, A j = some ad ∧ ad.block = k) ∨ w0.heap.size ≤ k
  low : ∀ k, blks v k → w0.heap.size ≤ k
/-- within one list that grows: the row it grew out of stays, nothing but its block turns. -/
structure Gs (et : TypeId) (r : Value) (ms : List Value) (W1 w : World) (x : Value) (zs : List Value) : Prop where
  own : OwnV et w x (ms ++ zs)
  row : OwnV et w r ms
  lies : ∀ b, blks x b → blks r b ∨ W1.heap.size ≤ b
  kp : Kp (blks r) W1 w
theorem grow_step {W1 wr w' : World} {r x v' : Value} {ms zs : List Value} {c : Value} {o : Obj} (h : Gs et r ms W1 wr x zs)
    (h1 : w'.ownsRow 0 et 1 v' ((ms ++ zs) ++ [c]).length ((ms ++ zs) ++ [c])) (h2 : (wr.alloc o).grownBy w' x.ownBlock) (h3 : ∀ k, v'.ownBlock = some k → x.ownBlock = some k ∨ (wr.alloc o).heap.size ≤ k)
    (h4 : 0 < 1 → (Below (wr.alloc o).heap.size (wr.alloc o) w' ∧ ∀ k, v'.ownBlock = some k → (wr.alloc o).heap.size ≤ k) ∨ ∃ a m c, x = .slice a m c ∧ v' = .slice a (m + 1) c) :
    Gs et r ms W1 w' v' (zs ++ [c]) := by
  have hs : wr.heap.size ≤ (wr.alloc o).heap.size := (below_alloc wr o).size
  have hs1 := h.kp.size
  have ho : OwnV et w' v' (ms ++ (zs ++ [c])) := by rw [← List.append_assoc]; exact h1
  have hra : OwnV et (wr.alloc o) r ms := h.row.alloc o
  refine ⟨ho, ?_, ?_, ?_⟩
  · by_cases hx : ∃ b, blks x b ∧ blks r b
    · obtain ⟨b, hxb, hrb⟩ := hx
      rcases h4 (by omega) with ⟨h5, _⟩ | ⟨a, m, cc, hxe, hve⟩
      · exact hra.of_block fun k hk => h5.block k (hra.lt hk)
      · obtain ⟨cr, er⟩ := h.row.some_at hrb
        obtain ⟨cx, ex⟩ := h.own.some_at hxb
        have hroom := h.row.room er h.own ex
        rw [ex] at hxe
        cases hxe
        exact h.row.front er ho hve hroom rfl
    · exact hra.of_block fun k hk => h2.block k (hra.lt hk) (fun e => hx ⟨k, e.symm, hk⟩)
  · intro b hb
    rcases h3 b hb with h5 | h5
    · exact h.lies b h5
    · exact .inr (by omega)
  · refine ⟨h2.os.trans h.kp.os, h2.tape.trans h.kp.tape, h2.output.trans h.kp.output, by have := h2.size; omega, fun k hk hr => ?_⟩
    rw [h2.block k (by omega) (fun e => (h.lies k e.symm).elim hr (fun h => by omega)), Below.heap_alloc wr o k (by omega)]
    exact h.kp.block k hk hr
theorem Lg.more {n i : Nat} {A : Nat → Option Addr} {C : Nat → Nat} {fv : Value} {w0 wi w w' : World} {v v' x : Value} {M T : Nat → List Value} {ts : List Value} {X : Nat → Value} {o : Obj} (h : Lg et lty n A C fv w0 wi v i M T X) (hi : i < n) (g : Gs et (rv (A i) (C i) (M i)) (M i) wi w x ts) (hlow : ∀ k, rft n A k → k < w0.heap.size) (hfv : ∀ k, blks fv k → k < w0.heap.size)
    (h1 : w'.ownsRow 0 lty 1 v' ((List.range i).map X ++ [x]).length ((List.range i).map X ++ [x])) (h2 : (w.alloc o).grownBy w' v.ownBlock) (h3 : ∀ k, v'.ownBlock = some k → v.ownBlock = some k ∨ (w.alloc o).heap.size ≤ k) :
    Lg et lty n A C fv w0 w' v' (i + 1) M (putf T i ts) (putf X i x) := by
  have hs : w.heap.size ≤ (w.alloc o).heap.size := (below_alloc w o).size
  have hs0 := h.kp.size
  have hs1 := g.kp.size
  have hs2 := h2.size
  have hrb : ∀ k, blks (rv (A i) (C i) (M i)) k ↔ ∃ ad, A i = some ad ∧ ad.block = k := fun k => blks_rv _ _ _ k
  have hblk : ∀ k, k < wi.heap.size → (¬ ∃ ad, A i = some ad ∧ ad.block = k) → ¬ blks v k → w'.heap[k]? = wi.heap[k]? := by
    intro k hk hr hv
    rw [h2.block k (by omega) (fun e => hv e.symm), Below.heap_alloc w o k (by omega)]
    exact g.kp.block k hk (fun h => hr ((hrb k).1 h))
  have hrow' : ∀ u ys, OwnV et w u ys → (∀ k, blks u k → ¬ blks v k) → OwnV et w' u ys := fun u ys hu hne =>
    (hu.alloc o).of_block fun k hk => h2.block k ((hu.alloc o).lt hk) (fun e => hne k hk e.symm)
  have hvlow : ∀ k, blks v k → w0.heap.size ≤ k := h.low
  have hvA : ∀ k, blks v k → ¬ rft n A k := fun k hk hr => by have := hlow k hr; have := hvlow k hk; omega
  have hlist : w.ownsRow 0 lty 1 v i ((List.range i).map X) := list_of_block h.list fun k hk => g.kp.block k (list_lt h.list k hk) (fun hr => hvA k hk ⟨i, hi, (hrb k).1 hr⟩)
  have hxv : ∀ k, blks x k → ¬ blks v k := fun k hx hv => list_ne_row h.fam.ne hlist g.own k hv hx
  refine ⟨⟨?_, ?_, ?_, by omega, ?_⟩, ⟨h.fam.ne, ?_, ?_, h.fam.apart⟩, ?_, ?_, ?_, ?_⟩
  · exact (h2.os.trans g.kp.os).trans h.kp.os
  · exact (h2.tape.trans g.kp.tape).trans h.kp.tape
  · exact (h2.output.trans g.kp.output).trans h.kp.output
  · intro k hk hr
    rw [hblk k (by omega) (fun hh => hr ⟨i, hi, hh⟩) (fun hv => by have := hvlow k hv; omega)]
    exact h.kp.block k hk hr
  · refine list_of_block h.fam.list fun k hk => hblk k (list_lt h.fam.list k hk) (fun hh => ?_) (fun hv => by have := hvlow k hv; have := hfv k hk; omega)
    exact list_ne_row h.fam.ne h.fam.list (h.fam.rows i hi) k hk ((blks_rv _ _ _ k).2 hh)
  · intro j hj
    by_cases e : j = i
    · subst e
      exact hrow' _ _ g.row (fun k hk hv => hvA k hv ⟨j, hj, (hrb k).1 hk⟩)
    · refine (h.fam.rows j hj).of_block fun k hk => hblk k ((h.fam.rows j hj).lt hk) (fun hh => ?_) (fun hv => hvA k hv ⟨j, hj, (blks_rv _ _ _ k).1 hk⟩)
      exact h.fam.apart j i hj hi e k hk ((blks_rv _ _ _ k).2 hh)
  · have e : (List.range (i + 1)).map (putf X i x) = (List.range i).map X ++ [x] := by
      rw [List.range_succ, List.map_append]
      congr 1
      · apply List.map_congr_left
        intro j hj
        exact putf_other _ _ _ _ (by have := List.mem_range.1 hj; omega)
      · simp [putf_same]
    rw [e]
    have e2 : ((List.range i).map X ++ [x]).length = i + 1 := by simp
    rw [e2] at h1
    exact h1
  · intro j hj
    by_cases e : j = i
    · subst e
      rw [putf_same, putf_same]
      exact hrow' _ _ g.own hxv
    · rw [putf_other _ _ _ _ e, putf_other _ _ _ _ e]
      have hj' : j < i := by omega
      refine (h.rows j hj').of_block fun k hk => hblk k ((h.rows j hj').lt hk) (fun hh => ?_) (fun hv => list_ne_row h.fam.ne h.list (h.rows j hj') k hv hk)
      rcases h.lies j hj' k hk with h5 | h5
      · exact h.fam.apart j i (by omega) hi e k ((blks_rv _ _ _ k).2 h5) ((blks_rv _ _ _ k).2 hh)
      · have := hlow k ⟨i, hi, hh⟩; omega
  · intro j hj k hk
    by_cases e : j = i
    · subst e
      rw [putf_same] at hk
      rcases g.lies k hk with h5 | h5
      · exact .inl ((hrb k).1 h5)
      · exact .inr (by omega)
    · rw [putf_other _ _ _ _ e] at hk
      exact h.lies j (by omega) k hk
  · intro k hk
    rcases h3 k hk with h4 | h4
    · exact h.low k h4
    · omega

end
theorem blks_slice (a : Option Addr) (m c k : Nat) : blks (.slice a m c) k ↔ ∃ ad, a = some ad ∧ ad.block = k := by
  unfold blks
  cases a <;> simp [Value.ownBlock]
theorem Gs.alloc {et : TypeId} {r x : Value} {ms zs : List Value} {W1 w : World} (h : Gs et r ms W1 w x zs) (o : Obj) : Gs et r ms W1 (w.alloc o) x zs :=
  ⟨h.own.alloc o, h.row.alloc o, h.lies, h.kp.trans (Kp.of_below (below_alloc w o))⟩
/-- a row of one byte, in a block of its own. -/
def Mk (w : World) (m : Int) (x : Value) : Prop := ∃ β, x = .slice (some ⟨β, 0, none⟩) 1 1 ∧ w.heap[β]? = some (.cells #[.int .u8 m] 5 (0, 0))
/-- blocks of bytes stay. -/
def Ku (w w' : World) : Prop := ∀ (k : Nat) (cs : Array Value), w.heap[k]? = some (.cells cs 5 (0, 0)) → w'.heap[k]? = some (.cells cs 5 (0, 0))
theorem Ku.trans {a b c : World} (h : Ku a b) (k : Ku b c) : Ku a c := fun i cs e => k i cs (h i cs e)
theorem Ku.refl (w : World) : Ku w w := fun _ _ e => e
theorem Ku.alloc (w : World) (o : Obj) : Ku w (w.alloc o) := fun k cs e => (Below.heap_alloc w o k (lt_of_block e)).trans e
theorem Ku.of_kp {w w' : World} {f : Nat → Prop} (h : Kp f w w') (hf : ∀ k, f k → ∀ cs, w.heap[k]? ≠ some (.cells cs 5 (0, 0))) : Ku w w' := fun k cs e => (h.block k (lt_of_block e) (fun hk => hf k hk cs e)).trans e
theorem Mk.ku {w w' : World} {m : Int} {x : Value} (h : Mk w m x) (k : Ku w w') : Mk w' m x := by
  obtain ⟨β, rfl, hb⟩ := h
  exact ⟨β, rfl, k β _ hb⟩
theorem row_typ {w : World} {t : TypeId} {v : Value} {n : Nat} {xs : List Value} (h : w.ownsRow 0 t 1 v n xs) (ht : t ≠ 5) (k : Nat) (hk : blks v k) (cs : Array Value) : w.heap[k]? ≠ some (.cells cs 5 (0, 0)) := by
  intro e
  rcases h.2 with ⟨rfl, _⟩ | ⟨g, cap, cur, rfl, _, hg, _⟩
  · cases hk
  · cases hk
    rw [hg] at e
    simp at e
    exact ht e.2
theorem Ku.grown {w w' : World} {t : TypeId} {v : Value} {n : Nat} {xs : List Value} (hg : w.grownBy w' v.ownBlock) (h : w.ownsRow 0 t 1 v n xs) (ht : t ≠ 5) : Ku w w' := fun k cs e =>
  (hg.block k (lt_of_block e) (fun e2 => row_typ h ht k e2.symm cs e)).trans e
theorem Fv.ku {et lty : TypeId} {w w' : World} {v : Value} {n : Nat} {A : Nat → Option Addr} {C : Nat → Nat} {Z : Nat → List Value} (h : Fv et lty w v n A C Z) (he : et ≠ 5) (k : Kp (rft n A) w w') : Ku w w' :=
  Ku.of_kp k (fun b ⟨i, hi, hb⟩ cs => row_typ (h.rows i hi) he b ((blks_rv _ _ _ b).2 hb) cs)
/-- the first i rows, and k places of the next one, have their marks. -/
structure P1 (w0 wr : World) (v : Value) (n : Nat) (A : Nat → Option Addr) (C N : Nat → Nat) (i k : Nat) (Z : Nat → List Value) : Prop where
  fam : Fv 23 25 wr v n A C Z
  len : ∀ j, j < n → (Z j).length = N j
  mrk : ∀ j l, j < n → l < N j → (j < i ∨ (j = i ∧ l < k)) → Mk wr (mkBytes j l) ((Z j).getD l nilv)
  kp : Kp (rft n A) w0 wr
theorem P1.next {w0 wr : World} {v : Value} {n : Nat} {A : Nat → Option Addr} {C N : Nat → Nat} {i : Nat} {Z : Nat → List Value} (h : P1 w0 wr v n A C N i (N i) Z) : P1 w0 wr v n A C N (i + 1) 0 Z :=
  ⟨h.fam, h.len, fun j l hj hl hm => h.mrk j l hj hl (by
    rcases Nat.lt_trichotomy j i with e | e | e
    · exact .inl e
    · subst e; exact .inr ⟨rfl, hl⟩
    · rcases hm with hm | ⟨_, hm⟩ <;> omega), h.kp⟩
theorem P1.step {w0 wr : World} {v : Value} {n : Nat} {A : Nat → Option Addr} {C N : Nat → Nat} {i k : Nat} {Z : Nat → List Value} (h : P1 w0 wr v n A C N i k Z) (hi : i < n) (hk : k < N i) {b : Nat} (ha : A i = some ⟨b, 0, none⟩) :
    P1 w0 ((wr.alloc (.cells #[.int .u8 (mkBytes i k)] 5)).setCell ⟨b, k, none⟩ (.slice (some ⟨wr.heap.size, 0, none⟩) 1 1)) v n A C N i (k + 1) (putf Z i ((Z i).set k (.slice (some ⟨wr.heap.size, 0, none⟩) 1 1))) := by
  have h1 : Fv 23 25 (wr.alloc (.cells #[.int .u8 (mkBytes i k)] 5)) v n A C Z := h.fam.of_block fun j hj => Below.heap_alloc wr _ j (h.fam.lt j hj)
  obtain ⟨h2, h3⟩ := h1.set i k b hi (by rw [h.len i hi]; exact hk) ha (.slice (some ⟨wr.heap.size, 0, none⟩) 1 1)
  have hb5 : blks (rv (A i) (C i) (Z i)) b := (blks_rv _ _ _ b).2 ⟨_, ha, rfl⟩
  have ku2 : Ku (wr.alloc (.cells #[.int .u8 (mkBytes i k)] 5)) ((wr.alloc (.cells #[.int .u8 (mkBytes i k)] 5)).setCell ⟨b, k, none⟩ (.slice (some ⟨wr.heap.size, 0, none⟩) 1 1)) := h1.ku (by decide) h3
  have ku : Ku wr _ := (Ku.alloc wr (.cells #[.int .u8 (mkBytes i k)] 5)).trans ku2
  have hnew : Mk ((wr.alloc (.cells #[.int .u8 (mkBytes i k)] 5)).setCell ⟨b, k, none⟩ (.slice (some ⟨wr.heap.size, 0, none⟩) 1 1)) (mkBytes i k) (.slice (some ⟨wr.heap.size, 0, none⟩) 1 1) := ⟨wr.heap.size, rfl, ku2 _ _ (heap_alloc_new wr _)⟩
  refine ⟨h2, fun j hj => ?_, fun j l hj hl hm => ?_, (h.kp.trans (Kp.of_below (below_alloc wr _))).trans h3⟩
  · by_cases e : j = i
    · subst e; rw [putf_same, List.length_set]; exact h.len j hj
    · rw [putf_other _ _ _ _ e]; exact h.len j hj
  · by_cases e : j = i
    · subst e
      rw [putf_same]
      by_cases e2 : l = k
      · subst e2
        have : ((Z j).set l (Value.slice (some ⟨wr.heap.size, 0, none⟩) 1 1)).getD l nilv = .slice (some ⟨wr.heap.size, 0, none⟩) 1 1 := by
          rw [List.getD_eq_getElem?_getD, List.getElem?_set_self (by rw [h.len j hj]; exact hl)]; rfl
        rw [this]; exact hnew
      · have : ((Z j).set k (Value.slice (some ⟨wr.heap.size, 0, none⟩) 1 1)).getD l nilv = (Z j).getD l nilv := by
          simp only [List.getD_eq_getElem?_getD]; rw [List.getElem?_set_ne (fun e => e2 e.symm)]
        rw [this]
        exact (h.mrk j l hj hl (by rcases hm with hm | ⟨_, hm⟩; exact .inl hm; exact .inr ⟨rfl, by omega⟩)).ku ku
    · rw [putf_other _ _ _ _ e]
      exact (h.mrk j l hj hl (by rcases hm with hm | ⟨hm, _⟩; exact .inl hm; exact absurd hm e)).ku ku
theorem long_at {et : TypeId} {w : World} {x : Value} {ms ts : List Value} {N : Nat} (h : OwnV et w x (ms ++ ts)) (hm : ms.length = N) (ht : ts.length = 8) : ∃ b c, x = .slice (some ⟨b, 0, none⟩) (N + 8) c ∧ ∀ k, k < N + 8 → w.cell? ⟨b, k, none⟩ = some ((ms ++ ts).getD k nilv) := by
  have e : (ms ++ ts).length = N + 8 := by rw [List.length_append, hm, ht]
  rcases h.2 with ⟨_, h0⟩ | ⟨g, cap, cur, rfl, _⟩
  · omega
  · obtain ⟨_, _, _, h4, _⟩ := h.at_
    rw [e] at h4 ⊢
    exact ⟨g, cap, rfl, h4⟩
end Go.Proofs.Ytejdlcahcimflaa.Bv
