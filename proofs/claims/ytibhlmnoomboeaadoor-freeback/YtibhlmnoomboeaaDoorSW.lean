/- SameWords of like rows; rows that stand beside a list. -/
import Derived.Test.YtibhlmnoomboeaaDoorND
namespace Go.Proofs.YtibhlmnoomboeaaDoor
open Go.RowKit Go.Maps
set_option linter.unusedVariables false
variable {w w' : World}
set_option maxHeartbeats 1600000 in
set_option maxRecDepth 1000000 in
theorem samew_eq (w : World) (a b : Option Addr) (n c d : Nat) (zs : List Nat) (hl : zs.length = n) (hn : n ≤ 1000000) (h1 : Rw w a zs) (h2 : Rw w b zs) :
    Calls Tryd.prog 15 #[.slice a n c, .slice b n d] w fun e w' => e = .returned (.bool true) ∧ Same w w' := by
  have HL := hide hl
  have H1 := hide h1
  have H2 := hide h2
  have hnb : ((n : Int) != (n : Int)) = false := by simp
  clear hl h1 h2
  go_enter Tryd.func15, Tryd.ntmps15
  go_wp2
  go_loopw [5] (fun i wr => ∃ k : Nat, k ≤ n ∧ i = .int .i64 k ∧ Same w wr) (fun i _ => n - (intOf i).toNat)
  case atStart => exact ⟨0, Nat.zero_le _, rfl, Same.refl _⟩
  case round =>
    obtain ⟨k, hk, rfl, hs⟩ := hrel
    have HS := hide hs
    clear hs
    by_cases hlt : k < n
    · have hlk : k < zs.length := by have := HL.out; omega
      rcases H1.out.below HS.out.below with h0 | ⟨b1, o1, rfl, _, hc1⟩
      · subst h0; simp at hlk
      rcases H2.out.below HS.out.below with h0 | ⟨b2, o2, rfl, _, hc2⟩
      · subst h0; simp at hlk
      have g1 := hc1 k hlk
      have g2 := hc2 k hlk
      clear hc1 hc2
      generalize zs.getD k 0 = z at *
      have hbn : ((z : Int) != (z : Int)) = false := by simp
      go_wp2
      go_quiet (fail)
      go_wp2
      go_roundw
      case rel => exact ⟨k + 1, by omega, by go_num, HS.out.drewN _⟩
      case measure => simp [intOf]; omega
    · go_wp2
      go_ret
      exact ⟨rfl, HS.out⟩
theorem OwnW.of_block {v : Value} {zs : List Nat} (h : OwnW w v zs) (hb : ∀ k, v.ownBlock = some k → w'.heap[k]? = w.heap[k]?) : OwnW w' v zs := by
  obtain ⟨h1, h2⟩ := h
  refine ⟨h1, ?_⟩
  rcases h2 with h2 | ⟨g, cap, cur, rfl, hg, hh, r⟩
  · exact .inl h2
  · exact .inr ⟨g, cap, cur, rfl, hg, by rw [hb g rfl]; exact hh, r⟩
/-- a row of words beside a list. -/
structure Bs (w0 w : World) (l : Nat) (M : List Pg) (O : Nat → Prop) (v : Value) (zs : List Nat) : Prop where
  ls : LsAt w l M O
  row : OwnW w v zs
  ap : ∀ k, v.ownBlock = some k → ¬ O k
  ol : ∀ k, O k → w0.heap.size ≤ k
  vl : ∀ k, v.ownBlock = some k → w0.heap.size ≤ k
  bel : Below w0.heap.size w0 w
variable {w0 : World} {l : Nat} {M M' : List Pg} {O O' : Nat → Prop} {v : Value} {zs : List Nat}
/-- the list has turned. -/
theorem Bs.turn (h : Bs w0 w l M O v zs) (hl : LsAt w' l M' O') (hg : Go1 O w O' w') : Bs w0 w' l M' O' v zs :=
  ⟨hl, h.row.of_block (fun k hk => hg.mv.block k (h.row.lt hk) (h.ap k hk)), fun k hk ho => (hg.own k ho).elim (h.ap k hk) (fun hs => by have := h.row.lt hk; omega), fun k hk => (hg.own k hk).elim (h.ol k) (fun hs => Nat.le_trans h.bel.size hs), h.vl, h.bel.trans (hg.mv.below h.bel.size h.ol)⟩
theorem Bs.same (h : Bs w0 w l M O v zs) (hs : Same w w') : Bs w0 w' l M O v zs := ⟨h.ls.same hs, h.row.same hs, h.ap, h.ol, h.vl, h.bel.trans (hs.below.mono h.bel.size)⟩
/-- the row has grown by one. -/
theorem Bs.grow (h : Bs w0 w l M O v zs) {v' : Value} {zs' : List Nat} {o : Obj} (hr : OwnW w' v' zs') (hg : (w.alloc o).grownBy w' v.ownBlock) (hv : v'.ownBlock = v.ownBlock ∨ v'.ownBlock = some (w.alloc o).heap.size) : Bs w0 w' l M O v' zs' := by
  have hlt := fun k (hk : O k) => h.ls.lt hk
  have hsz : (w.alloc o).heap.size = w.heap.size + 1 := by simp
  have hm : ∀ k, k < w.heap.size → v.ownBlock ≠ some k → w'.heap[k]? = w.heap[k]? := fun k hk hne => by
    rw [hg.block k (by omega) (fun e => hne e.symm)]
    exact Below.heap_alloc w o k hk
  refine ⟨h.ls.stays fun k hk => hm k (hlt k hk) (fun e => h.ap k e hk), hr, fun k hk ho => ?_, h.ol, fun k hk => ?_, ?_⟩
  · rcases hv with e | e
    · rw [e] at hk; exact h.ap k hk ho
    · rw [e] at hk; cases hk; have := hlt _ ho; omega
  · rcases hv with e | e
    · rw [e] at hk; exact h.vl k hk
    · rw [e] at hk; cases hk; have := h.bel.size; omega
  · exact h.bel.trans ((Mv.below (((Mv.refl (fun k => v.ownBlock = some k) w).alloc o).grown hg (fun k hk => .inl hk)) h.bel.size h.vl))
end Go.Proofs.YtibhlmnoomboeaaDoor
