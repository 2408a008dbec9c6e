/- Write. -/
import Derived.Test.YtkkjppdooaipiaaDI
namespace Go.Proofs.Ytkkjppdooaipiaa
open Go.RowKit Go.Maps
set_option linter.unusedVariables false

theorem hmf (fn : Fn) (first cap : Array Value) (w : World) : (Instr.makeFunc fn first cap).run Try.prog w = .ok (.func fn first cap) w := rfl
/-- a disk behind a write of a page that is there. -/
def DS.wr (S : DS) (pg : Nat) (zs : List Int) (N : Nat) : DS := if S.er S.s2 S.l2 = 0 then S.op2.adds (8 * pg) zs N else S.be S.op2
theorem Go1.of_mv {O : Nat → Prop} {p : Nat} {w w' : World} (h : Mv (· = p) w w') (ho : O p) : Go1 O w O w' :=
  ⟨⟨h.os, h.tape, h.output, h.size, fun k hk hn => h.block k hk (fun e => hn (by rw [e]; exact ho))⟩, fun _ h => .inl h⟩
theorem DS.be_good {S : DS} (h : S.Good) {S' : DS} (h' : S'.Good) : (S.be S').Good := by
  unfold DS.be
  split
  · exact h
  · split
    · exact h.out
    · exact h'
theorem cell_new (w : World) (v : Value) (t : TypeId) : (w.alloc (.cells #[v] t)).cell? ⟨w.heap.size, 0, none⟩ = some v := by
  rw [cell_of_row _ _ 0 _ t (0, 0) (heap_alloc_new w _)]; rfl
theorem cell_old {w : World} {b o : Nat} {v : Value} (h : w.cell? ⟨b, o, none⟩ = some v) (ob : Obj) : (w.alloc ob).cell? ⟨b, o, none⟩ = some v := by
  rw [World.cell?_of_block (w := w) (Below.heap_alloc w ob b (World.block_lt_of_cell? w _ h))]; exact h

set_option maxHeartbeats 1600000 in
set_option maxRecDepth 1000000 in
theorem write_any (p q : Nat) (O : Nat → Prop) (S : DS) (pg : Nat) (b off len cap : Nat) (zs : List Int) (N : Nat) (w : World) (h : DkAt w p q S O)
    (ob : ¬ O b) (hr : Row w (some ⟨b, off, none⟩) zs) (hbl : b < w.heap.size) (hz : zs.length = len) (hby : Byts zs) (hlc : len ≤ cap) (hcm : cap ≤ 9223372036854775807)
    (hpg : pg < S.ls.length / 8) (hl8 : S.ls.length % 8 = 0) (hN : len = 1024 ∧ N = 8 ∨ len = 128 ∧ N = 1) (hf : S.ws.length + 8 ≤ 1000000) (hn : S.n2 + 1 ≤ 1000000) :
    Calls Try.prog 29 #[.pointer (some ⟨p, 0, none⟩), .int .i64 (pg : Int), .slice (some ⟨b, off, none⟩) len cap] w fun e w' => e = .returned (.int .u16 (S.er S.s2 S.l2 : Int)) ∧ ∃ O', DkAt w' p q (S.wr pg zs N) O' ∧ Go1 O w O' w' := by
  obtain ⟨vw, m, hd, ho⟩ := h
  have hlt : ∀ k, Ow p q vw m k → k < w.heap.size := hd.lt
  have nO : ∀ k, w.heap.size ≤ k → ¬ Ow p q vw m k := fun k hk h => by have := hlt k h; omega
  obtain ⟨W3, hW3⟩ : ∃ W3, W3 = ((w.alloc (.cells #[.pointer (some ⟨p, 0, none⟩)] 25)).alloc (.cells #[.int .i64 (pg : Int)] 3)).alloc (.cells #[.slice (some ⟨b, off, none⟩) len cap] 34) := ⟨_, rfl⟩
  have s1 := size_al w (.cells #[.pointer (some ⟨p, 0, none⟩)] 25)
  have s2 := size_al (w.alloc (.cells #[.pointer (some ⟨p, 0, none⟩)] 25)) (.cells #[.int .i64 (pg : Int)] 3)
  have hb3 : Below w.heap.size w W3 := by
    rw [hW3]
    exact (below_alloc w _).trans (((below_alloc _ _).mono (by omega)).trans ((below_alloc _ _).mono (by omega)))
  have c0 : W3.cell? ⟨w.heap.size, 0, none⟩ = some (.pointer (some ⟨p, 0, none⟩)) := by rw [hW3]; exact cell_old (cell_old (cell_new _ _ _) _) _
  have c1 : W3.cell? ⟨w.heap.size + 1, 0, none⟩ = some (.int .i64 (pg : Int)) := by rw [hW3]; have := cell_old (cell_new (w.alloc (.cells #[.pointer (some ⟨p, 0, none⟩)] 25)) (.int .i64 (pg : Int)) 3) (.cells #[.slice (some ⟨b, off, none⟩) len cap] 34); rwa [s1] at this
  have c2 : W3.cell? ⟨w.heap.size + 2, 0, none⟩ = some (.slice (some ⟨b, off, none⟩) len cap) := by rw [hW3]; have := cell_new ((w.alloc (.cells #[.pointer (some ⟨p, 0, none⟩)] 25)).alloc (.cells #[.int .i64 (pg : Int)] 3)) (.slice (some ⟨b, off, none⟩) len cap) 34; rwa [s2, s1] at this
  have HOp := hide (operate2 p q vw m S W3 (.pointer (some ⟨w.heap.size, 0, none⟩)) (.pointer (some ⟨w.heap.size + 1, 0, none⟩)) (.pointer (some ⟨w.heap.size + 2, 0, none⟩))
    (fun x w' => x = (S.er S.s2 S.l2 : Int) ∧ ∃ O', DkAt w' p q (S.wr pg zs N) O' ∧ Go1 O w O' w') (hd.below hb3) hn
    (fun he W hdW hm hs => by
      have hg0 : Go1 (Ow p q vw m) w (Ow p q vw m) W := (Go1.of_below hb3).trans (Go1.of_mv hm (.inl rfl))
      have hm' : Mv (Ow p q vw m) W3 W := (Go1.of_mv hm (.inl rfl)).mv
      refine (writes_any p q vw m S.op2 w.heap.size (w.heap.size + 1) (w.heap.size + 2) pg b off len cap zs N W hdW (hm'.cell c0 (nO _ (Nat.le_refl _))) (hm'.cell c1 (nO _ (by omega))) (hm'.cell c2 (nO _ (by omega))) (nO _ (Nat.le_refl _)) (nO _ (by omega)) (nO _ (by omega)) (fun h => ob ((ho b).2 h)) (hg0.mv.row hr (fun h => ob ((ho b).2 h))) hz hby hlc hcm hpg hl8 hN hf).mono ?_
      rintro e w' ⟨rfl, vw', m', hd', hg'⟩
      refine ⟨0, rfl, by rw [he]; rfl, Ow p q vw' m', ⟨vw', m', by rw [DS.wr, if_pos he]; exact hd', fun _ => Iff.rfl⟩, ?_⟩
      have := hg0.trans hg'
      exact ⟨⟨this.mv.os, this.mv.tape, this.mv.output, this.mv.size, fun k hk hn => this.mv.block k hk (fun h => hn ((ho k).2 h))⟩, fun k hk => (this.own k hk).imp (fun h => (ho k).2 h) id⟩)
    (fun he W hdW hm hs => by
      have hg0 : Go1 (Ow p q vw m) w (Ow p q vw m) W := (Go1.of_below hb3).trans (Go1.of_mv hm (.inl rfl))
      refine ⟨rfl, Ow p q vw m, ⟨vw, m, by rw [DS.wr, if_neg he]; exact hdW, fun _ => Iff.rfl⟩, ?_⟩
      exact ⟨⟨hg0.mv.os, hg0.mv.tape, hg0.mv.output, hg0.mv.size, fun k hk hn => hg0.mv.block k hk (fun h => hn ((ho k).2 h))⟩, fun k hk => (hg0.own k hk).imp (fun h => (ho k).2 h) id⟩))
  clear hd ho hlt nO hr hz hby hlc hcm hpg hl8 hN hf hn hb3 c1 c2 s1 s2 ob
  have hmf' := hmf
  subst hW3
  go_enter Try.func29, Try.ntmps29
  go_wp2_with fail
  refine HOp.out.mono ?_
  rintro e w' ⟨x, rfl, rfl, hh⟩
  have HH := hide hh
  clear hh
  go_wp2
  go_ret
  exact ⟨rfl, HH.out⟩
end Go.Proofs.Ytkkjppdooaipiaa
