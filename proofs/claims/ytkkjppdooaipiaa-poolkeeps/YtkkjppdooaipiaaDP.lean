/- Read. -/
import Derived.Test.YtkkjppdooaipiaaDO
namespace Go.Proofs.Ytkkjppdooaipiaa
open Go.RowKit Go.Maps
set_option linter.unusedVariables false

theorem be_zero {S S' : DS} {s : Bool} {l : Int} (h : S.er s l = 0) : S.be S' = S' := by
  unfold DS.er at h
  unfold DS.be
  split at h
  · omega
  · split at h
    · omega
    · rename_i h1 h2
      rw [if_neg h1, if_neg h2]
theorem zero63 : ∀ w, (zeroValue 34).run Try.prog w = .ok (.slice none 0 0) w := (zero_of_info (P := Try.prog) (t := 34) (v := .slice none 0 0) (n := 1) (by kernel_rfl)).1
/-- what a read answers. -/
def Rd1 (w' : World) (v : Value) (e : Nat) (zs : List Int) (B : Nat) : Prop := (e = 0 → Own w' v zs ∧ ∀ g, v.ownBlock = some g → B ≤ g) ∧ (e ≠ 0 → v = .slice none 0 0)

set_option maxHeartbeats 1600000 in
set_option maxRecDepth 1000000 in
theorem read_any (p q : Nat) (O : Nat → Prop) (S : DS) (pg : Nat) (w : World) (h : DkAt w p q S O) (hpg : pg < S.ls.length / 8) (hn : S.n1 + 1 ≤ 1000000) :
    Calls Try.prog 24 #[.pointer (some ⟨p, 0, none⟩), .int .i64 (pg : Int)] w fun e w' => ∃ v, e = .returned (.tuple #[v, .int .u16 (S.er S.s1 S.l1 : Int)]) ∧ Rd1 w' v (S.er S.s1 S.l1) (rd S (8 * pg) 8) w.heap.size ∧ DkAt w' p q (S.be S.op1) O ∧ Go1 O w O w' := by
  obtain ⟨vw, m, hd, ho⟩ := h
  have hlt : ∀ k, Ow p q vw m k → k < w.heap.size := hd.lt
  have nO : ∀ k, w.heap.size ≤ k → ¬ Ow p q vw m k := fun k hk h => by have := hlt k h; omega
  obtain ⟨W3, hW3⟩ : ∃ W3, W3 = ((w.alloc (.cells #[.pointer (some ⟨p, 0, none⟩)] 25)).alloc (.cells #[.int .i64 (pg : Int)] 3)).alloc (.cells #[.slice none 0 0] 34) := ⟨_, rfl⟩
  have s1 := size_al w (.cells #[.pointer (some ⟨p, 0, none⟩)] 25)
  have s2 := size_al (w.alloc (.cells #[.pointer (some ⟨p, 0, none⟩)] 25)) (.cells #[.int .i64 (pg : Int)] 3)
  have s3 : W3.heap.size = w.heap.size + 3 := by rw [hW3, size_al, s2, s1]
  have hb3 : Below w.heap.size w W3 := by
    rw [hW3]
    exact (below_alloc w _).trans (((below_alloc _ _).mono (by omega)).trans ((below_alloc _ _).mono (by omega)))
  have c0 : W3.cell? ⟨w.heap.size, 0, none⟩ = some (.pointer (some ⟨p, 0, none⟩)) := by rw [hW3]; exact cell_old (cell_old (cell_new _ _ _) _) _
  have c1 : W3.cell? ⟨w.heap.size + 1, 0, none⟩ = some (.int .i64 (pg : Int)) := by rw [hW3]; have := cell_old (cell_new (w.alloc (.cells #[.pointer (some ⟨p, 0, none⟩)] 25)) (.int .i64 (pg : Int)) 3) (.cells #[.slice none 0 0] 34); rwa [s1] at this
  have c2 : W3.heap[w.heap.size + 2]? = some (.cells #[.slice none 0 0] 34 (0, 0)) := by rw [hW3]; have := heap_alloc_new ((w.alloc (.cells #[.pointer (some ⟨p, 0, none⟩)] 25)).alloc (.cells #[.int .i64 (pg : Int)] 3)) (.cells #[.slice none 0 0] 34); rwa [s2, s1] at this
  have HOp := hide (operate1 p q vw m S W3 (.pointer (some ⟨w.heap.size, 0, none⟩)) (.pointer (some ⟨w.heap.size + 1, 0, none⟩)) (.pointer (some ⟨w.heap.size + 2, 0, none⟩))
    (fun x w' => x = (S.er S.s1 S.l1 : Int) ∧ ∃ v, w'.cell? ⟨w.heap.size + 2, 0, none⟩ = some v ∧ Rd1 w' v (S.er S.s1 S.l1) (rd S (8 * pg) 8) w.heap.size ∧ DkAt w' p q (S.be S.op1) O ∧ Go1 O w O w') (hd.below hb3) hn
    (fun he W hdW hm hs => by
      have hg0 : Go1 (Ow p q vw m) w (Ow p q vw m) W := (Go1.of_below hb3).trans (Go1.of_mv hm (.inl rfl))
      have hm' : Mv (Ow p q vw m) W3 W := (Go1.of_mv hm (.inl rfl)).mv
      refine (reads_any p q vw m S.op1 w.heap.size (w.heap.size + 1) (w.heap.size + 2) pg (.slice none 0 0) W hdW (hm'.cell c0 (nO _ (Nat.le_refl _))) (hm'.cell c1 (nO _ (by omega))) ((hm'.block _ (by omega) (nO _ (by omega))).trans c2) (nO _ (by omega)) (by omega) (by omega) hpg).mono ?_
      rintro e w' ⟨rfl, v, hc, hown, hnew, hmv⟩
      refine ⟨0, rfl, by rw [he]; rfl, v, by rw [cell_of_row w' _ 0 _ 34 (0, 0) hc]; rfl, ⟨fun _ => ⟨hown, fun g hg => Nat.le_trans (by omega) (hnew g hg)⟩, fun h => absurd he h⟩, ⟨vw, m, ?_, ho⟩, ?_⟩
      · rw [be_zero he]
        exact hdW.stays (fun k hk => hmv.block k (hdW.lt k hk) (by have := hlt k hk; omega))
      · refine ⟨⟨hmv.os.trans hg0.mv.os, hmv.tape.trans hg0.mv.tape, hmv.output.trans hg0.mv.output, Nat.le_trans hg0.mv.size hmv.size, fun k hk hn => ?_⟩, fun k hk => .inl hk⟩
        rw [hmv.block k (Nat.lt_of_lt_of_le hk hg0.mv.size) (by omega), hg0.mv.block k hk (fun h => hn ((ho k).2 h))])
    (fun he W hdW hm hs => by
      have hg0 : Go1 (Ow p q vw m) w (Ow p q vw m) W := (Go1.of_below hb3).trans (Go1.of_mv hm (.inl rfl))
      have hm' : Mv (Ow p q vw m) W3 W := (Go1.of_mv hm (.inl rfl)).mv
      have hc : W.heap[w.heap.size + 2]? = some (.cells #[.slice none 0 0] 34 (0, 0)) := (hm'.block _ (by omega) (nO _ (by omega))).trans c2
      exact ⟨rfl, .slice none 0 0, by rw [cell_of_row W _ 0 _ 34 (0, 0) hc]; rfl, ⟨fun h => absurd h he, fun _ => rfl⟩, ⟨vw, m, hdW, ho⟩, Go1.ofO hg0 ho ho⟩))
  clear hd ho hlt nO hpg hn hb3 c1 c2 s1 s2 s3
  have hmf' := hmf
  have hz := zero63
  subst hW3
  go_enter Try.func24, Try.ntmps24
  go_wp2_with fail
  refine HOp.out.mono ?_
  rintro e w' ⟨x, rfl, rfl, v, hc, hh⟩
  have HH := hide hh
  clear hh
  go_wp2
  go_ret2
  exact ⟨v, rfl, HH.out⟩
end Go.Proofs.Ytkkjppdooaipiaa
