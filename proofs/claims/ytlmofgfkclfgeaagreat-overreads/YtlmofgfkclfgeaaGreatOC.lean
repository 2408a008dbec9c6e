/- A range over a function that owns memory and whose last round is left early for sure, where bd holds (an error is handed over). -/
import Derived.Test.YtlmofgfkclfgeaaGreatOT
import Derived.Test.YtlmofgfkclfgeaaGreatYA
import Derived.Shelf.Abstract
import Derived.Shelf.RegionOpen
import Derived.OwnWalkIn
import Derived.TacticsInMore
import Derived.LoopNIn
import Derived.LoopIn
import Derived.Sort.BigQuietIn
namespace Go.Proofs.YtlmofgfkclfgeaaGreat
open Go.RowKit
set_option linter.unusedVariables false

/-- what is ranged over hands over n times, as long as it is asked to; it owns O, which goes from hand to hand; St says how it stands, X what it hands over. -/
def GoesQ (P : Program) (gf : Nat) (lb : Array Value) (n : Nat) (bd : Prop) (St : Nat → World → (Nat → Prop) → Prop) (X : Nat → Array Value → World → (Nat → Prop) → Prop) : Prop :=
  ∀ (l : Nat) (C : Nat → World → (Nat → Prop) → Prop) (Cx : Nat → World → (Nat → Prop) → Prop) (W : World) (O : Nat → Prop),
    (∀ i V O V' O', C i V O → Go1 O V O' V' → C i V' O') → (∀ i V O V' O', Cx i V O → Go1 O V O' V' → Cx i V' O') → (bd → ∀ V O, ¬ C n V O) →
    (∀ i args V O, i < n → C i V O → X i args V O → YieldAt Fence.wide 0 P l args V fun e V' =>
      Mv (fun k => ¬ O k) V V' ∧ ((e = .returned (.bool true) ∧ C (i + 1) V' O) ∨ (e = .returned (.bool false) ∧ Cx (i + 1) V' O))) →
    C 0 W O → St 0 W O → Calls P gf (#[.func (.yield l) #[] #[]] ++ lb) W fun e W' => (∃ v, e = .returned v) ∧ ∃ i O', St i W' O' ∧ ((C n W' O' ∧ i = n) ∨ Cx i W' O')

theorem range_genQ {P : Program} {g : Operand} {ps : Array Tmp} {assign body : Code} {Q : Exit → Act → World → Prop} {a : Act} {w : World}
    {gf : Nat} {lb : Array Value} (hg : a.eval g = .func (.func gf) #[] lb) (eg : ∀ args w, (callFunc gf args).run P w = .ok (.enter gf args) w)
    {n : Nat} {bd : Prop} {St : Nat → World → (Nat → Prop) → Prop} {X : Nat → Array Value → World → (Nat → Prop) → Prop} (hseq : GoesQ P gf lb n bd St X) (hps : ∀ i args V O, X i args V O → args.size = ps.size)
    (hSt : ∀ i V O V', St i V O → Mv (fun k => ¬ O k) V V' → St i V' O)
    (I : Nat → World → (Nat → Prop) → Prop) (Ix : Nat → Code → World → (Nat → Prop) → Prop)
    (hI : ∀ i V O V' O', I i V O → Go1 O V O' V' → (¬ O w.heap.size ∧ ¬ O (w.heap.size + 1)) → w.heap.size + 1 < V.heap.size → I i V' O') (hIL : ∀ i V O V', I i V O → Mv (Lp w.heap.size) V V' → I i V' O)
    (hIx : ∀ i c V O V' O', Ix i c V O → Go1 O V O' V' → Ix i c V' O') (hIxL : ∀ i c V O V', Ix i c V O → Mv (Lp w.heap.size) V V' → Ix i c V' O)
    (hbd : bd → ∀ V O, ¬ I n V O)
    (O0 : Nat → Prop) (hO0 : ¬ O0 w.heap.size ∧ ¬ O0 (w.heap.size + 1)) (h0 : I 0 w O0) (hS0 : St 0 w O0)
    (Ax : Nat → Act → World → (Nat → Prop) → Prop) (hAx : ∀ i a' V O r o, Ax i a' V O → V.heap[w.heap.size + 1]? = some (.loop r) → ¬ O (w.heap.size + 1) → Ax i a' (V.putObj (w.heap.size + 1) o) O)
    (hassign : ∀ (l i : Nat) (args : Array Value) (V : World) (O : Nat → Prop) (K : Act → World → Prop), w.heap.size + 1 < V.heap.size → I i V O → X i args V O → (∀ a' V', Kl w.heap.size V V' → Mv (fun k => ¬ O k) V V' → Ax i a' V' O → K a' V') →
      assign.wpIn (Fence.wide.inRound l) 7 P (Exit.then K (fun _ _ _ => False)) { tmps := (ps.zip args).foldl (fun t (p, v) => t.setIfInBounds p v) a.tmps, defers := [] } V)
    (hbody : ∀ (l i : Nat) (a' : Act) (V : World) (O : Nat → Prop), i < n → w.heap.size + 1 < V.heap.size → Ax i a' V O → (¬ O w.heap.size ∧ ¬ O (w.heap.size + 1)) → body.wpIn (Fence.wide.inRound l) 7 P (roundP w.heap.size (I (i + 1)) (Ix (i + 1)) V O) a' V)
    (hdone : ∀ (D : Nat) (V : World) (O : Nat → Prop), w.heap.size = D → I n V O → St n V O → V.heap[D]? = some (.deferred (some [])) → ¬ O D → Q .normal { a with defers := { target := .collected D, args := #[] } :: a.defers } V)
    (hstop : ∀ (D i : Nat) (c : Code) (V : World) (O : Nat → Prop), w.heap.size = D → Ix i c V O → St i V O → V.heap[D]? = some (.deferred (some [])) → ¬ O D → c.wpIn Fence.wide 9 P Q { a with defers := { target := .collected D, args := #[] } :: a.defers } V) :
    (Code.rangeFunc g ps assign body).wpIn Fence.wide 9 P Q a w := by
  refine wpIn_rangeFunc ?_
  intro fn hfn
  obtain ⟨rec, hrec⟩ : ∃ rec : LoopState → Option Code → Loop, rec = fun st pe => { state := st, pending := pe, fn, tmps := a.tmps, params := ps, assign, body, defers := w.heap.size } := ⟨_, rfl⟩
  obtain ⟨W1, hW1⟩ : ∃ W1, (w.alloc (.deferred (some []))).alloc (.loop (rec .ready none)) = W1 := ⟨_, rfl⟩
  have hs1 : W1.heap.size = w.heap.size + 2 := by rw [← hW1]; simp
  have hL1 : W1.heap[w.heap.size + 1]? = some (.loop (rec .ready none)) := by
    rw [← hW1]; have := World.alloc_heap_new (w.alloc (.deferred (some []))) (.loop (rec .ready none)); rwa [World.size_alloc] at this
  have hK1 : W1.heap[w.heap.size]? = some (.deferred (some [])) := by
    rw [← hW1]; exact (Below.heap_alloc _ _ _ (by simp)).trans (World.alloc_heap_new w _)
  have hb1 : Mv (Lp w.heap.size) w W1 := by rw [← hW1]; exact ((Mv.refl _ w).alloc _).alloc _
  refine ⟨w.heap.size + 1, [{ target := .collected w.heap.size, args := #[] }], W1, { target := .fn (.func gf) lb, args := #[.func (.yield (w.heap.size + 1)) #[] #[]] }, W1, gf,
    #[.func (.yield (w.heap.size + 1)) #[] #[]] ++ lb, W1, ?_, ?_, ?_, ?_, fun _ => by omega, ?_⟩
  · rw [← hW1, hrec]; exact run_enterLoop_outer _ _ _ _ _
  · simp only [resolve, hg]
    simp [go_sem]
  · exact fun _ _ => trivial
  · simp [invoke, go_sem, eg]
  · refine (callsIn_wide.2 (hseq (w.heap.size + 1)
      (fun i V O => I i V O ∧ V.heap[w.heap.size + 1]? = some (.loop (rec .ready none)) ∧ V.heap[w.heap.size]? = some (.deferred (some [])) ∧ ¬ O w.heap.size ∧ ¬ O (w.heap.size + 1))
      (fun i V O => ∃ c, Ix i c V O ∧ V.heap[w.heap.size + 1]? = some (.loop (rec .done (some c))) ∧ V.heap[w.heap.size]? = some (.deferred (some [])) ∧ ¬ O w.heap.size ∧ ¬ O (w.heap.size + 1))
      W1 O0
      (fun i V O V' O' ⟨h1, h2, h3, h4, h5⟩ hgo => ⟨hI i V O V' O' h1 hgo ⟨h4, h5⟩ (lt_of_block h2), (hgo.mv.block _ (lt_of_block h2) h5).trans h2, (hgo.mv.block _ (lt_of_block h3) h4).trans h3, fun hx => (hgo.own _ hx).elim h4 (fun hl => by have := lt_of_block h3; omega), fun hx => (hgo.own _ hx).elim h5 (fun hl => by have := lt_of_block h2; omega)⟩)
      (fun i V O V' O' ⟨c, h1, h2, h3, h4, h5⟩ hgo => ⟨c, hIx i c V O V' O' h1 hgo, (hgo.mv.block _ (lt_of_block h2) h5).trans h2, (hgo.mv.block _ (lt_of_block h3) h4).trans h3, fun hx => (hgo.own _ hx).elim h4 (fun hl => by have := lt_of_block h3; omega), fun hx => (hgo.own _ hx).elim h5 (fun hl => by have := lt_of_block h2; omega)⟩)
      (fun hb V O h => hbd hb V O h.1)
      ?_ ⟨hIL 0 w O0 W1 h0 hb1, hL1, hK1, hO0⟩ (hSt 0 w O0 W1 hS0 (mv_notO hb1 hO0.1 hO0.2)))).mono ?_
    · rintro i args V O hin ⟨hi, hl, hk, ho0, ho1⟩ hx
      have hy := run_yield (P := P) (args := args) hl (by rw [hrec]; exact hps i args V O hx)
      rw [hrec] at hy
      refine ⟨fn, _, assign, body, hy, RoundIn.anyDepth (m := 7) rfl (roundIn_of_wpIn hfn (hassign _ i args V O _ (lt_of_block hl) hi hx (fun a' V' hab hmv hax => ?_)))⟩
      have hl' := hab.l.trans hl
      have hk' := hab.d.trans hk
      have hlt' : w.heap.size + 1 < V'.heap.size := lt_of_block hl'
      refine ⟨_, run_beginRound hl' (by rw [hrec]), ?_⟩
      have hl2 : (V'.putObj (w.heap.size + 1) (.loop { rec .ready none with state := .busy })).heap[w.heap.size + 1]? = some (.loop { rec .ready none with state := .busy }) := World.putObj_heap_same hlt'
      have hk2 : (V'.putObj (w.heap.size + 1) (.loop { rec .ready none with state := .busy })).heap[w.heap.size]? = some (.deferred (some [])) := (World.putObj_heap_other (by omega)).trans hk'
      have hbp := mv_notO (O := O) (mv_put V' w.heap.size (w.heap.size + 1) (.loop { rec .ready none with state := .busy }) (.inr rfl)) ho0 ho1
      have hm2 := Mv.trans' hmv hbp
      refine wpIn_mono (hbody _ i a' _ O hin (lt_of_block hl2) (hAx _ _ _ _ _ _ hax hl' ho1) ⟨ho0, ho1⟩) ?_
      have fin : ∀ (jump : Option Code) (W3 : World), Kl w.heap.size (V'.putObj (w.heap.size + 1) (.loop { rec .ready none with state := .busy })) W3 → Mv (fun k => ¬ O k) (V'.putObj (w.heap.size + 1) (.loop { rec .ready none with state := .busy })) W3 →
          (Instr.endRound (w.heap.size + 1) jump).run P W3 = .ok (.bool jump.isNone) (W3.putObj (w.heap.size + 1) (.loop (rec (if jump.isNone then .ready else .done) jump))) ∧
          (W3.putObj (w.heap.size + 1) (.loop (rec (if jump.isNone then .ready else .done) jump))).heap[w.heap.size + 1]? = some (.loop (rec (if jump.isNone then .ready else .done) jump)) ∧
          (W3.putObj (w.heap.size + 1) (.loop (rec (if jump.isNone then .ready else .done) jump))).heap[w.heap.size]? = some (.deferred (some [])) ∧
          Mv (Lp w.heap.size) W3 (W3.putObj (w.heap.size + 1) (.loop (rec (if jump.isNone then .ready else .done) jump))) ∧ Mv (fun k => ¬ O k) V (W3.putObj (w.heap.size + 1) (.loop (rec (if jump.isNone then .ready else .done) jump))) := fun jump W3 hk3 hm3 => by
        have hl3 := hk3.l.trans hl2
        have hkk := hk3.d.trans hk2
        have := run_endRound (P := P) jump hl3
        rw [hrec] at this ⊢
        have hp := mv_put W3 w.heap.size (w.heap.size + 1) (.loop { state := if jump.isNone then .ready else .done, pending := jump, fn, tmps := a.tmps, params := ps, assign, body, defers := w.heap.size }) (.inr rfl)
        exact ⟨this, World.putObj_heap_same (lt_of_block hl3), (World.putObj_heap_other (by omega)).trans hkk, hp, Mv.trans' (Mv.trans' hm2 hm3) (mv_notO hp ho0 ho1)⟩
      rintro e a3 W3 hp
      cases e with
      | normal =>
        obtain ⟨hi3, hk3, hm3⟩ := hp
        obtain ⟨hr, hl4, hk4, hb4, hm4⟩ := fin none W3 hk3 hm3
        exact ⟨_, _, hr, hm4, .inl ⟨rfl, ⟨hIL _ _ _ _ hi3 hb4, hl4, hk4, ho0, ho1⟩⟩⟩
      | ret =>
        obtain ⟨hi3, hk3, hm3⟩ := hp
        obtain ⟨hr, hl4, hk4, hb4, hm4⟩ := fin (some .ret) W3 hk3 hm3
        exact ⟨_, _, hr, hm4, .inr ⟨rfl, ⟨.ret, hIxL _ _ _ _ _ hi3 hb4, hl4, hk4, ho0, ho1⟩⟩⟩
      | exit id =>
        obtain ⟨hi3, hk3, hm3⟩ := hp
        obtain ⟨hr, hl4, hk4, hb4, hm4⟩ := fin (some (.exit id)) W3 hk3 hm3
        exact ⟨_, _, hr, hm4, .inr ⟨rfl, ⟨.exit id, hIxL _ _ _ _ _ hi3 hb4, hl4, hk4, ho0, ho1⟩⟩⟩
      | goto t =>
        obtain ⟨hi3, hk3, hm3⟩ := hp
        obtain ⟨hr, hl4, hk4, hb4, hm4⟩ := fin (some (.goto t)) W3 hk3 hm3
        exact ⟨_, _, hr, hm4, .inr ⟨rfl, ⟨.goto t, hIxL _ _ _ _ _ hi3 hb4, hl4, hk4, ho0, ho1⟩⟩⟩
      | panic ch => exact hp.elim
      | outgrown => exact hp.elim
    · rintro e W2 ⟨⟨v, rfl⟩, i, O', hst, (⟨⟨hi, hl, hk, ho0, ho1⟩, rfl⟩ | ⟨c, hi, hl, hk, ho0, ho1⟩)⟩
      · have hp := mv_put W2 w.heap.size (w.heap.size + 1) (.loop { rec .ready none with state := .done }) (.inr rfl)
        exact ⟨none, _, by have := run_endLoop (P := P) hl (by rw [hrec]; simp); rw [hrec] at this; exact this, hdone _ _ _ rfl (hIL _ _ _ _ hi (mv_put _ _ _ _ (.inr rfl))) (hSt _ _ _ _ hst (mv_notO (mv_put _ _ _ _ (.inr rfl)) ho0 ho1)) ((World.putObj_heap_other (by omega)).trans hk) ho0⟩
      · exact ⟨some c, _, by have := run_endLoop (P := P) hl (by rw [hrec]; simp); rw [hrec] at this; exact this, hstop _ i c _ _ rfl (hIxL _ _ _ _ _ hi (mv_put _ _ _ _ (.inr rfl))) (hSt _ _ _ _ hst (mv_notO (mv_put _ _ _ _ (.inr rfl)) ho0 ho1)) ((World.putObj_heap_other (by omega)).trans hk) ho0⟩
end Go.Proofs.YtlmofgfkclfgeaaGreat
/- A value in pieces of 1004 bytes. -/
namespace Go.Proofs.YtlmofgfkclfgeaaGreat
open Go.RowKit Go.Shelf
attribute [local go_sem] Oper.semAt_some
set_option linter.unusedVariables false
variable {w w' : World}
set_option maxHeartbeats 800000 in
theorem chunk_any (a : Option Addr) (n c : Nat) (w : World) :
    Calls Tryz.prog 52 #[.slice a n c, .int .i64 1004] w fun e w' => e = .returned (.func (.func 64) #[] #[.pointer (some ⟨w.heap.size, 0, none⟩), .pointer (some ⟨w.heap.size + 1, 0, none⟩)]) ∧ w' = (w.alloc (.cells #[.slice a n c] 22)).alloc (.cells #[.int .i64 1004] 3) := by
  go_enter Tryz.func52, Tryz.ntmps52
  go_wp2
  go_ret
  exact ⟨rfl, rfl⟩
/-- the boxes of what is ranged over. -/
structure Cb (b : Nat) (v : Value) (W : World) : Prop where
  s : W.heap[b]? = some (.cells #[v] 22 (0, 0))
  n : W.heap[b + 1]? = some (.cells #[.int .i64 1004] 3 (0, 0))
/-- the k-th piece. -/
def pc (b0 off n k : Nat) : Value := .slice (some ⟨b0, off + 1004 * k, none⟩) (min 1004 (n - 1004 * k)) (min 1004 (n - 1004 * k))
set_option maxHeartbeats 3200000 in
set_option maxRecDepth 1000000 in
theorem chunk1_goes (b b0 off n c : Nat) (hn : n ≤ 8192) (hc : n ≤ c) (hcm : c ≤ 9223372036854775807) :
    GoesS Tryz.prog 64 #[.pointer (some ⟨b, 0, none⟩), .pointer (some ⟨b + 1, 0, none⟩)] (fun k => #[pc b0 off n k]) (List.range ((n + 1003) / 1004)) (Cb b (.slice (some ⟨b0, off, none⟩) n c)) := by
  intro l J Jx W hJ hJx hM hY h0
  have HM := hide hM
  have HJ := hide hJ
  have HY := hide hY
  have H0 := hide h0
  obtain ⟨m, hm⟩ : ∃ m, m = (n + 1003) / 1004 := ⟨_, rfl⟩
  rw [← hm] at HY ⊢
  have HMm := hide hm
  have hc0 := (hM [] W h0)
  have q0 := cell_of_one hc0.s
  have q1 := cell_of_one hc0.n
  clear hM hJ hY h0 hJx hm hc0
  refine (callsIn_wide (n := 9)).1 ?_
  refine callsIn_of_wp Tryz.func64 rfl trivial ?_ rfl
  simp only [Tryz.ntmps64, List.size_toArray, List.length_cons, List.length_nil, Nat.reduceAdd, Nat.reduceSub, Array.replicate_succ, Array.replicate_zero, List.push_toArray, List.append_toArray, List.nil_append, List.cons_append]
  gi_wp2
  gi_loopw [4] (fun i wr => ∃ j : Nat, j ≤ m ∧ i = .int .i64 (1004 * j : Nat) ∧ J (List.range j) wr) (fun i _ => 10000 - (intOf i).toNat)
  case atStart => exact ⟨0, by omega, rfl, H0.out⟩
  case round =>
    obtain ⟨j, hj, rfl, hJs⟩ := hrel
    have hmm := HMm.out
    have hc1 := HM.out _ _ hJs
    have q2 := cell_of_one hc1.s
    have q3 := cell_of_one hc1.n
    clear q0 q1 hc1
    by_cases hlt : j < m
    · have hi : ((1004 * j : Nat) : Int) < (n : Int) := by omega
      have HR : Hid (List.range m = List.range j ++ j :: (List.range m).drop (j + 1)) := by
        rw [Hid]
        conv => lhs; rw [← List.take_append_drop j (List.range m)]
        rw [List.take_range, Nat.min_eq_left (by omega), List.drop_eq_getElem_cons (by simpa using hlt), List.getElem_range]
      have HS : Hid (List.range (j + 1) = List.range j ++ [j]) := List.range_succ
      have hb1 : 1004 * j ≤ 10000 := by omega
      have HJs := hide hJs
      clear hJs
      by_cases hfull : 1004 ≤ n - 1004 * j
      · have HE : Hid (pc b0 off n j = .slice (some ⟨b0, off + 1004 * j, none⟩) 1004 1004) := by
          rw [Hid, pc, Nat.min_eq_left hfull]
        have HNx : Hid ((((1004 * j : Nat) : Int) + 1004) = ((1004 * (j + 1) : Nat) : Int)) := by rw [Hid]; omega
        have hf1 : (1004 : Int) ≤ ((n - 1004 * j : Nat) : Int) := by omega
        have hf2 : ¬ ((n - 1004 * j : Nat) : Int) < 1004 := by omega
        clear hmm
        generalize hI : 1004 * j = I at *
        have HI := hide hI
        clear hI
        gi_wp2
        gi_big_quiet_th (fail)
        obtain ⟨fn, tmps, assign, body, hy, hR⟩ := HY.out (List.range j) j _ (wr.drewN nq) HR.out (HJ.out _ _ _ HJs.out ((Same.refl wr).drewN nq).below)
        rw [HE.out] at hy
        gi_wp2
        refine (RoundIn.anyDepth rfl hR).mono ?_
        rintro e W3 (⟨rfl, hJ3⟩ | ⟨rfl, hJx3⟩)
        · have hc3 := HM.out _ _ hJ3
          have q4 := cell_of_one hc3.n
          clear q2 q3 hc3
          gi_wp2
          go_roundw
          case rel => exact ⟨j + 1, by omega, by rw [← HNx.out], by rw [HS.out]; exact hJ3⟩
          case measure => simp [intOf]; omega
        · gi_wp2
          refine bodyPost_ret (results_none rfl _ _ _) rfl ?_
          exact ⟨⟨_, rfl⟩, .inr hJx3⟩
      · have HE : Hid (pc b0 off n j = .slice (some ⟨b0, off + 1004 * j, none⟩) (n - 1004 * j) (n - 1004 * j)) := by
          rw [Hid, pc, Nat.min_eq_right (by omega)]
        have HNx : Hid ((((1004 * j : Nat) : Int) + 1004) = ((1004 * (j + 1) : Nat) : Int)) := by rw [Hid]; omega
        have hf1 : ¬ (1004 : Int) ≤ ((n - 1004 * j : Nat) : Int) := by omega
        have hf2 : ((n - 1004 * j : Nat) : Int) < 1004 := by omega
        clear hmm
        generalize hI : 1004 * j = I at *
        have HI := hide hI
        clear hI
        gi_wp2
        gi_big_quiet_th (fail)
        obtain ⟨fn, tmps, assign, body, hy, hR⟩ := HY.out (List.range j) j _ (wr.drewN nq) HR.out (HJ.out _ _ _ HJs.out ((Same.refl wr).drewN nq).below)
        rw [HE.out] at hy
        gi_wp2
        refine (RoundIn.anyDepth rfl hR).mono ?_
        rintro e W3 (⟨rfl, hJ3⟩ | ⟨rfl, hJx3⟩)
        · have hc3 := HM.out _ _ hJ3
          have q4 := cell_of_one hc3.n
          clear q2 q3 hc3
          gi_wp2
          go_roundw
          case rel => exact ⟨j + 1, by omega, by rw [← HNx.out], by rw [HS.out]; exact hJ3⟩
          case measure => simp [intOf]; omega
        · gi_wp2
          refine bodyPost_ret (results_none rfl _ _ _) rfl ?_
          exact ⟨⟨_, rfl⟩, .inr hJx3⟩
    · obtain rfl : j = m := by omega
      have hi : ¬ ((1004 * j : Nat) : Int) < (n : Int) := by omega
      have HJs := hide hJs
      clear hJs hmm
      generalize hI : 1004 * j = I at *
      have HI := hide hI
      clear hI
      gi_wp2
      go_end0
      exact ⟨⟨_, rfl⟩, .inl HJs.out⟩
end Go.Proofs.YtlmofgfkclfgeaaGreat
