/- A range over a function that turns memory of its own between the rounds, which the rounds leave alone. -/
import Derived.Test.YtpcckaahfaobeaaOR
namespace Go.Proofs.Ytpcckaahfaobeaa
open Go.RowKit
set_option linter.unusedVariables false

/-- what is ranged over hands over n times, as long as it is asked to; it owns O, which goes from hand to hand; St says how it stands, X what it hands over. -/
def GoesP (P : Program) (gf : Nat) (lb : Array Value) (n : Nat) (St : Nat → World → (Nat → Prop) → Prop) (X : Nat → Array Value → World → (Nat → Prop) → Prop) : Prop :=
  ∀ (l : Nat) (C : Nat → World → (Nat → Prop) → Prop) (Cx : World → (Nat → Prop) → Prop) (W : World) (O : Nat → Prop),
    (∀ i V O V' O', C i V O → Go1 O V O' V' → C i V' O') → (∀ V O V' O', Cx V O → Go1 O V O' V' → Cx V' O') →
    (∀ i args V O, i < n → C i V O → X i args V O → YieldAt Fence.wide 0 P l args V fun e V' =>
      Mv (fun k => ¬ O k) V V' ∧ ((e = .returned (.bool true) ∧ C (i + 1) V' O) ∨ (e = .returned (.bool false) ∧ Cx V' O))) →
    C 0 W O → St 0 W O → Calls P gf (#[.func (.yield l) #[] #[]] ++ lb) W fun e W' => (∃ v, e = .returned v) ∧ ∃ i O', St i W' O' ∧ ((C n W' O' ∧ i = n) ∨ Cx W' O')

/-- how a round may be left. -/
def roundP (D : Nat) (I : World → (Nat → Prop) → Prop) (Ix : Code → World → (Nat → Prop) → Prop) (W : World) (O : Nat → Prop) : Exit → Act → World → Prop
  | .normal, _, W' => I W' O ∧ Kl D W W' ∧ Mv (fun k => ¬ O k) W W'
  | .ret, _, W' => Ix .ret W' O ∧ Kl D W W' ∧ Mv (fun k => ¬ O k) W W'
  | .exit id, _, W' => Ix (.exit id) W' O ∧ Kl D W W' ∧ Mv (fun k => ¬ O k) W W'
  | .goto t, _, W' => Ix (.goto t) W' O ∧ Kl D W W' ∧ Mv (fun k => ¬ O k) W W'
  | .panic _, _, _ => False
  | .outgrown, _, _ => False
theorem Go1.lp {O : Nat → Prop} {D : Nat} {W W' : World} (h : Mv (Lp D) W W') : Go1 (fun k => O k ∨ Lp D k) W (fun k => O k ∨ Lp D k) W' := ⟨h.mono fun _ h => .inr h, fun _ h => .inl h⟩
theorem mv_notO {O : Nat → Prop} {D : Nat} {W W' : World} (h : Mv (Lp D) W W') (h0 : ¬ O D) (h1 : ¬ O (D + 1)) : Mv (fun k => ¬ O k) W W' :=
  h.mono fun k hk ho => by
    have hk' : k = D ∨ k = D + 1 := hk
    rcases hk' with rfl | rfl
    · exact h0 ho
    · exact h1 ho
theorem range_genP {P : Program} {g : Operand} {ps : Array Tmp} {assign body : Code} {Q : Exit → Act → World → Prop} {a : Act} {w : World}
    {gf : Nat} {lb : Array Value} (hg : a.eval g = .func (.func gf) #[] lb) (eg : ∀ args w, (callFunc gf args).run P w = .ok (.enter gf args) w)
    {n : Nat} {St : Nat → World → (Nat → Prop) → Prop} {X : Nat → Array Value → World → (Nat → Prop) → Prop} (hseq : GoesP P gf lb n St X) (hps : ∀ i args V O, X i args V O → args.size = ps.size)
    (hSt : ∀ i V O V', St i V O → Mv (fun k => ¬ O k) V V' → St i V' O)
    (I : Nat → World → (Nat → Prop) → Prop) (Ix : Code → World → (Nat → Prop) → Prop)
    (hI : ∀ i V O V' O', I i V O → Go1 O V O' V' → (¬ O w.heap.size ∧ ¬ O (w.heap.size + 1)) → w.heap.size + 1 < V.heap.size → I i V' O') (hIL : ∀ i V O V', I i V O → Mv (Lp w.heap.size) V V' → I i V' O)
    (hIx : ∀ c V O V' O', Ix c V O → Go1 O V O' V' → Ix c V' O') (hIxL : ∀ c V O V', Ix c V O → Mv (Lp w.heap.size) V V' → Ix c V' O)
    (O0 : Nat → Prop) (hO0 : ¬ O0 w.heap.size ∧ ¬ O0 (w.heap.size + 1)) (h0 : I 0 w O0) (hS0 : St 0 w O0)
    (Ax : Nat → Act → World → (Nat → Prop) → Prop) (hAx : ∀ i a' V O r o, Ax i a' V O → V.heap[w.heap.size + 1]? = some (.loop r) → ¬ O (w.heap.size + 1) → Ax i a' (V.putObj (w.heap.size + 1) o) O)
    (hassign : ∀ (l i : Nat) (args : Array Value) (V : World) (O : Nat → Prop) (K : Act → World → Prop), w.heap.size + 1 < V.heap.size → I i V O → X i args V O → (∀ a' V', Kl w.heap.size V V' → Mv (fun k => ¬ O k) V V' → Ax i a' V' O → K a' V') →
      assign.wpIn (Fence.wide.inRound l) 7 P (Exit.then K (fun _ _ _ => False)) { tmps := (ps.zip args).foldl (fun t (p, v) => t.setIfInBounds p v) a.tmps, defers := [] } V)
    (hbody : ∀ (l i : Nat) (a' : Act) (V : World) (O : Nat → Prop), i < n → w.heap.size + 1 < V.heap.size → Ax i a' V O → (¬ O w.heap.size ∧ ¬ O (w.heap.size + 1)) → body.wpIn (Fence.wide.inRound l) 7 P (roundP w.heap.size (I (i + 1)) Ix V O) a' V)
    (hdone : ∀ (D : Nat) (V : World) (O : Nat → Prop), w.heap.size = D → I n V O → St n V O → V.heap[D]? = some (.deferred (some [])) → Q .normal { a with defers := { target := .collected D, args := #[] } :: a.defers } V)
    (hstop : ∀ (D : Nat) (c : Code) (V : World) (O : Nat → Prop), w.heap.size = D → Ix c V O → (∃ i, St i V O) → V.heap[D]? = some (.deferred (some [])) → c.wpIn Fence.wide 9 P Q { a with defers := { target := .collected D, args := #[] } :: a.defers } V) :
    (Code.rangeFunc g ps assign body).wpIn Fence.wide 9 P Q a w := by
  refine wpIn_rangeFunc ?_
  intro fn hfn
  obtain ⟨rec, hrec⟩ : ∃ rec : LoopState → Option Code → Loop, rec = fun st pe => { state := st, pending := pe, fn, tmps := a.tmps, params := ps, assign, body, defers := w.heap.size } := ⟨_, rfl⟩
  obtain ⟨W1, hW1⟩ : ∃ W1, (w.alloc (.deferred (some []))).alloc (.loop (rec .ready none)) = W1 := ⟨_, rfl⟩
  have hs1 : W1.heap.size = w.heap.size + 2 := by rw [← hW1]; simp
  have hL1 : W1.heap[w.heap.size + 1]? = some (.loop (rec .ready none)) := by
    rw [← hW1]; have := World.alloc_heap_new (w.alloc (.deferred (some []))) (.loop (rec .ready none)); rwa [World.size_alloc] at this
  have hK1 : W1.heap[w.heap.size]? = some (.deferred (some [])) := by
    rw [← hW1]; exact (Below.heap_alloc _ _ _ (by simp)).trans (World.alloc_heap_new w _)
  have hb1 : Mv (Lp w.heap.size) w W1 := by rw [← hW1]; exact ((Mv.refl _ w).alloc _).alloc _
  refine ⟨w.heap.size + 1, [{ target := .collected w.heap.size, args := #[] }], W1, { target := .fn (.func gf) lb, args := #[.func (.yield (w.heap.size + 1)) #[] #[]] }, W1, gf,
    #[.func (.yield (w.heap.size + 1)) #[] #[]] ++ lb, W1, ?_, ?_, ?_, ?_, fun _ => by omega, ?_⟩
  · rw [← hW1, hrec]; exact run_enterLoop_outer _ _ _ _ _
  · simp only [resolve, hg]
    simp [go_sem]
  · exact fun _ _ => trivial
  · simp [invoke, go_sem, eg]
  · refine (callsIn_wide.2 (hseq (w.heap.size + 1)
      (fun i V O => I i V O ∧ V.heap[w.heap.size + 1]? = some (.loop (rec .ready none)) ∧ V.heap[w.heap.size]? = some (.deferred (some [])) ∧ ¬ O w.heap.size ∧ ¬ O (w.heap.size + 1))
      (fun V O => ∃ c, Ix c V O ∧ V.heap[w.heap.size + 1]? = some (.loop (rec .done (some c))) ∧ V.heap[w.heap.size]? = some (.deferred (some [])) ∧ ¬ O w.heap.size ∧ ¬ O (w.heap.size + 1))
      W1 O0
      (fun i V O V' O' ⟨h1, h2, h3, h4, h5⟩ hgo => ⟨hI i V O V' O' h1 hgo ⟨h4, h5⟩ (lt_of_block h2), (hgo.mv.block _ (lt_of_block h2) h5).trans h2, (hgo.mv.block _ (lt_of_block h3) h4).trans h3, fun hx => (hgo.own _ hx).elim h4 (fun hl => by have := lt_of_block h3; omega), fun hx => (hgo.own _ hx).elim h5 (fun hl => by have := lt_of_block h2; omega)⟩)
      (fun V O V' O' ⟨c, h1, h2, h3, h4, h5⟩ hgo => ⟨c, hIx c V O V' O' h1 hgo, (hgo.mv.block _ (lt_of_block h2) h5).trans h2, (hgo.mv.block _ (lt_of_block h3) h4).trans h3, fun hx => (hgo.own _ hx).elim h4 (fun hl => by have := lt_of_block h3; omega), fun hx => (hgo.own _ hx).elim h5 (fun hl => by have := lt_of_block h2; omega)⟩)
      ?_ ⟨hIL 0 w O0 W1 h0 hb1, hL1, hK1, hO0⟩ (hSt 0 w O0 W1 hS0 (mv_notO hb1 hO0.1 hO0.2)))).mono ?_
    · rintro i args V O hin ⟨hi, hl, hk, ho0, ho1⟩ hx
      have hy := run_yield (P := P) (args := args) hl (by rw [hrec]; exact hps i args V O hx)
      rw [hrec] at hy
      refine ⟨fn, _, assign, body, hy, RoundIn.anyDepth (m := 7) rfl (roundIn_of_wpIn hfn (hassign _ i args V O _ (lt_of_block hl) hi hx (fun a' V' hab hmv hax => ?_)))⟩
      have hl' := hab.l.trans hl
      have hk' := hab.d.trans hk
      have hlt' : w.heap.size + 1 < V'.heap.size := lt_of_block hl'
      refine ⟨_, run_beginRound hl' (by rw [hrec]), ?_⟩
      have hl2 : (V'.putObj (w.heap.size + 1) (.loop { rec .ready none with state := .busy })).heap[w.heap.size + 1]? = some (.loop { rec .ready none with state := .busy }) := World.putObj_heap_same hlt'
      have hk2 : (V'.putObj (w.heap.size + 1) (.loop { rec .ready none with state := .busy })).heap[w.heap.size]? = some (.deferred (some [])) := (World.putObj_heap_other (by omega)).trans hk'
      have hbp := mv_notO (O := O) (mv_put V' w.heap.size (w.heap.size + 1) (.loop { rec .ready none with state := .busy }) (.inr rfl)) ho0 ho1
      have hm2 := Mv.trans' hmv hbp
      refine wpIn_mono (hbody _ i a' _ O hin (lt_of_block hl2) (hAx _ _ _ _ _ _ hax hl' ho1) ⟨ho0, ho1⟩) ?_
      have fin : ∀ (jump : Option Code) (W3 : World), Kl w.heap.size (V'.putObj (w.heap.size + 1) (.loop { rec .ready none with state := .busy })) W3 → Mv (fun k => ¬ O k) (V'.putObj (w.heap.size + 1) (.loop { rec .ready none with state := .busy })) W3 →
          (Instr.endRound (w.heap.size + 1) jump).run P W3 = .ok (.bool jump.isNone) (W3.putObj (w.heap.size + 1) (.loop (rec (if jump.isNone then .ready else .done) jump))) ∧
          (W3.putObj (w.heap.size + 1) (.loop (rec (if jump.isNone then .ready else .done) jump))).heap[w.heap.size + 1]? = some (.loop (rec (if jump.isNone then .ready else .done) jump)) ∧
          (W3.putObj (w.heap.size + 1) (.loop (rec (if jump.isNone then .ready else .done) jump))).heap[w.heap.size]? = some (.deferred (some [])) ∧
          Mv (Lp w.heap.size) W3 (W3.putObj (w.heap.size + 1) (.loop (rec (if jump.isNone then .ready else .done) jump))) ∧ Mv (fun k => ¬ O k) V (W3.putObj (w.heap.size + 1) (.loop (rec (if jump.isNone then .ready else .done) jump))) := fun jump W3 hk3 hm3 => by
        have hl3 := hk3.l.trans hl2
        have hkk := hk3.d.trans hk2
        have := run_endRound (P := P) jump hl3
        rw [hrec] at this ⊢
        have hp := mv_put W3 w.heap.size (w.heap.size + 1) (.loop { state := if jump.isNone then .ready else .done, pending := jump, fn, tmps := a.tmps, params := ps, assign, body, defers := w.heap.size }) (.inr rfl)
        exact ⟨this, World.putObj_heap_same (lt_of_block hl3), (World.putObj_heap_other (by omega)).trans hkk, hp, Mv.trans' (Mv.trans' hm2 hm3) (mv_notO hp ho0 ho1)⟩
      rintro e a3 W3 hp
      cases e with
      | normal =>
        obtain ⟨hi3, hk3, hm3⟩ := hp
        obtain ⟨hr, hl4, hk4, hb4, hm4⟩ := fin none W3 hk3 hm3
        exact ⟨_, _, hr, hm4, .inl ⟨rfl, ⟨hIL _ _ _ _ hi3 hb4, hl4, hk4, ho0, ho1⟩⟩⟩
      | ret =>
        obtain ⟨hi3, hk3, hm3⟩ := hp
        obtain ⟨hr, hl4, hk4, hb4, hm4⟩ := fin (some .ret) W3 hk3 hm3
        exact ⟨_, _, hr, hm4, .inr ⟨rfl, ⟨.ret, hIxL _ _ _ _ hi3 hb4, hl4, hk4, ho0, ho1⟩⟩⟩
      | exit id =>
        obtain ⟨hi3, hk3, hm3⟩ := hp
        obtain ⟨hr, hl4, hk4, hb4, hm4⟩ := fin (some (.exit id)) W3 hk3 hm3
        exact ⟨_, _, hr, hm4, .inr ⟨rfl, ⟨.exit id, hIxL _ _ _ _ hi3 hb4, hl4, hk4, ho0, ho1⟩⟩⟩
      | goto t =>
        obtain ⟨hi3, hk3, hm3⟩ := hp
        obtain ⟨hr, hl4, hk4, hb4, hm4⟩ := fin (some (.goto t)) W3 hk3 hm3
        exact ⟨_, _, hr, hm4, .inr ⟨rfl, ⟨.goto t, hIxL _ _ _ _ hi3 hb4, hl4, hk4, ho0, ho1⟩⟩⟩
      | panic ch => exact hp.elim
      | outgrown => exact hp.elim
    · rintro e W2 ⟨⟨v, rfl⟩, i, O', hst, (⟨⟨hi, hl, hk, ho0, ho1⟩, rfl⟩ | ⟨c, hi, hl, hk, ho0, ho1⟩)⟩
      · have hp := mv_put W2 w.heap.size (w.heap.size + 1) (.loop { rec .ready none with state := .done }) (.inr rfl)
        exact ⟨none, _, by have := run_endLoop (P := P) hl (by rw [hrec]; simp); rw [hrec] at this; exact this, hdone _ _ _ rfl (hIL _ _ _ _ hi (mv_put _ _ _ _ (.inr rfl))) (hSt _ _ _ _ hst (mv_notO (mv_put _ _ _ _ (.inr rfl)) ho0 ho1)) ((World.putObj_heap_other (by omega)).trans hk)⟩
      · exact ⟨some c, _, by have := run_endLoop (P := P) hl (by rw [hrec]; simp); rw [hrec] at this; exact this, hstop _ c _ _ rfl (hIxL _ _ _ _ hi (mv_put _ _ _ _ (.inr rfl))) ⟨i, hSt _ _ _ _ hst (mv_notO (mv_put _ _ _ _ (.inr rfl)) ho0 ho1)⟩ ((World.putObj_heap_other (by omega)).trans hk)⟩
end Go.Proofs.Ytpcckaahfaobeaa
