/- A range over a function that keeps no memory of its own between the rounds: what the rounds have made stays. -/
import Derived.Test.YtjccfbjdngjhfaaB
import Derived.RangeFuncNested
import Derived.RangeFuncBound
import Derived.RangeFuncCalls
import Derived.RangeFuncLeaves
namespace Go.Proofs.Ytjccfbjdngjhfaa
open Go.RowKit
set_option linter.unusedVariables false

theorem room_of_none {F : Fence} (hd : F.depth = none) (k : Nat) : F.room k := fun d h => by rw [hd] at h; cases h
theorem RoundIn.anyDepth {F : Fence} (hd : F.depth = none) {m m' : Nat} {P : Program} {l : Nat} {f : FuncId} {tmps : Array Value} {assign body : Code} {w : World} {R : Ending → World → Prop}
    (h : RoundIn F m P l f tmps assign body w R) : RoundIn F m' P l f tmps assign body w R := ⟨h.1, fun c cs _ => h.2 c cs (room_of_none hd _)⟩
/-- the loop's own two blocks. -/
def Lp (D : Nat) : Nat → Prop := fun k => k = D ∨ k = D + 1
/-- the loop's own two blocks stay. -/
structure Kl (D : Nat) (W W' : World) : Prop where
  size : W.heap.size ≤ W'.heap.size
  d : W'.heap[D]? = W.heap[D]?
  l : W'.heap[D + 1]? = W.heap[D + 1]?
theorem Kl.refl (D : Nat) (W : World) : Kl D W W := ⟨Nat.le_refl _, rfl, rfl⟩
theorem Kl.trans {D : Nat} {X Y Z : World} (h : Kl D X Y) (k : Kl D Y Z) : Kl D X Z := ⟨Nat.le_trans h.size k.size, k.d.trans h.d, k.l.trans h.l⟩
theorem Kl.of_mv {D : Nat} {O : Nat → Prop} {W W' : World} (h : Mv O W W') (hD : D + 1 < W.heap.size) (h0 : ¬ O D) (h1 : ¬ O (D + 1)) : Kl D W W' := ⟨h.size, h.block D (by omega) h0, h.block (D + 1) hD h1⟩
theorem mv_put (W : World) (D l : Nat) (o : Obj) (hl : l = D ∨ l = D + 1) : Mv (Lp D) W (W.putObj l o) :=
  ⟨rfl, rfl, rfl, by simp [World.putObj], fun k _ hk => World.putObj_heap_other (fun e => hk (by subst e; exact hl))⟩

/-- what is ranged over hands over xs, one behind the other, as long as it is asked to, where M holds between the rounds. -/
def GoesS {α : Type} (P : Program) (gf : Nat) (lb : Array Value) (encs : α → Array Value) (xs : List α) (M : World → Prop) : Prop :=
  ∀ (l : Nat) (J : List α → World → Prop) (Jx : World → Prop) (W : World),
    (∀ pre V V', J pre V → Below V.heap.size V V' → J pre V') → (∀ V V', Jx V → Below V.heap.size V V' → Jx V') → (∀ pre V, J pre V → M V) →
    (∀ pre x rest V, xs = pre ++ x :: rest → J pre V → YieldAt Fence.wide 0 P l (encs x) V fun e V' =>
      (e = .returned (.bool true) ∧ J (pre ++ [x]) V') ∨ (e = .returned (.bool false) ∧ Jx V')) →
    J [] W → Calls P gf (#[.func (.yield l) #[] #[]] ++ lb) W fun e W' => (∃ v, e = .returned v) ∧ (J xs W' ∨ Jx W')

/-- how a round may be left. -/
def roundS {α : Type} (D : Nat) (I : List α → World → Prop) (Ix : Code → World → Prop) (xs : List α) (W : World) : Exit → Act → World → Prop
  | .normal, _, W' => I xs W' ∧ Kl D W W'
  | .ret, _, W' => Ix .ret W' ∧ Kl D W W'
  | .exit id, _, W' => Ix (.exit id) W' ∧ Kl D W W'
  | .goto t, _, W' => Ix (.goto t) W' ∧ Kl D W W'
  | .panic _, _, _ => False
  | .outgrown, _, _ => False

theorem range_genS {P : Program} {α : Type} {g : Operand} {ps : Array Tmp} {assign body : Code} {Q : Exit → Act → World → Prop} {a : Act} {w : World}
    {gf : Nat} {lb : Array Value} (hg : a.eval g = .func (.func gf) #[] lb) (eg : ∀ args w, (callFunc gf args).run P w = .ok (.enter gf args) w)
    {encs : α → Array Value} {xs : List α} {M : World → Prop} (hseq : GoesS P gf lb encs xs M) (hps : ∀ x, (encs x).size = ps.size)
    (I : List α → World → Prop) (Ix : Code → World → Prop) (hI : ∀ pre V V', I pre V → Mv (Lp w.heap.size) V V' → I pre V') (hIx : ∀ c V V', Ix c V → Mv (Lp w.heap.size) V V' → Ix c V') (h0 : I [] w) (hIM : ∀ pre V, I pre V → M V)
    (Ax : α → Act → World → Prop) (hAx : ∀ x a' V l r o, Ax x a' V → V.heap[l]? = some (.loop r) → Ax x a' (V.putObj l o))
    (hassign : ∀ (l : Nat) (pre : List α) (x : α) (V : World) (K : Act → World → Prop), w.heap.size + 1 < V.heap.size → I pre V → (∀ a' V', I pre V' → Kl w.heap.size V V' → Ax x a' V' → K a' V') →
      assign.wpIn (Fence.wide.inRound l) 7 P (Exit.then K (fun _ _ _ => False)) { tmps := (ps.zip (encs x)).foldl (fun t (p, v) => t.setIfInBounds p v) a.tmps, defers := [] } V)
    (hbody : ∀ (l : Nat) (pre : List α) (x : α) (rest : List α) (a' : Act) (V : World), xs = pre ++ x :: rest → w.heap.size + 1 < V.heap.size → I pre V → Ax x a' V → body.wpIn (Fence.wide.inRound l) 7 P (roundS w.heap.size I Ix (pre ++ [x]) V) a' V)
    (hdone : ∀ (D : Nat) (V : World), w.heap.size = D → I xs V → V.heap[D]? = some (.deferred (some [])) → Q .normal { a with defers := { target := .collected D, args := #[] } :: a.defers } V)
    (hstop : ∀ (D : Nat) (c : Code) (V : World), w.heap.size = D → Ix c V → V.heap[D]? = some (.deferred (some [])) → c.wpIn Fence.wide 9 P Q { a with defers := { target := .collected D, args := #[] } :: a.defers } V) :
    (Code.rangeFunc g ps assign body).wpIn Fence.wide 9 P Q a w := by
  refine wpIn_rangeFunc ?_
  intro fn hfn
  obtain ⟨rec, hrec⟩ : ∃ rec : LoopState → Option Code → Loop, rec = fun st pe => { state := st, pending := pe, fn, tmps := a.tmps, params := ps, assign, body, defers := w.heap.size } := ⟨_, rfl⟩
  obtain ⟨W1, hW1⟩ : ∃ W1, (w.alloc (.deferred (some []))).alloc (.loop (rec .ready none)) = W1 := ⟨_, rfl⟩
  have hs1 : W1.heap.size = w.heap.size + 2 := by rw [← hW1]; simp
  have hL1 : W1.heap[w.heap.size + 1]? = some (.loop (rec .ready none)) := by
    rw [← hW1]; have := World.alloc_heap_new (w.alloc (.deferred (some []))) (.loop (rec .ready none)); rwa [World.size_alloc] at this
  have hK1 : W1.heap[w.heap.size]? = some (.deferred (some [])) := by
    rw [← hW1]; exact (Below.heap_alloc _ _ _ (by simp)).trans (World.alloc_heap_new w _)
  have hb1 : Mv (Lp w.heap.size) w W1 := by rw [← hW1]; exact ((Mv.refl _ w).alloc _).alloc _
  have hbl : ∀ V V' : World, Below V.heap.size V V' → Mv (Lp w.heap.size) V V' := fun V V' h => Mv.of_below h
  refine ⟨w.heap.size + 1, [{ target := .collected w.heap.size, args := #[] }], W1, { target := .fn (.func gf) lb, args := #[.func (.yield (w.heap.size + 1)) #[] #[]] }, W1, gf,
    #[.func (.yield (w.heap.size + 1)) #[] #[]] ++ lb, W1, ?_, ?_, ?_, ?_, fun _ => by omega, ?_⟩
  · rw [← hW1, hrec]; exact run_enterLoop_outer _ _ _ _ _
  · simp only [resolve, hg]
    simp [go_sem]
  · exact fun _ _ => trivial
  · simp [invoke, go_sem, eg]
  · refine (callsIn_wide.2 (hseq (w.heap.size + 1)
      (fun pre V => I pre V ∧ V.heap[w.heap.size + 1]? = some (.loop (rec .ready none)) ∧ V.heap[w.heap.size]? = some (.deferred (some [])))
      (fun V => ∃ c, Ix c V ∧ V.heap[w.heap.size + 1]? = some (.loop (rec .done (some c))) ∧ V.heap[w.heap.size]? = some (.deferred (some [])))
      W1
      (fun pre V V' ⟨h1, h2, h3⟩ hb => ⟨hI pre V V' h1 (hbl V V' hb), (hb.block _ (lt_of_block h2)).trans h2, (hb.block _ (lt_of_block h3)).trans h3⟩)
      (fun V V' ⟨c, h1, h2, h3⟩ hb => ⟨c, hIx c V V' h1 (hbl V V' hb), (hb.block _ (lt_of_block h2)).trans h2, (hb.block _ (lt_of_block h3)).trans h3⟩)
      (fun pre V h => hIM pre V h.1)
      ?_ ⟨hI [] w W1 h0 hb1, hL1, hK1⟩)).mono ?_
    · rintro pre x rest V hx ⟨hi, hl, hk⟩
      have hy := run_yield (P := P) (args := encs x) hl (by rw [hrec]; exact hps x)
      rw [hrec] at hy
      refine ⟨fn, _, assign, body, hy, RoundIn.anyDepth (m := 7) rfl (roundIn_of_wpIn hfn (hassign _ pre x V _ (lt_of_block hl) hi (fun a' V' hi' hab hax => ?_)))⟩
      have hl' := hab.l.trans hl
      have hk' := hab.d.trans hk
      have hlt' : w.heap.size + 1 < V'.heap.size := lt_of_block hl'
      refine ⟨_, run_beginRound hl' (by rw [hrec]), ?_⟩
      have hl2 : (V'.putObj (w.heap.size + 1) (.loop { rec .ready none with state := .busy })).heap[w.heap.size + 1]? = some (.loop { rec .ready none with state := .busy }) := World.putObj_heap_same hlt'
      have hk2 : (V'.putObj (w.heap.size + 1) (.loop { rec .ready none with state := .busy })).heap[w.heap.size]? = some (.deferred (some [])) := (World.putObj_heap_other (by omega)).trans hk'
      have hbp := mv_put V' w.heap.size (w.heap.size + 1) (.loop { rec .ready none with state := .busy }) (.inr rfl)
      refine wpIn_mono (hbody _ pre x rest a' _ hx (lt_of_block hl2) (hI _ _ _ hi' hbp) (hAx _ _ _ _ _ _ hax hl')) ?_
      have fin : ∀ (jump : Option Code) (W3 : World), Kl w.heap.size (V'.putObj (w.heap.size + 1) (.loop { rec .ready none with state := .busy })) W3 →
          (Instr.endRound (w.heap.size + 1) jump).run P W3 = .ok (.bool jump.isNone) (W3.putObj (w.heap.size + 1) (.loop (rec (if jump.isNone then .ready else .done) jump))) ∧
          (W3.putObj (w.heap.size + 1) (.loop (rec (if jump.isNone then .ready else .done) jump))).heap[w.heap.size + 1]? = some (.loop (rec (if jump.isNone then .ready else .done) jump)) ∧
          (W3.putObj (w.heap.size + 1) (.loop (rec (if jump.isNone then .ready else .done) jump))).heap[w.heap.size]? = some (.deferred (some [])) ∧
          Mv (Lp w.heap.size) W3 (W3.putObj (w.heap.size + 1) (.loop (rec (if jump.isNone then .ready else .done) jump))) := fun jump W3 hk3 => by
        have hl3 := hk3.l.trans hl2
        have hkk := hk3.d.trans hk2
        have := run_endRound (P := P) jump hl3
        rw [hrec] at this ⊢
        exact ⟨this, World.putObj_heap_same (lt_of_block hl3), (World.putObj_heap_other (by omega)).trans hkk, mv_put _ _ _ _ (.inr rfl)⟩
      rintro e a3 W3 hp
      cases e with
      | normal =>
        obtain ⟨hi3, hk3⟩ := hp
        obtain ⟨hr, hl4, hk4, hb4⟩ := fin none W3 hk3
        exact ⟨_, _, hr, .inl ⟨rfl, ⟨hI _ _ _ hi3 hb4, hl4, hk4⟩⟩⟩
      | ret =>
        obtain ⟨hi3, hk3⟩ := hp
        obtain ⟨hr, hl4, hk4, hb4⟩ := fin (some .ret) W3 hk3
        exact ⟨_, _, hr, .inr ⟨rfl, ⟨.ret, hIx _ _ _ hi3 hb4, hl4, hk4⟩⟩⟩
      | exit id =>
        obtain ⟨hi3, hk3⟩ := hp
        obtain ⟨hr, hl4, hk4, hb4⟩ := fin (some (.exit id)) W3 hk3
        exact ⟨_, _, hr, .inr ⟨rfl, ⟨.exit id, hIx _ _ _ hi3 hb4, hl4, hk4⟩⟩⟩
      | goto t =>
        obtain ⟨hi3, hk3⟩ := hp
        obtain ⟨hr, hl4, hk4, hb4⟩ := fin (some (.goto t)) W3 hk3
        exact ⟨_, _, hr, .inr ⟨rfl, ⟨.goto t, hIx _ _ _ hi3 hb4, hl4, hk4⟩⟩⟩
      | panic ch => exact hp.elim
      | outgrown => exact hp.elim
    · rintro e W2 ⟨⟨v, rfl⟩, (⟨hi, hl, hk⟩ | ⟨c, hi, hl, hk⟩)⟩
      · exact ⟨none, _, by have := run_endLoop (P := P) hl (by rw [hrec]; simp); rw [hrec] at this; exact this, hdone _ _ rfl (hI _ _ _ hi (mv_put _ _ _ _ (.inr rfl))) ((World.putObj_heap_other (by omega)).trans hk)⟩
      · exact ⟨some c, _, by have := run_endLoop (P := P) hl (by rw [hrec]; simp); rw [hrec] at this; exact this, hstop _ c _ rfl (hIx _ _ _ hi (mv_put _ _ _ _ (.inr rfl))) ((World.putObj_heap_other (by omega)).trans hk)⟩
end Go.Proofs.Ytjccfbjdngjhfaa
