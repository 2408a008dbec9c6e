/- A range over a function: the caller's memory lies below a bound, what the function that is ranged over makes lies from it on. -/
import Derived.Test.YtegoeaofjnpehabVA
import Derived.RangeFuncNested
import Derived.RangeFuncBound
import Derived.RangeFuncCalls
import Derived.RangeFuncLeaves
import Derived.Shelf.Abstract
import Derived.Shelf.RegionOpen
import Derived.OwnWalkIn
import Derived.TacticsInMore
import Derived.LoopNIn
import Derived.LoopIn
import Derived.RegionTactic
import Derived.Laws.BitsAllLaws
import Derived.Deep.OwnRows
import Derived.Laws.CopyOwn
namespace Go.Proofs.Ytegoeaofjnpehab
open Go.RowKit
set_option linter.unusedVariables false

theorem room_of_none {F : Fence} (hd : F.depth = none) (k : Nat) : F.room k := fun d h => by rw [hd] at h; cases h
theorem RoundIn.anyDepth {F : Fence} (hd : F.depth = none) {m m' : Nat} {P : Program} {l : Nat} {f : FuncId} {tmps : Array Value} {assign body : Code} {w : World} {R : Ending → World → Prop}
    (h : RoundIn F m P l f tmps assign body w R) : RoundIn F m' P l f tmps assign body w R := ⟨h.1, fun c cs _ => h.2 c cs (room_of_none hd _)⟩
/-- all blocks from B on stay. -/
structure AB (B : Nat) (W W' : World) : Prop where
  size : W.heap.size ≤ W'.heap.size
  same : ∀ k, B ≤ k → k < W.heap.size → W'.heap[k]? = W.heap[k]?
theorem AB.refl (B : Nat) (W : World) : AB B W W := ⟨Nat.le_refl _, fun _ _ _ => rfl⟩
theorem AB.trans {B : Nat} {X Y Z : World} (h : AB B X Y) (k : AB B Y Z) : AB B X Z := ⟨Nat.le_trans h.size k.size, fun i hB hi => (k.same i hB (Nat.lt_of_lt_of_le hi h.size)).trans (h.same i hB hi)⟩
theorem AB.mono {B B' : Nat} {X Y : World} (h : AB B X Y) (hb : B ≤ B') : AB B' X Y := ⟨h.size, fun k hk hl => h.same k (by omega) hl⟩
theorem AB.of_below {B : Nat} {W W' : World} (h : Below W.heap.size W W') : AB B W W' := ⟨h.size, fun k _ hk => h.block k hk⟩
theorem AB.set {B b i : Nat} (W : World) (v : Value) (h : b < B) : AB B W (W.setCell ⟨b, i, none⟩ v) :=
  ⟨by simp [World.setCell], fun k hB hk => Below.heap_setCell _ _ _ _ (fun e => by have e' : k = b := e; omega)⟩
theorem AB.put {B : Nat} (W : World) (l : Nat) (o : Obj) (h : l < B) : AB B W (W.putObj l o) := ⟨by simp [World.putObj], fun k hB _ => World.putObj_heap_other (by omega)⟩
theorem below_put {B : Nat} (W : World) (l : Nat) (o : Obj) (hB : B ≤ l) (hl : l < W.heap.size) : Below B W (W.putObj l o) :=
  (Below.refl B W).grown (grownBy_putObj' W l o) (by omega) (fun k e => by cases e; exact hB)

/-- what is ranged over hands over xs, one behind the other, as long as it is asked to. -/
def Goes {α : Type} (P : Program) (gf : Nat) (lb : Array Value) (encs : α → Array Value) (xs : List α) (w : World) : Prop :=
  ∀ (l : Nat) (J : List α → World → Prop) (Jx : World → Prop) (W : World), Below w.heap.size w W →
    (∀ pre V V', J pre V → Below W.heap.size V V' → J pre V') → (∀ V V', Jx V → Below W.heap.size V V' → Jx V') →
    (∀ pre x rest V, xs = pre ++ x :: rest → J pre V → YieldAt Fence.wide 0 P l (encs x) V fun e V' =>
      (e = .returned (.bool true) ∧ J (pre ++ [x]) V' ∧ AB W.heap.size V V') ∨ (e = .returned (.bool false) ∧ Jx V' ∧ AB W.heap.size V V')) →
    J [] W → Calls P gf (#[.func (.yield l) #[] #[]] ++ lb) W fun e W' => (∃ v, e = .returned v) ∧ (J xs W' ∨ Jx W')

/-- how a round may be left. -/
def roundX {α : Type} (B : Nat) (I : List α → World → Prop) (Ix : Code → World → Prop) (xs : List α) (W : World) : Exit → Act → World → Prop
  | .normal, _, W' => I xs W' ∧ AB B W W'
  | .ret, _, W' => Ix .ret W' ∧ AB B W W'
  | .exit id, _, W' => Ix (.exit id) W' ∧ AB B W W'
  | .goto t, _, W' => Ix (.goto t) W' ∧ AB B W W'
  | .panic _, _, _ => False
  | .outgrown, _, _ => False

theorem range_gen {P : Program} {α : Type} {g : Operand} {ps : Array Tmp} {assign body : Code} {Q : Exit → Act → World → Prop} {a : Act} {w : World}
    {gf : Nat} {lb : Array Value} (hg : a.eval g = .func (.func gf) #[] lb) (eg : ∀ args w, (callFunc gf args).run P w = .ok (.enter gf args) w)
    {encs : α → Array Value} {xs : List α} (hseq : Goes P gf lb encs xs w) (hps : ∀ x, (encs x).size = ps.size)
    (I : List α → World → Prop) (Ix : Code → World → Prop) (hI : ∀ pre V V', I pre V → Below w.heap.size V V' → I pre V') (hIx : ∀ c V V', Ix c V → Below w.heap.size V V' → Ix c V') (h0 : I [] w)
    (Ax : α → Act → World → Prop) (hAx : ∀ x a' V l r o, Ax x a' V → V.heap[l]? = some (.loop r) → Ax x a' (V.putObj l o))
    (hassign : ∀ (l : Nat) (pre : List α) (x : α) (V : World) (K : Act → World → Prop), I pre V → (∀ a' V', I pre V' → AB w.heap.size V V' → Ax x a' V' → K a' V') →
      assign.wpIn (Fence.wide.inRound l) 7 P (Exit.then K (fun _ _ _ => False)) { tmps := (ps.zip (encs x)).foldl (fun t (p, v) => t.setIfInBounds p v) a.tmps, defers := [] } V)
    (hbody : ∀ (l : Nat) (pre : List α) (x : α) (rest : List α) (a' : Act) (V : World), xs = pre ++ x :: rest → I pre V → Ax x a' V → body.wpIn (Fence.wide.inRound l) 7 P (roundX w.heap.size I Ix (pre ++ [x]) V) a' V)
    (hdone : ∀ (D : Nat) (V : World), w.heap.size ≤ D → I xs V → V.heap[D]? = some (.deferred (some [])) → Q .normal { a with defers := { target := .collected D, args := #[] } :: a.defers } V)
    (hstop : ∀ (D : Nat) (c : Code) (V : World), w.heap.size ≤ D → Ix c V → V.heap[D]? = some (.deferred (some [])) → c.wpIn Fence.wide 9 P Q { a with defers := { target := .collected D, args := #[] } :: a.defers } V) :
    (Code.rangeFunc g ps assign body).wpIn Fence.wide 9 P Q a w := by
  refine wpIn_rangeFunc ?_
  intro fn hfn
  obtain ⟨rec, hrec⟩ : ∃ rec : LoopState → Option Code → Loop, rec = fun st pe => { state := st, pending := pe, fn, tmps := a.tmps, params := ps, assign, body, defers := w.heap.size } := ⟨_, rfl⟩
  obtain ⟨W1, hW1⟩ : ∃ W1, (w.alloc (.deferred (some []))).alloc (.loop (rec .ready none)) = W1 := ⟨_, rfl⟩
  have hs1 : W1.heap.size = w.heap.size + 2 := by rw [← hW1]; simp
  have hL1 : W1.heap[w.heap.size + 1]? = some (.loop (rec .ready none)) := by
    rw [← hW1]; have := World.alloc_heap_new (w.alloc (.deferred (some []))) (.loop (rec .ready none)); rwa [World.size_alloc] at this
  have hK1 : W1.heap[w.heap.size]? = some (.deferred (some [])) := by
    rw [← hW1]; exact (Below.heap_alloc _ _ _ (by simp)).trans (World.alloc_heap_new w _)
  have hb1 : Below w.heap.size w W1 := by rw [← hW1]; exact ((Below.refl _ w).alloc (Nat.le_refl _) _).alloc (by simp) _
  refine ⟨w.heap.size + 1, [{ target := .collected w.heap.size, args := #[] }], W1, { target := .fn (.func gf) lb, args := #[.func (.yield (w.heap.size + 1)) #[] #[]] }, W1, gf,
    #[.func (.yield (w.heap.size + 1)) #[] #[]] ++ lb, W1, ?_, ?_, ?_, ?_, fun _ => by omega, ?_⟩
  · rw [← hW1, hrec]; exact run_enterLoop_outer _ _ _ _ _
  · simp only [resolve, hg]
    simp [go_sem]
  · exact fun _ _ => trivial
  · simp [invoke, go_sem, eg]
  · refine (callsIn_wide.2 (hseq (w.heap.size + 1)
      (fun pre V => I pre V ∧ V.heap[w.heap.size + 1]? = some (.loop (rec .ready none)) ∧ V.heap[w.heap.size]? = some (.deferred (some [])))
      (fun V => ∃ c, Ix c V ∧ V.heap[w.heap.size + 1]? = some (.loop (rec .done (some c))) ∧ V.heap[w.heap.size]? = some (.deferred (some [])))
      W1 hb1
      (fun pre V V' ⟨h1, h2, h3⟩ hb => ⟨hI pre V V' h1 (hb.mono (by omega)), (hb.block _ (by omega)).trans h2, (hb.block _ (by omega)).trans h3⟩)
      (fun V V' ⟨c, h1, h2, h3⟩ hb => ⟨c, hIx c V V' h1 (hb.mono (by omega)), (hb.block _ (by omega)).trans h2, (hb.block _ (by omega)).trans h3⟩)
      ?_ ⟨hI [] w W1 h0 hb1, hL1, hK1⟩)).mono ?_
    · rintro pre x rest V hx ⟨hi, hl, hk⟩
      have hy := run_yield (P := P) (args := encs x) hl (by rw [hrec]; exact hps x)
      rw [hrec] at hy
      refine ⟨fn, _, assign, body, hy, RoundIn.anyDepth (m := 7) rfl (roundIn_of_wpIn hfn (hassign _ pre x V _ hi (fun a' V' hi' hab hax => ?_)))⟩
      have hlt : w.heap.size + 1 < V.heap.size := (Array.getElem?_eq_some_iff.1 hl).1
      have hl' := (hab.same (w.heap.size + 1) (by omega) hlt).trans hl
      have hk' := (hab.same w.heap.size (by omega) (by omega)).trans hk
      have hlt' : w.heap.size + 1 < V'.heap.size := (Array.getElem?_eq_some_iff.1 hl').1
      refine ⟨_, run_beginRound hl' (by rw [hrec]), ?_⟩
      have hl2 : (V'.putObj (w.heap.size + 1) (.loop { rec .ready none with state := .busy })).heap[w.heap.size + 1]? = some (.loop { rec .ready none with state := .busy }) := World.putObj_heap_same hlt'
      have hk2 : (V'.putObj (w.heap.size + 1) (.loop { rec .ready none with state := .busy })).heap[w.heap.size]? = some (.deferred (some [])) := (World.putObj_heap_other (by omega)).trans hk'
      have hbp := below_put (B := w.heap.size) V' (w.heap.size + 1) (.loop { rec .ready none with state := .busy }) (by omega) hlt'
      have hap : AB W1.heap.size V' (V'.putObj (w.heap.size + 1) (.loop { rec .ready none with state := .busy })) := AB.put _ _ _ (by omega)
      refine wpIn_mono (hbody _ pre x rest a' _ hx (hI _ _ _ hi' hbp) (hAx _ _ _ _ _ _ hax hl')) ?_
      have fin : ∀ (jump : Option Code) (W3 : World), AB w.heap.size (V'.putObj (w.heap.size + 1) (.loop { rec .ready none with state := .busy })) W3 →
          (Instr.endRound (w.heap.size + 1) jump).run P W3 = .ok (.bool jump.isNone) (W3.putObj (w.heap.size + 1) (.loop (rec (if jump.isNone then .ready else .done) jump))) ∧
          (W3.putObj (w.heap.size + 1) (.loop (rec (if jump.isNone then .ready else .done) jump))).heap[w.heap.size + 1]? = some (.loop (rec (if jump.isNone then .ready else .done) jump)) ∧
          (W3.putObj (w.heap.size + 1) (.loop (rec (if jump.isNone then .ready else .done) jump))).heap[w.heap.size]? = some (.deferred (some [])) ∧
          Below w.heap.size W3 (W3.putObj (w.heap.size + 1) (.loop (rec (if jump.isNone then .ready else .done) jump))) ∧
          AB W1.heap.size V (W3.putObj (w.heap.size + 1) (.loop (rec (if jump.isNone then .ready else .done) jump))) := fun jump W3 hk3 => by
        have hl3 := (hk3.same _ (by omega) (lt_of_block hl2)).trans hl2
        have hkk := (hk3.same _ (by omega) (lt_of_block hk2)).trans hk2
        have := run_endRound (P := P) jump hl3
        rw [hrec] at this ⊢
        exact ⟨this, World.putObj_heap_same (lt_of_block hl3), (World.putObj_heap_other (by omega)).trans hkk, below_put _ _ _ (by omega) (lt_of_block hl3),
          (hab.mono (by omega)).trans (hap.trans ((hk3.mono (by omega)).trans (AB.put _ _ _ (by omega))))⟩
      rintro e a3 W3 hp
      cases e with
      | normal =>
        obtain ⟨hi3, hk3⟩ := hp
        obtain ⟨hr, hl4, hk4, hb4, ha4⟩ := fin none W3 hk3
        exact ⟨_, _, hr, .inl ⟨rfl, ⟨hI _ _ _ hi3 hb4, hl4, hk4⟩, ha4⟩⟩
      | ret =>
        obtain ⟨hi3, hk3⟩ := hp
        obtain ⟨hr, hl4, hk4, hb4, ha4⟩ := fin (some .ret) W3 hk3
        exact ⟨_, _, hr, .inr ⟨rfl, ⟨.ret, hIx _ _ _ hi3 hb4, hl4, hk4⟩, ha4⟩⟩
      | exit id =>
        obtain ⟨hi3, hk3⟩ := hp
        obtain ⟨hr, hl4, hk4, hb4, ha4⟩ := fin (some (.exit id)) W3 hk3
        exact ⟨_, _, hr, .inr ⟨rfl, ⟨.exit id, hIx _ _ _ hi3 hb4, hl4, hk4⟩, ha4⟩⟩
      | goto t =>
        obtain ⟨hi3, hk3⟩ := hp
        obtain ⟨hr, hl4, hk4, hb4, ha4⟩ := fin (some (.goto t)) W3 hk3
        exact ⟨_, _, hr, .inr ⟨rfl, ⟨.goto t, hIx _ _ _ hi3 hb4, hl4, hk4⟩, ha4⟩⟩
      | panic ch => exact hp.elim
      | outgrown => exact hp.elim
    · rintro e W2 ⟨⟨v, rfl⟩, (⟨hi, hl, hk⟩ | ⟨c, hi, hl, hk⟩)⟩
      · exact ⟨none, _, by have := run_endLoop (P := P) hl (by rw [hrec]; simp); rw [hrec] at this; exact this, hdone _ _ (Nat.le_refl _) (hI _ _ _ hi (below_put _ _ _ (by omega) (lt_of_block hl))) ((World.putObj_heap_other (by omega)).trans hk)⟩
      · exact ⟨some c, _, by have := run_endLoop (P := P) hl (by rw [hrec]; simp); rw [hrec] at this; exact this, hstop _ c _ (Nat.le_refl _) (hIx _ _ _ hi (below_put _ _ _ (by omega) (lt_of_block hl))) ((World.putObj_heap_other (by omega)).trans hk)⟩
end Go.Proofs.Ytegoeaofjnpehab
/- A value without lists, gone through: itself, and nothing below it. -/
namespace Go.Proofs.Ytegoeaofjnpehab
open Go.RowKit Go.Shelf
attribute [local go_sem] Oper.semAt_some
set_option linter.unusedVariables false

set_option maxHeartbeats 800000 in
theorem below1_leaf (y : Value) (b : Nat) (c0 c1 c2 c3 c4 : Value) (W : World) (hb : Box7 W b c0 c1 c2 c3 c4 (.slice none 0 0) (.slice none 0 0)) :
    Calls Try.prog 59 #[y, .pointer (some ⟨b, 0, none⟩)] W fun e w' => (∃ v, e = .returned v) ∧ w' = W := by
  obtain ⟨k0, k1, k2, k3, k4, k5, k6⟩ := hb.cells
  clear hb k0 k1 k2 k3 k4
  go_enter Try.func59, Try.ntmps59
  go_wp2
  go_loop [10] (fun i => i = .int .i64 0) (fun _ => 0)
  case atStart => rfl
  case round =>
    subst hrel
    go_wp2
    go_loop [22] (fun i => i = .int .i64 0) (fun _ => 0)
    case atStart => rfl
    case round =>
      subst hrel
      go_wp2
      go_end0
      exact ⟨⟨_, rfl⟩, rfl⟩
set_option maxHeartbeats 800000 in
theorem below_any (c0 c1 c2 c3 c4 c5 c6 : Value) (w : World) :
    Calls Try.prog 55 #[.agg #[c0, c1, c2, c3, c4, c5, c6]] w fun e w' => e = .returned (.func (.func 59) #[] #[.pointer (some ⟨w.heap.size, 0, none⟩)]) ∧ w' = w.alloc (.cells #[c0, c1, c2, c3, c4, c5, c6] 32) := by
  go_enter Try.func55, Try.ntmps55
  go_wp2
  go_ret
  exact ⟨rfl, rfl⟩
set_option maxHeartbeats 800000 in
theorem parts_any (c0 c1 c2 c3 c4 c5 c6 : Value) (w : World) :
    Calls Try.prog 33 #[.agg #[c0, c1, c2, c3, c4, c5, c6]] w fun e w' => e = .returned (.func (.func 45) #[] #[.pointer (some ⟨w.heap.size, 0, none⟩)]) ∧ w' = w.alloc (.cells #[c0, c1, c2, c3, c4, c5, c6] 32) := by
  go_enter Try.func33, Try.ntmps33
  go_wp2
  go_ret
  exact ⟨rfl, rfl⟩
theorem AB.box {B b : Nat} {W W' : World} {c0 c1 c2 c3 c4 c5 c6 : Value} (h : AB B W W') (hB : B ≤ b) (hb : Box7 W b c0 c1 c2 c3 c4 c5 c6) : Box7 W' b c0 c1 c2 c3 c4 c5 c6 := (h.same b hB hb.lt).trans hb
theorem AB.one {B b : Nat} {W W' : World} {v : Value} {t : TypeId} (h : AB B W W') (hB : B ≤ b) (hb : W.heap[b]? = some (.cells #[v] t (0, 0))) : W'.heap[b]? = some (.cells #[v] t (0, 0)) := (h.same b hB (lt_of_block hb)).trans hb
theorem none_goes (b : Nat) (c0 c1 c2 c3 c4 : Value) (w : World) (hb : Box7 w b c0 c1 c2 c3 c4 (.slice none 0 0) (.slice none 0 0)) :
    Goes Try.prog 59 #[.pointer (some ⟨b, 0, none⟩)] (fun x : Empty => #[.bool true]) [] w := by
  intro l J Jx W hW _ _ _ h0
  refine (below1_leaf (.func (.yield l) #[] #[]) b c0 c1 c2 c3 c4 W (hb.below hW)).mono ?_
  rintro e W' ⟨hv, rfl⟩
  exact ⟨hv, .inl h0⟩

set_option maxHeartbeats 1600000 in
set_option maxRecDepth 1000000 in
theorem walk_leaf (l : Nat) (d : Int) (c0 c1 c2 c3 c4 : Value) (B : Nat) (W : World) (hB : B ≤ W.heap.size) (R1 R0 : World → Prop) (h1 : ∀ V V', R1 V → Below B V V' → R1 V') (h0 : ∀ V V', R0 V → Below B V V' → R0 V')
    (hY : ∀ W1, Below W.heap.size W W1 → YieldAt Fence.wide 0 Try.prog l #[.int .i64 d, .agg #[c0, c1, c2, c3, c4, .slice none 0 0, .slice none 0 0]] W1 fun e W' => (e = .returned (.bool true) ∧ R1 W' ∧ AB B W1 W') ∨ (e = .returned (.bool false) ∧ R0 W' ∧ AB B W1 W')) :
    Calls Try.prog 46 #[.agg #[c0, c1, c2, c3, c4, .slice none 0 0, .slice none 0 0], .int .i64 d, .func (.yield l) #[] #[]] W fun e W'' =>
      (e = .returned (.bool true) ∧ R1 W'') ∨ (e = .returned (.bool false) ∧ R0 W'') := by
  obtain ⟨W1, hW1⟩ : ∃ W1, ((((W.alloc (.cells #[c0, c1, c2, c3, c4, .slice none 0 0, .slice none 0 0] 32)).alloc (.cells #[.int .i64 d] 3)).alloc (.cells #[.func (.yield l) #[] #[]] 84)).alloc (.cells #[.bool false] 4)) = W1 := ⟨_, rfl⟩
  have hB1 : Fr W.heap.size W W1 := by rw [← hW1]; exact ((((Fr.refl W).alloc _).alloc _).alloc _).alloc _
  have hbx : Box7 W1 W.heap.size c0 c1 c2 c3 c4 (.slice none 0 0) (.slice none 0 0) := by
    rw [← hW1]; exact (((Box7.new W _ _ _ _ _ _ _).below (below_alloc _ _)).below (below_alloc _ _)).below (below_alloc _ _)
  have hb6 : W1.heap[W.heap.size + 1 + 1 + 1]? = some (.cells #[.bool false] 4 (0, 0)) := by
    rw [← hW1]
    have := heap_alloc_new (((W.alloc (.cells #[c0, c1, c2, c3, c4, .slice none 0 0, .slice none 0 0] 32)).alloc (.cells #[.int .i64 d] 3)).alloc (.cells #[.func (.yield l) #[] #[]] 84)) (.cells #[.bool false] 4)
    simpa using this
  obtain ⟨fn, tmps, assign, body, hy, hR⟩ := hY W1 hB1.below
  rw [← hW1] at hy hR
  have HB1 := hide hB1
  have HBx := hide hbx
  have HB6 := hide hb6
  have HW1 := hide hW1
  have H1 := hide h1
  have H0 := hide h0
  clear hY hB1 hbx hb6 hW1 h1 h0
  refine (callsIn_wide (n := 9)).1 ?_
  refine callsIn_of_wp_marks Try.func46 rfl trivial ?_ rfl
  simp only [Try.ntmps46, List.size_toArray, List.length_cons, List.length_nil, Nat.reduceAdd, Nat.reduceSub, Array.replicate_succ, Array.replicate_zero, List.push_toArray, List.append_toArray, List.nil_append, List.cons_append]
  gi_wp2
  refine (RoundIn.anyDepth rfl hR).mono ?_
  rintro e W2 (⟨rfl, hJ, hk⟩ | ⟨rfl, hJ, hk⟩)
  · rw [HW1.out] at hk
    have HBx2 := hide (hk.box hB HBx.out)
    have HB62 := hide (hk.one (by omega) HB6.out)
    obtain ⟨k0, k1, k2, k3, k4, k5, k6⟩ := HBx2.out.cells
    clear hR hy HBx HB6
    gi_wp2
    refine ⟨trivial, (callsIn_wide.2 (below_any _ _ _ _ _ _ _ _)).mono ?_⟩
    rintro e w' ⟨rfl, rfl⟩
    have HN := hide (none_goes W2.heap.size c0 c1 c2 c3 c4 _ (Box7.new W2 c0 c1 c2 c3 c4 (.slice none 0 0) (.slice none 0 0)))
    have HX := hide (below_alloc W2 (.cells #[c0, c1, c2, c3, c4, .slice none 0 0, .slice none 0 0] 32))
    have HJ := hide hJ
    have hsz : W2.heap.size < (W2.alloc (.cells #[c0, c1, c2, c3, c4, .slice none 0 0, .slice none 0 0] 32)).heap.size := by simp
    clear hJ hk k0 k1 k2 k3 k4 k5 k6 HBx2
    gi_wp2
    generalize W2.alloc (.cells #[c0, c1, c2, c3, c4, .slice none 0 0, .slice none 0 0] 32) = X at *
    refine range_gen (gf := 59) (lb := #[.pointer (some ⟨W2.heap.size, 0, none⟩)]) rfl (enters_of Try.func59 (by kernel_rfl) rfl)
      HN.out (fun x => nomatch x)
      (fun _ V => Below X.heap.size X V) (fun _ _ => False) (fun _ _ _ h hb => h.trans hb) (fun _ _ _ h _ => h) (Below.refl _ _) (fun x => nomatch x) (fun x => nomatch x) ?assign ?body ?done ?stop
    case assign => exact fun _ _ x => nomatch x
    case body => exact fun _ _ x => nomatch x
    case stop => exact fun _ _ _ _ h => h.elim
    case done =>
      intro D V hD hBV hK
      have hlt6 := lt_of_block HB62.out
      have hb6 := (hBV.block (W.heap.size + 1 + 1 + 1) (by omega)).trans ((HX.out.block _ hlt6).trans HB62.out)
      have g6 := cell_of_one hb6
      have f6 := free_of_one hb6
      have HK := hide hK
      have HBV := hide hBV
      have HG6 := hide hb6
      clear hb6 hK hBV
      gi_wp2
      have hK' : (V.setCell ⟨W.heap.size + 1 + 1 + 1, 0, none⟩ (.bool true)).heap[D]? = some (.deferred (some [])) := (Below.heap_setCell _ _ _ _ (fun e => by have e' : D = W.heap.size + 1 + 1 + 1 := e; omega)).trans HK.out
      refine ⟨by simp, .inl ⟨_, _, rfl, run_takeDeferred hK', ?_⟩⟩
      have hc6 : ((V.setCell ⟨W.heap.size + 1 + 1 + 1, 0, none⟩ (.bool true)).putObj D (.deferred none)).cell? ⟨W.heap.size + 1 + 1 + 1, 0, none⟩ = some (.bool true) := by
        have h := one_setCell (u := .bool true) HG6.out
        have h2 : ((V.setCell ⟨W.heap.size + 1 + 1 + 1, 0, none⟩ (.bool true)).putObj D (.deferred none)).heap[W.heap.size + 1 + 1 + 1]? = _ := (World.putObj_heap_other (by omega)).trans h
        exact cell_of_one h2
      refine ⟨.bool true, ?_, .inl ⟨rfl, ?_⟩⟩
      · simp [results, Try.results46, go_sem, hc6]
      · refine H1.out _ _ HJ.out ?_
        refine ((HX.out.mono (by omega)).trans (HBV.out.mono (by omega))).trans ?_
        refine ((Below.refl B V).setCell (p := ⟨W.heap.size + 1 + 1 + 1, 0, none⟩) (by simp; omega) (.bool true)).trans ?_
        exact below_put _ _ _ (by omega) (lt_of_block hK')
  · rw [HW1.out] at hk
    have HB62 := hide (hk.one (by omega) HB6.out)
    have g6 := cell_of_one HB62.out
    have f6 := free_of_one HB62.out
    have HJ := hide hJ
    clear hR hy HBx HB6 hJ hk
    gi_wp2
    have hc6 := cell_of_one (one_setCell (u := .bool false) HB62.out)
    refine ⟨.bool false, ?_, .inr ⟨rfl, ?_⟩⟩
    · simp [results, Try.results46, go_sem, hc6]
    · exact H0.out _ _ HJ.out ((Below.refl B W2).setCell (p := ⟨W.heap.size + 1 + 1 + 1, 0, none⟩) (by simp; omega) (.bool false))

set_option maxHeartbeats 1600000 in
set_option maxRecDepth 1000000 in
theorem parts1_leaf (l b : Nat) (c0 c1 c2 c3 c4 : Value) (B : Nat) (W : World) (hB : B ≤ W.heap.size) (hb : Box7 W b c0 c1 c2 c3 c4 (.slice none 0 0) (.slice none 0 0)) (R1 R0 : World → Prop) (h1 : ∀ V V', R1 V → Below B V V' → R1 V') (h0 : ∀ V V', R0 V → Below B V V' → R0 V')
    (hY : ∀ W1, Below W.heap.size W W1 → YieldAt Fence.wide 0 Try.prog l #[.int .i64 1, .agg #[c0, c1, c2, c3, c4, .slice none 0 0, .slice none 0 0]] W1 fun e W' => (e = .returned (.bool true) ∧ R1 W' ∧ AB B W1 W') ∨ (e = .returned (.bool false) ∧ R0 W' ∧ AB B W1 W')) :
    Calls Try.prog 45 #[.func (.yield l) #[] #[], .pointer (some ⟨b, 0, none⟩)] W fun e W'' => (∃ v, e = .returned v) ∧ (R1 W'' ∨ R0 W'') := by
  have HC := hide (walk_leaf l 1 c0 c1 c2 c3 c4 B W hB R1 R0 h1 h0 hY)
  obtain ⟨k0, k1, k2, k3, k4, k5, k6⟩ := hb.cells
  clear hY h1 h0 hb
  go_enter Try.func45, Try.ntmps45
  go_wp2_with fail
  refine HC.out.mono ?_
  rintro e W1 (⟨rfl, h⟩ | ⟨rfl, h⟩)
  · go_wp2
    go_end0
    exact ⟨⟨_, rfl⟩, .inl h⟩
  · go_wp2
    go_end0
    exact ⟨⟨_, rfl⟩, .inr h⟩
theorem parts_goes (b : Nat) (c0 c1 c2 c3 c4 : Value) (w : World) (hb : Box7 w b c0 c1 c2 c3 c4 (.slice none 0 0) (.slice none 0 0)) :
    Goes Try.prog 45 #[.pointer (some ⟨b, 0, none⟩)] (fun _ : Unit => #[.int .i64 1, .agg #[c0, c1, c2, c3, c4, .slice none 0 0, .slice none 0 0]]) [()] w := by
  intro l J Jx W hW hJ hJx hY h0
  exact parts1_leaf l b c0 c1 c2 c3 c4 W.heap.size W (Nat.le_refl _) (hb.below hW) (J [()]) Jx (fun V V' h hb => hJ _ V V' h hb) hJx
    (fun W1 hb1 => hY [] () [] W1 rfl (hJ _ _ _ h0 hb1))
end Go.Proofs.Ytegoeaofjnpehab
/- Contract of Check, of a value without lists that fits by itself. -/
namespace Go.Proofs.Ytegoeaofjnpehab
open Go.RowKit Go.Shelf
attribute [local go_sem] Oper.semAt_some
set_option linter.unusedVariables false

/-- Check's own memory: the value, the answer, the count. -/
structure Ck (b : Nat) (w V : World) (c0 c1 c2 c3 c4 : Value) (cnt : Int) : Prop where
  fr : Fr b w V
  box : Box7 V b c0 c1 c2 c3 c4 (.slice none 0 0) (.slice none 0 0)
  res : V.heap[b + 1]? = some (.cells #[.int .u16 0] 26 (0, 0))
  cn : V.heap[b + 1 + 1]? = some (.cells #[.int .i64 cnt] 3 (0, 0))
theorem Ck.on {b B : Nat} {w V V' : World} {c0 c1 c2 c3 c4 : Value} {cnt : Int} (h : Ck b w V c0 c1 c2 c3 c4 cnt) (hb : Below B V V') (hB : b + 1 + 1 < B) : Ck b w V' c0 c1 c2 c3 c4 cnt :=
  ⟨⟨h.fr.below.trans (hb.mono (by omega)), Nat.le_trans h.fr.size hb.size⟩, (hb.block _ (by omega)).trans h.box, (hb.block _ (by omega)).trans h.res, (hb.block _ (by omega)).trans h.cn⟩

theorem Ck.sz {b : Nat} {w V : World} {c0 c1 c2 c3 c4 : Value} {cnt : Int} (h : Ck b w V c0 c1 c2 c3 c4 cnt) : b + 1 + 1 < V.heap.size := lt_of_block h.cn
theorem Ck.start (w : World) (c0 c1 c2 c3 c4 : Value) : Ck w.heap.size w (((w.alloc (.cells #[c0, c1, c2, c3, c4, .slice none 0 0, .slice none 0 0] 32)).alloc (.cells #[.int .u16 0] 26)).alloc (.cells #[.int .i64 0] 3)) c0 c1 c2 c3 c4 0 := by
  refine ⟨(((Fr.refl w).alloc _).alloc _).alloc _, ((Box7.new w _ _ _ _ _ _ _).below (below_alloc _ _)).below (below_alloc _ _), ?_, ?_⟩
  · have := heap_alloc_new (w.alloc (.cells #[c0, c1, c2, c3, c4, .slice none 0 0, .slice none 0 0] 32)) (.cells #[.int .u16 0] 26)
    rw [World.size_alloc] at this
    exact (Below.heap_alloc _ _ _ (by simp)).trans this
  · have := heap_alloc_new ((w.alloc (.cells #[c0, c1, c2, c3, c4, .slice none 0 0, .slice none 0 0] 32)).alloc (.cells #[.int .u16 0] 26)) (.cells #[.int .i64 0] 3)
    rw [World.size_alloc, World.size_alloc] at this
    exact this
theorem Ck.count {b : Nat} {w V : World} {c0 c1 c2 c3 c4 : Value} {cnt : Int} (h : Ck b w V c0 c1 c2 c3 c4 cnt) (n : Int) : Ck b w (V.setCell ⟨b + 1 + 1, 0, none⟩ (.int .i64 n)) c0 c1 c2 c3 c4 n :=
  ⟨h.fr.set (by omega) _, (Below.heap_setCell _ _ _ _ (fun e => by have e' : b = b + 1 + 1 := e; omega)).trans h.box, (Below.heap_setCell _ _ _ _ (fun e => by have e' : b + 1 = b + 1 + 1 := e; omega)).trans h.res, one_setCell h.cn⟩

set_option maxHeartbeats 1600000 in
set_option maxRecDepth 1000000 in
theorem check_leaf (k : Int) (bo : Bool) (n : Int) (t : ByteArray) (a4 : Option Addr) (l4 q4 : Nat) (w : World)
    (HF : Hid (∀ W, Calls Try.prog 34 #[.agg #[(.int .u8 k), (.bool bo), (.int .i64 n), (.string t), (.slice a4 l4 q4), .slice none 0 0, .slice none 0 0]] W fun e w' => e = .returned (.int .u16 0) ∧ Below W.heap.size W w')) :
    Calls Try.prog 21 #[.agg #[(.int .u8 k), (.bool bo), (.int .i64 n), (.string t), (.slice a4 l4 q4), .slice none 0 0, .slice none 0 0]] w fun e w' => e = .returned (.int .u16 0) ∧ Below w.heap.size w w' := by
  refine (callsIn_wide (n := 9)).1 ?_
  refine callsIn_of_wp_marks Try.func21 rfl trivial ?_ rfl
  simp only [Try.ntmps21, List.size_toArray, List.length_cons, List.length_nil, Nat.reduceAdd, Nat.reduceSub, Array.replicate_succ, Array.replicate_zero, List.push_toArray, List.append_toArray, List.nil_append, List.cons_append]
  gi_wp2
  refine ⟨trivial, (callsIn_wide.2 (parts_any _ _ _ _ _ _ _ _)).mono ?_⟩
  rintro e w' ⟨rfl, rfl⟩
  have HC0 := hide (Ck.start w (.int .u8 k) (.bool bo) (.int .i64 n) (.string t) (.slice a4 l4 q4))
  gi_wp2
  generalize hX0 : ((w.alloc (.cells #[(.int .u8 k), (.bool bo), (.int .i64 n), (.string t), (.slice a4 l4 q4), .slice none 0 0, .slice none 0 0] 32)).alloc (.cells #[.int .u16 0] 26)).alloc (.cells #[.int .i64 0] 3) = X0 at *
  have hsx : X0.heap.size = w.heap.size + 1 + 1 + 1 := by rw [← hX0]; simp
  clear hX0
  rw [← hsx]
  have HG := hide (parts_goes X0.heap.size (.int .u8 k) (.bool bo) (.int .i64 n) (.string t) (.slice a4 l4 q4) _ (Box7.new X0 (.int .u8 k) (.bool bo) (.int .i64 n) (.string t) (.slice a4 l4 q4) (.slice none 0 0) (.slice none 0 0)))
  have HC1 := hide (HC0.out.on (below_alloc X0 (.cells #[(.int .u8 k), (.bool bo), (.int .i64 n), (.string t), (.slice a4 l4 q4), .slice none 0 0, .slice none 0 0] 32)) (by omega))
  have hsx1 : X0.heap.size < (X0.alloc (.cells #[(.int .u8 k), (.bool bo), (.int .i64 n), (.string t), (.slice a4 l4 q4), .slice none 0 0, .slice none 0 0] 32)).heap.size := by simp
  generalize X0.alloc (.cells #[(.int .u8 k), (.bool bo), (.int .i64 n), (.string t), (.slice a4 l4 q4), .slice none 0 0, .slice none 0 0] 32) = X1 at *
  rw [hsx] at hsx1 HG ⊢
  clear hsx HC0
  generalize hb : w.heap.size = b at *
  have HBB := hide hb
  clear hb
  refine range_gen (gf := 45) (lb := #[.pointer (some ⟨b + 1 + 1 + 1, 0, none⟩)]) rfl (enters_of Try.func45 (by kernel_rfl) rfl)
    HG.out (fun _ => rfl)
    (fun pre V => Ck b w V (.int .u8 k) (.bool bo) (.int .i64 n) (.string t) (.slice a4 l4 q4) (pre.length : Int) ∧ X1.heap.size ≤ V.heap.size) (fun _ _ => False) (fun _ _ _ h hb => ⟨h.1.on hb (by omega), Nat.le_trans h.2 hb.size⟩) (fun _ _ _ h _ => h) ⟨HC1.out, Nat.le_refl _⟩
    (fun _ a' _ => a' = { tmps := #[.agg #[(.int .u8 k), (.bool bo), (.int .i64 n), (.string t), (.slice a4 l4 q4), .slice none 0 0, .slice none 0 0], .pointer (some ⟨b, 0, none⟩), .pointer (some ⟨b + 1, 0, none⟩), .pointer (some ⟨b + 1 + 1, 0, none⟩), .int .i64 1, undef, undef, undef, .agg #[(.int .u8 k), (.bool bo), (.int .i64 n), (.string t), (.slice a4 l4 q4), .slice none 0 0, .slice none 0 0], .func (.func 45) #[] #[.pointer (some ⟨b + 1 + 1 + 1, 0, none⟩)], .int .i64 1, .agg #[(.int .u8 k), (.bool bo), (.int .i64 n), (.string t), (.slice a4 l4 q4), .slice none 0 0, .slice none 0 0], undef, undef, undef, undef, undef, undef, undef, undef, undef, undef, undef, undef, undef, undef, undef], defers := [] }) (fun _ _ _ _ _ _ h _ => h) ?assign ?body ?done ?stop
  case stop => exact fun _ _ _ _ h => h.elim
  case assign =>
    intro l pre x V K hi hK
    gi_wp2
    exact hK _ _ hi (AB.refl _ _) rfl
  case body =>
    rintro l pre x rest a' V hx ⟨hi, hs⟩ rfl
    have hn : pre.length = 0 := by have := congrArg List.length hx; simp at this; omega
    have g3 := cell_of_one hi.cn
    have f3 := free_of_one hi.cn
    rw [hn] at g3
    have HI := hide hi
    have HN := hide hn
    clear hi hn hx
    gi_wp2
    refine ⟨⟨?_, by simpa [World.setCell] using hs⟩, AB.set _ _ (by omega)⟩
    rw [List.length_append, HN.out]
    exact HI.out.count 1
  case done =>
    rintro D V hD ⟨hi, hs⟩ hK
    have HI := hide hi
    have HK := hide hK
    obtain ⟨k0, k1, k2, k3, k4, k5, k6⟩ := hi.box.cells
    have g3 := cell_of_one hi.cn
    clear hi hK
    gi_wp2
    refine ⟨trivial, (callsIn_wide.2 (parts_any _ _ _ _ _ _ _ _)).mono ?_⟩
    rintro e w' ⟨rfl, rfl⟩
    gi_wp2
    have HG2 := hide (parts_goes V.heap.size (.int .u8 k) (.bool bo) (.int .i64 n) (.string t) (.slice a4 l4 q4) _ (Box7.new V (.int .u8 k) (.bool bo) (.int .i64 n) (.string t) (.slice a4 l4 q4) (.slice none 0 0) (.slice none 0 0)))
    have HI2 := hide (HI.out.on (below_alloc V (.cells #[(.int .u8 k), (.bool bo), (.int .i64 n), (.string t), (.slice a4 l4 q4), .slice none 0 0, .slice none 0 0] 32)) (by omega))
    have HK2 := hide ((Below.heap_alloc V (.cells #[(.int .u8 k), (.bool bo), (.int .i64 n), (.string t), (.slice a4 l4 q4), .slice none 0 0, .slice none 0 0] 32) D (lt_of_block HK.out)).trans HK.out)
    have hDV := lt_of_block HK.out
    have hsx2 : V.heap.size < (V.alloc (.cells #[(.int .u8 k), (.bool bo), (.int .i64 n), (.string t), (.slice a4 l4 q4), .slice none 0 0, .slice none 0 0] 32)).heap.size := by simp
    generalize V.alloc (.cells #[(.int .u8 k), (.bool bo), (.int .i64 n), (.string t), (.slice a4 l4 q4), .slice none 0 0, .slice none 0 0] 32) = X2 at *
    clear k0 k1 k2 k3 k4 k5 k6 g3 HI HK
    refine range_gen (gf := 45) (lb := #[.pointer (some ⟨V.heap.size, 0, none⟩)]) rfl (enters_of Try.func45 (by kernel_rfl) rfl)
      HG2.out (fun _ => rfl)
      (fun pre W => Ck b w W (.int .u8 k) (.bool bo) (.int .i64 n) (.string t) (.slice a4 l4 q4) 1 ∧ X2.heap.size ≤ W.heap.size ∧ W.heap[D]? = some (.deferred (some []))) (fun _ _ => False) (fun _ _ _ h hb => ⟨h.1.on hb (by omega), Nat.le_trans h.2.1 hb.size, (hb.block _ (by omega)).trans h.2.2⟩) (fun _ _ _ h _ => h) ⟨HI2.out, Nat.le_refl _, HK2.out⟩
      (fun _ a' W => ∃ p, Box7 W p (.int .u8 k) (.bool bo) (.int .i64 n) (.string t) (.slice a4 l4 q4) (.slice none 0 0) (.slice none 0 0) ∧ a' = { tmps := #[.agg #[(.int .u8 k), (.bool bo), (.int .i64 n), (.string t), (.slice a4 l4 q4), .slice none 0 0, .slice none 0 0], .pointer (some ⟨b, 0, none⟩), .pointer (some ⟨b + 1, 0, none⟩), .pointer (some ⟨b + 1 + 1, 0, none⟩), undef, undef, .pointer (some ⟨p, 0, none⟩), undef, .agg #[(.int .u8 k), (.bool bo), (.int .i64 n), (.string t), (.slice a4 l4 q4), .slice none 0 0, .slice none 0 0], .func (.func 45) #[] #[.pointer (some ⟨b + 1 + 1 + 1, 0, none⟩)], undef, undef, undef, undef, undef, undef, .int .i64 1, .bool false, .agg #[(.int .u8 k), (.bool bo), (.int .i64 n), (.string t), (.slice a4 l4 q4), .slice none 0 0, .slice none 0 0], .func (.func 45) #[] #[.pointer (some ⟨V.heap.size, 0, none⟩)], .int .i64 1, .agg #[(.int .u8 k), (.bool bo), (.int .i64 n), (.string t), (.slice a4 l4 q4), .slice none 0 0, .slice none 0 0], undef, undef, undef, undef, undef], defers := [] })
      (fun _ _ W l r o h hl => by
        obtain ⟨p, hp, ha⟩ := h
        refine ⟨p, (World.putObj_heap_other (fun e => ?_)).trans hp, ha⟩
        subst e
        unfold Box7 at hp
        rw [hl] at hp
        cases hp) ?assign2 ?body2 ?done2 ?stop2
    case stop2 => exact fun _ _ _ _ h => h.elim
    case assign2 =>
      rintro l pre x W K ⟨h1, h2, h3⟩ hK
      gi_wp2
      have hb := below_alloc W (.cells #[(.int .u8 k), (.bool bo), (.int .i64 n), (.string t), (.slice a4 l4 q4), .slice none 0 0, .slice none 0 0] 32)
      exact hK _ _ ⟨h1.on hb (by omega), Nat.le_trans h2 hb.size, (hb.block _ (by omega)).trans h3⟩ (AB.of_below hb) ⟨_, Box7.new W _ _ _ _ _ _ _, rfl⟩
    case body2 =>
      rintro l pre x rest a' W hx ⟨h1, h2, h3⟩ ⟨p, hp, rfl⟩
      obtain ⟨k0, k1, k2, k3, k4, k5, k6⟩ := hp.cells
      have H1 := hide h1
      have H3 := hide h3
      clear hx h1 h3 hp
      gi_wp2
      refine ⟨trivial, (CallsIn.inRound l (callsIn_wide.2 (HF.out _))).mono ?_⟩
      rintro e W1 ⟨rfl, hb⟩
      have HB := hide hb
      clear hb k0 k1 k2 k3 k4 k5 k6
      gi_wp2
      exact ⟨⟨H1.out.on HB.out (by omega), Nat.le_trans h2 HB.out.size, (HB.out.block _ (lt_of_block H3.out)).trans H3.out⟩, AB.of_below HB.out⟩
    case done2 =>
      rintro D2 W hD2 ⟨h1, h2, h3⟩ hK2
      have g2 := cell_of_one h1.res
      have f2 := free_of_one h1.res
      have H1 := hide h1
      have H3 := hide h3
      have HKK := hide hK2
      clear h1 h3 hK2
      gi_wp2
      have h2' : (W.setCell ⟨b + 1, 0, none⟩ (.int .u16 0)).heap[D2]? = some (.deferred (some [])) := (Below.heap_setCell _ _ _ _ (fun e => by have e' : D2 = b + 1 := e; omega)).trans HKK.out
      have h3' : (W.setCell ⟨b + 1, 0, none⟩ (.int .u16 0)).heap[D]? = some (.deferred (some [])) := (Below.heap_setCell _ _ _ _ (fun e => by have e' : D = b + 1 := e; omega)).trans H3.out
      have h4' : ((W.setCell ⟨b + 1, 0, none⟩ (.int .u16 0)).putObj D2 (.deferred none)).heap[D]? = some (.deferred (some [])) := (World.putObj_heap_other (by omega)).trans h3'
      refine ⟨by simp, .inl ⟨_, _, rfl, run_takeDeferred h2', by simp, .inl ⟨_, _, rfl, run_takeDeferred h4', ?_⟩⟩⟩
      have hc : (((W.setCell ⟨b + 1, 0, none⟩ (.int .u16 0)).putObj D2 (.deferred none)).putObj D (.deferred none)).cell? ⟨b + 1, 0, none⟩ = some (.int .u16 0) :=
        cell_of_one ((World.putObj_heap_other (by omega)).trans ((World.putObj_heap_other (by omega)).trans (one_setCell (u := .int .u16 0) H1.out.res)))
      refine ⟨.int .u16 0, ?_, rfl, ?_⟩
      · simp [results, Try.results21, go_sem, hc]
      · rw [HBB.out]
        refine (H1.out.fr.below.setCell (p := ⟨b + 1, 0, none⟩) (by simp) (.int .u16 0)).trans ?_
        exact (below_put _ _ _ (by omega) (lt_of_block h2')).trans (below_put _ _ _ (by omega) (lt_of_block h4'))
theorem checkT (w : World) : Calls Try.prog 21 #[vT ⟨#[97]⟩] w fun e w' => e = .returned (.int .u16 0) ∧ Below w.heap.size w w' := check_leaf 4 false 0 ⟨#[97]⟩ none 0 0 w (fun W => fitsT W)
theorem checkI (n : Int) (w : World) : Calls Try.prog 21 #[vI n] w fun e w' => e = .returned (.int .u16 0) ∧ Below w.heap.size w w' := check_leaf 3 false n ⟨#[]⟩ none 0 0 w (fun W => fitsI n W)
end Go.Proofs.Ytegoeaofjnpehab
/- What is written goes behind a pointer, byte by byte, turned over where it falls. -/
namespace Go.Proofs.Ytegoeaofjnpehab
open Go.RowKit
set_option linter.unusedVariables false

/-- the blocks of the writer at p: its own cell, and its row. -/
def foot (w : World) (p k : Nat) : Prop := k = p ∨ ∃ v, w.heap[p]? = some (.cells #[v] 22 (0, 0)) ∧ v.ownBlock = some k
/-- the writer at p has written zs. -/
def Wr (w : World) (p : Nat) (zs : List Int) : Prop := ∃ v, w.heap[p]? = some (.cells #[v] 22 (0, 0)) ∧ Own w v zs ∧ v.ownBlock ≠ some p
/-- from w to w' nothing that was there has turned but the blocks of the writer at p. -/
structure Wrote (p : Nat) (w w' : World) : Prop where
  os : w'.os = w.os
  tape : w'.tape = w.tape
  output : w'.output = w.output
  size : w.heap.size ≤ w'.heap.size
  block : ∀ k, k < w.heap.size → ¬ foot w p k → w'.heap[k]? = w.heap[k]?
  foot : ∀ k, foot w' p k → foot w p k ∨ w.heap.size ≤ k

theorem Wr.lt {w : World} {p : Nat} {zs : List Int} (h : Wr w p zs) : p < w.heap.size := by obtain ⟨v, h, _⟩ := h; exact lt_of_block h
theorem Wr.foot_lt {w : World} {p k : Nat} {zs : List Int} (h : Wr w p zs) (hf : foot w p k) : k < w.heap.size := by
  rcases hf with rfl | ⟨v, h1, h2⟩
  · exact h.lt
  · obtain ⟨v', h3, h4, _⟩ := h
    have e : v' = v := by rw [h1] at h3; simpa using h3.symm
    subst e
    exact h4.lt h2
theorem Wrote.refl (p : Nat) (w : World) : Wrote p w w := ⟨rfl, rfl, rfl, Nat.le_refl _, fun _ _ _ => rfl, fun _ h => .inl h⟩
theorem Wrote.trans {p : Nat} {a b c : World} (h : Wrote p a b) (k : Wrote p b c) : Wrote p a c :=
  ⟨k.os.trans h.os, k.tape.trans h.tape, k.output.trans h.output, Nat.le_trans h.size k.size,
    fun i hi hn => (k.block i (Nat.lt_of_lt_of_le hi h.size) (fun hf => (h.foot i hf).elim hn (by omega))).trans (h.block i hi hn),
    fun i hf => (k.foot i hf).elim (h.foot i) (fun hs => .inr (Nat.le_trans h.size hs))⟩
theorem foot_same {w w' : World} {p k : Nat} (hb : w'.heap[p]? = w.heap[p]?) : foot w' p k ↔ foot w p k := by unfold foot; rw [hb]
theorem Wrote.of_below {p : Nat} {w w' : World} (hp : p < w.heap.size) (h : Below w.heap.size w w') : Wrote p w w' :=
  ⟨h.os, h.tape, h.output, h.size, fun k hk _ => h.block k hk, fun k hf => .inl ((foot_same (h.block p hp)).1 hf)⟩
theorem Wr.of_block {w w' : World} {p : Nat} {zs : List Int} (h : Wr w p zs) (hb : ∀ k, foot w p k → w'.heap[k]? = w.heap[k]?) : Wr w' p zs := by
  obtain ⟨v, h1, h2, h3⟩ := h
  exact ⟨v, (hb p (.inl rfl)).trans h1, h2.of_block (fun k hk => hb k (.inr ⟨v, h1, hk⟩)), h3⟩
theorem Wr.below {w w' : World} {p : Nat} {zs : List Int} (h : Wr w p zs) (hb : Below w.heap.size w w') : Wr w' p zs := h.of_block fun k hk => hb.block k (h.foot_lt hk)
/-- all blocks of the writer at p lie from B on. -/
def New (B : Nat) (w : World) (p : Nat) : Prop := ∀ k, foot w p k → B ≤ k
theorem New.wrote {B p : Nat} {w w' : World} (h : New B w p) (hw : Wrote p w w') (hB : B ≤ w.heap.size) : New B w' p := fun k hk => (hw.foot k hk).elim (h k) (fun hs => Nat.le_trans hB hs)
theorem New.below {B p : Nat} {w w' : World} (h : New B w p) (hp : p < w.heap.size) (hb : Below w.heap.size w w') : New B w' p := fun k hk => h k ((foot_same (hb.block p hp)).1 hk)
theorem Wrote.below {B p : Nat} {w w' : World} (h : Wrote p w w') (hn : New B w p) (hB : B ≤ w.heap.size) : Below B w w' :=
  ⟨h.os, h.tape, h.output, h.size, fun k hk => h.block k (by omega) (fun hf => by have := hn k hf; omega)⟩
theorem Below.wrote {B p : Nat} {w0 w w' : World} (hb : Below B w0 w) (h : Wrote p w w') (hn : New B w p) (hB : B ≤ w.heap.size) : Below B w0 w' := hb.trans (h.below hn hB)
theorem after_cell {w w0 w1 : World} {p : Nat} {v : Value} (hc : w.heap[p]? = some (.cells #[v] 22 (0, 0))) (hap : v.ownBlock ≠ some p) (h0 : Below w.heap.size w w0) (hg : w0.grownBy w1 v.ownBlock) :
    w1.cell? ⟨p, 0, none⟩ = some v ∧ w1.frozen? ⟨p, 0, none⟩ = false := by
  have hp : p < w.heap.size := lt_of_block hc
  have hc1 : w1.heap[p]? = some (.cells #[v] 22 (0, 0)) := (hg.block p (Nat.lt_of_lt_of_le hp h0.size) (fun e => hap e.symm)).trans ((h0.block p hp).trans hc)
  exact ⟨cell_of_one hc1, free_of_one hc1⟩
/-- an append to the writer's row, stored into its cell. -/
theorem wrote_append {w w1 : World} {p : Nat} {v v' : Value} {ys : List Int} (hc : w.heap[p]? = some (.cells #[v] 22 (0, 0))) (hap : v.ownBlock ≠ some p) {w0 : World} (h0 : Below w.heap.size w w0)
    (hown : Own w1 v' ys) (hg : w0.grownBy w1 v.ownBlock) (hf : ∀ k, v'.ownBlock = some k → v.ownBlock = some k ∨ w0.heap.size ≤ k) :
    Wr (w1.setCell ⟨p, 0, none⟩ v') p ys ∧ Wrote p w (w1.setCell ⟨p, 0, none⟩ v') := by
  have hp : p < w.heap.size := lt_of_block hc
  have hp0 : p < w0.heap.size := Nat.lt_of_lt_of_le hp h0.size
  have hc1 : w1.heap[p]? = some (.cells #[v] 22 (0, 0)) := (hg.block p hp0 (fun e => hap e.symm)).trans ((h0.block p hp).trans hc)
  have hn : v'.ownBlock ≠ some p := fun e => (hf p e).elim hap (fun h => by omega)
  have hc2 := one_setCell (u := v') hc1
  refine ⟨⟨v', hc2, hown.of_block (fun k hk => Below.heap_setCell _ _ _ _ (fun e => hn (by rw [hk]; exact congrArg some e))), hn⟩, ⟨?_, ?_, ?_, ?_, ?_, ?_⟩⟩
  · exact hg.os.trans h0.os
  · exact hg.tape.trans h0.tape
  · exact hg.output.trans h0.output
  · have := h0.size; have := hg.size; simp [World.setCell]; omega
  · intro k hk hnf
    have hkp : k ≠ p := fun e => hnf (.inl e)
    rw [Below.heap_setCell _ _ _ _ hkp, hg.block k (Nat.lt_of_lt_of_le hk h0.size) (fun e => hnf (.inr ⟨v, hc, e.symm⟩)), h0.block k hk]
  · intro k hk
    rcases hk with rfl | ⟨u, h1, h2⟩
    · exact .inl (.inl rfl)
    · have e : u = v' := by rw [hc2] at h1; simpa using h1.symm
      subst e
      rcases hf k h2 with h | h
      · exact .inl (.inr ⟨v, hc, h⟩)
      · exact .inr (Nat.le_trans h0.size h)

set_option maxHeartbeats 800000 in
theorem turning_up (w : World) : Calls Try.prog 23 #[.bool false] w fun e w' => e = .returned (.func (.func 36) #[] #[.pointer (some ⟨w.heap.size, 0, none⟩)]) ∧ w' = w.alloc (.cells #[.int .u8 0] 5) := by
  go_enter Try.func23, Try.ntmps23
  go_wp2
  go_ret
  exact ⟨rfl, rfl⟩
set_option maxHeartbeats 800000 in
theorem turning_down (w : World) : Calls Try.prog 23 #[.bool true] w fun e w' => e = .returned (.func (.func 36) #[] #[.pointer (some ⟨w.heap.size, 0, none⟩)]) ∧ w' = w.alloc (.cells #[.int .u8 255] 5) := by
  go_enter Try.func23, Try.ntmps23
  go_wp2
  go_ret
  exact ⟨rfl, rfl⟩
theorem Try.info5 : (Try.prog.info? 5).map (fun i => (i.zero, i.size, i.bytes)) = some (some (.int .u8 0), 1, 1) := by kernel_rfl

/-- the one-element slice that is laid for what is appended. -/
theorem src_one (w : World) (x : Int) : Src Try.prog 1 22 (.slice (some ⟨w.heap.size, 0, none⟩) 1 1) 1 ([x].map (Value.int .u8)) (w.alloc (.cells #[.int .u8 x] 5)) :=
  Src.ofSlice _ Try.underlying22 ⟨w.heap.size, 0, none⟩ 1 1 [.int .u8 x] rfl (by intro j u hj; match j, hj with | 0, hj => simp at hj; subst hj; simp [Addr.add]) (by intro u hu; simp at hu; subst hu; rfl)

theorem src_one' (w : World) (x : Int) : Src Try.prog 1 22 (.slice (some ⟨w.heap.size, 0, none⟩) 1 1) 1 ([x].map (Value.int .u8)) (w.alloc (.cells #[.int .u8 x] 5)).drew :=
  Src.ofSlice _ Try.underlying22 ⟨w.heap.size, 0, none⟩ 1 1 [.int .u8 x] rfl (by intro j u hj; match j, hj with | 0, hj => simp at hj; subst hj; simp [Addr.add]) (by intro u hu; simp at hu; subst hu; rfl)
theorem Own.drew {w : World} {v : Value} {zs : List Int} (h : Own w v zs) : Own w.drew v zs := h
theorem Own.alloc {w : World} {v : Value} {zs : List Int} (h : Own w v zs) (o : Obj) : Own (w.alloc o) v zs := h.of_block fun k hk => Below.heap_alloc w o k (h.lt hk)

theorem Row.news {w : World} {a : Option Addr} {zs : List Int} (h : Row w a zs) : ∀ ad, a = some ad → ∀ j u, (zs.map (Value.int .u8))[j]? = some u → w.cell? (ad.add j) = some u := by
  intro ad had j u hu
  have hj : j < zs.length := by have := (List.getElem?_eq_some_iff.1 hu).1; simpa using this
  rcases h with rfl | ⟨b, off, rfl, _, hc⟩
  · simp at hj
  · obtain rfl := Option.some.inj had
    rw [Addr.add_lit, hc j hj]
    rw [← hu]; simp [hj]
theorem src_row (w : World) (a : Option Addr) (n c : Nat) (ys : List Int) (hl : ys.length = n) (hn : a = none → n = 0 ∧ c = 0) (hr : Row w a ys) : Src Try.prog 1 22 (.slice a n c) n (ys.map (Value.int .u8)) w := by
  cases a with
  | none =>
    obtain ⟨rfl, rfl⟩ := hn rfl
    have e : ys = [] := List.eq_nil_of_length_eq_zero hl
    subst e
    exact Src.ofNil w Try.underlying22 0
  | some ad => exact Src.ofSlice w Try.underlying22 ad n c _ (by simp [hl]) (hr.news ad rfl) (ints_oneCell _ _)

/-- a byte turned over, or not. -/
def tn (m c : Int) : Int := ((c.toNat ^^^ m.toNat : Nat) : Int)
theorem tn_bd (m c : Int) (hc : 0 ≤ c ∧ c ≤ 255) (hm : 0 ≤ m ∧ m ≤ 255) : 0 ≤ tn m c ∧ tn m c ≤ 255 := by
  unfold tn
  have : c.toNat ^^^ m.toNat < 2 ^ 8 := Nat.xor_lt_two_pow (by omega) (by omega)
  omega
set_option maxHeartbeats 800000 in
theorem turn_any (c m : Int) (q : Nat) (w : World) (hc : 0 ≤ c ∧ c ≤ 255) (hm : 0 ≤ m ∧ m ≤ 255) (hq : w.heap[q]? = some (.cells #[.int .u8 m] 5 (0, 0))) :
    Calls Try.prog 36 #[.int .u8 c, .pointer (some ⟨q, 0, none⟩)] w fun e w' => e = .returned (.int .u8 (tn m c)) ∧ w' = w := by
  have k0 := cell_of_one hq
  have HT : Hid (bits .xor .u8 c m = tn m c) := u8_xor c m hc.1 (by omega) hm.1 (by omega)
  clear hq
  go_enter Try.func36, Try.ntmps36
  go_wp2
  go_ret
  exact ⟨by rw [HT.out]; rfl, rfl⟩

/-- the bytes zs have been put behind po; what is put passes through m. -/
structure PutS (W : World) (po pt q : Nat) (m : Int) (zs : List Int) : Prop where
  wr : Wr W po zs
  tp : W.heap[pt]? = some (.cells #[.func (.func 36) #[] #[.pointer (some ⟨q, 0, none⟩)]] 55 (0, 0))
  tq : W.heap[q]? = some (.cells #[.int .u8 m] 5 (0, 0))
  nt : ¬ foot W po pt
  nq : ¬ foot W po q
  md : 0 ≤ m ∧ m ≤ 255
theorem PutS.wrote {W W' : World} {po pt q : Nat} {m : Int} {zs ys : List Int} (h : PutS W po pt q m zs) (hw : Wr W' po ys) (ho : Wrote po W W') : PutS W' po pt q m ys :=
  ⟨hw, (ho.block _ (lt_of_block h.tp) h.nt).trans h.tp, (ho.block _ (lt_of_block h.tq) h.nq).trans h.tq,
    fun hf => (ho.foot _ hf).elim h.nt (fun hs => by have := lt_of_block h.tp; omega), fun hf => (ho.foot _ hf).elim h.nq (fun hs => by have := lt_of_block h.tq; omega), h.md⟩
theorem PutS.below {W W' : World} {po pt q : Nat} {m : Int} {zs : List Int} (h : PutS W po pt q m zs) (hb : Below W.heap.size W W') : PutS W' po pt q m zs :=
  h.wrote (h.wr.below hb) (Wrote.of_below h.wr.lt hb)

set_option maxHeartbeats 1600000 in
set_option maxRecDepth 1000000 in
theorem put_any (W : World) (po pt q : Nat) (m c : Int) (zs : List Int) (h : PutS W po pt q m zs) (hc : 0 ≤ c ∧ c ≤ 255) (hb : zs.length + 1 ≤ 140737488355328) :
    Calls Try.prog 25 #[.int .u8 c, .pointer (some ⟨po, 0, none⟩), .pointer (some ⟨pt, 0, none⟩)] W fun e W' => e = .returned (.tuple #[]) ∧ PutS W' po pt q m (zs ++ [tn m c]) ∧ Wrote po W W' := by
  obtain ⟨i0, hi, hz0, hz1, hz2⟩ := info_parts Try.info5
  obtain ⟨va, hcell, hown, hap⟩ := h.wr
  obtain ⟨a1, n1, c1, rfl, HN1⟩ := hown.shape2
  have k0 := cell_of_one hcell
  have f0 := free_of_one hcell
  have k1 := cell_of_one h.tp
  have HC := hide hcell
  have HO := hide hown
  have HA := hide hap
  have H := hide h
  have HT := hide (fun w => turn_any c m q w hc h.md)
  have HQ : Hid (W.drew.heap[q]? = some (.cells #[.int .u8 m] 5 (0, 0))) := h.tq
  have HB := hide hb
  have hlt := lt_of_block hcell
  have hne : po ≠ W.heap.size := by omega
  clear hcell hown hap h hc hb
  go_enter Try.func25, Try.ntmps25
  go_wp2
  go_region_law (first | (refine step_append_src (by rfl) (.tmp 4) (.tmp 8) 22 22 (by rfl) i0 Try.underlying22 hi hz0 hz1 hz2 (.slice a1 n1 c1) zs (by rfl) (HO.out.alloc _).drew (.slice (some ⟨W.heap.size, 0, none⟩) 1 1) 1 [tn m c] (by rfl) (src_one' _ _) HB.out ?_; intro v' w1 hown1 hg1 hf1; obtain ⟨k1, f1⟩ := after_cell HC.out HA.out (below_alloc _ _).drew hg1; obtain ⟨a2, n2, c2, rfl, HN2⟩ := hown1.shape2; have HR := hide (wrote_append HC.out HA.out (below_alloc _ _).drew hown1 hg1 hf1); clear hown1 hg1 hf1) | (go_simp; go_at_call 36; refine (HT.out W.drew HQ.out).mono ?_; intro e' w' hh; obtain ⟨rfl, rfl⟩ := hh))
  all_goals
    go_end0
    exact ⟨rfl, H.out.wrote HR.out.1 HR.out.2, HR.out.2⟩
end Go.Proofs.Ytegoeaofjnpehab
