/- SameChanges, of changes that are the same. -/
import Derived.Test.YtgohhlngnnmknaaRA
import Derived.Test.YtgohhlngnnmknaaRC
import Derived.Test.YtgohhlngnnmknaaSB
import Derived.RangeFuncNested
import Derived.RangeFuncBound
import Derived.RangeFuncCalls
import Derived.RangeFuncLeaves
namespace Go.Proofs.Ytgohhlngnnmknaa
open Go.RowKit Go.Maps
set_option linter.unusedVariables false
set_option maxHeartbeats 3200000 in
set_option maxRecDepth 1000000 in
theorem samec_yes (a b : Option Addr) (n c d : Nat) (xs ys : List En) (w : World) (h : Ens w a n c xs) (k : Ens w b n d ys) (he : ers xs = ers ys) (hn : n ≤ 1000000) :
    Calls Try.prog 11 #[.slice a n c, .slice b n d] w fun e w' => e = .returned (.bool true) ∧ Below w.heap.size w w' := by
  have hnb : ((n : Int) != (n : Int)) = false := by simp
  have HX := hide h
  have HY := hide k
  have HE := hide he
  clear h k he
  go_enter Try.func11, Try.ntmps11
  go_wp2
  go_loopw [5] (fun i wr => ∃ k : Nat, k ≤ n ∧ i = .int .i64 (k : Int) ∧ Below w.heap.size w wr) (fun i _ => n - (intOf i).toNat)
  case atStart => exact ⟨0, Nat.zero_le _, rfl, Below.refl _ _⟩
  case round =>
    obtain ⟨k, hk, rfl, hbl⟩ := hrel
    have HBl := hide hbl
    by_cases hlt : k < n
    · obtain ⟨x, hx, hokx⟩ := (HX.out.below hbl).at hlt
      obtain ⟨y, hy, hoky⟩ := (HY.out.below hbl).at hlt
      have hxy : x.e = y.e := by
        have h1 := ers_at hx
        have h2 := ers_at hy
        rw [HE.out, h2] at h1
        simpa using h1.symm
      obtain ⟨b1, o1, rfl, _, c0, c1, c2⟩ := (HX.out.below hbl).cells hx
      obtain ⟨b2, o2, rfl, _, e0, e1, e2⟩ := (HY.out.below hbl).cells hy
      have kx := hokx.key
      have vx := hokx.val
      have ky := hoky.key
      have vy := hoky.val
      rw [hxy] at c0 c1 c2 kx vx
      have HK1 := hide (sameb_yes x.ka y.ka y.e.key.length x.kc y.kc y.e.key wr.drew (kx.below (Below.refl _ _).drew) (ky.below (Below.refl _ _).drew))
      have HV1 := hide (fun W (hW : Below wr.heap.size wr W) => sameb_yes x.va y.va y.e.val.length x.vc y.vc y.e.val W (vx.below hW) (vy.below hW))
      have HSt : Hid (∀ W, Below wr.heap.size wr W → W.cell? ⟨b1, o1 + k * 3, none⟩ = some (.slice x.ka y.e.key.length x.kc) ∧ W.cell? ⟨b1, o1 + k * 3 + 1, none⟩ = some (.slice x.va y.e.val.length x.vc) ∧ W.cell? ⟨b1, o1 + k * 3 + 2, none⟩ = some (.bool y.e.del) ∧ W.cell? ⟨b2, o2 + k * 3, none⟩ = some (.slice y.ka y.e.key.length y.kc) ∧ W.cell? ⟨b2, o2 + k * 3 + 1, none⟩ = some (.slice y.va y.e.val.length y.vc) ∧ W.cell? ⟨b2, o2 + k * 3 + 2, none⟩ = some (.bool y.e.del)) := hide fun W hW => ⟨one_below1 c0 hW, one_below1 c1 hW, one_below1 c2 hW, one_below1 e0 hW, one_below1 e1 hW, one_below1 e2 hW⟩
      have p1 : (y.e.del != y.e.del) = false := by simp
      have i1 : (0 : Int) ≤ (k : Int) := by omega
      have i2 : (k : Int) < (n : Int) := by omega
      clear hx hy hokx hoky hxy kx vx ky vy hbl
      go_wp2
      go_region_held3 (fun W => W.cell? ⟨b1, o1 + k * 3, none⟩ = some (.slice x.ka y.e.key.length x.kc) ∧ W.cell? ⟨b1, o1 + k * 3 + 1, none⟩ = some (.slice x.va y.e.val.length x.vc) ∧ W.cell? ⟨b1, o1 + k * 3 + 2, none⟩ = some (.bool y.e.del) ∧ W.cell? ⟨b2, o2 + k * 3, none⟩ = some (.slice y.ka y.e.key.length y.kc) ∧ W.cell? ⟨b2, o2 + k * 3 + 1, none⟩ = some (.slice y.va y.e.val.length y.vc) ∧ W.cell? ⟨b2, o2 + k * 3 + 2, none⟩ = some (.bool y.e.del)) ((refine ⟨?_, ?_, ?_, ?_, ?_, ?_⟩ <;> assumption)) ((first | (go_at_call_of 43 (Value.slice x.ka y.e.key.length x.kc); refine HK1.out.mono ?_; intro r' w3 hh; obtain ⟨rfl, hb3⟩ := hh; have HB3 := hide ((Below.refl wr.heap.size wr).drew.trans hb3); clear hb3 c0 c1 c2 e0 e1 e2; obtain ⟨c0, c1, c2, e0, e1, e2⟩ := HSt.out w3 HB3.out) | (go_at_call_of 43 (Value.slice x.va y.e.val.length x.vc); refine (HV1.out _ HB3.out).mono ?_; intro r' w4 hh; obtain ⟨rfl, hb4⟩ := hh; have HB4 := hide (HB3.out.trans (hb4.mono HB3.out.size)); clear hb4 c0 c1 c2 e0 e1 e2; obtain ⟨c0, c1, c2, e0, e1, e2⟩ := HSt.out w4 HB4.out)))
      go_wp2
      go_roundw
      case rel => exact ⟨k + 1, by omega, by go_num, HBl.out.trans (HB4.out.mono HBl.out.size)⟩
      case measure => simp [intOf]; omega
    · go_wp2
      go_ret
      exact ⟨rfl, HBl.out⟩
end Go.Proofs.Ytgohhlngnnmknaa
/- A range over a function that keeps no memory of its own between the rounds: what the rounds have made stays. -/
namespace Go.Proofs.Ytgohhlngnnmknaa
open Go.RowKit
set_option linter.unusedVariables false

theorem room_of_none {F : Fence} (hd : F.depth = none) (k : Nat) : F.room k := fun d h => by rw [hd] at h; cases h
theorem RoundIn.anyDepth {F : Fence} (hd : F.depth = none) {m m' : Nat} {P : Program} {l : Nat} {f : FuncId} {tmps : Array Value} {assign body : Code} {w : World} {R : Ending → World → Prop}
    (h : RoundIn F m P l f tmps assign body w R) : RoundIn F m' P l f tmps assign body w R := ⟨h.1, fun c cs _ => h.2 c cs (room_of_none hd _)⟩
/-- the loop's own two blocks. -/
def Lp (D : Nat) : Nat → Prop := fun k => k = D ∨ k = D + 1
/-- the loop's own two blocks stay. -/
structure Kl (D : Nat) (W W' : World) : Prop where
  size : W.heap.size ≤ W'.heap.size
  d : W'.heap[D]? = W.heap[D]?
  l : W'.heap[D + 1]? = W.heap[D + 1]?
theorem Kl.refl (D : Nat) (W : World) : Kl D W W := ⟨Nat.le_refl _, rfl, rfl⟩
theorem Kl.trans {D : Nat} {X Y Z : World} (h : Kl D X Y) (k : Kl D Y Z) : Kl D X Z := ⟨Nat.le_trans h.size k.size, k.d.trans h.d, k.l.trans h.l⟩
theorem Kl.of_mv {D : Nat} {O : Nat → Prop} {W W' : World} (h : Mv O W W') (hD : D + 1 < W.heap.size) (h0 : ¬ O D) (h1 : ¬ O (D + 1)) : Kl D W W' := ⟨h.size, h.block D (by omega) h0, h.block (D + 1) hD h1⟩
theorem mv_put (W : World) (D l : Nat) (o : Obj) (hl : l = D ∨ l = D + 1) : Mv (Lp D) W (W.putObj l o) :=
  ⟨rfl, rfl, rfl, by simp [World.putObj], fun k _ hk => World.putObj_heap_other (fun e => hk (by subst e; exact hl))⟩

/-- what is ranged over hands over xs, one behind the other, as long as it is asked to, where M holds between the rounds. -/
def GoesS {α : Type} (P : Program) (gf : Nat) (lb : Array Value) (encs : α → Array Value) (xs : List α) (M : World → Prop) : Prop :=
  ∀ (l : Nat) (J : List α → World → Prop) (Jx : World → Prop) (W : World),
    (∀ pre V V', J pre V → Below V.heap.size V V' → J pre V') → (∀ V V', Jx V → Below V.heap.size V V' → Jx V') → (∀ pre V, J pre V → M V) →
    (∀ pre x rest V, xs = pre ++ x :: rest → J pre V → YieldAt Fence.wide 0 P l (encs x) V fun e V' =>
      (e = .returned (.bool true) ∧ J (pre ++ [x]) V') ∨ (e = .returned (.bool false) ∧ Jx V')) →
    J [] W → Calls P gf (#[.func (.yield l) #[] #[]] ++ lb) W fun e W' => (∃ v, e = .returned v) ∧ (J xs W' ∨ Jx W')

/-- how a round may be left. -/
def roundS {α : Type} (D : Nat) (I : List α → World → Prop) (Ix : Code → World → Prop) (xs : List α) (W : World) : Exit → Act → World → Prop
  | .normal, _, W' => I xs W' ∧ Kl D W W'
  | .ret, _, W' => Ix .ret W' ∧ Kl D W W'
  | .exit id, _, W' => Ix (.exit id) W' ∧ Kl D W W'
  | .goto t, _, W' => Ix (.goto t) W' ∧ Kl D W W'
  | .panic _, _, _ => False
  | .outgrown, _, _ => False

theorem range_genS {P : Program} {α : Type} {g : Operand} {ps : Array Tmp} {assign body : Code} {Q : Exit → Act → World → Prop} {a : Act} {w : World}
    {gf : Nat} {lb : Array Value} (hg : a.eval g = .func (.func gf) #[] lb) (eg : ∀ args w, (callFunc gf args).run P w = .ok (.enter gf args) w)
    {encs : α → Array Value} {xs : List α} {M : World → Prop} (hseq : GoesS P gf lb encs xs M) (hps : ∀ x, (encs x).size = ps.size)
    (I : List α → World → Prop) (Ix : Code → World → Prop) (hI : ∀ pre V V', I pre V → Mv (Lp w.heap.size) V V' → I pre V') (hIx : ∀ c V V', Ix c V → Mv (Lp w.heap.size) V V' → Ix c V') (h0 : I [] w) (hIM : ∀ pre V, I pre V → M V)
    (Ax : α → Act → World → Prop) (hAx : ∀ x a' V l r o, Ax x a' V → V.heap[l]? = some (.loop r) → Ax x a' (V.putObj l o))
    (hassign : ∀ (l : Nat) (pre : List α) (x : α) (V : World) (K : Act → World → Prop), w.heap.size + 1 < V.heap.size → I pre V → (∀ a' V', I pre V' → Kl w.heap.size V V' → Ax x a' V' → K a' V') →
      assign.wpIn (Fence.wide.inRound l) 7 P (Exit.then K (fun _ _ _ => False)) { tmps := (ps.zip (encs x)).foldl (fun t (p, v) => t.setIfInBounds p v) a.tmps, defers := [] } V)
    (hbody : ∀ (l : Nat) (pre : List α) (x : α) (rest : List α) (a' : Act) (V : World), xs = pre ++ x :: rest → w.heap.size + 1 < V.heap.size → I pre V → Ax x a' V → body.wpIn (Fence.wide.inRound l) 7 P (roundS w.heap.size I Ix (pre ++ [x]) V) a' V)
    (hdone : ∀ (D : Nat) (V : World), w.heap.size = D → I xs V → V.heap[D]? = some (.deferred (some [])) → Q .normal { a with defers := { target := .collected D, args := #[] } :: a.defers } V)
    (hstop : ∀ (D : Nat) (c : Code) (V : World), w.heap.size = D → Ix c V → V.heap[D]? = some (.deferred (some [])) → c.wpIn Fence.wide 9 P Q { a with defers := { target := .collected D, args := #[] } :: a.defers } V) :
    (Code.rangeFunc g ps assign body).wpIn Fence.wide 9 P Q a w := by
  refine wpIn_rangeFunc ?_
  intro fn hfn
  obtain ⟨rec, hrec⟩ : ∃ rec : LoopState → Option Code → Loop, rec = fun st pe => { state := st, pending := pe, fn, tmps := a.tmps, params := ps, assign, body, defers := w.heap.size } := ⟨_, rfl⟩
  obtain ⟨W1, hW1⟩ : ∃ W1, (w.alloc (.deferred (some []))).alloc (.loop (rec .ready none)) = W1 := ⟨_, rfl⟩
  have hs1 : W1.heap.size = w.heap.size + 2 := by rw [← hW1]; simp
  have hL1 : W1.heap[w.heap.size + 1]? = some (.loop (rec .ready none)) := by
    rw [← hW1]; have := World.alloc_heap_new (w.alloc (.deferred (some []))) (.loop (rec .ready none)); rwa [World.size_alloc] at this
  have hK1 : W1.heap[w.heap.size]? = some (.deferred (some [])) := by
    rw [← hW1]; exact (Below.heap_alloc _ _ _ (by simp)).trans (World.alloc_heap_new w _)
  have hb1 : Mv (Lp w.heap.size) w W1 := by rw [← hW1]; exact ((Mv.refl _ w).alloc _).alloc _
  have hbl : ∀ V V' : World, Below V.heap.size V V' → Mv (Lp w.heap.size) V V' := fun V V' h => Mv.of_below h
  refine ⟨w.heap.size + 1, [{ target := .collected w.heap.size, args := #[] }], W1, { target := .fn (.func gf) lb, args := #[.func (.yield (w.heap.size + 1)) #[] #[]] }, W1, gf,
    #[.func (.yield (w.heap.size + 1)) #[] #[]] ++ lb, W1, ?_, ?_, ?_, ?_, fun _ => by omega, ?_⟩
  · rw [← hW1, hrec]; exact run_enterLoop_outer _ _ _ _ _
  · simp only [resolve, hg]
    simp [go_sem]
  · exact fun _ _ => trivial
  · simp [invoke, go_sem, eg]
  · refine (callsIn_wide.2 (hseq (w.heap.size + 1)
      (fun pre V => I pre V ∧ V.heap[w.heap.size + 1]? = some (.loop (rec .ready none)) ∧ V.heap[w.heap.size]? = some (.deferred (some [])))
      (fun V => ∃ c, Ix c V ∧ V.heap[w.heap.size + 1]? = some (.loop (rec .done (some c))) ∧ V.heap[w.heap.size]? = some (.deferred (some [])))
      W1
      (fun pre V V' ⟨h1, h2, h3⟩ hb => ⟨hI pre V V' h1 (hbl V V' hb), (hb.block _ (lt_of_block h2)).trans h2, (hb.block _ (lt_of_block h3)).trans h3⟩)
      (fun V V' ⟨c, h1, h2, h3⟩ hb => ⟨c, hIx c V V' h1 (hbl V V' hb), (hb.block _ (lt_of_block h2)).trans h2, (hb.block _ (lt_of_block h3)).trans h3⟩)
      (fun pre V h => hIM pre V h.1)
      ?_ ⟨hI [] w W1 h0 hb1, hL1, hK1⟩)).mono ?_
    · rintro pre x rest V hx ⟨hi, hl, hk⟩
      have hy := run_yield (P := P) (args := encs x) hl (by rw [hrec]; exact hps x)
      rw [hrec] at hy
      refine ⟨fn, _, assign, body, hy, RoundIn.anyDepth (m := 7) rfl (roundIn_of_wpIn hfn (hassign _ pre x V _ (lt_of_block hl) hi (fun a' V' hi' hab hax => ?_)))⟩
      have hl' := hab.l.trans hl
      have hk' := hab.d.trans hk
      have hlt' : w.heap.size + 1 < V'.heap.size := lt_of_block hl'
      refine ⟨_, run_beginRound hl' (by rw [hrec]), ?_⟩
      have hl2 : (V'.putObj (w.heap.size + 1) (.loop { rec .ready none with state := .busy })).heap[w.heap.size + 1]? = some (.loop { rec .ready none with state := .busy }) := World.putObj_heap_same hlt'
      have hk2 : (V'.putObj (w.heap.size + 1) (.loop { rec .ready none with state := .busy })).heap[w.heap.size]? = some (.deferred (some [])) := (World.putObj_heap_other (by omega)).trans hk'
      have hbp := mv_put V' w.heap.size (w.heap.size + 1) (.loop { rec .ready none with state := .busy }) (.inr rfl)
      refine wpIn_mono (hbody _ pre x rest a' _ hx (lt_of_block hl2) (hI _ _ _ hi' hbp) (hAx _ _ _ _ _ _ hax hl')) ?_
      have fin : ∀ (jump : Option Code) (W3 : World), Kl w.heap.size (V'.putObj (w.heap.size + 1) (.loop { rec .ready none with state := .busy })) W3 →
          (Instr.endRound (w.heap.size + 1) jump).run P W3 = .ok (.bool jump.isNone) (W3.putObj (w.heap.size + 1) (.loop (rec (if jump.isNone then .ready else .done) jump))) ∧
          (W3.putObj (w.heap.size + 1) (.loop (rec (if jump.isNone then .ready else .done) jump))).heap[w.heap.size + 1]? = some (.loop (rec (if jump.isNone then .ready else .done) jump)) ∧
          (W3.putObj (w.heap.size + 1) (.loop (rec (if jump.isNone then .ready else .done) jump))).heap[w.heap.size]? = some (.deferred (some [])) ∧
          Mv (Lp w.heap.size) W3 (W3.putObj (w.heap.size + 1) (.loop (rec (if jump.isNone then .ready else .done) jump))) := fun jump W3 hk3 => by
        have hl3 := hk3.l.trans hl2
        have hkk := hk3.d.trans hk2
        have := run_endRound (P := P) jump hl3
        rw [hrec] at this ⊢
        exact ⟨this, World.putObj_heap_same (lt_of_block hl3), (World.putObj_heap_other (by omega)).trans hkk, mv_put _ _ _ _ (.inr rfl)⟩
      rintro e a3 W3 hp
      cases e with
      | normal =>
        obtain ⟨hi3, hk3⟩ := hp
        obtain ⟨hr, hl4, hk4, hb4⟩ := fin none W3 hk3
        exact ⟨_, _, hr, .inl ⟨rfl, ⟨hI _ _ _ hi3 hb4, hl4, hk4⟩⟩⟩
      | ret =>
        obtain ⟨hi3, hk3⟩ := hp
        obtain ⟨hr, hl4, hk4, hb4⟩ := fin (some .ret) W3 hk3
        exact ⟨_, _, hr, .inr ⟨rfl, ⟨.ret, hIx _ _ _ hi3 hb4, hl4, hk4⟩⟩⟩
      | exit id =>
        obtain ⟨hi3, hk3⟩ := hp
        obtain ⟨hr, hl4, hk4, hb4⟩ := fin (some (.exit id)) W3 hk3
        exact ⟨_, _, hr, .inr ⟨rfl, ⟨.exit id, hIx _ _ _ hi3 hb4, hl4, hk4⟩⟩⟩
      | goto t =>
        obtain ⟨hi3, hk3⟩ := hp
        obtain ⟨hr, hl4, hk4, hb4⟩ := fin (some (.goto t)) W3 hk3
        exact ⟨_, _, hr, .inr ⟨rfl, ⟨.goto t, hIx _ _ _ hi3 hb4, hl4, hk4⟩⟩⟩
      | panic ch => exact hp.elim
      | outgrown => exact hp.elim
    · rintro e W2 ⟨⟨v, rfl⟩, (⟨hi, hl, hk⟩ | ⟨c, hi, hl, hk⟩)⟩
      · exact ⟨none, _, by have := run_endLoop (P := P) hl (by rw [hrec]; simp); rw [hrec] at this; exact this, hdone _ _ rfl (hI _ _ _ hi (mv_put _ _ _ _ (.inr rfl))) ((World.putObj_heap_other (by omega)).trans hk)⟩
      · exact ⟨some c, _, by have := run_endLoop (P := P) hl (by rw [hrec]; simp); rw [hrec] at this; exact this, hstop _ c _ rfl (hIx _ _ _ hi (mv_put _ _ _ _ (.inr rfl))) ((World.putObj_heap_other (by omega)).trans hk)⟩
end Go.Proofs.Ytgohhlngnnmknaa
/- slices.Delete of one entry. -/
namespace Go.Proofs.Ytgohhlngnnmknaa
open Go.RowKit
set_option linter.unusedVariables false

set_option maxHeartbeats 1600000 in
set_option maxRecDepth 1000000 in
theorem delete_mid (g n i c B : Nat) (ys : List En) (w : World) (hi : i + 1 < n) (hn : n ≤ 1000000) (hc : n ≤ c) (hl : ys.length = n) (h : w.ownsRow B 85 3 (.slice (some ⟨g, 0, none⟩) n c) n (rowc ys)) :
    Calls Try.prog 86 #[.slice (some ⟨g, 0, none⟩) n c, .int .i64 (i : Int), .int .i64 ((i : Int) + 1)] w fun e w' => e = .returned (.slice (some ⟨g, 0, none⟩) (n - 1) c) ∧ w'.ownsRow B 85 3 (.slice (some ⟨g, 0, none⟩) (n - 1) c) (n - 1) (rowc (ys.eraseIdx i)) ∧ w.grownBy w' (some g) := by
  obtain ⟨i0, hi0, hz0, hzs, hzb⟩ := info_parts Try.infoE
  have hcell := h.cells (g := g) rfl
  obtain ⟨cur, hgB, hg, hcm, hcs, htk⟩ : ∃ cur : Array Value, B ≤ g ∧ w.heap[g]? = some (.cells cur 85 (0, 0)) ∧ c ≤ maxLen ∧ cur.size = c * 3 ∧ cur.toList.take (n * 3) = rowc ys := by
    rcases h.2 with ⟨e, _⟩ | ⟨g', cap, cur, e, hb, hg, hnc, hcm, hcs, htk⟩
    · cases e
    · simp only [Value.slice.injEq, Option.some.injEq, Addr.mk.injEq, and_true, true_and] at e
      obtain ⟨rfl, rfl⟩ := e
      exact ⟨cur, hb, hg, hcm, hcs, htk⟩
  have hdl : (rowc (ys.drop (i + 1))).length = (n - (i + 1)) * 3 := by rw [rowc_len, List.length_drop, hl]
  obtain ⟨R2, hR2⟩ : ∃ R2 : Array Value, R2 = (cur.toList.take (i * 3) ++ rowc (ys.drop (i + 1)) ++ cur.toList.drop (i * 3 + (rowc (ys.drop (i + 1))).length)).toArray := ⟨_, rfl⟩
  obtain ⟨NEWS, hNEWS⟩ : ∃ NEWS, NEWS = rowc (ys.drop (i + 1)) := ⟨_, rfl⟩
  rw [← hNEWS] at hdl hR2
  have ldq := run_loadCells_list (P := Try.prog) w.drew ⟨g, (i + 1) * 3, none⟩ NEWS (fun j u hu => by rw [hNEWS, rowc_drop, List.getElem?_drop] at hu; have := hcell _ u hu; rw [Addr.add_lit] at this ⊢; simpa using this)
  rw [hdl] at ldq
  unfold loadCells at ldq
  have stq := run_storeCells_at Try.prog g (i * 3) 85 NEWS 0 cur w.drew hg (by rw [hdl, hcs]; omega) (by rw [hNEWS]; exact rowc_one_cell _)
  simp only [Nat.add_zero] at stq
  rw [← hR2] at stq
  obtain ⟨W2, hW2⟩ : ∃ W2, W2 = w.drew.setRow g R2 := ⟨_, rfl⟩
  rw [← hW2] at stq
  have hg2 : W2.heap[g]? = some (.cells R2 85 (0, 0)) := by rw [hW2]; exact setRow_heap w.drew g _ _ _ _ hg
  have hRs2 : R2.size = c * 3 := by
    rw [hR2, List.size_toArray]
    simp only [List.length_append, List.length_take, List.length_drop, Array.length_toList, hcs, hdl]
    omega
  obtain ⟨ZS, hZS⟩ : ∃ ZS : List Value, ZS = [.slice none 0 0, .slice none 0 0, .bool false] := ⟨_, rfl⟩
  obtain ⟨R3, hR3⟩ : ∃ R3 : Array Value, R3 = (R2.toList.take ((n - 1) * 3) ++ ZS ++ R2.toList.drop ((n - 1) * 3 + ZS.length)).toArray := ⟨_, rfl⟩
  have stz := run_storeCells_at Try.prog g ((n - 1) * 3) 85 ZS 0 R2 W2 hg2 (by rw [hRs2, hZS]; simp; omega) (by rw [hZS]; intro v hv; simp at hv; rcases hv with rfl | rfl <;> rfl)
  simp only [Nat.add_zero] at stz
  rw [← hR3] at stz
  obtain ⟨W3, hW3⟩ : ∃ W3, W3 = W2.setRow g R3 := ⟨_, rfl⟩
  have hg3 : W3.heap[g]? = some (.cells R3 85 (0, 0)) := by rw [hW3]; exact setRow_heap W2 g _ _ _ _ hg2
  rw [← hW3] at stz
  have clq : (Builtin.clear_ #[30] 0 #[.slice (some ⟨g, (n - 1) * 3, none⟩) 1 (c - (n - 1))]).run Try.prog W2 = .ok (.tuple #[]) W3 := by
    have hv : ∀ w, (zeroValue 85).run Try.prog w = .ok (.agg #[.slice none 0 0, .slice none 0 0, .bool false]) w := fun w => by simp [zeroValue, typeInfo, hi0, hz0]
    have hzc : (Builtin.zeroCells (Value.agg #[.slice none 0 0, .slice none 0 0, .bool false]).cells 1).toList = ZS := by rw [hZS]; simp [Builtin.zeroCells, Value.cells, List.range, List.range.loop]
    simp [Builtin.clear_, run_underlying Try.underlying30, hv, hzc, stz]
  have hown : W3.ownsRow B 85 3 (.slice (some ⟨g, 0, none⟩) (n - 1) c) (n - 1) (rowc (ys.eraseIdx i)) := by
    have e : rowc (ys.eraseIdx i) = rowc (ys.take i) ++ NEWS := by rw [List.eraseIdx_eq_take_drop_succ, rowc_app, hNEWS]
    have hA : cur.toList.take (i * 3) = rowc (ys.take i) := by
      have : cur.toList.take (i * 3) = (cur.toList.take (n * 3)).take (i * 3) := by rw [List.take_take, Nat.min_eq_left (by omega)]
      rw [this, htk]
      conv => lhs; rw [← List.take_append_drop i ys, rowc_app]
      exact List.take_left' (by rw [rowc_len, List.length_take]; omega)
    have hAl : (rowc (ys.take i)).length = i * 3 := by rw [rowc_len, List.length_take]; omega
    refine ⟨by rw [e, List.length_append, hAl, hdl]; omega, .inr ⟨g, c, R3, rfl, hgB, hg3, by omega, hcm, ?_, ?_⟩⟩
    · rw [hR3, List.size_toArray]
      simp only [List.length_append, List.length_take, List.length_drop, Array.length_toList, hRs2]
      rw [hZS]
      simp
      omega
    · rw [hR3, List.append_assoc]
      rw [List.take_left' (by rw [List.length_take, Array.length_toList, hRs2]; omega)]
      rw [hR2, e, hA]
      exact List.take_left' (by rw [List.length_append, hAl, hdl]; omega)
  have hgrow : w.grownBy W3 (some g) := by
    rw [hW3, hW2]
    exact ⟨rfl, rfl, rfl, by simp [World.setRow], fun k _ hk => (setRow_other _ g k _ (fun e => hk (by rw [e]))).trans (setRow_other _ g k _ (fun e => hk (by rw [e])))⟩
  have HOwn := hide hown
  have HGr := hide hgrow
  clear hown hgrow hR3 hW3 hg3 hg2 hRs2 stz hZS
  have HNews := hide hNEWS
  have HR2 := hide hR2
  have HW2 := hide hW2
  have HDl := hide hdl
  have HCs := hide hcs
  have HG := hide hg
  have hin : i + (n - (i + 1)) = n - 1 := by omega
  clear hNEWS hR2 hW2 hdl hcs hg htk hcell
  have c1 : (0 : Int) ≤ (i : Int) := by omega
  have c2 : (i : Int) + 1 < (n : Int) := by omega
  have c3 : ¬ (i : Int) = (i : Int) + 1 := by omega
  have c4 : (i : Int) ≤ (n : Int) := by omega
  have c5 : (0 : Int) ≤ (i : Int) + 1 := by omega
  have c6 : ((i : Int) + 1).toNat = i + 1 := by omega
  go_enter Try.func86, Try.ntmps86
  go_wp2_with (at_builtin; fail)
  have c7 : ¬ n ≤ i + 1 := by omega
  have e7 : ¬ c ≤ i + 1 := by omega
  have e8 : ¬ (i + 1 = c) := by omega
  have e9 : ¬ (c = i + 1) := by omega
  have e10 : (n : Int) ≤ (c : Int) := by omega
  have e11 : i + (n - (i + 1)) ≤ c := by omega
  have e12 : (i : Int) ≤ (c : Int) := by omega
  have c8 : ¬ (i + 1 = n) := by omega
  have c9 : ¬ (n = i + 1) := by omega
  have c10 : (i : Int) + 1 ≤ (n : Int) := by omega
  have c11 : ¬ (n : Int) < (i : Int) + 1 := by omega
  have c12 : ¬ (i : Int) < 0 := by omega
  have c13 : ¬ (i : Int) + 1 < 0 := by omega
  have c14 : ¬ (n : Int) < (i : Int) := by omega
  go_region_with (fail)
  have d1 : ((n - 1 : Nat) : Int) ≤ (n : Int) := by omega
  have e1 : ((n - 1 : Nat) : Int) ≤ (c : Int) := by omega
  have e3 : ¬ (c ≤ n - 1) := by omega
  have e4 : ¬ (n - 1 = c) := by omega
  have e5 : ¬ (c = n - 1) := by omega
  have d2 : n - (n - 1) = 1 := by omega
  have d3 : ¬ (n ≤ n - 1) := by omega
  have d4 : ¬ (n - 1 = n) := by omega
  have d5 : (0 : Int) ≤ ((n - 1 : Nat) : Int) := by omega
  go_wp2
  go_ret
  exact ⟨rfl, HOwn.out, HGr.out⟩
end Go.Proofs.Ytgohhlngnnmknaa
/- slices.Delete of the last entry. -/
namespace Go.Proofs.Ytgohhlngnnmknaa
open Go.RowKit
set_option linter.unusedVariables false

set_option maxHeartbeats 1600000 in
set_option maxRecDepth 1000000 in
theorem delete_last (g i c B : Nat) (ys : List En) (w : World) (hn : i + 1 ≤ 1000000) (hc : i + 1 ≤ c) (hl : ys.length = i + 1) (h : w.ownsRow B 85 3 (.slice (some ⟨g, 0, none⟩) (i + 1) c) (i + 1) (rowc ys)) :
    Calls Try.prog 86 #[.slice (some ⟨g, 0, none⟩) (i + 1) c, .int .i64 (i : Int), .int .i64 ((i : Int) + 1)] w fun e w' => e = .returned (.slice (some ⟨g, 0, none⟩) i c) ∧ w'.ownsRow B 85 3 (.slice (some ⟨g, 0, none⟩) i c) i (rowc (ys.eraseIdx i)) ∧ w.grownBy w' (some g) := by
  obtain ⟨i0, hi0, hz0, hzs, hzb⟩ := info_parts Try.infoE
  obtain ⟨cur, hgB, hg, hcm, hcs, htk⟩ : ∃ cur : Array Value, B ≤ g ∧ w.heap[g]? = some (.cells cur 85 (0, 0)) ∧ c ≤ maxLen ∧ cur.size = c * 3 ∧ cur.toList.take ((i + 1) * 3) = rowc ys := by
    rcases h.2 with ⟨e, _⟩ | ⟨g', cap, cur, e, hb, hg, hnc, hcm, hcs, htk⟩
    · cases e
    · simp only [Value.slice.injEq, Option.some.injEq, Addr.mk.injEq, and_true, true_and] at e
      obtain ⟨rfl, rfl⟩ := e
      exact ⟨cur, hb, hg, hcm, hcs, htk⟩
  obtain ⟨ZS, hZS⟩ : ∃ ZS : List Value, ZS = [.slice none 0 0, .slice none 0 0, .bool false] := ⟨_, rfl⟩
  obtain ⟨R3, hR3⟩ : ∃ R3 : Array Value, R3 = (cur.toList.take (i * 3) ++ ZS ++ cur.toList.drop (i * 3 + ZS.length)).toArray := ⟨_, rfl⟩
  have hstz : ∀ W : World, W.heap[g]? = some (.cells cur 85 (0, 0)) → (storeCells ⟨g, i * 3, none⟩ ZS).run Try.prog W = .ok () (W.setRow g R3) := fun W hgW => by
    have stz := run_storeCells_at Try.prog g (i * 3) 85 ZS 0 cur W hgW (by rw [hcs, hZS]; simp; omega) (by rw [hZS]; intro v hv; simp at hv; rcases hv with rfl | rfl <;> rfl)
    simp only [Nat.add_zero] at stz
    rw [← hR3] at stz
    exact stz
  have hv : ∀ w, (zeroValue 85).run Try.prog w = .ok (.agg #[.slice none 0 0, .slice none 0 0, .bool false]) w := fun w => by simp [zeroValue, typeInfo, hi0, hz0]
  have hzc : (Builtin.zeroCells (Value.agg #[.slice none 0 0, .slice none 0 0, .bool false]).cells 1).toList = ZS := by rw [hZS]; simp [Builtin.zeroCells, Value.cells, List.range, List.range.loop]
  obtain ⟨W2, hW2⟩ : ∃ W2, W2 = w.drew := ⟨_, rfl⟩
  obtain ⟨W3, hW3⟩ : ∃ W3, W3 = w.drew.setRow g R3 := ⟨_, rfl⟩
  have hg3 : W3.heap[g]? = some (.cells R3 85 (0, 0)) := by rw [hW3]; exact setRow_heap w.drew g _ _ _ _ hg
  have clq : (Builtin.clear_ #[30] 0 #[.slice (some ⟨g, i * 3, none⟩) 1 (c - i)]).run Try.prog w.drew = .ok (.tuple #[]) W3 := by
    rw [hW3]
    simp [Builtin.clear_, run_underlying Try.underlying30, hv, hzc, hstz w.drew hg]
  have hown : W3.ownsRow B 85 3 (.slice (some ⟨g, 0, none⟩) i c) i (rowc (ys.eraseIdx i)) := by
    have e : rowc (ys.eraseIdx i) = rowc (ys.take i) := by rw [List.eraseIdx_eq_take_drop_succ, List.drop_eq_nil_of_le (by omega), List.append_nil]
    have hA : cur.toList.take (i * 3) = rowc (ys.take i) := by
      have : cur.toList.take (i * 3) = (cur.toList.take ((i + 1) * 3)).take (i * 3) := by rw [List.take_take, Nat.min_eq_left (by omega)]
      rw [this, htk]
      conv => lhs; rw [← List.take_append_drop i ys, rowc_app]
      exact List.take_left' (by rw [rowc_len, List.length_take]; omega)
    have hAl : (rowc (ys.take i)).length = i * 3 := by rw [rowc_len, List.length_take]; omega
    refine ⟨by rw [e, hAl], .inr ⟨g, c, R3, rfl, hgB, hg3, by omega, hcm, ?_, ?_⟩⟩
    · rw [hR3, List.size_toArray]
      simp only [List.length_append, List.length_take, List.length_drop, Array.length_toList, hcs]
      rw [hZS]
      simp
      omega
    · rw [hR3, e, hA, List.append_assoc]
      exact List.take_left' hAl
  have hgrow : w.grownBy W3 (some g) := by
    rw [hW3]
    exact ⟨rfl, rfl, rfl, by simp [World.setRow], fun k _ hk => setRow_other _ g k _ (fun e => hk (by rw [e]))⟩
  have HOwn := hide hown
  have HGr := hide hgrow
  clear hown hgrow hR3 hW3 hg3 hZS hstz hv hzc hW2 htk hcs hg
  have c1 : (0 : Int) ≤ (i : Int) := by omega
  have c3 : ¬ (i : Int) = (i : Int) + 1 := by omega
  have c4 : (i : Int) ≤ (i : Int) + 1 := by omega
  have c5 : (0 : Int) ≤ (i : Int) + 1 := by omega
  have c6 : ((i : Int) + 1).toNat = i + 1 := by omega
  have c7 : i + 1 - i = 1 := by omega
  have e7 : ¬ (c ≤ i) := by omega
  have e8 : ¬ (i = c) := by omega
  have e9 : ¬ (c = i) := by omega
  have e10 : (i : Int) + 1 ≤ (c : Int) := by omega
  have e12 : (i : Int) ≤ (c : Int) := by omega
  have c8 : ¬ (i + 1 ≤ i) := by omega
  by_cases hce : c = i + 1
  · subst hce
    rw [c7] at clq
    go_enter Try.func86, Try.ntmps86
    go_wp2_with (at_builtin; fail)
    go_region_with (fail)
    go_wp2
    go_ret
    exact ⟨rfl, HOwn.out, HGr.out⟩
  · have f1 : ¬ (i + 1 = c) := fun e => hce e.symm
    have f2 : ¬ (c ≤ i + 1) := by omega
    have f3 : (i : Int) + 1 ≤ (c : Int) := by omega
    have f4 : i + 1 - (i + 1) = 0 := by omega
    go_enter Try.func86, Try.ntmps86
    go_wp2_with (at_builtin; fail)
    go_region_with (fail)
    go_wp2
    go_ret
    exact ⟨rfl, HOwn.out, HGr.out⟩
theorem delete_any (v : Value) (n i B : Nat) (ys : List En) (w : World) (hi : i < n) (hn : n ≤ 1000000) (hl : ys.length = n) (h : w.ownsRow B 85 3 v n (rowc ys)) :
    Calls Try.prog 86 #[v, .int .i64 (i : Int), .int .i64 ((i : Int) + 1)] w fun e w' => ∃ v', e = .returned v' ∧ w'.ownsRow B 85 3 v' (n - 1) (rowc (ys.eraseIdx i)) ∧ w.grownBy w' v.ownBlock ∧ v'.ownBlock = v.ownBlock := by
  obtain ⟨a, c, rfl, h1, h2, h3, h4⟩ := row_shape h
  rcases h4 with rfl | ⟨g, rfl⟩
  · have := (h3 rfl).1; omega
  by_cases hlt : i + 1 < n
  · refine (delete_mid g n i c B ys w hlt hn h1 hl h).mono ?_
    rintro e w' ⟨rfl, ho, hg⟩
    exact ⟨_, rfl, ho, hg, rfl⟩
  · obtain rfl : n = i + 1 := by omega
    refine (delete_last g i c B ys w hn h1 hl h).mono ?_
    rintro e w' ⟨rfl, ho, hg⟩
    exact ⟨_, rfl, ho, hg, rfl⟩
end Go.Proofs.Ytgohhlngnnmknaa
