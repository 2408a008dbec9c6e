/- Contract of Check, of any value. -/
import Derived.Test.YtegoeaofjnpehaaVC
namespace Go.Proofs.Ytegoeaofjnpehaa
open Go.RowKit Go.Shelf
attribute [local go_sem] Oper.semAt_some
set_option linter.unusedVariables false

theorem flat_mem {n₀ : Nat} {W : World} : ∀ (N : Nat) (v : T), v.sz ≤ N → v.Mem n₀ W → ∀ (d : Int), ∀ x ∈ v.flat d, x.2.Mem n₀ W := by
  intro N
  induction N with
  | zero => intro v hv; cases v; simp only [T.sz] at hv; omega
  | succ N ih =>
    intro v hv hm d x hx
    rw [T.flat_is, List.mem_cons, List.mem_flatMap] at hx
    rcases hx with rfl | ⟨c, hc, hx⟩
    · exact hm
    · exact ih c (by have := T.kid_sz v c hc; omega) (hm.kid hc) (d + 1) x hx
theorem T.seven (v : T) : ∃ k bo n t ya yc y la lc ls fa fc fs, v = .mk k bo n t ya yc y la lc ls fa fc fs := by cases v; exact ⟨_, _, _, _, _, _, _, _, _, _, _, _, _, rfl⟩
set_option maxHeartbeats 1600000 in
set_option maxRecDepth 1000000 in
theorem parts_goesM (b n₀ : Nat) (v : T) (w : World) (hb : BoxT w b v) (hs : v.sz ≤ 999999) :
    GoesM Try.prog 44 #[.pointer (some ⟨b, 0, none⟩)] (fun x : Int × T => #[.int .i64 x.1, x.2.val]) (v.flat 1) (fun V => ∀ x ∈ v.flat 1, x.2.Mem n₀ V) w := by
  intro l J Jx W hW hJ hJx hM hY h0
  have hbW : BoxT W b v := (hW.block b (lt_of_block hb)).trans hb
  have HC := hide (walk_gen W.heap.size n₀ l (v.flat 1) J Jx hJ hJx hM hY v.sz v (Nat.le_refl _) 1 [] [] W (by simp) h0 (by omega) (by omega))
  obtain ⟨k, bo, n, t, ya, yc, y, la, lc, ls, fa, fc, fs, rfl⟩ := v.seven
  obtain ⟨k0, k1, k2, k3, k4, k5, k6⟩ := hbW.seven.cells
  simp only [T.val] at HC
  clear hY hJ hJx hM hb hbW h0 hW
  show Calls Try.prog 44 #[.func (.yield l) #[] #[], .pointer (some ⟨b, 0, none⟩)] W _
  go_enter Try.func44, Try.ntmps44
  go_wp2_with fail
  refine HC.out.mono ?_
  rintro e W1 (⟨rfl, h, -⟩ | ⟨rfl, h, -⟩)
  · go_wp2
    go_end0
    exact ⟨⟨_, rfl⟩, .inl (by simpa using h)⟩
  · go_wp2
    go_end0
    exact ⟨⟨_, rfl⟩, .inr h⟩

/-- the first that is not 0. -/
def firstE (fe : T → Nat) : List (Int × T) → Nat
  | [] => 0
  | x :: xs => if fe x.2 = 0 then firstE fe xs else fe x.2
theorem firstE_snoc (fe : T → Nat) (pre : List (Int × T)) (x : Int × T) (rest : List (Int × T)) (h : ∀ z ∈ pre, fe z.2 = 0) : firstE fe (pre ++ x :: rest) = if fe x.2 = 0 then firstE fe rest else fe x.2 := by
  induction pre with
  | nil => rfl
  | cons z pre ih =>
    simp only [List.cons_append, firstE]
    rw [if_pos (h z (by simp)), ih (fun w hw => h w (by simp [hw]))]
theorem firstE_all (fe : T → Nat) (l : List (Int × T)) (h : ∀ z ∈ l, fe z.2 = 0) : firstE fe l = 0 := by
  induction l with
  | nil => rfl
  | cons z l ih => simp only [firstE]; rw [if_pos (h z (by simp)), ih (fun w hw => h w (by simp [hw]))]
/-- what Check answers. -/
def chk (fe : T → Nat) (v : T) : Nat := if (v.flat 1).any (fun x => decide (8 < x.1)) then 31 else if 512 < (v.flat 1).length then 32 else firstE fe (v.flat 1)

/-- Check's own memory: the value, the answer, the count. -/
structure Cg (b : Nat) (w V : World) (v : T) (r : Nat) (cnt : Int) : Prop where
  fr : Fr b w V
  box : BoxT V b v
  res : V.heap[b + 1]? = some (.cells #[.int .u16 (r : Int)] 27 (0, 0))
  cn : V.heap[b + 1 + 1]? = some (.cells #[.int .i64 cnt] 3 (0, 0))
theorem Cg.on {b B : Nat} {w V V' : World} {v : T} {r : Nat} {cnt : Int} (h : Cg b w V v r cnt) (hb : Below B V V') (hB : b + 1 + 1 < B) : Cg b w V' v r cnt :=
  ⟨⟨h.fr.below.trans (hb.mono (by omega)), Nat.le_trans h.fr.size hb.size⟩, (hb.block _ (by omega)).trans h.box, (hb.block _ (by omega)).trans h.res, (hb.block _ (by omega)).trans h.cn⟩
theorem Cg.sz {b : Nat} {w V : World} {v : T} {r : Nat} {cnt : Int} (h : Cg b w V v r cnt) : b + 1 + 1 < V.heap.size := lt_of_block h.cn
theorem Cg.start (w : World) (v : T) : Cg w.heap.size w (((w.alloc (.cells v.cells.toArray 41)).alloc (.cells #[.int .u16 0] 27)).alloc (.cells #[.int .i64 0] 3)) v 0 0 := by
  refine ⟨(((Fr.refl w).alloc _).alloc _).alloc _, (Below.heap_alloc _ _ _ (by simp; omega)).trans ((Below.heap_alloc _ _ _ (by simp)).trans (heap_alloc_new w _)), ?_, ?_⟩
  · have := heap_alloc_new (w.alloc (.cells v.cells.toArray 41)) (.cells #[.int .u16 0] 27)
    rw [World.size_alloc] at this
    exact (Below.heap_alloc _ _ _ (by simp)).trans this
  · have := heap_alloc_new ((w.alloc (.cells v.cells.toArray 41)).alloc (.cells #[.int .u16 0] 27)) (.cells #[.int .i64 0] 3)
    rw [World.size_alloc, World.size_alloc] at this
    exact this
theorem Cg.count {b : Nat} {w V : World} {v : T} {r : Nat} {cnt : Int} (h : Cg b w V v r cnt) (n : Int) : Cg b w (V.setCell ⟨b + 1 + 1, 0, none⟩ (.int .i64 n)) v r n :=
  ⟨h.fr.set (by omega) _, (Below.heap_setCell _ _ _ _ (fun e => by have e' : b = b + 1 + 1 := e; omega)).trans h.box, (Below.heap_setCell _ _ _ _ (fun e => by have e' : b + 1 = b + 1 + 1 := e; omega)).trans h.res, one_setCell h.cn⟩
theorem Cg.answer {b : Nat} {w V : World} {v : T} {r : Nat} {cnt : Int} (h : Cg b w V v r cnt) (n : Nat) : Cg b w (V.setCell ⟨b + 1, 0, none⟩ (.int .u16 (n : Int))) v n cnt :=
  ⟨h.fr.set (by omega) _, (Below.heap_setCell _ _ _ _ (fun e => by have e' : b = b + 1 := e; omega)).trans h.box, one_setCell h.res, (Below.heap_setCell _ _ _ _ (fun e => by have e' : b + 1 + 1 = b + 1 := e; omega)).trans h.cn⟩
end Go.Proofs.Ytegoeaofjnpehaa
