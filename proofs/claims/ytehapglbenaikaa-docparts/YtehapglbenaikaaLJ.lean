/- The reader of documents: all of it. -/
import Derived.Test.YtehapglbenaikaaLI
import Derived.ScopeJumps
import Derived.WalkMore
namespace Go.Proofs.Ytehapglbenaikaa
open Go.RowKit
set_option linter.unusedVariables false

theorem Box7.set7 {W : World} {b : Nat} {c0 c1 c2 c3 c4 c5 c6 : Value} (h : Box7 W b c0 c1 c2 c3 c4 c5 c6) (d0 d1 d2 d3 d4 d5 d6 : Value) :
    Box7 (((((((W.setCell ⟨b, 0, none⟩ d0).setCell ⟨b, 1, none⟩ d1).setCell ⟨b, 2, none⟩ d2).setCell ⟨b, 3, none⟩ d3).setCell ⟨b, 4, none⟩ d4).setCell ⟨b, 5, none⟩ d5).setCell ⟨b, 6, none⟩ d6) b d0 d1 d2 d3 d4 d5 d6 := by
  have h0 : Box7 (W.setCell ⟨b, 0, none⟩ d0) b d0 c1 c2 c3 c4 c5 c6 := by unfold Box7; rw [heap_setCell_same W b 0 _ 27 _ h]; rfl
  have h1 : Box7 ((W.setCell ⟨b, 0, none⟩ d0).setCell ⟨b, 1, none⟩ d1) b d0 d1 c2 c3 c4 c5 c6 := by unfold Box7; rw [heap_setCell_same _ b 1 _ 27 _ h0]; rfl
  have h2 : Box7 (((W.setCell ⟨b, 0, none⟩ d0).setCell ⟨b, 1, none⟩ d1).setCell ⟨b, 2, none⟩ d2) b d0 d1 d2 c3 c4 c5 c6 := by unfold Box7; rw [heap_setCell_same _ b 2 _ 27 _ h1]; rfl
  have h3 : Box7 ((((W.setCell ⟨b, 0, none⟩ d0).setCell ⟨b, 1, none⟩ d1).setCell ⟨b, 2, none⟩ d2).setCell ⟨b, 3, none⟩ d3) b d0 d1 d2 d3 c4 c5 c6 := by unfold Box7; rw [heap_setCell_same _ b 3 _ 27 _ h2]; rfl
  have h4 : Box7 (((((W.setCell ⟨b, 0, none⟩ d0).setCell ⟨b, 1, none⟩ d1).setCell ⟨b, 2, none⟩ d2).setCell ⟨b, 3, none⟩ d3).setCell ⟨b, 4, none⟩ d4) b d0 d1 d2 d3 d4 c5 c6 := by unfold Box7; rw [heap_setCell_same _ b 4 _ 27 _ h3]; rfl
  have h5 : Box7 ((((((W.setCell ⟨b, 0, none⟩ d0).setCell ⟨b, 1, none⟩ d1).setCell ⟨b, 2, none⟩ d2).setCell ⟨b, 3, none⟩ d3).setCell ⟨b, 4, none⟩ d4).setCell ⟨b, 5, none⟩ d5) b d0 d1 d2 d3 d4 d5 c6 := by unfold Box7; rw [heap_setCell_same _ b 5 _ 27 _ h4]; rfl
  unfold Box7; rw [heap_setCell_same _ b 6 _ 27 _ h5]; rfl
theorem grown_set7 (W : World) (b : Nat) (d0 d1 d2 d3 d4 d5 d6 : Value) :
    W.grownBy (((((((W.setCell ⟨b, 0, none⟩ d0).setCell ⟨b, 1, none⟩ d1).setCell ⟨b, 2, none⟩ d2).setCell ⟨b, 3, none⟩ d3).setCell ⟨b, 4, none⟩ d4).setCell ⟨b, 5, none⟩ d5).setCell ⟨b, 6, none⟩ d6) (some b) :=
  grown_trans (grown_setCell _ _ _ _) (grown_trans (grown_setCell _ _ _ _) (grown_trans (grown_setCell _ _ _ _) (grown_trans (grown_setCell _ _ _ _) (grown_trans (grown_setCell _ _ _ _) (grown_trans (grown_setCell _ _ _ _) (grown_setCell _ _ _ _))))))
theorem jump_ret {l : Nat} {J : Act → World → Prop} {Q : Exit → Act → World → Prop} {a : Act} {w : World} : Exit.jump l J Q .ret a w = Q .ret a w := rfl
theorem jump_goto {l : Nat} {J : Act → World → Prop} {Q : Exit → Act → World → Prop} {a : Act} {w : World} : Exit.jump l J Q (.goto l) a w = (l = l ∧ J a w) := rfl
theorem cell_lt {W : World} {b o : Nat} {u : Value} (h : W.cell? ⟨b, o, none⟩ = some u) : b < W.heap.size := by
  rcases Nat.lt_or_ge b W.heap.size with h1 | h1
  · exact h1
  · simp [World.cell?, Array.getElem?_eq_none h1] at h
theorem At.lt {W : World} {x : Nat × Nat} {v : T} (h : At W x v) : x.1 < W.heap.size := by
  cases v
  exact cell_lt (h 0 _ rfl)
theorem At.cells {W : World} {x : Nat × Nat} {k : Int} {bo : Bool} {n : Int} {t : ByteArray} {ya : Option Addr} {yc : Nat} {y : List Int} {la : Option Addr} {lc : Nat} {l : TL} {fa : Option Addr} {fc : Nat} {f : FL} (h : At W x (.mk k bo n t ya yc y la lc l fa fc f)) :
    W.cell? ⟨x.1, x.2, none⟩ = some (.int .u8 k) ∧ W.cell? ⟨x.1, x.2 + 1, none⟩ = some (.bool bo) ∧ W.cell? ⟨x.1, x.2 + 2, none⟩ = some (.int .i64 n) ∧ W.cell? ⟨x.1, x.2 + 3, none⟩ = some (.string t) ∧ W.cell? ⟨x.1, x.2 + 4, none⟩ = some (.slice ya y.length yc) ∧ W.cell? ⟨x.1, x.2 + 5, none⟩ = some (.slice la l.list.length lc) ∧ W.cell? ⟨x.1, x.2 + 6, none⟩ = some (.slice fa f.list.length fc) :=
  ⟨h 0 _ rfl, h 1 _ rfl, h 2 _ rfl, h 3 _ rfl, h 4 _ rfl, h 5 _ rfl, h 6 _ rfl⟩
theorem At.put {W : World} {x : Nat × Nat} {v v' : T} (h : At W x v) (j : Nat) (hj : j < 7) (u : Value) (hv : v'.cells = v.cells.set j u) : At (W.setCell ⟨x.1, x.2 + j, none⟩ u) x v' := by
  intro i z hz
  rw [hv] at hz
  by_cases hij : i = j
  · subst hij
    rw [List.getElem?_set_self (by rw [show v.cells.length = 7 by cases v; rfl]; exact hj)] at hz
    cases hz
    exact World.cell?_setCell_same _ _ _ (h i _ (List.getElem?_eq_getElem (by rw [show v.cells.length = 7 by cases v; rfl]; exact hj)))
  · rw [List.getElem?_set_ne (fun e => hij e.symm)] at hz
    rw [World.cell?_setCell_other _ _ _ _ (fun e => hij (by have := congrArg Addr.off e; simp only [] at this; omega))]
    exact h i z hz
theorem tk_up (bs : List Int) (i e s : Nat) (h : i ≤ bs.length) : i ≤ (tk bs i e s).1 := by
  by_cases he : e = 0
  · subst he
    by_cases hs : i + s ≤ bs.length
    · rw [tk_ok bs i s hs]; simp
    · rw [tk_short bs i 0 s (by omega) (by omega)]; simp
  · rw [tk_err bs i e _ he]; simp
theorem rt_up (bs : List Int) (i : Nat) (h : i ≤ bs.length) : i ≤ (rt bs i 0).2.1 := by
  by_cases hs : bs.length - i - (nm bs i 0).2.1 < (nm bs i 0).1
  · rw [rt_short bs i 0 hs]; simp
  · rw [rt_ok bs i 0 hs]
    have h1 := tk_up bs i (nm bs i 0).2.2 (nm bs i 0).2.1 h
    have h2 := tk_place bs i (nm bs i 0).2.2 (nm bs i 0).2.1 h
    have h3 := tk_up bs (tk bs i (nm bs i 0).2.2 (nm bs i 0).2.1).1 (tk bs i (nm bs i 0).2.2 (nm bs i 0).2.1).2.1 (nm bs i 0).1 h2
    exact Nat.le_trans h1 h3
theorem St.fresh {rb n₁ : Nat} {w0 : World} {q p : Nat} {a : Option Addr} {bs : List Int} {W : World} {st : List Sl} {sa : Option Addr} {sc N i e : Nat} (h : St rb n₁ w0 q p a bs W st sa sc N i e) (k : Nat) (hk : W.heap.size ≤ k) : ¬ Prv rb q p a sa k := by
  rintro (h1 | h1 | ⟨x, h1, h2⟩ | ⟨x, h1, h2⟩ | h1)
  · have := h.dr.lt; omega
  · have := h.rd.lt; omega
  · have := h.rd.inn x h1; omega
  · rcases h.own.2 with ⟨h3, _⟩ | ⟨g, cap, cur, h3, h4, h5, _⟩
    · have : sa = none := by injection h3
      rw [this] at h1; cases h1
    · have : sa = some ⟨g, 0, none⟩ := by injection h3
      rw [this] at h1; cases h1
      have := lt_of_block h5
      simp only [] at h2
      omega
  · have := lt_of_block h.rbx; omega
theorem Try.under9 : Try.prog.underlying 9 = some .string := by kernel_rfl
theorem Try.under23 : Try.prog.underlying 23 = some (.slice 5) := by kernel_rfl
theorem Try.under5 : Try.prog.underlying 5 = some (.int .u8) := by kernel_rfl
/-- a text's bytes, in a new block. -/
theorem conv_bytes (z : List Int) (hz : Byts z) : ∃ (cp : World → Nat) (al : World → World), (∀ W : World, (convert 9 23 (.string (bk z))).run Try.prog W = .ok (.slice (some ⟨W.heap.size, 0, none⟩) z.length (cp W)) (al W)) ∧ ∀ W : World, Below W.heap.size W (al W) ∧ (al W).heap.size = W.heap.size + 1 ∧ ∀ k, k < z.length → (al W).cell? ⟨W.heap.size, k, none⟩ = some (.int .u8 (z.getD k 0)) := by
  refine ⟨fun W => grownCap W (bk z).size 0 5, fun W => W.drew.alloc (.cells (bytesRow (bk z) (grownCap W (bk z).size 0 5)) 5 ((bytesRow (bk z) (grownCap W (bk z).size 0 5)).size, (bytesRow (bk z) (grownCap W (bk z).size 0 5)).size + 1)), fun W => ?_, fun W => ⟨?_, by simp, fun k hk => ?_⟩⟩
  · rw [run_bytes_of_string W 9 23 5 (bk z) Try.under9 Try.under23 Try.under5, bk_size]
  · exact (below_drewN (Below.refl _ _) 1).trans (below_alloc W.drew _)
  · have h1 : (W.drew.alloc (.cells (bytesRow (bk z) (grownCap W (bk z).size 0 5)) 5 ((bytesRow (bk z) (grownCap W (bk z).size 0 5)).size, (bytesRow (bk z) (grownCap W (bk z).size 0 5)).size + 1))).heap[W.heap.size]? = some (.cells (bytesRow (bk z) (grownCap W (bk z).size 0 5)) 5 ((bytesRow (bk z) (grownCap W (bk z).size 0 5)).size, (bytesRow (bk z) (grownCap W (bk z).size 0 5)).size + 1)) := heap_alloc_new W.drew _
    simp only [World.cell?]
    rw [h1]
    have hb := hz (z.getD k 0) (by rw [List.getD_eq_getElem?_getD, List.getElem?_eq_getElem hk]; simp)
    have hk2 : k < (bk z).data.size := by have := bk_size z; simp only [ByteArray.size] at this; omega
    simp only [bytesRow]
    rw [Array.getElem?_append_left (by simpa using hk2)]
    simp [bk, hk]
    simp [List.getD_eq_getElem?_getD, List.getElem?_eq_getElem hk] at hb
    omega
theorem rt_byts (bs : List Int) (i : Nat) (hb : Byts bs) : Byts (rt bs i 0).1 := by
  by_cases hs : bs.length - i - (nm bs i 0).2.1 < (nm bs i 0).1
  · rw [rt_short bs i 0 hs]; exact fun c hc => by simp at hc
  · rw [rt_ok bs i 0 hs]; exact tk_byts _ _ _ _ hb
theorem T.val_cells (v : T) : v.val = .agg v.cells.toArray := by cases v; rfl
theorem cells_len (v : T) : v.cells.length = 7 := by cases v; rfl
/-- nothing waits any more: the value is there, whatever becomes of the rest. -/
theorem last_val {rb n₁ q p : Nat} {a sa : Option Addr} {bs : List Int} {pt i N : Nat} {W W' : World} (h : Wand n₁ (Prv rb q p a sa) W [] (pt, 0) (bs.take i)) (hi : bs.length ≤ i) (hs : W.heap.size ≤ W'.heap.size) (ha : Agr n₁ (Prv rb q p a sa) (fun _ _ => False) W W') : ∃ v : T, At W' (pt, 0) v ∧ v.Mem W'.heap.size W' ∧ v.Ok ∧ v.denc = bs := by
  obtain ⟨v, h1, h2, h3, h4⟩ := h W' [] rfl hs (fun k j h1 h2 h3 => ⟨fun _ => (ha k j h1 h2 h3).1 (fun h => h), (ha k j h1 h2 h3).2⟩) (fun j s x h => by simp at h)
  refine ⟨v, h1, h2, h3, ?_⟩
  rw [h4, List.take_of_length_le hi]
  simp [renc]
theorem same_cells {W W' : World} {x : Nat × Nat} {v v' : T} (h : At W x v) (h' : At W' x v') (hc : ∀ j, W'.cell? ⟨x.1, x.2 + j, none⟩ = W.cell? ⟨x.1, x.2 + j, none⟩) : v'.val = v.val := by
  rw [T.val_cells, T.val_cells]
  congr 2
  apply List.ext_getElem
  · rw [cells_len, cells_len]
  · intro j h1 h2
    have e1 := h j _ (List.getElem?_eq_getElem h2)
    have e2 := h' j _ (List.getElem?_eq_getElem h1)
    rw [hc, e1] at e2
    exact (Option.some.inj e2).symm
theorem same_ck {bs : List Int} {v v' : T} (h : v.Ok) (h' : v'.Ok) (hd : v.denc = bs) (hd' : v'.denc = bs) (hl : bs.length ≤ 8192) (hc : ckE v = 0) : ckE v' = 0 := by
  have hw := T.wt_denc v h
  have hz := T.sz_wt v
  have hw' := T.wt_denc v' h'
  have hz' := T.sz_wt v'
  rw [hd] at hw
  rw [hd'] at hw'
  have := (T.denc_inj v v' [] [] h.1 h'.1 h.2 h'.2 (by omega) (by omega) (by rw [hd, hd'])).1
  rw [← ckE_er, ← this, ckE_er]
  exact hc
theorem end_no {bs : List Int} {i N : Nat} (h : Gh bs [] i N) (hi : i < bs.length) : NoV bs := by
  intro v0 h1 h2 h3
  obtain ⟨ts, g1, g2, g3, g4⟩ := h v0 h1 h2 h3
  have := congrArg List.length g3
  simp only [renc, List.length_drop, List.length_nil] at this
  omega
/-- what holds where the reader gives up. -/
def JmpF (rb : Nat) (a' : Act) : Prop := a'.defers = [] ∧ a'.tmps.size = 154 ∧ a'.tmps[4]? = some (.pointer (some ⟨rb, 0, none⟩))
def JmpW (rb n₁ : Nat) (bs : List Int) (w w' : World) : Prop := Below n₁ w w' ∧ NoC bs ∧ w'.heap[rb]? = some (.cells #[.int .u8 0, .bool false, .int .i64 0, .string ⟨#[]⟩, .slice none 0 0, .slice none 0 0, .slice none 0 0] 27 (0, 0))
/-- the state between two values, whatever stands still to be read. -/
def Inv (rb n₁ : Nat) (w : World) (q p : Nat) (a : Option Addr) (bs : List Int) (pt : Nat) (W : World) : Prop := ∃ st sa sc N i e, St rb n₁ w q p a bs W st sa sc N i e ∧ Mode rb n₁ q p a bs pt W st sa N i e
end Go.Proofs.Ytehapglbenaikaa
