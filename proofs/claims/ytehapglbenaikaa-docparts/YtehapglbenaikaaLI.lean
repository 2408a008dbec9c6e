/- The reader of documents: its first state and its last. -/
import Derived.Test.YtehapglbenaikaaLH
namespace Go.Proofs.Ytehapglbenaikaa
open Go.RowKit
set_option linter.unusedVariables false

def stands (W : World) (p : Nat) : Nat := match W.cell? ⟨p, 1, none⟩ with
  | some (.int _ i) => i.toNat
  | _ => 0
theorem stands_is {W : World} {p : Nat} {a : Option Addr} {bs : List Int} {i e : Nat} (h : Rd W p a bs i e) : stands W p = i := by
  unfold stands
  rw [h.c1]
  simp
def zcells : Array Value := #[.int .u8 0, .bool false, .int .i64 0, .string ⟨#[]⟩, .slice none 0 0, .slice none 0 0, .slice none 0 0]
theorem at_zero {W : World} {k : Nat} (h : W.heap[k]? = some (.cells #[.int .u8 0, .bool false, .int .i64 0, .string ⟨#[]⟩, .slice none 0 0, .slice none 0 0, .slice none 0 0] 27 (0, 0))) : At W (k, 0) zeroT := by
  intro j u hu
  simp only [World.cell?, Nat.zero_add]
  rw [h]
  simp only [zeroT, T.cells, TL.list, FL.list, List.length_nil] at hu
  simpa using hu
/-- two boxes, then the reader's bytes, a slot, and the reader itself. -/
theorem first_st {n₁ q p : Nat} {w W2 : World} {a' : Option Addr} {bs : List Int} (hn : n₁ ≤ q) (hq : w.heap[q]? = some (.cells #[.pointer none, .slice none 0 0, .int .u64 0] 51 (0, 0)))
    (hb : Below ((w.alloc (.cells #[.int .u8 0, .bool false, .int .i64 0, .string ⟨#[]⟩, .slice none 0 0, .slice none 0 0, .slice none 0 0] 27)).alloc (.cells #[.int .u8 0, .bool false, .int .i64 0, .string ⟨#[]⟩, .slice none 0 0, .slice none 0 0, .slice none 0 0] 27)).heap.size ((w.alloc (.cells #[.int .u8 0, .bool false, .int .i64 0, .string ⟨#[]⟩, .slice none 0 0, .slice none 0 0, .slice none 0 0] 27)).alloc (.cells #[.int .u8 0, .bool false, .int .i64 0, .string ⟨#[]⟩, .slice none 0 0, .slice none 0 0, .slice none 0 0] 27)) W2)
    (hr : Rd W2 p a' bs 0 0) (hp : w.heap.size + 2 ≤ p) (ha : ∀ x, a' = some x → w.heap.size + 2 ≤ x.block) :
    St w.heap.size n₁ w q p a' bs ((((W2.alloc (.cells #[.pointer none, .pointer (some ⟨w.heap.size + 1, 0, none⟩)] 70)).setCell ⟨q, 0, none⟩ (.pointer (some ⟨p, 0, none⟩))).setCell ⟨q, 1, none⟩ (.slice (some ⟨W2.heap.size, 0, none⟩) 1 1)).setCell ⟨q, 2, none⟩ (.int .u64 1)) [(none, (w.heap.size + 1, 0))] (some ⟨W2.heap.size, 0, none⟩) 1 1 0 0 := by
  have hql := lt_of_block hq
  have hpl := hr.lt
  have hs0 : ((w.alloc (.cells #[.int .u8 0, .bool false, .int .i64 0, .string ⟨#[]⟩, .slice none 0 0, .slice none 0 0, .slice none 0 0] 27)).alloc (.cells #[.int .u8 0, .bool false, .int .i64 0, .string ⟨#[]⟩, .slice none 0 0, .slice none 0 0, .slice none 0 0] 27)).heap.size = w.heap.size + 2 := by simp
  have hfr : Below w.heap.size w ((w.alloc (.cells #[.int .u8 0, .bool false, .int .i64 0, .string ⟨#[]⟩, .slice none 0 0, .slice none 0 0, .slice none 0 0] 27)).alloc (.cells #[.int .u8 0, .bool false, .int .i64 0, .string ⟨#[]⟩, .slice none 0 0, .slice none 0 0, .slice none 0 0] 27)) := (below_alloc w _).trans ((below_alloc _ _).mono (by simp))
  have h0 : ((w.alloc (.cells #[.int .u8 0, .bool false, .int .i64 0, .string ⟨#[]⟩, .slice none 0 0, .slice none 0 0, .slice none 0 0] 27)).alloc (.cells #[.int .u8 0, .bool false, .int .i64 0, .string ⟨#[]⟩, .slice none 0 0, .slice none 0 0, .slice none 0 0] 27)).heap[w.heap.size]? = some (.cells #[.int .u8 0, .bool false, .int .i64 0, .string ⟨#[]⟩, .slice none 0 0, .slice none 0 0, .slice none 0 0] 27 (0, 0)) := (Below.heap_alloc _ _ _ (by simp)).trans (heap_alloc_new w _)
  have h1 : ((w.alloc (.cells #[.int .u8 0, .bool false, .int .i64 0, .string ⟨#[]⟩, .slice none 0 0, .slice none 0 0, .slice none 0 0] 27)).alloc (.cells #[.int .u8 0, .bool false, .int .i64 0, .string ⟨#[]⟩, .slice none 0 0, .slice none 0 0, .slice none 0 0] 27)).heap[w.heap.size + 1]? = some (.cells #[.int .u8 0, .bool false, .int .i64 0, .string ⟨#[]⟩, .slice none 0 0, .slice none 0 0, .slice none 0 0] 27 (0, 0)) := by
    have := heap_alloc_new (w.alloc (.cells #[.int .u8 0, .bool false, .int .i64 0, .string ⟨#[]⟩, .slice none 0 0, .slice none 0 0, .slice none 0 0] 27)) (.cells #[.int .u8 0, .bool false, .int .i64 0, .string ⟨#[]⟩, .slice none 0 0, .slice none 0 0, .slice none 0 0] 27)
    simpa using this
  rw [hs0] at hb
  generalize (w.alloc (.cells #[.int .u8 0, .bool false, .int .i64 0, .string ⟨#[]⟩, .slice none 0 0, .slice none 0 0, .slice none 0 0] 27)).alloc (.cells #[.int .u8 0, .bool false, .int .i64 0, .string ⟨#[]⟩, .slice none 0 0, .slice none 0 0, .slice none 0 0] 27) = W1 at *
  have hW2 := hb.size
  rw [hs0] at hW2
  have hq2 : (W2.alloc (.cells #[.pointer none, .pointer (some ⟨w.heap.size + 1, 0, none⟩)] 70)).heap[q]? = some (.cells #[.pointer none, .slice none 0 0, .int .u64 0] 51 (0, 0)) := by
    rw [Below.heap_alloc _ _ _ (by omega), hb.block q (by omega), hfr.block q hql]; exact hq
  have e1 := heap_setCell_same (W2.alloc (.cells #[.pointer none, .pointer (some ⟨w.heap.size + 1, 0, none⟩)] 70)) q 0 _ 51 (.pointer (some ⟨p, 0, none⟩)) hq2
  have e2 := heap_setCell_same _ q 1 _ 51 (.slice (some ⟨W2.heap.size, 0, none⟩) 1 1) e1
  have e3 := heap_setCell_same _ q 2 _ 51 (.int .u64 1) e2
  have hoth : ∀ k, k ≠ q → ((((W2.alloc (.cells #[.pointer none, .pointer (some ⟨w.heap.size + 1, 0, none⟩)] 70)).setCell ⟨q, 0, none⟩ (.pointer (some ⟨p, 0, none⟩))).setCell ⟨q, 1, none⟩ (.slice (some ⟨W2.heap.size, 0, none⟩) 1 1)).setCell ⟨q, 2, none⟩ (.int .u64 1)).heap[k]? = (W2.alloc (.cells #[.pointer none, .pointer (some ⟨w.heap.size + 1, 0, none⟩)] 70)).heap[k]? := fun k hk => by
    rw [Below.heap_setCell _ _ _ _ (by simpa using hk), Below.heap_setCell _ _ _ _ (by simpa using hk), Below.heap_setCell _ _ _ _ (by simpa using hk)]
  have hsz : ((((W2.alloc (.cells #[.pointer none, .pointer (some ⟨w.heap.size + 1, 0, none⟩)] 70)).setCell ⟨q, 0, none⟩ (.pointer (some ⟨p, 0, none⟩))).setCell ⟨q, 1, none⟩ (.slice (some ⟨W2.heap.size, 0, none⟩) 1 1)).setCell ⟨q, 2, none⟩ (.int .u64 1)).heap.size = W2.heap.size + 1 := by simp
  have hos : ((((W2.alloc (.cells #[.pointer none, .pointer (some ⟨w.heap.size + 1, 0, none⟩)] 70)).setCell ⟨q, 0, none⟩ (.pointer (some ⟨p, 0, none⟩))).setCell ⟨q, 1, none⟩ (.slice (some ⟨W2.heap.size, 0, none⟩) 1 1)).setCell ⟨q, 2, none⟩ (.int .u64 1)).os = W2.os ∧ ((((W2.alloc (.cells #[.pointer none, .pointer (some ⟨w.heap.size + 1, 0, none⟩)] 70)).setCell ⟨q, 0, none⟩ (.pointer (some ⟨p, 0, none⟩))).setCell ⟨q, 1, none⟩ (.slice (some ⟨W2.heap.size, 0, none⟩) 1 1)).setCell ⟨q, 2, none⟩ (.int .u64 1)).tape = W2.tape ∧ ((((W2.alloc (.cells #[.pointer none, .pointer (some ⟨w.heap.size + 1, 0, none⟩)] 70)).setCell ⟨q, 0, none⟩ (.pointer (some ⟨p, 0, none⟩))).setCell ⟨q, 1, none⟩ (.slice (some ⟨W2.heap.size, 0, none⟩) 1 1)).setCell ⟨q, 2, none⟩ (.int .u64 1)).output = W2.output := ⟨rfl, rfl, rfl⟩
  have hold : ∀ k, k ≠ q → k < W2.heap.size → (W2.alloc (.cells #[.pointer none, .pointer (some ⟨w.heap.size + 1, 0, none⟩)] 70)).heap[k]? = W2.heap[k]? := fun k _ hk => Below.heap_alloc _ _ _ hk
  have hnew : (W2.alloc (.cells #[.pointer none, .pointer (some ⟨w.heap.size + 1, 0, none⟩)] 70)).heap[W2.heap.size]? = some (.cells #[.pointer none, .pointer (some ⟨w.heap.size + 1, 0, none⟩)] 70 (0, 0)) := heap_alloc_new _ _
  generalize (((W2.alloc (.cells #[.pointer none, .pointer (some ⟨w.heap.size + 1, 0, none⟩)] 70)).setCell ⟨q, 0, none⟩ (.pointer (some ⟨p, 0, none⟩))).setCell ⟨q, 1, none⟩ (.slice (some ⟨W2.heap.size, 0, none⟩) 1 1)).setCell ⟨q, 2, none⟩ (.int .u64 1) = Wf at *
  have hK : ∀ k, k ≠ q → k < W2.heap.size → Wf.heap[k]? = W2.heap[k]? := fun k h1 h2 => (hoth k h1).trans (hold k h1 h2)
  have htop : Wf.heap[w.heap.size + 1]? = some (.cells #[.int .u8 0, .bool false, .int .i64 0, .string ⟨#[]⟩, .slice none 0 0, .slice none 0 0, .slice none 0 0] 27 (0, 0)) := by
    rw [hK _ (by omega) (by omega), hb.block _ (by omega)]; exact h1
  refine ⟨⟨hos.1.trans (hb.os.trans hfr.os), hos.2.1.trans (hb.tape.trans hfr.tape), hos.2.2.trans (hb.output.trans hfr.output), by omega, fun k hk => ?_⟩, ?_, ?_, ?_, by omega, fun x hx => ?_, fun x hx => ?_, ⟨hn, by omega, fun x hx => ?_⟩, fun s hs => ?_, by simp, by simp, ?_, by omega, by omega, fun x hx => ?_⟩
  · rw [hK k (by omega) (by omega), hb.block k (by omega), hfr.block k (by omega)]
  · simpa [Dr] using e3
  · refine ⟨(hK p (by omega) hpl).trans hr.blk, ?_, hr.apart, hr.bare, hr.byts, hr.le, hr.small, hr.err, fun x hx => by have := hr.inn x hx; omega⟩
    rcases hr.row with g1 | ⟨g, off, rfl, g2, g3⟩
    · exact .inl g1
    · refine .inr ⟨g, off, rfl, by omega, fun u hu => ?_⟩
      have := ha _ rfl
      simp only [] at this
      have h4 := g3 u hu
      simp only [World.cell?] at h4 ⊢
      rw [hK g (by omega) g2]; exact h4
  · refine ⟨by simp [scells, sc1], .inr ⟨W2.heap.size, 1, _, rfl, by omega, (hoth _ (by omega)).trans hnew, by simp, by simp [maxLen], by simp, ?_⟩⟩
    simp [scells, sc1, ad]
  · have := ha x hx; omega
  · cases hx
    refine ⟨?_, ?_, fun y hy => ?_⟩
    · simp only []; omega
    · simp only []; omega
    · have := hr.inn y hy; simp only []; omega
  · have := ha x hx; omega
  · simp only [List.mem_singleton] at hs
    subst hs
    refine ⟨fun k i hk => ?_, at_zero htop, fun y hy => by simp at hy, fun y hy => by simp at hy⟩
    rcases hk with hk | ⟨hk, _⟩
    · simp at hk
    · simp only [] at hk
      subst hk
      refine ⟨by omega, by omega, ?_, by simp [World.frozen?, htop]⟩
      rintro (h | h | ⟨x, hx, h⟩ | ⟨x, hx, h⟩ | h)
      · omega
      · omega
      · have := ha x hx; omega
      · cases hx; simp only [] at h; omega
      · omega
  · rw [hK _ (by omega) (by omega), hb.block _ (by omega)]; exact h0
  · cases hx; simp only []; omega
theorem first_mode (rb n₁ q p : Nat) (a sa : Option Addr) (bs : List Int) (pt : Nat) (W : World) : Mode rb n₁ q p a bs pt W [(none, (pt, 0))] sa 1 0 0 := by
  refine .inl ⟨rfl, ?_, ?_⟩
  · intro W' xs hl hs ha hF
    match xs, hl with
    | [x], _ =>
      obtain ⟨_, h2, h3, h4, _⟩ := hF 0 _ x rfl rfl
      exact ⟨x.2, h2, h3, h4, by simp [renc, senc]⟩
  · intro v0 h1 h2 h3
    exact ⟨[(⟨#[]⟩, v0)], rfl, by intro x hx; simp at hx; subst hx; exact ⟨h1, show (0 : Nat) ≤ 10000000 by omega⟩, by simp [renc, senc, h3], by have := T.sz_pos v0; simp [more]; omega⟩
mutual
theorem T.wt_denc : ∀ v : T, v.Ok → v.wt ≤ v.denc.length
  | .mk k bo n t ya yc y la lc l fa fc f, ⟨⟨⟨a1, a2⟩, a3, a4, a5, a6, a7⟩, ⟨⟨c1, c2, c3, c4, c5, c6⟩, c7, c8⟩⟩ => by
    have h1 := TL.wt_denc l ⟨a6, c7⟩
    have h2 := FL.wt_denc f ⟨a7, c8⟩
    have hk : k = 1 ∨ k = 2 ∨ k = 3 ∨ k = 4 ∨ k = 5 ∨ k = 6 ∨ k = 7 := by omega
    rcases hk with rfl | rfl | rfl | rfl | rfl | rfl | rfl
    · rw [c3 (by decide), c4 (by decide), TL.nil_of l (c5 (by decide)), FL.nil_of f (c6 (by decide))]; simp [T.denc, T.wt, TL.wt, FL.wt, ByteArray.size]
    · rw [c3 (by decide), c4 (by decide), TL.nil_of l (c5 (by decide)), FL.nil_of f (c6 (by decide))]; simp [T.denc, T.wt, TL.wt, FL.wt, ByteArray.size]
    · rw [c3 (by decide), c4 (by decide), TL.nil_of l (c5 (by decide)), FL.nil_of f (c6 (by decide))]; simp [T.denc, T.wt, TL.wt, FL.wt, ByteArray.size]
    · rw [c4 (by decide), TL.nil_of l (c5 (by decide)), FL.nil_of f (c6 (by decide))]; simp [T.denc, T.wt, TL.wt, FL.wt, sb_len]; omega
    · rw [c3 (by decide), TL.nil_of l (c5 (by decide)), FL.nil_of f (c6 (by decide))]; simp [T.denc, T.wt, TL.wt, FL.wt, ByteArray.size]; omega
    · rw [c3 (by decide), c4 (by decide), FL.nil_of f (c6 (by decide))]; simp [T.denc, T.wt, FL.wt, ByteArray.size]; omega
    · rw [c3 (by decide), c4 (by decide), TL.nil_of l (c5 (by decide))]; simp [T.denc, T.wt, TL.wt, ByteArray.size]; omega
theorem TL.wt_denc : ∀ l : TL, l.Wd ∧ l.cl → l.wt ≤ l.denc.length
  | .nil, _ => by simp [TL.wt]
  | .cons v r, ⟨⟨a1, a2⟩, ⟨c1, c2⟩⟩ => by
    have h1 := T.wt_denc v ⟨a1, c1⟩
    have h2 := TL.wt_denc r ⟨a2, c2⟩
    simp only [TL.wt, TL.denc, List.length_append]
    omega
theorem FL.wt_denc : ∀ l : FL, l.Wd ∧ l.cl → l.wt ≤ l.denc.length
  | .nil, _ => by simp [FL.wt]
  | .cons s v r, ⟨⟨a0, a1, a2⟩, ⟨c1, c2⟩⟩ => by
    have h1 := T.wt_denc v ⟨a1, c1⟩
    have h2 := FL.wt_denc r ⟨a2, c2⟩
    simp only [FL.wt, FL.denc, List.length_append, sb_len]
    omega
end
mutual
theorem T.szd_of : ∀ v : T, v.Wd → v.Szd
  | .mk k bo n t ya yc y la lc l fa fc f, ⟨⟨a1, a2⟩, a3, a4, a5, a6, a7⟩ => ⟨by omega, a3, by omega, TL.szd_of l a6, FL.szd_of f a7⟩
theorem TL.szd_of : ∀ l : TL, l.Wd → l.Szd
  | .nil, _ => trivial
  | .cons v r, ⟨a1, a2⟩ => ⟨T.szd_of v a1, TL.szd_of r a2⟩
theorem FL.szd_of : ∀ l : FL, l.Wd → l.Szd
  | .nil, _ => trivial
  | .cons s v r, ⟨a0, a1, a2⟩ => ⟨by omega, T.szd_of v a1, FL.szd_of r a2⟩
end
/-- no value that Check takes has these bytes, if they are few enough. -/
def NoC (bs : List Int) : Prop := ∀ v0 : T, v0.Wd → ckE v0 = 0 → v0.denc = bs → bs.length ≤ 8192 → False
theorem NoV.noc {bs : List Int} (h : NoV bs) : NoC bs := fun v0 h1 h2 h3 _ => h v0 h1 (ck_sz v0 h2) h3
theorem ck_no {bs : List Int} {v : T} (h : v.Ok) (hd : v.denc = bs) (hc : ckE v ≠ 0) (hl : bs.length ≤ 8192) : NoC bs := by
  intro v0 h1 h2 h3 _
  have hw := T.wt_denc v h
  have hz := T.sz_wt v
  have hz0 := ck_sz v0 h2
  rw [hd] at hw
  have := (T.denc_inj v v0 [] [] h.1 h1 h.2 (ck_cl v0 h2) (by omega) (by omega) (by rw [hd, h3])).1
  rw [← ckE_er, this, ckE_er] at hc
  exact hc h2
/-- what whole answers. -/
def WhOut (n₁ : Nat) (bs : List Int) (w : World) (e : Ending) (w' : World) : Prop :=
  Below n₁ w w' ∧ ((∃ V : Value, e = .returned (.tuple #[V, .int .u16 0]) ∧ bs.length ≤ 8192 ∧ ∀ W : World, w'.heap.size ≤ W.heap.size → (∀ k, n₁ ≤ k → k < w'.heap.size → W.heap[k]? = w'.heap[k]?) → ∃ v : T, v.val = V ∧ v.Mem W.heap.size W ∧ v.Ok ∧ v.denc = bs ∧ ckE v = 0) ∨ (e = .returned (.tuple #[zeroT.val, .int .u16 50]) ∧ NoC bs))
end Go.Proofs.Ytehapglbenaikaa
