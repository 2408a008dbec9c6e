/- Memory: bytes that lie in a row, a writer behind a pointer, what an append from any source makes of a row of the call's own, and what stays as it was. -/
import Derived.WalkKit
import Derived.ProofKit
import Derived.Below
import Derived.OneCell
import Derived.Deep.AppendSrc
import Derived.Laws.AppendOwn
import Derived.Deep.RegionHeld3
import Derived.WalkLawsBesides
import Derived.Test.YtgohhlngnnmknaaChecked
import Derived.KernelRfl
import Derived.Handy
import Derived.LoopTactic
import Derived.Deep.RegionLaw
import Derived.Deep.QuietTactic
import Derived.BigQuiet
import Derived.WalkSmall
import Derived.Laws.CopyOwn
import Derived.Deep.OwnRows
import Derived.Laws.IdiomStrings
import Derived.Laws.Strings
namespace Go.Proofs.Ytgohhlngnnmknaa
open Go.RowKit
set_option linter.unusedVariables false

theorem hide {p : Prop} (h : p) : Hid p := h
/-- a slice's first cells hold the bytes zs. -/
def Row (w : World) (a : Option Addr) (zs : List Int) : Prop :=
  zs = [] ∨ ∃ b off, a = some ⟨b, off, none⟩ ∧ b < w.heap.size ∧ ∀ i, i < zs.length → w.cell? ⟨b, off + i, none⟩ = some (.int .u8 (zs.getD i 0))
def Byts (zs : List Int) : Prop := ∀ c ∈ zs, 0 ≤ c ∧ c ≤ 255

theorem Row.below {w w' : World} {a : Option Addr} {zs : List Int} (h : Row w a zs) (hb : Below w.heap.size w w') : Row w' a zs := by
  rcases h with h | ⟨b, off, rfl, hlt, hc⟩
  · exact .inl h
  · exact .inr ⟨b, off, rfl, Nat.lt_of_lt_of_le hlt hb.size, fun i hi => (hb.cell (p := ⟨b, off + i, none⟩) hlt).trans (hc i hi)⟩
theorem Byts.at {zs : List Int} (h : Byts zs) (k : Nat) : 0 ≤ zs.getD k 0 ∧ zs.getD k 0 ≤ 255 := by
  by_cases hk : k < zs.length
  · rw [List.getD_eq_getElem?_getD, List.getElem?_eq_getElem hk]; exact h _ (List.getElem_mem hk)
  · rw [List.getD_eq_getElem?_getD, List.getElem?_eq_none (by omega)]; simp
theorem Byts.take {zs : List Int} (h : Byts zs) (k : Nat) : Byts (zs.take k) := fun c hc => h c (List.mem_of_mem_take hc)
theorem Byts.drop {zs : List Int} (h : Byts zs) (k : Nat) : Byts (zs.drop k) := fun c hc => h c (List.mem_of_mem_drop hc)
theorem Byts.append {zs ys : List Int} (h : Byts zs) (h' : Byts ys) : Byts (zs ++ ys) := fun c hc => (List.mem_append.1 hc).elim (h c) (h' c)
theorem take_snoc (zs : List Int) (k : Nat) (h : k < zs.length) : zs.take (k + 1) = zs.take k ++ [zs.getD k 0] := by
  rw [List.take_succ_eq_append_getElem h, List.getD_eq_getElem?_getD, List.getElem?_eq_getElem h]; rfl

/-- the bytes zs lie in a row of the call's own. -/
def Own (w : World) (v : Value) (zs : List Int) : Prop := w.ownsRow 0 5 1 v zs.length (zs.map (Value.int .u8))
theorem Own.nil (w : World) : Own w (.slice none 0 0) [] := World.ownsRow_nil w 0 5 1
theorem Own.shape {w : World} {v : Value} {zs : List Int} (h : Own w v zs) : ∃ a c, v = .slice a zs.length c ∧ zs.length ≤ c ∧ c ≤ maxLen ∧ (a = none → zs.length = 0 ∧ c = 0) ∧ Row w a zs ∧ ∀ k, (∃ ad, a = some ad ∧ ad.block = k) ↔ v.ownBlock = some k := by
  rcases h.2 with ⟨rfl, h0⟩ | ⟨g, cap, cur, rfl, _, hg, hn, hm, _⟩
  · refine ⟨none, 0, by rw [h0], by omega, by omega, fun _ => ⟨h0, rfl⟩, .inl (List.eq_nil_of_length_eq_zero h0), fun k => by simp [Value.ownBlock]⟩
  · refine ⟨_, cap, rfl, hn, hm, fun e => by (cases e), .inr ⟨g, 0, rfl, lt_of_block hg, fun i hi => ?_⟩, fun k => by simp [Value.ownBlock]⟩
    have := h.cells (g := g) rfl i (.int .u8 (zs.getD i 0)) (by simp [hi])
    rwa [Addr.add_lit] at this
theorem Own.shape2 {w : World} {v : Value} {zs : List Int} (h : Own w v zs) : ∃ a n c, v = .slice a n c ∧ Hid (n = zs.length) := by
  obtain ⟨a, c, rfl, _⟩ := h.shape
  exact ⟨a, _, c, rfl, hide rfl⟩
theorem Own.lt {w : World} {v : Value} {zs : List Int} (h : Own w v zs) {k : Nat} (hk : v.ownBlock = some k) : k < w.heap.size := (World.ownsRow.lt h k hk).2
theorem Own.of_block {w w' : World} {v : Value} {zs : List Int} (h : Own w v zs) (hb : ∀ k, v.ownBlock = some k → w'.heap[k]? = w.heap[k]?) : Own w' v zs := by
  obtain ⟨h1, h2⟩ := h
  refine ⟨h1, ?_⟩
  rcases h2 with h2 | ⟨g, cap, cur, rfl, hg, hh, r⟩
  · exact .inl h2
  · exact .inr ⟨g, cap, cur, rfl, hg, by rw [hb g rfl]; exact hh, r⟩

theorem run_append_src {P : Program} (w : World) (t tx ty : TypeId) (i : TypeInfo) (ht : P.underlying t = some (.slice 5)) (hi : P.info? 5 = some i) (hz : i.zero = some (.int .u8 0)) (h1 : i.size = 1) (hby : i.bytes = 1)
    (v : Value) (zs : List Int) (hown : Own w v zs) (x : Value) (n : Nat) (news : List Int) (hs : Src P 1 tx x n (news.map (Value.int .u8)) w) (hb : zs.length + n ≤ 140737488355328) :
    ∃ v' w', (Builtin.append_ #[t, tx] ty #[v, x]).run P w = .ok v' w' ∧ Own w' v' (zs ++ news) ∧ w.grownBy w' v.ownBlock ∧ ∀ k, v'.ownBlock = some k → v.ownBlock = some k ∨ w.heap.size ≤ k := by
  have hnl : news.length = n := by simpa using hs.newsLen
  have hlen : (zs ++ news).length = zs.length + n := by simp [hnl]
  have hs' : Src P i.size tx x n (news.map (Value.int .u8)) w := by rw [h1]; exact hs
  have hgrow : ∀ (old : Nat) (row : Option Nat), old < zs.length + n →
      Own (w.drew.alloc (.cells (((zs.map (Value.int .u8)) ++ (news.map (Value.int .u8))).toArray ++ Builtin.zeroCells (Value.int .u8 0).cells (grownCap w (zs.length + n) old 5 - (zs.length + n))) 5)) (.slice (some ⟨w.heap.size, 0, none⟩) (zs.length + n) (grownCap w (zs.length + n) old 5)) (zs ++ news) ∧
      w.grownBy (w.drew.alloc (.cells (((zs.map (Value.int .u8)) ++ (news.map (Value.int .u8))).toArray ++ Builtin.zeroCells (Value.int .u8 0).cells (grownCap w (zs.length + n) old 5 - (zs.length + n))) 5)) row := by
    intro old row ho
    have hge := grownCap_ge w (zs.length + n) old 5
    have hcm : grownCap w (zs.length + n) old 5 ≤ maxLen := grownCap_le_maxLen w _ old 5 (by unfold maxLen; omega)
    refine ⟨⟨by simp, .inr ⟨w.heap.size, _, _, by rw [hlen], Nat.zero_le _, heap_alloc_new w.drew _, by rw [hlen]; exact hge, hcm, ?_, ?_⟩⟩, ⟨rfl, rfl, rfl, by simp, fun k hk _ => Below.heap_alloc w.drew _ k hk⟩⟩
    · simp only [Array.size_append, List.size_toArray, size_zeroCells, List.length_append, List.length_map, hnl]
      simp [Value.cells]; omega
    · have e : (zs ++ news).length * 1 = ((zs.map (Value.int .u8)) ++ (news.map (Value.int .u8))).length := by simp
      rw [Array.toList_append, e, List.map_append]
      exact List.take_left
  rcases hown.2 with ⟨rfl, h0⟩ | ⟨g, cap, cur, rfl, hbg, hg, hnc, hcm, hcs, htake⟩
  · have hx : zs = [] := List.eq_nil_of_length_eq_zero h0
    subst hx
    by_cases hm : n = 0
    · subst hm
      have hn : news = [] := List.eq_nil_of_length_eq_zero hnl
      subst hn
      refine ⟨.slice none 0 0, w, ?_, Own.nil w, ⟨rfl, rfl, rfl, Nat.le_refl _, fun _ _ _ => rfl⟩, fun k hk => .inl hk⟩
      have hsl := hs'.len
      have hsc := hs'.cells
      rcases hs.kind with ⟨e', hk⟩ | hk <;> simp [Builtin.append_, run_underlying ht, run_underlying hk, sizeOf, typeInfo, hi, hsl, hsc]
    · have hr := run_append_grow_src (P := P) w t tx ty 5 i (.int .u8 0) ht hi hz none 0 0 [] (by simp [Builtin.firstCells]) x n _ hs' (by omega) (by omega) (growslice_fits (by omega) (by rw [hby]; simp only [List.length_nil] at hb; omega))
      have hgr := hgrow 0 (Value.ownBlock (.slice none 0 0)) (by simp; omega)
      simp only [List.length_nil, Nat.zero_add, List.map_nil, List.nil_append] at hgr hr ⊢
      exact ⟨_, _, hr, hgr.1, hgr.2, fun k hk => .inr (by simp [Value.ownBlock] at hk; omega)⟩
  · by_cases hroom : zs.length + n ≤ cap
    · have hfit : zs.length * 1 + (news.map (Value.int .u8)).length ≤ cur.size := by rw [List.length_map, hnl, hcs]; omega
      have hst := run_storeCells_at P g (zs.length * 1) 5 (news.map (Value.int .u8)) 0 cur w hg (by simpa using hfit) hs.one
      simp only [Nat.add_zero] at hst
      have hsl := hs.len
      have hsc := hs.cells
      refine ⟨.slice (some ⟨g, 0, none⟩) (zs.length + n) cap, w.setRow g (cur.toList.take (zs.length * 1) ++ news.map (Value.int .u8) ++ cur.toList.drop (zs.length * 1 + (news.map (Value.int .u8)).length)).toArray, ?_, ⟨by simp, .inr ⟨g, cap, _, by rw [hlen], hbg, setRow_heap w g cur _ 5 _ hg, by rw [hlen]; exact hroom, hcm, ?_, ?_⟩⟩, ⟨rfl, rfl, rfl, by simp, fun k _ hk => setRow_other w g k _ (fun e => hk (by simp [Value.ownBlock, e]))⟩, fun k hk => .inl (by simpa [Value.ownBlock] using hk)⟩
      · rcases hs.kind with ⟨e', hk⟩ | hk <;> simp [Builtin.append_, run_underlying ht, run_underlying hk, sizeOf, typeInfo, hi, h1, hsl, hroom, hsc, Addr.add_lit] <;> simp at hst <;> simp [hst]
      · simp only [List.size_toArray, List.length_append, List.length_take, List.length_drop, Array.length_toList, List.length_map] at hfit ⊢
        omega
      · have e : (zs ++ news).length * 1 = ((zs.map (Value.int .u8)) ++ (news.map (Value.int .u8))).length := by simp
        rw [htake, e, List.map_append]
        exact List.take_left
    · have holds : ∀ j u, (zs.map (Value.int .u8))[j]? = some u → w.drew.cell? ((⟨g, 0, none⟩ : Addr).add j) = some u := hown.cells (g := g) rfl
      have hr := run_append_grow_src (P := P) w t tx ty 5 i (.int .u8 0) ht hi hz (some ⟨g, 0, none⟩) zs.length cap (zs.map (Value.int .u8)) (run_firstCells_some w.drew i.size zs.length ⟨g, 0, none⟩ zs.length cap _ (by rw [h1]; simp) holds) x n _ hs' (by omega) (by omega) (growslice_fits (by omega) (by rw [hby]; omega))
      have hgr := hgrow cap (Value.ownBlock (.slice (some ⟨g, 0, none⟩) zs.length cap)) (by omega)
      exact ⟨_, _, hr, hgr.1, hgr.2, fun k hk => .inr (by simp [Value.ownBlock] at hk; omega)⟩

theorem wp_append_src {P : Program} {w : World} {o : Oper} {a : Act} {K : Act → World → Prop} {Q : Exit → Act → World → Prop} (s x : Operand) (t tx : TypeId) (ho : o.op = .call { callee := .builtin .append, args := #[s, x], argTypes := #[t, tx] })
    (i : TypeInfo) (ht : P.underlying t = some (.slice 5)) (hi : P.info? 5 = some i) (hz : i.zero = some (.int .u8 0)) (h1 : i.size = 1) (hby : i.bytes = 1)
    (v : Value) (zs : List Int) (hs : a.eval s = v) (hown : Own w v zs) (xv : Value) (n : Nat) (news : List Int) (hx : a.eval x = xv) (hsrc : Src P 1 tx xv n (news.map (Value.int .u8)) w) (hb : zs.length + n ≤ 140737488355328)
    (h : ∀ v' w', Own w' v' (zs ++ news) → w.grownBy w' v.ownBlock → (∀ k, v'.ownBlock = some k → v.ownBlock = some k ∨ w.heap.size ≤ k) → K (a.put o.dst v') w') : o.wp P a w K Q := by
  obtain ⟨v', w', hr, h2, h3, h4⟩ := run_append_src (P := P) w t tx o.type i ht hi hz h1 hby v zs hown xv n news hsrc hb
  unfold Oper.wp execOp
  simp only [ho, resolve, invoke, builtin, Sem.run_bind, Sem.run_pure, Result.andThen_ok, List.map_toArray, List.map_cons, List.map_nil, hs, hx, hr]
  exact h v' w' h2 h3 h4
theorem wpList_append_src {P : Program} {w : World} {ops : Array Oper} {rest : List Oper} {o : Oper} {a : Act} {Q : Exit → Act → World → Prop} (hgd : o.guard = none) (s x : Operand) (t tx : TypeId) (ho : o.op = .call { callee := .builtin .append, args := #[s, x], argTypes := #[t, tx] })
    (i : TypeInfo) (ht : P.underlying t = some (.slice 5)) (hi : P.info? 5 = some i) (hz : i.zero = some (.int .u8 0)) (h1 : i.size = 1) (hby : i.bytes = 1)
    (v : Value) (zs : List Int) (hs : a.eval s = v) (hown : Own w v zs) (xv : Value) (n : Nat) (news : List Int) (hx : a.eval x = xv) (hsrc : Src P 1 tx xv n (news.map (Value.int .u8)) w) (hb : zs.length + n ≤ 140737488355328)
    (h : ∀ v' w', Own w' v' (zs ++ news) → w.grownBy w' v.ownBlock → (∀ k, v'.ownBlock = some k → v.ownBlock = some k ∨ w.heap.size ≤ k) → wpList P ops Q rest (a.put o.dst v') w') : wpList P ops Q (o :: rest) a w :=
  wpList_plain hgd fun _ hK => wp_append_src s x t tx ho i ht hi hz h1 hby v zs hs hown xv n news hx hsrc hb fun v' w' h2 h3 h4 => hK _ _ (h v' w' h2 h3 h4)
theorem step_append_src {P : Program} {ops : Array Oper} {w : World} {o : Oper} {a : Act} {K : Act → World → Prop} {Q : Exit → Act → World → Prop} {E : Prop} (hgd : o.guard = none) (s x : Operand) (t tx : TypeId) (ho : o.op = .call { callee := .builtin .append, args := #[s, x], argTypes := #[t, tx] })
    (i : TypeInfo) (ht : P.underlying t = some (.slice 5)) (hi : P.info? 5 = some i) (hz : i.zero = some (.int .u8 0)) (h1 : i.size = 1) (hby : i.bytes = 1)
    (v : Value) (zs : List Int) (hs : a.eval s = v) (hown : Own w v zs) (xv : Value) (n : Nat) (news : List Int) (hx : a.eval x = xv) (hsrc : Src P 1 tx xv n (news.map (Value.int .u8)) w) (hb : zs.length + n ≤ 140737488355328)
    (h : ∀ v' w', Own w' v' (zs ++ news) → w.grownBy w' v.ownBlock → (∀ k, v'.ownBlock = some k → v.ownBlock = some k ∨ w.heap.size ≤ k) → K (a.put o.dst v') w') :
    if Region.wanted o (yielded ops a.tmps) = true then Oper.wp P o a w K Q else E := by
  have hw : Region.wanted o (yielded ops a.tmps) = true := by simp [Region.wanted, hgd]
  rw [if_pos hw]
  exact wp_append_src s x t tx ho i ht hi hz h1 hby v zs hs hown xv n news hx hsrc hb h

theorem below_alloc (w : World) (o : Obj) : Below w.heap.size w (w.alloc o) := (Below.refl _ _).alloc (Nat.le_refl _) o
/-- nothing below B has turned since w0. -/
structure Fr (B : Nat) (w0 w : World) : Prop where
  below : Below B w0 w
  size : B ≤ w.heap.size
theorem Fr.refl (w : World) : Fr w.heap.size w w := ⟨Below.refl _ _, Nat.le_refl _⟩
theorem Fr.on {B : Nat} {w0 w w' : World} (h : Fr B w0 w) (hb : Below w.heap.size w w') : Fr B w0 w' := ⟨h.below.trans (hb.mono h.size), Nat.le_trans h.size hb.size⟩
theorem Fr.alloc {B : Nat} {w0 w : World} (h : Fr B w0 w) (o : Obj) : Fr B w0 (w.alloc o) := h.on (below_alloc w o)
theorem Fr.drew {B : Nat} {w0 w : World} (h : Fr B w0 w) : Fr B w0 w.drew := h.on (Below.refl _ _).drew
theorem Fr.set {B : Nat} {w0 w : World} (h : Fr B w0 w) {b i : Nat} (hb : B ≤ b) (v : Value) : Fr B w0 (w.setCell ⟨b, i, none⟩ v) :=
  ⟨h.below.setCell (p := ⟨b, i, none⟩) hb v, by simpa [World.setCell] using h.size⟩
theorem Fr.grown {B : Nat} {w0 w w' : World} {r : Option Nat} (h : Fr B w0 w) (hg : w.grownBy w' r) (hr : ∀ k, r = some k → B ≤ k) : Fr B w0 w' :=
  ⟨h.below.grown hg h.size hr, Nat.le_trans h.size hg.size⟩
end Go.Proofs.Ytgohhlngnnmknaa
/- Short words for a drawn region's steps. -/
namespace Go.Proofs.Ytgohhlngnnmknaa
open Go.RowKit

theorem zps {α : Type} : (∀ (l : List α) (i : Nat) (x : α), l.toArray.setIfInBounds i x = (l.set i x).toArray) ∧ (∀ (a b : α) (l : List α), (a :: l).set 0 b = b :: l) ∧ ∀ (a b : α) (l : List α) (n : Nat), (a :: l).set (n + 1) b = a :: l.set n b :=
  ⟨fun _ _ _ => by simp, fun _ _ _ => rfl, fun _ _ _ _ => rfl⟩
theorem wtk {P : Program} {ops : Array Oper} {Q : Exit → Act → World → Prop} {md : Region.Mode} {S : World → Prop} {i : Nat} {oi : Oper} {v : Value} {fuel : Nat} {listed : Array Bool} {a : Act} {w : World} (hi : ops[i]? = some oi)
    (hy : Region.wanted oi (yielded ops a.tmps) = true ∧ ∀ w, S w → (execOp a.eval oi).run P w = .ok (.value v) w) (hS : S w) (h : wpAnyH P md ops Q S fuel (listed.setIfInBounds i true) (a.put oi.dst v) w)
    (hs : Region.noSelect ops = true := by kernel_rfl) (hf : Region.free md ops listed i = true := by kernel_rfl) (hr : (Region.ready md ops listed).contains i = true := by kernel_rfl)
    (hQ : ∀ c a w, Q (.panic c) (a.put oi.dst v) w → Q (.panic c) a w := by exact fun _ _ _ h => h) : wpAnyH P md ops Q S (fuel + 1) listed a w :=
  wpAnyH_take hi hs hf hr hQ (Or.inl hy) hS h
end Go.Proofs.Ytgohhlngnnmknaa
/- Mathematics of a buffer: bytes as texts, the order of bytes, what is said. -/
namespace Go.Proofs.Ytgohhlngnnmknaa
open Go.RowKit
set_option linter.unusedVariables false
/-- bytes as a text. -/
def bk (ys : List Int) : ByteArray := ⟨(ys.map fun z => UInt8.ofNat z.toNat).toArray⟩
theorem bk_inj (xs ys : List Int) (hx : Byts xs) (hy : Byts ys) (h : bk xs = bk ys) : xs = ys := by
  have h1 : (xs.map fun z => UInt8.ofNat z.toNat) = ys.map fun z => UInt8.ofNat z.toNat := by
    have := congrArg (fun b : ByteArray => b.data.toList) h
    simpa [bk] using this
  have hback : ∀ l : List Int, Byts l → (l.map fun z => UInt8.ofNat z.toNat).map (fun b => (b.toNat : Int)) = l := by
    intro l hl
    rw [List.map_map]
    conv => rhs; rw [← List.map_id l]
    apply List.map_congr_left
    intro z hz
    have := hl z hz
    simp; omega
  rw [← hback xs hx, ← hback ys hy, h1]
/-- bytes compared. -/
def ordI : List Int → List Int → Int
  | [], [] => 0
  | [], _ :: _ => -1
  | _ :: _, [] => 1
  | x :: xs, y :: ys => if x < y then -1 else if y < x then 1 else ordI xs ys
theorem ordI_self (xs : List Int) : ordI xs xs = 0 := by
  induction xs with
  | nil => rfl
  | cons x xs ih => simp [ordI, ih]
theorem ordI_zero (xs ys : List Int) (h : ordI xs ys = 0) : xs = ys := by
  induction xs generalizing ys with
  | nil => cases ys with
    | nil => rfl
    | cons y ys => simp [ordI] at h
  | cons x xs ih => cases ys with
    | nil => simp [ordI] at h
    | cons y ys =>
      unfold ordI at h
      split at h
      · simp at h
      · split at h
        · simp at h
        · rw [ih ys h, show x = y by omega]
theorem ordI_nil (xs : List Int) : 0 ≤ ordI xs [] := by cases xs <;> simp [ordI]
theorem ordI_pre (pre xs ys : List Int) : ordI (pre ++ xs) (pre ++ ys) = ordI xs ys := by
  induction pre with
  | nil => rfl
  | cons p pre ih => simp [ordI, ih]
theorem ordI_begins (b z : List Int) : 0 ≤ ordI (b ++ z) b := by
  have := ordI_pre b z []
  rw [List.append_nil] at this
  rw [this]
  exact ordI_nil z
theorem bk_list (xs : List Int) : (bk xs).toList = xs.map fun z => UInt8.ofNat z.toNat := by
  rw [ByteArray.toList_eq]
  simp [bk]
theorem u8_lt (x y : Int) (hx : 0 ≤ x ∧ x ≤ 255) (hy : 0 ≤ y ∧ y ≤ 255) : (UInt8.ofNat x.toNat < UInt8.ofNat y.toNat) ↔ x < y := by
  rw [UInt8.lt_iff_toNat_lt]
  simp
  omega
theorem u8_eq (x y : Int) (hx : 0 ≤ x ∧ x ≤ 255) (hy : 0 ≤ y ∧ y ≤ 255) : (UInt8.ofNat x.toNat = UInt8.ofNat y.toNat) ↔ x = y := by
  constructor
  · intro h
    have := congrArg UInt8.toNat h
    simp at this
    omega
  · rintro rfl; rfl
theorem less_is (xs ys : List Int) (hx : Byts xs) (hy : Byts ys) : Op.bytesLess (xs.map fun z => UInt8.ofNat z.toNat) (ys.map fun z => UInt8.ofNat z.toNat) = decide (ordI xs ys < 0) := by
  induction xs generalizing ys with
  | nil => cases ys <;> simp [Op.bytesLess, ordI]
  | cons x xs ih => cases ys with
    | nil => simp [Op.bytesLess, ordI]
    | cons y ys =>
      have h1 := hx x (by simp)
      have h2 := hy y (by simp)
      have ih' := ih ys (fun c hc => hx c (by simp [hc])) (fun c hc => hy c (by simp [hc]))
      simp only [List.map_cons, Op.bytesLess, ih']
      rw [show ordI (x :: xs) (y :: ys) = if x < y then -1 else if y < x then 1 else ordI xs ys from rfl]
      have l1 := u8_lt x y h1 h2
      have l2 := u8_eq x y h1 h2
      by_cases hlt : x < y
      · simp [l1.2 hlt, hlt]
      · have hn : ¬ (UInt8.ofNat x.toNat < UInt8.ofNat y.toNat) := fun h => hlt (l1.1 h)
        by_cases he : x = y
        · subst he
          have hni : ¬ (UInt8.ofNat x.toNat < UInt8.ofNat x.toNat) := hn
          simp [hni]
        · have hne : ¬ (UInt8.ofNat x.toNat = UInt8.ofNat y.toNat) := fun h => he (l2.1 h)
          have hgt : y < x := by omega
          simp [hn, hne, hlt, hgt]
theorem eq_is (xs ys : List Int) (hx : Byts xs) (hy : Byts ys) : ((xs.map fun z => UInt8.ofNat z.toNat) == (ys.map fun z => UInt8.ofNat z.toNat)) = decide (xs = ys) := by
  rw [Bool.eq_iff_iff]
  simp only [beq_iff_eq, decide_eq_true_eq]
  constructor
  · intro h
    have : bk xs = bk ys := by unfold bk; rw [h]
    exact bk_inj xs ys hx hy this
  · rintro rfl; rfl
theorem ordI_cases (xs ys : List Int) : ordI xs ys = -1 ∨ ordI xs ys = 0 ∨ ordI xs ys = 1 := by
  induction xs generalizing ys with
  | nil => cases ys <;> simp [ordI]
  | cons x xs ih => cases ys with
    | nil => simp [ordI]
    | cons y ys =>
      unfold ordI
      split
      · simp
      · split
        · simp
        · exact ih ys
theorem text_less (xs ys : List Int) (hx : Byts xs) (hy : Byts ys) : Op.bytesLess (bk xs).toList (bk ys).toList = decide (ordI xs ys < 0) := by rw [bk_list, bk_list]; exact less_is xs ys hx hy
theorem text_eq (xs ys : List Int) (hx : Byts xs) (hy : Byts ys) : ((bk xs).toList == (bk ys).toList) = decide (xs = ys) := by rw [bk_list, bk_list]; exact eq_is xs ys hx hy
theorem ordI_anti (xs ys : List Int) : ordI ys xs = - ordI xs ys := by
  induction xs generalizing ys with
  | nil => cases ys <;> simp [ordI]
  | cons x xs ih => cases ys with
    | nil => simp [ordI]
    | cons y ys =>
      unfold ordI
      by_cases h : x < y
      · have : ¬ y < x := by omega
        simp [h, this]
      · by_cases h' : y < x
        · simp [h, h']
        · simp [h, h', ih ys]
theorem ordI_trans (xs ys zs : List Int) (h1 : ordI xs ys ≤ 0) (h2 : ordI ys zs ≤ 0) : ordI xs zs ≤ 0 := by
  induction xs generalizing ys zs with
  | nil => cases zs <;> simp [ordI]
  | cons x xs ih => cases ys with
    | nil => simp [ordI] at h1
    | cons y ys => cases zs with
      | nil => simp [ordI] at h2
      | cons z zs =>
        unfold ordI at h1 h2 ⊢
        by_cases a1 : x < y
        · by_cases a2 : y < z
          · have : x < z := by omega
            simp [this]
          · by_cases a3 : z < y
            · simp [a2, a3] at h2
            · have : x < z := by omega
              simp [this]
        · by_cases a2 : y < x
          · simp [a1, a2] at h1
          · by_cases b1 : y < z
            · have : x < z := by omega
              simp [this]
            · by_cases b2 : z < y
              · simp [b1, b2] at h2
              · have c1 : ¬ x < z := by omega
                have c2 : ¬ z < x := by omega
                simp [a1, a2, b1, b2, c1, c2] at h1 h2 ⊢
                exact ih ys zs h1 h2
theorem ordI_trans_lt (xs ys zs : List Int) (h1 : ordI xs ys < 0) (h2 : ordI ys zs ≤ 0) : ordI xs zs < 0 := by
  have h3 := ordI_trans xs ys zs (by omega) h2
  rcases Int.lt_or_eq_of_le h3 with h | h
  · exact h
  · have e := ordI_zero xs zs h
    subst e
    have := ordI_anti xs ys
    omega
theorem ordI_nilr (xs : List Int) : 0 < ordI xs [] ↔ xs ≠ [] := by cases xs <;> simp [ordI]

/-- what is said of a key. -/
structure Ee where
  key : List Int
  val : List Int
  del : Bool
deriving Inhabited
end Go.Proofs.Ytgohhlngnnmknaa
/- Entries in memory: where they lie, and what they hold. -/
namespace Go.Proofs.Ytgohhlngnnmknaa
open Go.RowKit
set_option linter.unusedVariables false

theorem Try.info5 : (Try.prog.info? 5).map (fun i => (i.zero, i.size, i.bytes)) = some (some (.int .u8 0), 1, 1) := by kernel_rfl
/-- bytes that lie anywhere. -/
structure Inn (w : World) (a : Option Addr) (n c : Nat) (zs : List Int) : Prop where
  len : zs.length = n
  cap : n ≤ c
  max : c ≤ 9223372036854775807
  bare : a = none → n = 0 ∧ c = 0
  row : Row w a zs
  byts : Byts zs
theorem Inn.below {w w' : World} {a : Option Addr} {n c : Nat} {zs : List Int} (h : Inn w a n c zs) (hb : Below w.heap.size w w') : Inn w' a n c zs := ⟨h.len, h.cap, h.max, h.bare, h.row.below hb, h.byts⟩
theorem Inn.on {w w' : World} {B : Nat} {a : Option Addr} {n c : Nat} {zs : List Int} (h : Inn w a n c zs) (hf : Fr B w w') (hB : w.heap.size ≤ B) : Inn w' a n c zs := h.below (hf.below.mono hB)
theorem inn_nil (w : World) : Inn w none 0 0 [] := ⟨rfl, Nat.le_refl _, by omega, fun _ => ⟨rfl, rfl⟩, .inl rfl, by intro c hc; simp at hc⟩
/-- an entry, and where its bytes lie. -/
structure En where
  e : Ee
  ka : Option Addr
  kc : Nat
  va : Option Addr
  vc : Nat
instance : Inhabited En := ⟨⟨default, none, 0, none, 0⟩⟩
def En.cells (x : En) : List Value := [.slice x.ka x.e.key.length x.kc, .slice x.va x.e.val.length x.vc, .bool x.e.del]
def En.v (x : En) : Value := .agg #[.slice x.ka x.e.key.length x.kc, .slice x.va x.e.val.length x.vc, .bool x.e.del]
theorem En.cells_len (x : En) : x.cells.length = 3 := rfl
structure En.Ok (x : En) (w : World) : Prop where
  key : Inn w x.ka x.e.key.length x.kc x.e.key
  val : Inn w x.va x.e.val.length x.vc x.e.val
theorem En.Ok.below {x : En} {w w' : World} (h : x.Ok w) (hb : Below w.heap.size w w') : x.Ok w' := ⟨h.key.below hb, h.val.below hb⟩
/-- what entries hold. -/
def ers (xs : List En) : List Ee := xs.map En.e
theorem ers_len (xs : List En) : (ers xs).length = xs.length := by simp [ers]
theorem ers_app (xs ys : List En) : ers (xs ++ ys) = ers xs ++ ers ys := by simp [ers]
theorem ers_take (xs : List En) (k : Nat) : (ers xs).take k = ers (xs.take k) := by simp [ers]
theorem ers_drop (xs : List En) (k : Nat) : (ers xs).drop k = ers (xs.drop k) := by simp [ers]
theorem ers_at {xs : List En} {k : Nat} {x : En} (h : xs[k]? = some x) : (ers xs)[k]? = some x.e := by simp [ers, h]
theorem take_at {α : Type} {l : List α} {k : Nat} {x : α} (h : l[k]? = some x) : l.take (k + 1) = l.take k ++ [x] := by
  rw [List.take_add_one, h]; rfl
theorem drop_at {α : Type} {l : List α} {k : Nat} {x : α} (h : l[k]? = some x) : l.drop k = x :: l.drop (k + 1) := by
  obtain ⟨hk, rfl⟩ := List.getElem?_eq_some_iff.1 h
  exact List.drop_eq_getElem_cons hk
/-- the cells of entries, one behind the other. -/
def rowc (xs : List En) : List Value := xs.flatMap En.cells
theorem rowc_len (xs : List En) : (rowc xs).length = xs.length * 3 := by
  induction xs with
  | nil => rfl
  | cons x xs ih =>
    have : rowc (x :: xs) = x.cells ++ rowc xs := by simp [rowc]
    rw [this, List.length_append, ih, En.cells_len, List.length_cons]; omega
theorem rowc_app (xs ys : List En) : rowc (xs ++ ys) = rowc xs ++ rowc ys := by simp [rowc]
theorem rowc_one (x : En) : rowc [x] = x.cells := by simp [rowc]
theorem rowc_at {xs : List En} {k : Nat} {x : En} (h : xs[k]? = some x) {j : Nat} {u : Value} (hu : x.cells[j]? = some u) : (rowc xs)[k * 3 + j]? = some u := by
  induction xs generalizing k with
  | nil => simp at h
  | cons y ys ih =>
    have e : rowc (y :: ys) = y.cells ++ rowc ys := by simp [rowc]
    have hj : j < 3 := by have := (List.getElem?_eq_some_iff.1 hu).1; rwa [En.cells_len] at this
    rw [e]
    cases k with
    | zero =>
      simp at h
      subst h
      rw [List.getElem?_append_left (by rw [En.cells_len]; omega), Nat.zero_mul, Nat.zero_add]
      exact hu
    | succ k =>
      rw [List.getElem?_append_right (by rw [En.cells_len]; omega), En.cells_len, show (k + 1) * 3 + j - 3 = k * 3 + j by omega]
      exact ih (by simpa using h)
theorem rowc_one_cell (xs : List En) : ∀ u ∈ rowc xs, u.oneCell' = true := by
  intro u hu
  simp only [rowc, List.mem_flatMap] at hu
  obtain ⟨x, _, hx⟩ := hu
  simp only [En.cells, List.mem_cons, List.not_mem_nil, or_false] at hx
  rcases hx with rfl | rfl | rfl <;> rfl
/-- entries that lie in a row. -/
structure Ens (w : World) (a : Option Addr) (n c : Nat) (xs : List En) : Prop where
  len : xs.length = n
  cap : n ≤ c
  max : c ≤ 9223372036854775807
  bare : a = none → n = 0 ∧ c = 0
  row : xs = [] ∨ ∃ b off, a = some ⟨b, off, none⟩ ∧ b < w.heap.size ∧ ∀ j u, (rowc xs)[j]? = some u → w.cell? ⟨b, off + j, none⟩ = some u
  each : ∀ x ∈ xs, x.Ok w
section
variable {w w' : World} {a : Option Addr} {n c : Nat} {xs : List En}
theorem Ens.below (h : Ens w a n c xs) (hb : Below w.heap.size w w') : Ens w' a n c xs := by
  refine ⟨h.len, h.cap, h.max, h.bare, ?_, fun x hx => (h.each x hx).below hb⟩
  rcases h.row with h0 | ⟨b, off, rfl, hlt, hc⟩
  · exact .inl h0
  · exact .inr ⟨b, off, rfl, Nat.lt_of_lt_of_le hlt hb.size, fun j u hu => (hb.cell (p := ⟨b, off + j, none⟩) hlt).trans (hc j u hu)⟩
theorem Ens.cells (h : Ens w a n c xs) {k : Nat} {x : En} (hx : xs[k]? = some x) :
    ∃ b off, a = some ⟨b, off, none⟩ ∧ b < w.heap.size ∧ w.cell? ⟨b, off + k * 3, none⟩ = some (.slice x.ka x.e.key.length x.kc) ∧ w.cell? ⟨b, off + k * 3 + 1, none⟩ = some (.slice x.va x.e.val.length x.vc) ∧ w.cell? ⟨b, off + k * 3 + 2, none⟩ = some (.bool x.e.del) := by
  rcases h.row with h0 | ⟨b, off, rfl, hlt, hc⟩
  · subst h0; simp at hx
  · have g := fun j u hu => hc (k * 3 + j) u (rowc_at hx (j := j) hu)
    refine ⟨b, off, rfl, hlt, g 0 _ rfl, ?_, ?_⟩
    · have := g 1 _ rfl; rwa [← Nat.add_assoc] at this
    · have := g 2 _ rfl; rwa [← Nat.add_assoc] at this
theorem Ens.at (h : Ens w a n c xs) {k : Nat} (hk : k < n) : ∃ x, xs[k]? = some x ∧ x.Ok w := by
  have hk' : k < xs.length := by rw [h.len]; exact hk
  exact ⟨xs[k], List.getElem?_eq_getElem hk', h.each _ (List.getElem_mem hk')⟩
theorem ens_nil (w : World) : Ens w none 0 0 [] := ⟨rfl, Nat.le_refl _, by omega, fun _ => ⟨rfl, rfl⟩, .inl rfl, by intro x hx; simp at hx⟩
end
theorem cells_three {w : World} {p t : Nat} {a b c : Value} (h : w.heap[p]? = some (.cells #[a, b, c] t (0, 0))) : w.cell? ⟨p, 0, none⟩ = some a ∧ w.cell? ⟨p, 1, none⟩ = some b ∧ w.cell? ⟨p, 2, none⟩ = some c ∧ ∀ j, w.frozen? ⟨p, j, none⟩ = false := by
  refine ⟨by simp [World.cell?, h], by simp [World.cell?, h], by simp [World.cell?, h], fun j => by simp [World.frozen?, h]⟩
theorem box3 (w : World) (a b c : Value) (t : TypeId) : (w.alloc (.cells #[a, b, c] t)).cell? ⟨w.heap.size, 0, none⟩ = some a ∧ (w.alloc (.cells #[a, b, c] t)).cell? ⟨w.heap.size, 1, none⟩ = some b ∧ (w.alloc (.cells #[a, b, c] t)).cell? ⟨w.heap.size, 2, none⟩ = some c := by
  obtain ⟨h0, h1, h2, _⟩ := cells_three (heap_alloc_new w (.cells #[a, b, c] t))
  exact ⟨h0, h1, h2⟩
theorem cells_two {w : World} {p t : Nat} {v s : Value} (h : w.heap[p]? = some (.cells #[v, s] t (0, 0))) : w.cell? ⟨p, 0, none⟩ = some v ∧ w.cell? ⟨p, 1, none⟩ = some s ∧ w.frozen? ⟨p, 0, none⟩ = false := by
  refine ⟨by simp [World.cell?, h], by simp [World.cell?, h], by simp [World.frozen?, h]⟩
theorem cell_of_one {w : World} {p t : Nat} {v : Value} (h : w.heap[p]? = some (.cells #[v] t (0, 0))) : w.cell? ⟨p, 0, none⟩ = some v := by simp [World.cell?, h]
theorem free_of_one {w : World} {p t : Nat} {v : Value} (h : w.heap[p]? = some (.cells #[v] t (0, 0))) : w.frozen? ⟨p, 0, none⟩ = false := by simp [World.frozen?, h]
theorem run_text (w : World) (a : Option Addr) (n c : Nat) (ys : List Int) (hl : ys.length = n) (hn : a = none → n = 0 ∧ c = 0) (hr : Row w a ys) (hb : Byts ys) : (convert 60 9 (.slice a n c)).run Try.prog w = .ok (.string (bk ys)) w := by
  cases a with
  | none =>
    obtain ⟨rfl, rfl⟩ := hn rfl
    have e : ys = [] := List.eq_nil_of_length_eq_zero hl
    subst e
    rw [run_convert_bytes_string w 60 9 5 none 0 0 Try.underlying60 Try.underlying5 Try.underlying9]
    rfl
  | some ad =>
    have h := run_convert_bytes_back (P := Try.prog) w 60 9 5 ad c (ys.map fun z => UInt8.ofNat z.toNat) Try.underlying60 Try.underlying5 Try.underlying9 (by
      intro j hj
      rw [List.length_map] at hj
      rcases hr with rfl | ⟨b, off, e, _, hc⟩
      · simp at hj
      · obtain rfl := Option.some.inj e
        have h1 := hc j hj
        have := hb (ys[j]) (List.getElem_mem hj)
        rw [Addr.add_lit, h1]
        simp [hj]
        omega)
    rw [List.length_map, hl] at h
    exact h
theorem text_inn {w : World} {a : Option Addr} {n c : Nat} {zs : List Int} (h : Inn w a n c zs) : (convert 60 9 (.slice a n c)).run Try.prog w = .ok (.string (bk zs)) w := run_text w a n c zs h.len h.bare h.row h.byts
end Go.Proofs.Ytgohhlngnnmknaa
