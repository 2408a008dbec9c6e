/- Where a key stands in a list: the function that is handed over, slices.BinarySearchFunc. -/
import Derived.Test.YtgohhlngnnmknaaHA
import Derived.Laws.EntriesVeiled
import Derived.Laws.AppendOwnNone
import Derived.Laws.OwnMore
import Derived.Laws.CopyOwn
import Derived.Lib.Overlaps
import Derived.Lib.AppendZerosOnto
import Derived.ArgAppend
namespace Go.Proofs.Ytgohhlngnnmknaa
open Go.RowKit
set_option linter.unusedVariables false

/-- is the key k at or above that key? -/
def pge (key k : List Int) : Bool := decide (0 ≤ ordI k key)
/-- the place that a search comes to. -/
def At (p : List Int → Bool) (xs : List En) (i : Nat) : Prop := i ≤ xs.length ∧ (∀ x, 0 < i → xs[i - 1]? = some x → p x.e.key = false) ∧ ∀ x, xs[i]? = some x → p x.e.key = true
/-- does the entry at i have that key? -/
def ther (xs : List En) (i : Nat) (key : List Int) : Bool := match xs[i]? with
  | some x => decide (x.e.key = key)
  | none => false
theorem box3_hid (w : World) (x : En) : Hid (Below w.heap.size w (w.alloc (.cells #[.slice x.ka x.e.key.length x.kc, .slice x.va x.e.val.length x.vc, .bool x.e.del] 85))) := hide (below_alloc w _)
set_option maxHeartbeats 1600000 in
set_option maxRecDepth 1000000 in
theorem find1_any (x : En) (ka : Option Addr) (kn kc : Nat) (key : List Int) (w : World) (hx : x.Ok w) (hk : Inn w ka kn kc key) :
    Calls Try.prog 91 #[.agg #[.slice x.ka x.e.key.length x.kc, .slice x.va x.e.val.length x.vc, .bool x.e.del], .slice ka kn kc] w fun e w' => e = .returned (.int .i64 (ordI x.e.key key)) ∧ Below w.heap.size w w' := by
  have HB := box3_hid w x
  obtain ⟨b0, b1, b2⟩ := box3 w (.slice x.ka x.e.key.length x.kc) (.slice x.va x.e.val.length x.vc) (.bool x.e.del) 85
  have HC := hide (fun W (hW : Below w.heap.size w W) => compare_any (hx.key.below hW) (hk.below hW))
  clear hx hk
  go_enter Try.func91, Try.ntmps91
  go_wp2_with (go_at_call 92; refine (HC.out _ HB.out).mono ?_; rintro r' w3 ⟨rfl, rfl⟩)
  go_ret
  exact ⟨rfl, HB.out⟩
theorem bool_ret {v : Value} {b c : Bool} (h : b = c) : Ending.returned (Value.tuple #[v, Value.bool b]) = Ending.returned (Value.tuple #[v, Value.bool c]) := by rw [h]
set_option maxHeartbeats 3200000 in
set_option maxRecDepth 1000000 in
theorem search_any (ka : Option Addr) (kn kc : Nat) (key : List Int) (a : Option Addr) (n c : Nat) (xs : List En) (w : World) (hk : Inn w ka kn kc key) (h : Ens w a n c xs) (hn : n ≤ 1000000) :
    Calls Try.prog 90 #[.slice a n c, .slice ka kn kc, .func (.func 91) #[] #[]] w fun e w' => ∃ i : Nat, e = .returned (.tuple #[.int .i64 (i : Int), .bool (ther xs i key)]) ∧ At (pge key) xs i ∧ Below w.heap.size w w' := by
  have HE := hide h
  have HK := hide hk
  have HL := hide h.len
  have hcap := h.cap
  have hmax := h.max
  clear h hk
  go_enter Try.func90, Try.ntmps90
  go_wp2
  go_loopw [9, 10] (fun vi vj wr => ∃ (i j : Nat), i ≤ j ∧ j ≤ n ∧ vi = .int .i64 (i : Int) ∧ vj = .int .i64 (j : Int) ∧ (∀ x, 0 < i → xs[i - 1]? = some x → pge key x.e.key = false) ∧ (∀ x, xs[j]? = some x → pge key x.e.key = true) ∧ Below w.heap.size w wr) (fun vi vj _ => (intOf vj).toNat - (intOf vi).toNat)
  case atStart => exact ⟨0, n, Nat.zero_le _, Nat.le_refl _, rfl, rfl, fun x h => by omega, fun x hx => by have := (List.getElem?_eq_some_iff.1 hx).1; have := HL.out; omega, Below.refl _ _⟩
  case round =>
    obtain ⟨i, j, hij, hjn, rfl, rfl, hlo, hhi, hbl⟩ := hrel
    have HLo := hide hlo
    have HHi := hide hhi
    have HBl := hide hbl
    clear hlo hhi
    by_cases hlt : i < j
    · have hm : (i + j) / 2 < n := by omega
      obtain ⟨x, hx, hok⟩ := (HE.out.below hbl).at hm
      obtain ⟨b, off, rfl, hbs, c0, c1, c2⟩ := (HE.out.below hbl).cells hx
      have HF := hide (find1_any x ka kn kc key wr hok (HK.out.below hbl))
      have HX := hide hx
      clear hok hx hbl
      have e1 : ((((i + j) / 2 : Nat)) : Int) = ((i : Int) + (j : Int)) / 2 := by omega
      have d0 : (i : Int) < (j : Int) := by omega
      by_cases hp : ordI x.e.key key < 0
      · have HP := hide hp
        have HPf : Hid (pge key x.e.key = false) := by rw [Hid, pge, decide_eq_false (by omega)]
        have hmj : (i + j) / 2 < j := by omega
        go_wp2_with (go_at_call 91; refine HF.out.mono ?_; rintro e w2 ⟨rfl, hb2⟩)
        refine ⟨⟨(i + j) / 2 + 1, j, by omega, by omega, by rw [Int.natCast_add, e1]; rfl, rfl, fun y _ hy => by rw [Nat.add_sub_cancel, HX.out] at hy; cases hy; exact HPf.out, HHi.out, HBl.out.trans (hb2.mono HBl.out.size)⟩, ?_⟩
        simp [intOf]; omega
      · have HP := hide hp
        have HPf : Hid (pge key x.e.key = true) := by rw [Hid, pge, decide_eq_true (by omega)]
        have hmj : (i + j) / 2 < j := by omega
        go_wp2_with (go_at_call 91; refine HF.out.mono ?_; rintro e w2 ⟨rfl, hb2⟩)
        refine ⟨⟨i, (i + j) / 2, by omega, by omega, rfl, by rw [e1], HLo.out, fun y hy => by rw [HX.out] at hy; cases hy; exact HPf.out, HBl.out.trans (hb2.mono HBl.out.size)⟩, ?_⟩
        simp [intOf]; omega
    · obtain rfl : i = j := by omega
      by_cases hin : i < n
      · obtain ⟨x, hx, hok⟩ := (HE.out.below hbl).at hin
        obtain ⟨b, off, rfl, hbs, c0, c1, c2⟩ := (HE.out.below hbl).cells hx
        have HF := hide (find1_any x ka kn kc key wr hok (HK.out.below hbl))
        have d1 : (i : Int) < (n : Int) := by omega
        have HX := hide hx
        clear hok hx hbl
        by_cases hp : ordI x.e.key key = 0
        · have HT : Hid (ther xs i key = true) := by rw [Hid, ther, HX.out]; exact decide_eq_true (ordI_zero _ _ hp)
          rw [hp] at HF
          clear hp
          go_wp2_with (go_at_call 91; refine HF.out.mono ?_; rintro e w2 ⟨rfl, hb2⟩)
          go_ret2
          exact ⟨i, by rw [HT.out]; rfl, ⟨by rw [HL.out]; omega, HLo.out, HHi.out⟩, HBl.out.trans (hb2.mono HBl.out.size)⟩
        · have HT : Hid (ther xs i key = false) := by rw [Hid, ther, HX.out]; exact decide_eq_false (fun e => hp (by rw [e]; exact ordI_self _))
          generalize ordI x.e.key key = O at *
          go_wp2_with (go_at_call 91; refine HF.out.mono ?_; rintro e w2 ⟨rfl, hb2⟩)
          go_ret2
          exact ⟨i, (by rw [HT.out]; exact bool_ret (by simpa using hp)), ⟨by rw [HL.out]; omega, HLo.out, HHi.out⟩, HBl.out.trans (hb2.mono HBl.out.size)⟩
      · have HT : Hid (ther xs i key = false) := by
          have : xs[i]? = none := List.getElem?_eq_none (by have := HL.out; omega)
          rw [Hid, ther, this]
        have d1 : ¬ (i : Int) < (n : Int) := by omega
        go_wp2
        go_ret2
        exact ⟨i, by rw [HT.out]; rfl, ⟨by rw [HL.out]; omega, HLo.out, HHi.out⟩, HBl.out⟩
end Go.Proofs.Ytgohhlngnnmknaa
/- A buffer in memory: what is said, and what undoes it. -/
namespace Go.Proofs.Ytgohhlngnnmknaa
open Go.RowKit
set_option linter.unusedVariables false

theorem Try.infoE : (Try.prog.info? 85).map (fun i => (i.zero, i.size, i.bytes)) = some (some (.agg #[.slice none 0 0, .slice none 0 0, .bool false]), 3, 56) := by kernel_rfl
theorem Try.infoF : (Try.prog.info? 1).map (fun i => (i.zero, i.size, i.bytes)) = some (some .nilFunc, 1, 8) := by kernel_rfl
/-- the entry's bytes lie in block k. -/
def En.has (y : En) (k : Nat) : Prop := (Value.slice y.ka y.e.key.length y.kc).ownBlock = some k ∨ (Value.slice y.va y.e.val.length y.vc).ownBlock = some k
theorem Own.u8 {w : World} {v : Value} {zs : List Int} (h : Own w v zs) {k : Nat} (hk : v.ownBlock = some k) : ∃ cur, w.heap[k]? = some (.cells cur 5 (0, 0)) := by
  rcases h.2 with ⟨rfl, _⟩ | ⟨g, cap, cur, rfl, _, hg, _⟩
  · simp [Value.ownBlock] at hk
  · simp [Value.ownBlock] at hk; subst hk; exact ⟨cur, hg⟩
theorem En.Own.lt {y : En} {B k : Nat} {w : World} (h : y.Own B w) (hk : y.has k) : k < w.heap.size := hk.elim h.key.lt h.val.lt
theorem En.Own.ge {y : En} {B k : Nat} {w : World} (h : y.Own B w) (hk : y.has k) : B ≤ k := hk.elim (h.kb k) (h.vb k)
theorem En.Own.u8 {y : En} {B k : Nat} {w : World} (h : y.Own B w) (hk : y.has k) : ∃ cur, w.heap[k]? = some (.cells cur 5 (0, 0)) := hk.elim h.key.u8 h.val.u8
theorem En.Own.of_block {y : En} {B : Nat} {w w' : World} (h : y.Own B w) (hb : ∀ k, y.has k → w'.heap[k]? = w.heap[k]?) : y.Own B w' :=
  ⟨h.key.of_block fun k hk => hb k (.inl hk), h.val.of_block fun k hk => hb k (.inr hk), h.kb, h.vb, h.ne, h.k8, h.v8⟩
theorem En.Own.below {y : En} {B : Nat} {w w' : World} (h : y.Own B w) (hb : Below w.heap.size w w') : y.Own B w' := h.of_block fun k hk => hb.block k (h.lt hk)
theorem En.Own.mono {y : En} {B C : Nat} {w : World} (h : y.Own C w) (hb : B ≤ C) : y.Own B w := ⟨h.key, h.val, fun k hk => Nat.le_trans hb (h.kb k hk), fun k hk => Nat.le_trans hb (h.vb k hk), h.ne, h.k8, h.v8⟩
theorem own_inn {w : World} {a : Option Addr} {n c : Nat} {zs : List Int} (h : Own w (.slice a n c) zs) (h8 : Byts zs) : Inn w a n c zs := by
  obtain ⟨a', c', e, h1, h2, h3, h4, _⟩ := h.shape
  cases e
  exact ⟨rfl, h1, by unfold maxLen at h2; omega, h3, h4, h8⟩
theorem En.Own.ok {y : En} {B : Nat} {w : World} (h : y.Own B w) : y.Ok w := ⟨own_inn h.key h.k8, own_inn h.val h.v8⟩
theorem obj_type {c c' : Array Value} {t t' : TypeId} (h : (some (Obj.cells c t (0, 0)) : Option Obj) = some (.cells c' t' (0, 0))) : t = t' := by
  have := congrArg (fun o : Option Obj => match o with | some (.cells _ t _) => t | _ => 0) h
  simpa using this
/-- a row's block, its type. -/
theorem row_at {B t m : Nat} {w : World} {v : Value} {n : Nat} {cs : List Value} (h : w.ownsRow B t m v n cs) {k : Nat} (hk : v.ownBlock = some k) : B ≤ k ∧ k < w.heap.size ∧ ∃ cur, w.heap[k]? = some (.cells cur t (0, 0)) := by
  rcases h.2 with ⟨rfl, _⟩ | ⟨g, cap, cur, rfl, hb, hg, _⟩
  · simp [Value.ownBlock] at hk
  · simp [Value.ownBlock] at hk; subst hk; exact ⟨hb, lt_of_block hg, cur, hg⟩
theorem row_of_block {B t m : Nat} {w w' : World} {v : Value} {n : Nat} {cs : List Value} (h : w.ownsRow B t m v n cs) (hb : ∀ k, v.ownBlock = some k → w'.heap[k]? = w.heap[k]?) : w'.ownsRow B t m v n cs := by
  refine ⟨h.1, ?_⟩
  rcases h.2 with h2 | ⟨g, cap, cur, rfl, hg, hh, r⟩
  · exact .inl h2
  · exact .inr ⟨g, cap, cur, rfl, hg, by rw [hb g rfl]; exact hh, r⟩
theorem row_shape {B t m : Nat} {w : World} {v : Value} {n : Nat} {cs : List Value} (h : w.ownsRow B t m v n cs) : ∃ a c, v = .slice a n c ∧ n ≤ c ∧ c ≤ 9223372036854775807 ∧ (a = none → n = 0 ∧ c = 0) ∧ (a = none ∨ ∃ g, a = some ⟨g, 0, none⟩) := by
  rcases h.2 with ⟨rfl, h0⟩ | ⟨g, cap, cur, rfl, hb, hg, hn, hm, _⟩
  · exact ⟨none, 0, by rw [h0], by omega, by omega, fun _ => ⟨h0, rfl⟩, .inl rfl⟩
  · exact ⟨_, cap, rfl, hn, by unfold maxLen at hm; omega, by (intro e; cases e), .inr ⟨g, rfl⟩⟩
theorem row_ens {B : Nat} {w : World} {a : Option Addr} {n c : Nat} {xs : List En} (hl : xs.length = n) (h : w.ownsRow B 85 3 (.slice a n c) n (rowc xs)) (he : ∀ x ∈ xs, x.Ok w) : Ens w a n c xs := by
  obtain ⟨a', c', e, h1, h2, h3, h4⟩ := row_shape h
  cases e
  refine ⟨hl, h1, h2, h3, ?_, he⟩
  rcases h4 with rfl | ⟨g, rfl⟩
  · left; obtain ⟨rfl, _⟩ := h3 rfl; exact List.eq_nil_of_length_eq_zero hl
  · right
    refine ⟨g, 0, rfl, ?_, fun j u hu => ?_⟩
    · exact (row_at h (k := g) (by simp [Value.ownBlock])).2.1
    · have := h.cells (g := g) rfl j u hu
      rwa [Addr.add_lit] at this
/-- a buffer at p: its list sv of xs, and its row uv of what undoes. -/
structure Bf (w : World) (p B : Nat) (sv uv : Value) (xs : List En) (us : List Value) : Prop where
  blk : w.heap[p]? = some (.cells #[sv, uv] 69 (0, 0))
  said : w.ownsRow B 85 3 sv xs.length (rowc xs)
  undo : w.ownsRow B 1 1 uv us.length us
  each : ∀ x ∈ xs, x.Own B w
  base : B ≤ p
/-- the blocks that a buffer writes. -/
def Bo (p : Nat) (sv uv : Value) (k : Nat) : Prop := k = p ∨ sv.ownBlock = some k ∨ uv.ownBlock = some k
section
variable {w w' : World} {p B : Nat} {sv uv : Value} {xs : List En} {us : List Value}
theorem Bf.lt (h : Bf w p B sv uv xs us) {k : Nat} (hk : Bo p sv uv k) : k < w.heap.size := by
  rcases hk with rfl | hk | hk
  · exact lt_of_block h.blk
  · exact (row_at h.said hk).2.1
  · exact (row_at h.undo hk).2.1
theorem Bf.ge (h : Bf w p B sv uv xs us) {k : Nat} (hk : Bo p sv uv k) : B ≤ k := by
  rcases hk with rfl | hk | hk
  · exact h.base
  · exact (row_at h.said hk).1
  · exact (row_at h.undo hk).1
/-- a block of bytes is none that a buffer writes. -/
theorem Bf.not_u8 (h : Bf w p B sv uv xs us) {k : Nat} {cur : Array Value} (hk : w.heap[k]? = some (.cells cur 5 (0, 0))) : ¬ Bo p sv uv k := by
  rintro (rfl | e | e)
  · rw [h.blk] at hk; have := obj_type hk; simp at this
  · obtain ⟨_, _, c, hc⟩ := row_at h.said e; rw [hc] at hk; have := obj_type hk; simp at this
  · obtain ⟨_, _, c, hc⟩ := row_at h.undo e; rw [hc] at hk; have := obj_type hk; simp at this
theorem Bf.sne (h : Bf w p B sv uv xs us) : sv.ownBlock ≠ some p := fun e => by
  obtain ⟨_, _, c, hc⟩ := row_at h.said e; rw [h.blk] at hc; have := obj_type hc; simp at this
theorem Bf.une (h : Bf w p B sv uv xs us) : uv.ownBlock ≠ some p := fun e => by
  obtain ⟨_, _, c, hc⟩ := row_at h.undo e; rw [h.blk] at hc; have := obj_type hc; simp at this
theorem Bf.sune (h : Bf w p B sv uv xs us) {k : Nat} (e : sv.ownBlock = some k) : uv.ownBlock ≠ some k := fun e2 => by
  obtain ⟨_, _, c, hc⟩ := row_at h.said e
  obtain ⟨_, _, c2, hc2⟩ := row_at h.undo e2
  rw [hc] at hc2; have := obj_type hc2; simp at this
theorem Bf.of_block (h : Bf w p B sv uv xs us) (hb : ∀ k, Bo p sv uv k ∨ (∃ x ∈ xs, x.has k) → w'.heap[k]? = w.heap[k]?) : Bf w' p B sv uv xs us :=
  ⟨(hb p (.inl (.inl rfl))).trans h.blk, row_of_block h.said fun k hk => hb k (.inl (.inr (.inl hk))), row_of_block h.undo fun k hk => hb k (.inl (.inr (.inr hk))),
    fun x hx => (h.each x hx).of_block fun k hk => hb k (.inr ⟨x, hx, hk⟩), h.base⟩
theorem Bf.below (h : Bf w p B sv uv xs us) (hb : Below w.heap.size w w') : Bf w' p B sv uv xs us :=
  h.of_block fun k hk => hb.block k (hk.elim h.lt fun ⟨x, hx, hh⟩ => (h.each x hx).lt hh)
theorem Bf.ens (h : Bf w p B sv uv xs us) : ∃ a c, sv = .slice a xs.length c ∧ Ens w a xs.length c xs := by
  obtain ⟨a, c, e, _⟩ := row_shape h.said
  have := h.said
  rw [e] at this
  exact ⟨a, c, e, row_ens rfl this fun x hx => (h.each x hx).ok⟩
end
set_option maxHeartbeats 1600000 in
set_option maxRecDepth 1000000 in
theorem find_any {w : World} {p B : Nat} {sv uv : Value} {xs : List En} {us : List Value} (h : Bf w p B sv uv xs us) (ka : Option Addr) (kn kc : Nat) (key : List Int) (hk : Inn w ka kn kc key) (hn : xs.length ≤ 1000000) :
    Calls Try.prog 74 #[.pointer (some ⟨p, 0, none⟩), .slice ka kn kc] w fun e w' => ∃ i : Nat, e = .returned (.tuple #[.int .i64 (i : Int), .bool (ther xs i key)]) ∧ At (pge key) xs i ∧ Below w.heap.size w w' := by
  obtain ⟨a, c, rfl, hE⟩ := h.ens
  have HS := hide (search_any ka kn kc key a xs.length c xs w hk hE hn)
  obtain ⟨c0, c1, f0⟩ := cells_two h.blk
  clear h hE hk
  generalize xs.length = n at *
  go_enter Try.func74, Try.ntmps74
  go_wp2_with (go_at_call 90; refine HS.out.mono ?_; rintro e w2 ⟨i, rfl, hat, hb2⟩; have HAt := hide hat; have HB2 := hide hb2; clear hat hb2)
  go_ret2
  exact ⟨i, rfl, HAt.out, HB2.out⟩
end Go.Proofs.Ytgohhlngnnmknaa
/- slices.Insert of one entry into a list that has room for itself alone. -/
namespace Go.Proofs.Ytgohhlngnnmknaa
open Go.RowKit
set_option linter.unusedVariables false

theorem cells_one (y : En) : ∀ u ∈ y.cells, u.oneCell' = true := fun u hu => rowc_one_cell [y] u (by rw [rowc_one]; exact hu)
theorem rowc_drop (xs : List En) (k : Nat) : rowc (xs.drop k) = (rowc xs).drop (k * 3) := by
  induction k generalizing xs with
  | zero => simp
  | succ k ih => cases xs with
    | nil => simp [rowc]
    | cons x xs =>
      have e : rowc (x :: xs) = x.cells ++ rowc xs := by simp [rowc]
      rw [List.drop_succ_cons, ih, e, List.drop_append, En.cells_len, (List.drop_eq_nil_of_le (by rw [En.cells_len]; omega) : x.cells.drop ((k + 1) * 3) = []), List.nil_append, show (k + 1) * 3 - 3 = k * 3 by omega]
theorem wpList_run_append {P : Program} {w w' : World} {ops : Array Oper} {rest : List Oper} {o : Oper} {a : Act} {Q : Exit → Act → World → Prop} {v u v' : Value} (hgd : o.guard = none) (s x : Operand) (t : TypeId)
    (ho : o.op = .call { callee := .builtin .append, args := #[s, x], argTypes := #[t, t] }) (hs : a.eval s = v) (hx : a.eval x = u) (hrun : (Builtin.append_ #[t, t] o.type #[v, u]).run P w = .ok v' w')
    (h : wpList P ops Q rest (a.put o.dst v') w') : wpList P ops Q (o :: rest) a w := by
  refine wpList_plain hgd fun K hK => ?_
  unfold Oper.wp
  simp [execOp, ho, resolve, invoke, builtin, hs, hx, hrun, Result.andThen]
  exact hK _ _ h
/-- a copy of elements of three cells, into a row that is known whole. -/
theorem run_copy_row3 {P : Program} (w : World) (dT sT ty elem : TypeId) (g o dLen dCap : Nat) (a : Addr) (sLen sCap : Nat) (cur : Array Value) (t : TypeId) (cs : List Value)
    (hu : P.underlying dT = some (.slice elem)) (hs : (P.info? elem).map (·.size) = some 3)
    (hg : w.heap[g]? = some (.cells cur t (0, 0))) (k : Nat) (hk : k = Nat.min sLen dLen) (hn : cs.length = k * 3)
    (hsrc : ∀ j v, cs[j]? = some v → w.cell? (a.add j) = some v) (hfit : o + cs.length ≤ cur.size) (h1 : ∀ v ∈ cs, v.oneCell' = true) :
    (Builtin.copy_ #[dT, sT] ty #[.slice (some ⟨g, o, none⟩) dLen dCap, .slice (some a) sLen sCap]).run P w =
      .ok (goInt k) (w.setRow g (cur.toList.take o ++ cs ++ cur.toList.drop (o + cs.length)).toArray) := by
  have hl := run_loadCells_list (P := P) w a cs hsrc
  have hst := run_storeCells_at P g o t cs 0 cur w hg (by simpa using hfit) h1
  cases hq : P.info? elem with
  | none => simp [hq] at hs
  | some i =>
    have hi : i.size = 3 := by simpa [hq] using hs
    simp [Builtin.copy_, run_underlying hu, Builtin.lenOf, Builtin.firstCells, sizeOf, typeInfo, hq, hi, ← hk, ← hn, hl, hst]
theorem wpList_run_append2 {P : Program} {w w' : World} {ops : Array Oper} {rest : List Oper} {o : Oper} {a : Act} {Q : Exit → Act → World → Prop} {v u v' : Value} (hgd : o.guard = none) (s x : Operand) (t tn : TypeId)
    (ho : o.op = .call { callee := .builtin .append, args := #[s, x], argTypes := #[t, tn] }) (hs : a.eval s = v) (hx : a.eval x = u) (hrun : (Builtin.append_ #[t, tn] o.type #[v, u]).run P w = .ok v' w')
    (h : wpList P ops Q rest (a.put o.dst v') w') : wpList P ops Q (o :: rest) a w := by
  refine wpList_plain hgd fun K hK => ?_
  unfold Oper.wp
  simp [execOp, ho, resolve, invoke, builtin, hs, hx, hrun, Result.andThen]
  exact hK _ _ h
theorem wpList_run_copy {P : Program} {w w' : World} {ops : Array Oper} {rest : List Oper} {o : Oper} {a : Act} {Q : Exit → Act → World → Prop} {v u v' : Value} (hgd : o.guard = none) (s x : Operand) (t tn : TypeId)
    (ho : o.op = .call { callee := .builtin .copy, args := #[s, x], argTypes := #[t, tn] }) (hs : a.eval s = v) (hx : a.eval x = u) (hrun : (Builtin.copy_ #[t, tn] o.type #[v, u]).run P w = .ok v' w')
    (h : wpList P ops Q rest (a.put o.dst v') w') : wpList P ops Q (o :: rest) a w := by
  refine wpList_plain hgd fun K hK => ?_
  unfold Oper.wp
  simp [execOp, ho, resolve, invoke, builtin, hs, hx, hrun, Result.andThen]
  exact hK _ _ h
theorem row_two (R A Y C : List Value) (i n : Nat) (hA : A.length = i * 3) (hY : Y.length = 3) (hC : C.length = (n - i) * 3) (hi : i < n) (hR : R.take (i * 3) = A) (hRl : (n + 1) * 3 ≤ R.length) :
    (R.take (i * 3) ++ Y ++ R.drop (i * 3 + Y.length)).length = R.length ∧
    ((R.take (i * 3) ++ Y ++ R.drop (i * 3 + Y.length)).take ((i + 1) * 3) ++ C ++ (R.take (i * 3) ++ Y ++ R.drop (i * 3 + Y.length)).drop ((i + 1) * 3 + C.length)).length = R.length ∧
    ((R.take (i * 3) ++ Y ++ R.drop (i * 3 + Y.length)).take ((i + 1) * 3) ++ C ++ (R.take (i * 3) ++ Y ++ R.drop (i * 3 + Y.length)).drop ((i + 1) * 3 + C.length)).take ((n + 1) * 3) = A ++ Y ++ C := by
  have h1 : (R.take (i * 3) ++ Y ++ R.drop (i * 3 + Y.length)).length = R.length := by simp only [List.length_append, List.length_take, List.length_drop]; omega
  have h2 : (R.take (i * 3) ++ Y ++ R.drop (i * 3 + Y.length)).take ((i + 1) * 3) = A ++ Y := by
    rw [hR]
    exact List.take_left' (by rw [List.length_append]; omega)
  refine ⟨h1, ?_, ?_⟩
  · rw [h2]
    simp only [List.length_append, List.length_drop, List.length_take]
    omega
  · rw [h2]
    exact List.take_left' (by simp only [List.length_append]; omega)
set_option maxHeartbeats 1600000 in
set_option maxRecDepth 1000000 in
theorem insert_mid (g q n i : Nat) (ys : List En) (y : En) (w : World) (hi : i < n) (hn : n ≤ 1000000) (hl : ys.length = n) (hcs : ∀ j u, (rowc ys)[j]? = some u → w.cell? ⟨g, j, none⟩ = some u) (hy : ∀ j u, y.cells[j]? = some u → w.cell? ⟨q, j, none⟩ = some u) :
    Calls Try.prog 84 #[.slice (some ⟨g, 0, none⟩) n n, .int .i64 (i : Int), .slice (some ⟨q, 0, none⟩) 1 1] w fun e w' => ∃ G, e = .returned (.slice (some ⟨w.heap.size, 0, none⟩) (n + 1) G) ∧ w'.ownsRow w.heap.size 85 3 (.slice (some ⟨w.heap.size, 0, none⟩) (n + 1) G) (n + 1) (rowc (ys.take i ++ y :: ys.drop i)) ∧ Below w.heap.size w w' := by
  obtain ⟨i0, hi0, hz0, hzs, hzb⟩ := info_parts Try.infoE
  have hold : (Builtin.firstCells i0.size i (.slice (some ⟨g, 0, none⟩) i n)).run Try.prog w.drew = .ok ((rowc ys).take (i * 3)).toArray w.drew := by
    rw [hzs]
    exact run_firstCells_some w.drew 3 i ⟨g, 0, none⟩ i n ((rowc ys).take (i * 3)) (by rw [List.length_take, rowc_len]; omega) (fun j v hj => by
      rw [Addr.add_lit]
      rw [List.getElem?_take] at hj
      split at hj
      · simpa using hcs j v hj
      · cases hj)
  have hik : i + (n + 1 - i) = n + 1 := by omega
  have hkk : (n : Int) + 1 - (i : Int) = ((n + 1 - i : Nat) : Int) := by omega
  obtain ⟨G, hG⟩ : ∃ G, G = grownCap w (n + 1) n 85 := ⟨_, rfl⟩
  have hGn : n + 1 ≤ G := by rw [hG]; exact grownCap_ge _ _ _ _
  have hGm : G ≤ 9223372036854775807 := by have := grownCap_le_maxLen w (n + 1) n 85 (by unfold maxLen; omega); unfold maxLen at this; omega
  have hrz : (Builtin.append_ #[30, 3] 30 #[.slice (some ⟨g, 0, none⟩) i n, .int .i64 ((n : Int) + 1 - (i : Int))]).run Try.prog w =
      .ok (.slice (some ⟨w.heap.size, 0, none⟩) (n + 1) G) (w.drew.alloc (.cells (((rowc ys).take (i * 3)).toArray ++ Builtin.zeroCells (Value.agg #[.slice none 0 0, .slice none 0 0, .bool false]).cells (n + 1 - i) ++ Builtin.zeroCells (Value.agg #[.slice none 0 0, .slice none 0 0, .bool false]).cells (G - (n + 1))) 85)) := by
    have h := Lib.run_append_grow_zeros (P := Try.prog) w 30 3 30 85 i0 _ .i64 .i64 Try.underlying30 Try.underlying3 hi0 hz0 (some ⟨g, 0, none⟩) i n ((rowc ys).take (i * 3)) hold (n + 1 - i) (by omega) (by omega) (by omega) (by omega) (by rw [hzb]; omega) (by rw [hzb, hik]; exact growslice_fits (by omega) (by omega))
    rw [hik, ← hG] at h
    rw [hkk]
    exact h
  obtain ⟨ROW, hROW⟩ : ∃ ROW : Array Value, ROW = ((rowc ys).take (i * 3)).toArray ++ Builtin.zeroCells (Value.agg #[.slice none 0 0, .slice none 0 0, .bool false]).cells (n + 1 - i) ++ Builtin.zeroCells (Value.agg #[.slice none 0 0, .slice none 0 0, .bool false]).cells (G - (n + 1)) := ⟨_, rfl⟩
  rw [← hROW] at hrz
  have hRs : ROW.size = G * 3 := by
    rw [hROW]
    simp [Builtin.zeroCells, Value.cells, rowc_len, hl]
    omega
  have hRt : ROW.toList.take (i * 3) = rowc (ys.take i) := by
    rw [hROW]
    simp only [Array.toList_append, List.append_assoc]
    rw [List.take_left' (by rw [List.length_take, rowc_len]; omega)]
    conv => lhs; rw [← List.take_append_drop i ys, rowc_app]
    exact List.take_left' (by rw [rowc_len, List.length_take]; omega)
  have hq : q < w.heap.size := World.block_lt_of_cell? w ⟨q, 0, none⟩ (hy 0 _ rfl)
  have hgl : g < w.heap.size := by
    obtain ⟨u, hu⟩ : ∃ u, (rowc ys)[0]? = some u := ⟨_, List.getElem?_eq_getElem (by rw [rowc_len]; omega)⟩
    exact World.block_lt_of_cell? w ⟨g, 0, none⟩ (hcs 0 u hu)
  obtain ⟨W1, hW1⟩ : ∃ W1, W1 = (w.alloc (.cells ROW 85)).drew := ⟨_, rfl⟩
  have hB1 : Below w.heap.size w W1 := by rw [hW1]; exact (below_alloc w _).drew
  have hg1 : W1.heap[w.heap.size]? = some (.cells ROW 85 (0, 0)) := by rw [hW1]; exact heap_alloc_new w _
  have hsz3 : (Try.prog.info? 85).map (·.size) = some 3 := by rw [hi0]; simp [hzs]
  obtain ⟨R2, hR2⟩ : ∃ R2 : Array Value, R2 = (ROW.toList.take (i * 3) ++ y.cells ++ ROW.toList.drop (i * 3 + y.cells.length)).toArray := ⟨_, rfl⟩
  have hCl : (rowc (ys.drop i)).length = (n - i) * 3 := by rw [rowc_len, List.length_drop, hl]
  have hAl : (rowc (ys.take i)).length = i * 3 := by rw [rowc_len, List.length_take]; omega
  obtain ⟨t1, t2, t3⟩ := row_two ROW.toList (rowc (ys.take i)) y.cells (rowc (ys.drop i)) i n hAl rfl hCl hi hRt (by rw [Array.length_toList, hRs]; omega)
  have hRs2 : R2.size = G * 3 := by rw [hR2, List.size_toArray, t1, Array.length_toList, hRs]
  have run1 := run_copy_row3 (P := Try.prog) W1 30 30 3 85 w.heap.size (i * 3) (n + 1 - i) (G - i) ⟨q, 0, none⟩ 1 1 ROW 85 y.cells Try.underlying30 hsz3 hg1 1 (by simp only [Nat.min_def]; split <;> omega) rfl (fun j v hj => by rw [Addr.add_lit]; have := (hB1.cell (p := ⟨q, 0 + j, none⟩) hq); rw [this]; simpa using hy j v hj) (by rw [hRs]; simp [En.cells]; omega) (cells_one y)
  rw [← hR2] at run1
  obtain ⟨W2, hW2⟩ : ∃ W2, W2 = W1.setRow w.heap.size R2 := ⟨_, rfl⟩
  have hB2 : Below w.heap.size w W2 := by rw [hW2]; exact below_setRow hB1 (Nat.le_refl _) _
  have hg2 : W2.heap[w.heap.size]? = some (.cells R2 85 (0, 0)) := by rw [hW2]; exact setRow_heap W1 w.heap.size _ _ _ _ hg1
  rw [← hW2, hW1] at run1
  obtain ⟨R3, hR3⟩ : ∃ R3 : Array Value, R3 = (R2.toList.take ((i + 1) * 3) ++ rowc (ys.drop i) ++ R2.toList.drop ((i + 1) * 3 + (rowc (ys.drop i)).length)).toArray := ⟨_, rfl⟩
  have run2 := run_copy_row3 (P := Try.prog) W2.drew 30 30 3 85 w.heap.size ((i + 1) * 3) (n - i) (G - (i + 1)) ⟨g, i * 3, none⟩ (n - i) (n - i) R2 85 (rowc (ys.drop i)) Try.underlying30 hsz3 hg2 (n - i) (by simp only [Nat.min_def]; split <;> omega) hCl (fun j v hj => by rw [Addr.add_lit]; rw [rowc_drop, List.getElem?_drop] at hj; have := (hB2.drew.cell (p := ⟨g, i * 3 + j, none⟩) hgl); rw [this]; exact hcs _ v hj) (by rw [hRs2, hCl]; omega) (rowc_one_cell _)
  rw [← hR3] at run2
  obtain ⟨W3, hW3⟩ : ∃ W3, W3 = W2.drew.setRow w.heap.size R3 := ⟨_, rfl⟩
  have hB3 : Below w.heap.size w W3 := by rw [hW3]; exact below_setRow hB2.drew (Nat.le_refl _) _
  have hg3 : W3.heap[w.heap.size]? = some (.cells R3 85 (0, 0)) := by rw [hW3]; exact setRow_heap W2.drew w.heap.size _ _ _ _ hg2
  rw [← hW3] at run2
  have hown : W3.ownsRow w.heap.size 85 3 (.slice (some ⟨w.heap.size, 0, none⟩) (n + 1) G) (n + 1) (rowc (ys.take i ++ y :: ys.drop i)) := by
    have e : rowc (ys.take i ++ y :: ys.drop i) = rowc (ys.take i) ++ y.cells ++ rowc (ys.drop i) := by simp [rowc]
    refine ⟨by rw [e]; simp only [List.length_append, hAl, hCl, En.cells_len]; omega, .inr ⟨w.heap.size, G, R3, rfl, Nat.le_refl _, hg3, hGn, by unfold maxLen; omega, ?_, ?_⟩⟩
    · rw [hR3, List.size_toArray, hR2]
      exact t2.trans (by rw [Array.length_toList, hRs])
    · rw [hR3, hR2, e]
      exact t3
  have HOwn := hide hown
  have HB3 := hide hB3
  clear hROW hold hcs hy hkk hik hG hRt hW1 hB1 hg1 hR2 t1 t2 t3 hW2 hB2 hg2 hR3 hW3 hB3 hg3 hown hCl hAl hRs hRs2 hsz3
  go_enter Try.func84, Try.ntmps84
  have hz2 : ¬ ((i : Int) = (n : Int)) := by omega
  have hz3 : (n : Int) < (n : Int) + 1 := by omega
  go_wp2_with (at_builtin; (refine wpList_run_append2 (by rfl) (.tmp 34) (.tmp 39) 30 3 (by rfl) (by rfl) (by rfl) hrz ?_))
  have c1 : ¬ (G - (i + 1) = 0) := by omega
  have c2 : ¬ (i + 1 = G) := by omega
  have c3 : ((i : Int) + 1).toNat = i + 1 := by omega
  have c4 : IntKind.i64.wrap ((i : Int) + 1) = (i : Int) + 1 := by rw [IntKind.wrap_i64] <;> omega
  have c5 : ¬ (n - i = 0) := by omega
  have c6 : ¬ (i = n) := by omega
  have c7 : (i : Int) + 1 ≤ (n : Int) + 1 := by omega
  have c8 : ¬ (G = i + 1) := by omega
  have c9 : ¬ ((i : Int) + 1 < 0) := by omega
  have c10 : i + 1 ≤ n + 1 := by omega
  have c11 : (0 : Int) ≤ (i : Int) := by omega
  have c12 : (i : Int) ≤ (n : Int) := by omega
  have c13 : (0 : Int) ≤ (i : Int) + 1 := by omega
  have c14 : (i : Int) + 1 ≤ (G : Int) := by omega
  have c15 : (i : Int) < (n : Int) := by omega
  have c16 : ¬ (n : Int) < (i : Int) := by omega
  have c17 : ¬ (i : Int) < 0 := by omega
  have c18 : ¬ (n : Int) + 1 < (i : Int) + 1 := by omega
  have c19 : ¬ n < i := by omega
  have c20 : ¬ n ≤ i := by omega
  have c21 : ¬ n + 1 < i + 1 := by omega
  have c22 : ¬ G ≤ i + 1 := by omega
  go_region_with (fail)
  go_wp2
  go_ret
  exact ⟨G, rfl, HOwn.out, HB3.out⟩
end Go.Proofs.Ytgohhlngnnmknaa
/- slices.Insert of one entry where there is room: the others are moved up. -/
namespace Go.Proofs.Ytgohhlngnnmknaa
open Go.RowKit
set_option linter.unusedVariables false

set_option maxHeartbeats 1600000 in
set_option maxRecDepth 1000000 in
theorem insert_shift (g q n i c B : Nat) (ys : List En) (y : En) (w : World) (hi : i < n) (hn : n ≤ 1000000) (hc : n < c) (hl : ys.length = n) (h : w.ownsRow B 85 3 (.slice (some ⟨g, 0, none⟩) n c) n (rowc ys)) (hqg : q ≠ g)
    (hq : w.heap[q]? = some (.cells #[.slice y.ka y.e.key.length y.kc, .slice y.va y.e.val.length y.vc, .bool y.e.del] 85 (0, 0))) :
    Calls Try.prog 84 #[.slice (some ⟨g, 0, none⟩) n c, .int .i64 (i : Int), .slice (some ⟨q, 0, none⟩) 1 1] w fun e w' => e = .returned (.slice (some ⟨g, 0, none⟩) (n + 1) c) ∧ w'.ownsRow B 85 3 (.slice (some ⟨g, 0, none⟩) (n + 1) c) (n + 1) (rowc (ys.take i ++ y :: ys.drop i)) ∧ w.grownBy w' (some g) := by
  obtain ⟨i0, hi0, hz0, hzs, hzb⟩ := info_parts Try.infoE
  have hcell := h.cells (g := g) rfl
  obtain ⟨cur, hgB, hg, hcm, hcs, htk⟩ : ∃ cur : Array Value, B ≤ g ∧ w.heap[g]? = some (.cells cur 85 (0, 0)) ∧ c ≤ maxLen ∧ cur.size = c * 3 ∧ cur.toList.take (n * 3) = rowc ys := by
    rcases h.2 with ⟨e, _⟩ | ⟨g', cap, cur, e, hb, hg, hnc, hcm, hcs, htk⟩
    · cases e
    · simp only [Value.slice.injEq, Option.some.injEq, Addr.mk.injEq, and_true, true_and] at e
      obtain ⟨rfl, rfl⟩ := e
      exact ⟨cur, hb, hg, hcm, hcs, htk⟩
  have hsz3 : (Try.prog.info? 85).map (·.size) = some 3 := by rw [hi0]; simp [hzs]
  have hCl : (rowc (ys.drop i)).length = (n - i) * 3 := by rw [rowc_len, List.length_drop, hl]
  have hAl : (rowc (ys.take i)).length = i * 3 := by rw [rowc_len, List.length_take]; omega
  have hA : cur.toList.take (i * 3) = rowc (ys.take i) := by
    have : cur.toList.take (i * 3) = (cur.toList.take (n * 3)).take (i * 3) := by rw [List.take_take, Nat.min_eq_left (by omega)]
    rw [this, htk]
    conv => lhs; rw [← List.take_append_drop i ys, rowc_app]
    exact List.take_left' hAl
  have hov : ∀ W : World, W.heap = w.heap → (Extern.SlicesOverlaps.overlaps #[30, 30] #[4] #[.slice (some ⟨q, 0, none⟩) 1 1, .slice (some ⟨g, (i + 1) * 3, none⟩) (n + 1 - (i + 1)) (c - (i + 1))]).run Try.prog W = .ok (.bool false) W := fun W hW => by
    have hz : ∀ w, (Go.sizeOf 85).run Try.prog w = .ok 3 w := fun w => by simp [sizeOf, typeInfo, hi0, hzs]
    refine Lib.run_overlaps_apart (P := Try.prog) W 30 4 85 Try.underlying30 3 hz ⟨q, 0, none⟩ ⟨g, (i + 1) * 3, none⟩ 1 1 (n + 1 - (i + 1)) (c - (i + 1)) hqg 85 85 3 (c * 3) ?_ ?_ (by omega) ?_ ?_
    · simp [World.shape?, hW, hq]
    · simp [World.shape?, hW, hg, hcs]
    · simp [World.frozen?, hW, hq]
    · simp [World.frozen?, hW, hq]
  obtain ⟨R2, hR2⟩ : ∃ R2 : Array Value, R2 = (cur.toList.take ((i + 1) * 3) ++ rowc (ys.drop i) ++ cur.toList.drop ((i + 1) * 3 + (rowc (ys.drop i)).length)).toArray := ⟨_, rfl⟩
  have run1 := run_copy_row3 (P := Try.prog) w.drew 30 30 3 85 g ((i + 1) * 3) (n + 1 - (i + 1)) (c - (i + 1)) ⟨g, i * 3, none⟩ (n + 1 - i) (c - i) cur 85 (rowc (ys.drop i)) Try.underlying30 hsz3 hg (n - i) (by simp only [Nat.min_def]; split <;> omega) hCl (fun j v hj => by rw [Addr.add_lit]; rw [rowc_drop, List.getElem?_drop] at hj; have := hcell _ v hj; rw [Addr.add_lit] at this; simpa using this) (by rw [hcs, hCl]; omega) (rowc_one_cell _)
  rw [← hR2] at run1
  obtain ⟨W2, hW2⟩ : ∃ W2, W2 = w.drew.setRow g R2 := ⟨_, rfl⟩
  have hg2 : W2.heap[g]? = some (.cells R2 85 (0, 0)) := by rw [hW2]; exact setRow_heap w.drew g _ _ _ _ hg
  rw [← hW2] at run1
  have hRs2 : R2.size = c * 3 := by
    rw [hR2, List.size_toArray]
    simp only [List.length_append, List.length_take, List.length_drop, Array.length_toList, hcs, hCl]
    omega
  obtain ⟨R3, hR3⟩ : ∃ R3 : Array Value, R3 = (R2.toList.take (i * 3) ++ y.cells ++ R2.toList.drop (i * 3 + y.cells.length)).toArray := ⟨_, rfl⟩
  have hqW2 : W2.heap[q]? = w.heap[q]? := by rw [hW2]; exact setRow_other _ g q _ hqg
  have hy : ∀ j v, y.cells[j]? = some v → W2.cell? ((⟨q, 0, none⟩ : Addr).add j) = some v := fun j v hj => by
    rw [Addr.add_lit, World.cell?, hqW2, hq]
    simp only [Nat.zero_add, En.cells] at hj ⊢
    simpa using hj
  have run2 := run_copy_row3 (P := Try.prog) W2 30 30 3 85 g (i * 3) (n + 1 - i) (c - i) ⟨q, 0, none⟩ 1 1 R2 85 y.cells Try.underlying30 hsz3 hg2 1 (by simp only [Nat.min_def]; split <;> omega) rfl hy (by rw [hRs2, En.cells_len]; omega) (cells_one y)
  rw [← hR3] at run2
  obtain ⟨W3, hW3⟩ : ∃ W3, W3 = W2.setRow g R3 := ⟨_, rfl⟩
  have hg3 : W3.heap[g]? = some (.cells R3 85 (0, 0)) := by rw [hW3]; exact setRow_heap W2 g _ _ _ _ hg2
  rw [← hW3] at run2
  have hown : W3.ownsRow B 85 3 (.slice (some ⟨g, 0, none⟩) (n + 1) c) (n + 1) (rowc (ys.take i ++ y :: ys.drop i)) := by
    have e : rowc (ys.take i ++ y :: ys.drop i) = rowc (ys.take i) ++ y.cells ++ rowc (ys.drop i) := by simp [rowc]
    refine ⟨by rw [e]; simp only [List.length_append, hAl, hCl, En.cells_len]; omega, .inr ⟨g, c, R3, rfl, hgB, hg3, by omega, hcm, ?_, ?_⟩⟩
    · rw [hR3, List.size_toArray]
      simp only [List.length_append, List.length_take, List.length_drop, Array.length_toList, hRs2, En.cells_len]
      omega
    · have e1 : R2.toList.take (i * 3) = rowc (ys.take i) := by
        rw [hR2, List.append_assoc, List.take_append_of_le_length (by rw [List.length_take, Array.length_toList, hcs]; omega), List.take_take, Nat.min_eq_left (by omega), hA]
      have e2 : R2.toList.drop (i * 3 + y.cells.length) = rowc (ys.drop i) ++ cur.toList.drop ((i + 1) * 3 + (rowc (ys.drop i)).length) := by
        rw [hR2, List.append_assoc]
        exact List.drop_left' (by rw [List.length_take, Array.length_toList, hcs, En.cells_len]; omega)
      rw [hR3, e, e1, e2, ← List.append_assoc]
      exact List.take_left' (by simp only [List.length_append, hAl, hCl, En.cells_len]; omega)
  have hgrow : w.grownBy W3 (some g) := by
    rw [hW3, hW2]
    exact ⟨rfl, rfl, rfl, by simp [World.setRow], fun k _ hk => (setRow_other _ g k _ (fun e => hk (by rw [e]))).trans (setRow_other _ g k _ (fun e => hk (by rw [e])))⟩
  have HOwn := hide hown
  have HGr := hide hgrow
  have hov1 := hov w rfl
  have en : n + 1 - (i + 1) = n - i := by omega
  rw [en] at hov1 run1
  clear hown hgrow hR3 hW3 hg3 hg2 hRs2 hqW2 hy hR2 hA hcell hCl hAl htk hcs hg hq hov h hW2
  have c1 : (0 : Int) ≤ (i : Int) := by omega
  have c2 : (i : Int) ≤ (n : Int) := by omega
  have c3 : ¬ ((i : Int) = (n : Int)) := by omega
  have c4 : ¬ ((c : Int) < (n : Int) + 1) := by omega
  have c5 : ((n : Int) + 1).toNat = n + 1 := by omega
  have c6 : (0 : Int) ≤ (n : Int) + 1 := by omega
  have c7 : (n : Int) + 1 ≤ (c : Int) := by omega
  have c8 : ((i : Int) + 1).toNat = i + 1 := by omega
  have c9 : (0 : Int) ≤ (i : Int) + 1 := by omega
  have c10 : (i : Int) + 1 ≤ (n : Int) + 1 := by omega
  have c11 : (i : Int) ≤ (n : Int) + 1 := by omega
  have c12 : ¬ (c = i + 1) := by omega
  have c13 : ¬ (i + 1 = c) := by omega
  have c14 : ¬ (c = i) := by omega
  have c15 : ¬ (i = c) := by omega
  have c16 : IntKind.i64.wrap ((i : Int) + 1) = (i : Int) + 1 := by rw [IntKind.wrap_i64] <;> omega
  have c17 : IntKind.i64.wrap ((n : Int) + 1) = (n : Int) + 1 := by rw [IntKind.wrap_i64] <;> omega
  have c18 : i + 1 ≤ n + 1 := by omega
  have c19 : i ≤ n + 1 := by omega
  have c20 : ¬ c ≤ i + 1 := by omega
  have c21 : ¬ c ≤ i := by omega
  go_enter Try.func84, Try.ntmps84
  go_wp2
  rw [run_callFunc_extern Try.func94 (by kernel_rfl) (by kernel_rfl) (by kernel_rfl) (e := Extern.SlicesOverlaps.overlaps #[30, 30] #[4]) (by kernel_rfl), hov1]
  simp only [Result.andThen]
  rw [Oper.upon_value]
  go_wp2
  go_region_with (fail)
  go_wp2
  go_ret
  exact ⟨rfl, HOwn.out, HGr.out⟩
end Go.Proofs.Ytgohhlngnnmknaa
