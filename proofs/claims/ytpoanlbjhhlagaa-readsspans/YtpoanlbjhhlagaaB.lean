/- Memory that is owned by some blocks: what stays as it was, and rows of more than one cell. -/
import Derived.Test.YtpoanlbjhhlagaaA
import Derived.Test.YtpoanlbjhhlagaaRows
import Derived.Test.YtpoanlbjhhlagaaChecked
import Derived.Deep.MidRow
import Derived.Maps.Own
import Derived.Maps.OwnSet
import Derived.Maps.AppendAt
namespace Go.Proofs.Ytpoanlbjhhlagaa
open Go.RowKit Go.Maps
set_option linter.unusedVariables false

theorem flatten_len {n : Nat} : ∀ (L : List (List Value)), (∀ s ∈ L, s.length = n) → L.flatten.length = L.length * n
  | [], _ => by simp
  | s :: L, h => by rw [List.flatten_cons, List.length_append, h s (by simp), flatten_len L (fun t ht => h t (by simp [ht])), List.length_cons, Nat.add_mul]; omega
theorem flatten_at {n : Nat} : ∀ (L : List (List Value)), (∀ s ∈ L, s.length = n) → ∀ (i : Nat) (s : List Value), L[i]? = some s → ∀ j v, s[j]? = some v → L.flatten[i * n + j]? = some v
  | [], _, i, s, h, _, _, _ => by simp at h
  | t :: L, h, 0, s, hs, j, v, hv => by
    simp at hs
    subst hs
    rw [List.flatten_cons, List.getElem?_append_left (by have := (List.getElem?_eq_some_iff.1 hv).1; omega)]
    simpa using hv
  | t :: L, h, i + 1, s, hs, j, v, hv => by
    have ht := h t (by simp)
    rw [List.flatten_cons, List.getElem?_append_right (by rw [ht, Nat.add_mul]; omega), ht, show (i + 1) * n + j - n = i * n + j by rw [Nat.add_mul]; omega]
    exact flatten_at L (fun s hs => h s (by simp [hs])) i s (by simpa using hs) j v hv
theorem flatten_set {n : Nat} : ∀ (L : List (List Value)), (∀ s ∈ L, s.length = n) → ∀ (i : Nat) (s : List Value), s.length = n → i < L.length → (L.set i s).flatten = L.flatten.take (i * n) ++ s ++ L.flatten.drop (i * n + n)
  | [], _, i, s, _, h => by simp at h
  | t :: L, h, 0, s, hs, _ => by
    have ht := h t (by simp)
    simp only [List.set_cons_zero, List.flatten_cons, Nat.zero_mul, List.take_zero, List.nil_append, Nat.zero_add]
    rw [List.drop_append_of_le_length (by omega), List.drop_of_length_le (by omega), List.nil_append]
  | t :: L, h, i + 1, s, hs, hi => by
    have ht := h t (by simp)
    simp only [List.length_cons] at hi
    simp only [List.set_cons_succ, List.flatten_cons]
    rw [flatten_set L (fun s hs => h s (by simp [hs])) i s hs (by omega)]
    rw [List.take_append, List.take_of_length_le (l := t) (by rw [ht, Nat.add_mul]; omega), ht, show (i + 1) * n - n = i * n by rw [Nat.add_mul]; omega]
    rw [List.drop_append, List.drop_of_length_le (l := t) (by rw [ht, Nat.add_mul]; omega), ht, show (i + 1) * n + n - n = i * n + n by rw [Nat.add_mul]; omega]
    simp
/-- all but the blocks of O stays as it was. -/
structure Mv (O : Nat → Prop) (w w' : World) : Prop where
  os : w'.os = w.os
  tape : w'.tape = w.tape
  output : w'.output = w.output
  size : w.heap.size ≤ w'.heap.size
  block : ∀ k, k < w.heap.size → ¬ O k → w'.heap[k]? = w.heap[k]?
/-- .. and what is owned behind it was owned, or is new. -/
structure Go1 (O : Nat → Prop) (w : World) (O' : Nat → Prop) (w' : World) : Prop where
  mv : Mv O w w'
  own : ∀ k, O' k → O k ∨ w.heap.size ≤ k
theorem Mv.refl (O : Nat → Prop) (w : World) : Mv O w w := ⟨rfl, rfl, rfl, Nat.le_refl _, fun _ _ _ => rfl⟩
theorem Go1.refl (O : Nat → Prop) (w : World) : Go1 O w O w := ⟨Mv.refl O w, fun _ h => .inl h⟩
theorem Go1.trans {O O1 O2 : Nat → Prop} {w w1 w2 : World} (h : Go1 O w O1 w1) (k : Go1 O1 w1 O2 w2) : Go1 O w O2 w2 :=
  ⟨⟨k.mv.os.trans h.mv.os, k.mv.tape.trans h.mv.tape, k.mv.output.trans h.mv.output, Nat.le_trans h.mv.size k.mv.size, fun i hi hn => by
    rw [k.mv.block i (Nat.lt_of_lt_of_le hi h.mv.size) (fun ho => (h.own i ho).elim hn (fun hl => by omega)), h.mv.block i hi hn]⟩,
   fun i hi => (k.own i hi).elim (h.own i) (fun hl => .inr (Nat.le_trans h.mv.size hl))⟩
theorem Go1.of_below {O : Nat → Prop} {w w' : World} (h : Below w.heap.size w w') : Go1 O w O w' := ⟨⟨h.os, h.tape, h.output, h.size, fun k hk _ => h.block k hk⟩, fun _ h => .inl h⟩
theorem Mv.below {O : Nat → Prop} {w w' : World} {B : Nat} (h : Mv O w w') (hB : B ≤ w.heap.size) (hO : ∀ k, O k → B ≤ k) : Below B w w' :=
  ⟨h.os, h.tape, h.output, h.size, fun k hk => h.block k (by omega) (fun ho => by have := hO k ho; omega)⟩
theorem set_other (w : World) (p i : Nat) (v : Value) (k : Nat) (hk : k ≠ p) : (w.setCell ⟨p, i, none⟩ v).heap[k]? = w.heap[k]? := Below.heap_setCell _ _ _ _ (fun e => hk e)
theorem Mv.trans' {O : Nat → Prop} {a b c : World} (h : Mv O a b) (k : Mv O b c) : Mv O a c :=
  ⟨k.os.trans h.os, k.tape.trans h.tape, k.output.trans h.output, Nat.le_trans h.size k.size, fun i hi hn => (k.block i (Nat.lt_of_lt_of_le hi h.size) hn).trans (h.block i hi hn)⟩
theorem Mv.drew {O : Nat → Prop} {w w' : World} (h : Mv O w w') : Mv O w w'.drew := ⟨h.os, h.tape, h.output, h.size, h.block⟩
theorem Go1.drew {O O' : Nat → Prop} {w w' : World} (h : Go1 O w O' w') : Go1 O w O' w'.drew := ⟨h.mv.drew, h.own⟩
theorem Mv.setB {O : Nat → Prop} {w w' : World} (h : Mv O w w') {b : Nat} (hb : O b) (i : Nat) (v : Value) : Mv O w (w'.setCell ⟨b, i, none⟩ v) :=
  ⟨h.os, h.tape, h.output, by simpa [World.setCell] using h.size, fun k hk ho => by
    have hne : k ≠ b := fun e => ho (by rw [e]; exact hb)
    rw [set_other _ _ _ _ _ hne]
    exact h.block k hk ho⟩
theorem Mv.mono {O O' : Nat → Prop} {w w' : World} (h : Mv O w w') (ho : ∀ k, O k → O' k) : Mv O' w w' := ⟨h.os, h.tape, h.output, h.size, fun k hk hn => h.block k hk fun x => hn (ho k x)⟩
theorem Mv.of_below {O : Nat → Prop} {w w' : World} (h : Below w.heap.size w w') : Mv O w w' := ⟨h.os, h.tape, h.output, h.size, fun k hk _ => h.block k hk⟩
theorem Mv.alloc {O : Nat → Prop} {w w' : World} (h : Mv O w w') (o : Obj) : Mv O w (w'.alloc o) := by
  have hb := below_alloc w' o
  exact ⟨hb.os.trans h.os, hb.tape.trans h.tape, hb.output.trans h.output, Nat.le_trans h.size hb.size, fun k hk ho => (hb.block k (Nat.lt_of_lt_of_le hk h.size)).trans (h.block k hk ho)⟩
theorem Mv.grown {O : Nat → Prop} {w w1 w2 : World} {r : Option Nat} (h : Mv O w w1) (hg : w1.grownBy w2 r) (hr : ∀ k, r = some k → O k ∨ w.heap.size ≤ k) : Mv O w w2 :=
  ⟨hg.os.trans h.os, hg.tape.trans h.tape, hg.output.trans h.output, Nat.le_trans h.size hg.size, fun k hk ho => by
    rw [hg.block k (Nat.lt_of_lt_of_le hk h.size) (fun e => (hr k e.symm).elim ho (fun hl => by omega))]
    exact h.block k hk ho⟩
theorem step_of {P : Program} {ops : Array Oper} {w : World} {o : Oper} {a : Act} {K : Act → World → Prop} {Q : Exit → Act → World → Prop} {E : Prop} (hgd : o.guard = none) (h : o.wp P a w K Q) :
    if Region.wanted o (yielded ops a.tmps) = true then Oper.wp P o a w K Q else E := by
  have hw : Region.wanted o (yielded ops a.tmps) = true := by simp [Region.wanted, hgd]
  rw [if_pos hw]
  exact h
theorem wp_append_at {P : Program} {w : World} {o : Oper} {a : Act} {K : Act → World → Prop} {Q : Exit → Act → World → Prop} (s x : Operand) (t e : TypeId) (ho : o.op = .call { callee := .builtin .append, args := #[s, x], argTypes := #[t, t] })
    (base : Nat) (i : TypeInfo) (z : Value) (size bytes : Nat) (ht : P.underlying t = some (.slice e)) (hi : P.info? e = some i) (hz : i.zero = some z) (hsize : i.size = size) (hby : i.bytes = bytes) (hzs : z.cells.size = size) (hsz : 0 < size)
    (v : Value) (n : Nat) (xs : List Value) (hs : a.eval s = v) (hown : w.ownsRow base e size v n xs) (ad : Addr) (m c : Nat) (news : List Value) (hx : a.eval x = .slice (some ad) m c) (hl : news.length = m * size) (hnews : ∀ j u, news[j]? = some u → w.cell? (ad.add j) = some u) (h1 : ∀ u ∈ news, u.oneCell' = true)
    (h63 : n + m ≤ maxLen) (hbytes : (n + m) * bytes ≤ 140737488355328) (hbase : base ≤ w.heap.size)
    (h : ∀ v' w', w'.ownsRow base e size v' (n + m) (xs ++ news) → w.grownBy w' v.ownBlock → (v'.ownBlock = v.ownBlock ∨ v'.ownBlock = some w.heap.size) → K (a.put o.dst v') w') : o.wp P a w K Q := by
  obtain ⟨v', w', hr, h2, h3, _, h4⟩ := run_append_own_at (P := P) w base t o.type e i z size bytes ht hi hz hsize hby hzs hsz v n xs hown ad m c news hl hnews h1 h63 hbytes hbase
  unfold Oper.wp execOp
  simp only [ho, resolve, invoke, builtin, Sem.run_bind, Sem.run_pure, Result.andThen_ok, List.map_toArray, List.map_cons, List.map_nil, hs, hx, hr]
  exact h v' w' h2 h3 h4
theorem row_shape0 {w : World} {base e size : Nat} {v : Value} {n : Nat} {xs : List Value} (h : w.ownsRow base e size v n xs) : ∃ a cap, v = .slice a n cap := by
  rcases h.2 with ⟨e, h0⟩ | ⟨g, cap, cur, e, _⟩
  · exact ⟨_, _, by rw [h0]; exact e⟩
  · exact ⟨_, _, e⟩
end Go.Proofs.Ytpoanlbjhhlagaa
