/- Memory that is owned by some blocks: what stays as it was, and rows of more than one cell. -/
import Derived.Test.YtgohhlngnnmknaaE
import Derived.Test.YtgohhlngnnmknaaRows
import Derived.Test.YtgohhlngnnmknaaChecked
import Derived.Deep.MidRow
import Derived.Maps.Own
import Derived.Maps.OwnSet
import Derived.Maps.AppendAt
import Derived.Test.YtgohhlngnnmknaaIC
namespace Go.Proofs.Ytgohhlngnnmknaa
open Go.RowKit Go.Maps
set_option linter.unusedVariables false

theorem flatten_len {n : Nat} : ∀ (L : List (List Value)), (∀ s ∈ L, s.length = n) → L.flatten.length = L.length * n
  | [], _ => by simp
  | s :: L, h => by rw [List.flatten_cons, List.length_append, h s (by simp), flatten_len L (fun t ht => h t (by simp [ht])), List.length_cons, Nat.add_mul]; omega
theorem flatten_at {n : Nat} : ∀ (L : List (List Value)), (∀ s ∈ L, s.length = n) → ∀ (i : Nat) (s : List Value), L[i]? = some s → ∀ j v, s[j]? = some v → L.flatten[i * n + j]? = some v
  | [], _, i, s, h, _, _, _ => by simp at h
  | t :: L, h, 0, s, hs, j, v, hv => by
    simp at hs
    subst hs
    rw [List.flatten_cons, List.getElem?_append_left (by have := (List.getElem?_eq_some_iff.1 hv).1; omega)]
    simpa using hv
  | t :: L, h, i + 1, s, hs, j, v, hv => by
    have ht := h t (by simp)
    rw [List.flatten_cons, List.getElem?_append_right (by rw [ht, Nat.add_mul]; omega), ht, show (i + 1) * n + j - n = i * n + j by rw [Nat.add_mul]; omega]
    exact flatten_at L (fun s hs => h s (by simp [hs])) i s (by simpa using hs) j v hv
theorem flatten_set {n : Nat} : ∀ (L : List (List Value)), (∀ s ∈ L, s.length = n) → ∀ (i : Nat) (s : List Value), s.length = n → i < L.length → (L.set i s).flatten = L.flatten.take (i * n) ++ s ++ L.flatten.drop (i * n + n)
  | [], _, i, s, _, h => by simp at h
  | t :: L, h, 0, s, hs, _ => by
    have ht := h t (by simp)
    simp only [List.set_cons_zero, List.flatten_cons, Nat.zero_mul, List.take_zero, List.nil_append, Nat.zero_add]
    rw [List.drop_append_of_le_length (by omega), List.drop_of_length_le (by omega), List.nil_append]
  | t :: L, h, i + 1, s, hs, hi => by
    have ht := h t (by simp)
    simp only [List.length_cons] at hi
    simp only [List.set_cons_succ, List.flatten_cons]
    rw [flatten_set L (fun s hs => h s (by simp [hs])) i s hs (by omega)]
    rw [List.take_append, List.take_of_length_le (l := t) (by rw [ht, Nat.add_mul]; omega), ht, show (i + 1) * n - n = i * n by rw [Nat.add_mul]; omega]
    rw [List.drop_append, List.drop_of_length_le (l := t) (by rw [ht, Nat.add_mul]; omega), ht, show (i + 1) * n + n - n = i * n + n by rw [Nat.add_mul]; omega]
    simp
/-- all but the blocks of O stays as it was. -/
structure Mv (O : Nat → Prop) (w w' : World) : Prop where
  os : w'.os = w.os
  tape : w'.tape = w.tape
  output : w'.output = w.output
  size : w.heap.size ≤ w'.heap.size
  block : ∀ k, k < w.heap.size → ¬ O k → w'.heap[k]? = w.heap[k]?
/-- .. and what is owned behind it was owned, or is new. -/
structure Go1 (O : Nat → Prop) (w : World) (O' : Nat → Prop) (w' : World) : Prop where
  mv : Mv O w w'
  own : ∀ k, O' k → O k ∨ w.heap.size ≤ k
theorem Mv.refl (O : Nat → Prop) (w : World) : Mv O w w := ⟨rfl, rfl, rfl, Nat.le_refl _, fun _ _ _ => rfl⟩
theorem Go1.refl (O : Nat → Prop) (w : World) : Go1 O w O w := ⟨Mv.refl O w, fun _ h => .inl h⟩
theorem Go1.trans {O O1 O2 : Nat → Prop} {w w1 w2 : World} (h : Go1 O w O1 w1) (k : Go1 O1 w1 O2 w2) : Go1 O w O2 w2 :=
  ⟨⟨k.mv.os.trans h.mv.os, k.mv.tape.trans h.mv.tape, k.mv.output.trans h.mv.output, Nat.le_trans h.mv.size k.mv.size, fun i hi hn => by
    rw [k.mv.block i (Nat.lt_of_lt_of_le hi h.mv.size) (fun ho => (h.own i ho).elim hn (fun hl => by omega)), h.mv.block i hi hn]⟩,
   fun i hi => (k.own i hi).elim (h.own i) (fun hl => .inr (Nat.le_trans h.mv.size hl))⟩
theorem Go1.of_below {O : Nat → Prop} {w w' : World} (h : Below w.heap.size w w') : Go1 O w O w' := ⟨⟨h.os, h.tape, h.output, h.size, fun k hk _ => h.block k hk⟩, fun _ h => .inl h⟩
theorem Mv.below {O : Nat → Prop} {w w' : World} {B : Nat} (h : Mv O w w') (hB : B ≤ w.heap.size) (hO : ∀ k, O k → B ≤ k) : Below B w w' :=
  ⟨h.os, h.tape, h.output, h.size, fun k hk => h.block k (by omega) (fun ho => by have := hO k ho; omega)⟩
theorem set_other (w : World) (p i : Nat) (v : Value) (k : Nat) (hk : k ≠ p) : (w.setCell ⟨p, i, none⟩ v).heap[k]? = w.heap[k]? := Below.heap_setCell _ _ _ _ (fun e => hk e)
theorem Mv.trans' {O : Nat → Prop} {a b c : World} (h : Mv O a b) (k : Mv O b c) : Mv O a c :=
  ⟨k.os.trans h.os, k.tape.trans h.tape, k.output.trans h.output, Nat.le_trans h.size k.size, fun i hi hn => (k.block i (Nat.lt_of_lt_of_le hi h.size) hn).trans (h.block i hi hn)⟩
theorem Mv.drew {O : Nat → Prop} {w w' : World} (h : Mv O w w') : Mv O w w'.drew := ⟨h.os, h.tape, h.output, h.size, h.block⟩
theorem Go1.drew {O O' : Nat → Prop} {w w' : World} (h : Go1 O w O' w') : Go1 O w O' w'.drew := ⟨h.mv.drew, h.own⟩
theorem Mv.setB {O : Nat → Prop} {w w' : World} (h : Mv O w w') {b : Nat} (hb : O b) (i : Nat) (v : Value) : Mv O w (w'.setCell ⟨b, i, none⟩ v) :=
  ⟨h.os, h.tape, h.output, by simpa [World.setCell] using h.size, fun k hk ho => by
    have hne : k ≠ b := fun e => ho (by rw [e]; exact hb)
    rw [set_other _ _ _ _ _ hne]
    exact h.block k hk ho⟩
theorem Mv.mono {O O' : Nat → Prop} {w w' : World} (h : Mv O w w') (ho : ∀ k, O k → O' k) : Mv O' w w' := ⟨h.os, h.tape, h.output, h.size, fun k hk hn => h.block k hk fun x => hn (ho k x)⟩
theorem Mv.of_below {O : Nat → Prop} {w w' : World} (h : Below w.heap.size w w') : Mv O w w' := ⟨h.os, h.tape, h.output, h.size, fun k hk _ => h.block k hk⟩
theorem Mv.alloc {O : Nat → Prop} {w w' : World} (h : Mv O w w') (o : Obj) : Mv O w (w'.alloc o) := by
  have hb := below_alloc w' o
  exact ⟨hb.os.trans h.os, hb.tape.trans h.tape, hb.output.trans h.output, Nat.le_trans h.size hb.size, fun k hk ho => (hb.block k (Nat.lt_of_lt_of_le hk h.size)).trans (h.block k hk ho)⟩
theorem Mv.grown {O : Nat → Prop} {w w1 w2 : World} {r : Option Nat} (h : Mv O w w1) (hg : w1.grownBy w2 r) (hr : ∀ k, r = some k → O k ∨ w.heap.size ≤ k) : Mv O w w2 :=
  ⟨hg.os.trans h.os, hg.tape.trans h.tape, hg.output.trans h.output, Nat.le_trans h.size hg.size, fun k hk ho => by
    rw [hg.block k (Nat.lt_of_lt_of_le hk h.size) (fun e => (hr k e.symm).elim ho (fun hl => by omega))]
    exact h.block k hk ho⟩
theorem step_of {P : Program} {ops : Array Oper} {w : World} {o : Oper} {a : Act} {K : Act → World → Prop} {Q : Exit → Act → World → Prop} {E : Prop} (hgd : o.guard = none) (h : o.wp P a w K Q) :
    if Region.wanted o (yielded ops a.tmps) = true then Oper.wp P o a w K Q else E := by
  have hw : Region.wanted o (yielded ops a.tmps) = true := by simp [Region.wanted, hgd]
  rw [if_pos hw]
  exact h
theorem wp_append_at {P : Program} {w : World} {o : Oper} {a : Act} {K : Act → World → Prop} {Q : Exit → Act → World → Prop} (s x : Operand) (t e : TypeId) (ho : o.op = .call { callee := .builtin .append, args := #[s, x], argTypes := #[t, t] })
    (base : Nat) (i : TypeInfo) (z : Value) (size bytes : Nat) (ht : P.underlying t = some (.slice e)) (hi : P.info? e = some i) (hz : i.zero = some z) (hsize : i.size = size) (hby : i.bytes = bytes) (hzs : z.cells.size = size) (hsz : 0 < size)
    (v : Value) (n : Nat) (xs : List Value) (hs : a.eval s = v) (hown : w.ownsRow base e size v n xs) (ad : Addr) (m c : Nat) (news : List Value) (hx : a.eval x = .slice (some ad) m c) (hl : news.length = m * size) (hnews : ∀ j u, news[j]? = some u → w.cell? (ad.add j) = some u) (h1 : ∀ u ∈ news, u.oneCell' = true)
    (h63 : n + m ≤ maxLen) (hbytes : (n + m) * bytes ≤ 140737488355328) (hbase : base ≤ w.heap.size)
    (h : ∀ v' w', w'.ownsRow base e size v' (n + m) (xs ++ news) → w.grownBy w' v.ownBlock → (v'.ownBlock = v.ownBlock ∨ v'.ownBlock = some w.heap.size) → K (a.put o.dst v') w') : o.wp P a w K Q := by
  obtain ⟨v', w', hr, h2, h3, _, h4⟩ := run_append_own_at (P := P) w base t o.type e i z size bytes ht hi hz hsize hby hzs hsz v n xs hown ad m c news hl hnews h1 h63 hbytes hbase
  unfold Oper.wp execOp
  simp only [ho, resolve, invoke, builtin, Sem.run_bind, Sem.run_pure, Result.andThen_ok, List.map_toArray, List.map_cons, List.map_nil, hs, hx, hr]
  exact h v' w' h2 h3 h4
theorem row_shape0 {w : World} {base e size : Nat} {v : Value} {n : Nat} {xs : List Value} (h : w.ownsRow base e size v n xs) : ∃ a cap, v = .slice a n cap := by
  rcases h.2 with ⟨e, h0⟩ | ⟨g, cap, cur, e, _⟩
  · exact ⟨_, _, by rw [h0]; exact e⟩
  · exact ⟨_, _, e⟩
end Go.Proofs.Ytgohhlngnnmknaa
/- slices.Insert of one entry, anywhere, whether there is room or not. -/
namespace Go.Proofs.Ytgohhlngnnmknaa
open Go.RowKit Go.Maps
set_option linter.unusedVariables false

theorem row_mono {A B t m : Nat} {w : World} {v : Value} {n : Nat} {cs : List Value} (h : w.ownsRow A t m v n cs) (hb : B ≤ A) : w.ownsRow B t m v n cs := by
  refine ⟨h.1, ?_⟩
  rcases h.2 with h2 | ⟨g, cap, cur, e, hg, r⟩
  · exact .inl h2
  · exact .inr ⟨g, cap, cur, e, Nat.le_trans hb hg, r⟩
theorem grown_of_below {w w' : World} {r : Option Nat} (h : Below w.heap.size w w') : w.grownBy w' r := ⟨h.os, h.tape, h.output, h.size, fun k hk _ => h.block k hk⟩
theorem box_at {w : World} {q : Nat} {y : En} (hq : w.heap[q]? = some (.cells #[.slice y.ka y.e.key.length y.kc, .slice y.va y.e.val.length y.vc, .bool y.e.del] 85 (0, 0))) : ∀ j u, y.cells[j]? = some u → w.cell? ((⟨q, 0, none⟩ : Addr).add j) = some u := fun j u hj => by
  rw [Addr.add_lit, World.cell?, hq]
  simp only [Nat.zero_add, En.cells] at hj ⊢
  simpa using hj
set_option maxHeartbeats 1600000 in
set_option maxRecDepth 1000000 in
theorem insert_end (v : Value) (q n B : Nat) (ys : List En) (y : En) (w : World) (hn : n ≤ 1000000) (hl : ys.length = n) (h : w.ownsRow B 85 3 v n (rowc ys)) (hB : B ≤ w.heap.size)
    (hq : w.heap[q]? = some (.cells #[.slice y.ka y.e.key.length y.kc, .slice y.va y.e.val.length y.vc, .bool y.e.del] 85 (0, 0))) :
    Calls Try.prog 84 #[v, .int .i64 (n : Int), .slice (some ⟨q, 0, none⟩) 1 1] w fun e w' => ∃ v', e = .returned v' ∧ w'.ownsRow B 85 3 v' (n + 1) (rowc (ys ++ [y])) ∧ w.grownBy w' v.ownBlock ∧ (v'.ownBlock = v.ownBlock ∨ ∃ k, v'.ownBlock = some k ∧ w.heap.size ≤ k) := by
  obtain ⟨i0, hi0, hz0, hzs, hzb⟩ := info_parts Try.infoE
  obtain ⟨v', w', run1, hown, hg, _, hloc⟩ := run_append_own_at (P := Try.prog) w B 30 30 85 i0 _ 3 56 Try.underlying30 hi0 hz0 hzs hzb (by rfl) (by omega) v n (rowc ys) h ⟨q, 0, none⟩ 1 1 y.cells (by rfl) (box_at hq) (cells_one y) (by unfold maxLen; omega) (by omega) hB
  rw [← rowc_one y, ← rowc_app] at hown
  obtain ⟨a, c, rfl, h1, h2, h3, h4⟩ := row_shape h
  obtain ⟨a2, c2, rfl, _⟩ := row_shape hown
  have HG := hide hg
  have HO := hide hown
  have HL : Hid ((Value.slice a2 (n + 1) c2).ownBlock = (Value.slice a n c).ownBlock ∨ ∃ k, (Value.slice a2 (n + 1) c2).ownBlock = some k ∧ w.heap.size ≤ k) := hide (hloc.imp id fun e => ⟨_, e, Nat.le_refl _⟩)
  clear hown hg hloc h hq
  have c1 : (0 : Int) ≤ (n : Int) := by omega
  have c2 : ¬ (n : Int) < 0 := by omega
  rcases h4 with rfl | ⟨g, rfl⟩
  · obtain ⟨rfl, rfl⟩ := h3 rfl
    go_enter Try.func84, Try.ntmps84
    go_wp2_with (at_builtin; (refine wpList_run_append (by rfl) (.tmp 23) (.tmp 24) 30 (by rfl) (by rfl) (by rfl) run1 ?_))
    go_ret
    exact ⟨_, rfl, HO.out, HG.out, HL.out⟩
  · clear h3
    go_enter Try.func84, Try.ntmps84
    go_wp2_with (at_builtin; (refine wpList_run_append (by rfl) (.tmp 23) (.tmp 24) 30 (by rfl) (by rfl) (by rfl) run1 ?_))
    all_goals
      go_ret
      exact ⟨_, rfl, HO.out, HG.out, HL.out⟩
theorem insert_any (v : Value) (q n i B : Nat) (ys : List En) (y : En) (w : World) (hi : i ≤ n) (hn : n ≤ 1000000) (hl : ys.length = n) (h : w.ownsRow B 85 3 v n (rowc ys)) (hB : B ≤ w.heap.size) (hqv : v.ownBlock ≠ some q)
    (hq : w.heap[q]? = some (.cells #[.slice y.ka y.e.key.length y.kc, .slice y.va y.e.val.length y.vc, .bool y.e.del] 85 (0, 0))) :
    Calls Try.prog 84 #[v, .int .i64 (i : Int), .slice (some ⟨q, 0, none⟩) 1 1] w fun e w' => ∃ v', e = .returned v' ∧ w'.ownsRow B 85 3 v' (n + 1) (rowc (ys.take i ++ y :: ys.drop i)) ∧ w.grownBy w' v.ownBlock ∧ (v'.ownBlock = v.ownBlock ∨ ∃ k, v'.ownBlock = some k ∧ w.heap.size ≤ k) := by
  by_cases h1 : i < n
  · obtain ⟨a, c, rfl, hc, _, h3, h4⟩ := row_shape h
    rcases h4 with rfl | ⟨g, rfl⟩
    · have := (h3 rfl).1; omega
    · by_cases h2 : n < c
      · refine (insert_shift g q n i c B ys y w h1 hn h2 hl h (fun e => hqv (by simp [Value.ownBlock, e])) hq).mono ?_
        rintro e w' ⟨rfl, ho, hg⟩
        exact ⟨_, rfl, ho, hg, .inl rfl⟩
      · obtain rfl : c = n := by omega
        have hcell := h.cells (g := g) rfl
        refine (insert_mid g q c i ys y w h1 hn hl (fun j u hu => by have := hcell j u hu; rwa [Addr.add_lit, Nat.zero_add] at this) (fun j u hu => by have := box_at hq j u hu; rwa [Addr.add_lit, Nat.zero_add] at this)).mono ?_
        rintro e w' ⟨G, rfl, ho, hb⟩
        exact ⟨_, rfl, row_mono ho hB, grown_of_below hb, .inr ⟨_, rfl, Nat.le_refl _⟩⟩
  · obtain rfl : i = n := by omega
    rw [List.take_of_length_le (by omega), List.drop_eq_nil_of_le (by omega)]
    exact insert_end v q i B ys y w hn hl h hB hq
end Go.Proofs.Ytgohhlngnnmknaa
/- What undoes a Put or a Delete; a buffer with all that it was. -/
namespace Go.Proofs.Ytgohhlngnnmknaa
open Go.RowKit Go.Maps
set_option linter.unusedVariables false

def ptr (p : Nat) : Value := .pointer (some ⟨p, 0, none⟩)
/-- the boxes that a function which undoes holds on to. -/
def Und1 (w : World) (p : Nat) (sv u : Value) (xs xs' : List En) : Prop := ∃ (ob bb ab i : Nat) (old : En), u = .func (.func 83) #[] #[.pointer (some ⟨ob, 0, none⟩), .pointer (some ⟨bb, 0, none⟩), .pointer (some ⟨ab, 0, none⟩)] ∧
  w.heap[ob]? = some (.cells #[.slice old.ka old.e.key.length old.kc, .slice old.va old.e.val.length old.vc, .bool old.e.del] 85 (0, 0)) ∧ w.heap[bb]? = some (.cells #[.pointer (some ⟨p, 0, none⟩)] 25 (0, 0)) ∧ w.heap[ab]? = some (.cells #[.int .i64 (i : Int)] 3 (0, 0)) ∧
  i < xs.length ∧ xs' = xs.set i old ∧ sv.ownBlock ≠ some ob
def Und2 (w : World) (p : Nat) (u : Value) (xs xs' : List En) : Prop := ∃ (bb ab i : Nat), u = .func (.func 85) #[] #[.pointer (some ⟨bb, 0, none⟩), .pointer (some ⟨ab, 0, none⟩)] ∧
  w.heap[bb]? = some (.cells #[.pointer (some ⟨p, 0, none⟩)] 25 (0, 0)) ∧ w.heap[ab]? = some (.cells #[.int .i64 (i : Int)] 3 (0, 0)) ∧
  i < xs.length ∧ xs' = xs.eraseIdx i
def Und (w : World) (p : Nat) (sv u : Value) (xs xs' : List En) : Prop := Und1 w p sv u xs xs' ∨ Und2 w p u xs xs'
/-- a buffer, with all that it was ahead of each Put and Delete. -/
structure Bh (w : World) (p B : Nat) (sv uv : Value) (xs : List En) (us : List Value) (hs : List (List En)) : Prop where
  bf : Bf w p B sv uv xs us
  len : hs.length = us.length
  und : ∀ (k : Nat) u, us[k]? = some u → ∃ a b, (hs ++ [xs])[k]? = some a ∧ (hs ++ [xs])[k + 1]? = some b ∧ Und w p sv u b a
  olds : ∀ l ∈ hs, ∀ x ∈ l, x.Own B w
section
variable {w w' : World} {p B : Nat} {sv uv sv' uv' u : Value} {xs xs' : List En} {us : List Value} {hs : List (List En)}
theorem Und.move (hb : Bf w p B sv uv xs us) (hm : Mv (Bo p sv uv) w w') (hs' : ∀ k, sv'.ownBlock = some k → sv.ownBlock = some k ∨ w.heap.size ≤ k) {ys ys' : List En} (h : Und w p sv u ys ys') : Und w' p sv' u ys ys' := by
  have st : ∀ (k : Nat) (c : Array Value) (t : TypeId), w.heap[k]? = some (.cells c t (0, 0)) → t ≠ 69 → t ≠ 1 → (t = 85 → sv.ownBlock ≠ some k) → w'.heap[k]? = some (.cells c t (0, 0)) := by
    intro k c t hk h1 h2 h3
    rw [hm.block k (lt_of_block hk) ?_]
    · exact hk
    · rintro (rfl | e | e)
      · rw [hb.blk] at hk; exact h1 (obj_type hk).symm
      · obtain ⟨_, _, c2, hc⟩ := row_at hb.said e
        rw [hc] at hk
        exact h3 (obj_type hk).symm e
      · obtain ⟨_, _, c2, hc⟩ := row_at hb.undo e
        rw [hc] at hk
        exact h2 (obj_type hk).symm
  rcases h with ⟨ob, bb, ab, i, old, e, h1, h2, h3, h4, h5, h6⟩ | ⟨bb, ab, i, e, h2, h3, h4, h5⟩
  · refine .inl ⟨ob, bb, ab, i, old, e, st _ _ _ h1 (by decide) (by decide) (fun _ => h6), st _ _ _ h2 (by decide) (by decide) (fun e => absurd e (by decide)), st _ _ _ h3 (by decide) (by decide) (fun e => absurd e (by decide)), h4, h5, fun e => ?_⟩
    rcases hs' ob e with h | h
    · exact h6 h
    · have := lt_of_block h1; omega
  · exact .inr ⟨bb, ab, i, e, st _ _ _ h2 (by decide) (by decide) (fun e => absurd e (by decide)), st _ _ _ h3 (by decide) (by decide) (fun e => absurd e (by decide)), h4, h5⟩
/-- bytes stay. -/
theorem Bf.own_move (hb : Bf w p B sv uv xs us) (hm : Mv (Bo p sv uv) w w') {x : En} (hx : x.Own B w) : x.Own B w' :=
  hx.of_block fun k hk => hm.block k (hx.lt hk) (by obtain ⟨c, hc⟩ := hx.u8 hk; exact hb.not_u8 hc)
/-- one more Put or Delete. -/
theorem Bh.more (h : Bh w p B sv uv xs us hs) (hm : Mv (Bo p sv uv) w w') (hs' : ∀ k, sv'.ownBlock = some k → sv.ownBlock = some k ∨ w.heap.size ≤ k) (hb : Bf w' p B sv' uv' xs' (us ++ [u])) (hu : Und w' p sv' u xs' xs) : Bh w' p B sv' uv' xs' (us ++ [u]) (hs ++ [xs]) := by
  refine ⟨hb, by simp [h.len], fun k v hk => ?_, fun l hl x hx => ?_⟩
  · by_cases hlt : k < us.length
    · rw [List.getElem?_append_left hlt] at hk
      obtain ⟨a, b, h1, h2, h3⟩ := h.und k v hk
      refine ⟨a, b, ?_, ?_, h3.move h.bf hm hs'⟩
      · rw [List.getElem?_append_left (by simp [h.len]; omega)]; exact h1
      · rw [List.getElem?_append_left (by simp [h.len]; omega)]; exact h2
    · have hk' : k = us.length := by
        have := (List.getElem?_eq_some_iff.1 hk).1
        simp at this; omega
      subst hk'
      simp at hk
      subst hk
      refine ⟨xs, xs', ?_, ?_, hu⟩
      · rw [List.append_assoc, List.getElem?_append_right (by rw [h.len]; omega), h.len]; simp
      · rw [List.append_assoc, List.getElem?_append_right (by rw [h.len]; omega), h.len]; simp
  · rcases List.mem_append.1 hl with hl | hl
    · exact h.bf.own_move hm (h.olds l hl x hx)
    · simp at hl; subst hl; exact h.bf.own_move hm (h.bf.each x hx)
theorem Bh.below (h : Bh w p B sv uv xs us hs) (hb : Below w.heap.size w w') : Bh w' p B sv uv xs us hs :=
  ⟨h.bf.below hb, h.len, fun k v hk => by
    obtain ⟨a, b, h1, h2, h3⟩ := h.und k v hk
    exact ⟨a, b, h1, h2, h3.move h.bf (Mv.of_below hb) fun k hk => .inl hk⟩, fun l hl x hx => (h.olds l hl x hx).below hb⟩
end
/-- the list that a change makes. -/
def putAt (xs : List En) (i : Nat) (y : En) : List En := if ther xs i y.e.key then xs.set i y else xs.take i ++ y :: xs.drop i
end Go.Proofs.Ytgohhlngnnmknaa
/- The two rows of a buffer turned. -/
namespace Go.Proofs.Ytgohhlngnnmknaa
open Go.RowKit Go.Maps
set_option linter.unusedVariables false

def ins (xs : List En) (i : Nat) (y : En) : List En := xs.take i ++ y :: xs.drop i
theorem cell_set_ne {w : World} {p q i j : Nat} {v : Value} (h : q ≠ p) : (w.setCell ⟨p, i, none⟩ v).cell? ⟨q, j, none⟩ = w.cell? ⟨q, j, none⟩ := by
  simp only [World.cell?]
  rw [Below.heap_setCell _ _ _ _ h]
theorem two_set0 {W : World} {p t : Nat} {a b u : Value} (h : W.heap[p]? = some (.cells #[a, b] t (0, 0))) : (W.setCell ⟨p, 0, none⟩ u).heap[p]? = some (.cells #[u, b] t (0, 0)) := by
  rw [heap_setCell_same W p 0 _ t _ h]; rfl
theorem two_set1 {W : World} {p t : Nat} {a b u : Value} (h : W.heap[p]? = some (.cells #[a, b] t (0, 0))) : (W.setCell ⟨p, 1, none⟩ u).heap[p]? = some (.cells #[a, u] t (0, 0)) := by
  rw [heap_setCell_same W p 1 _ t _ h]; rfl
section
variable {w w1 w4 : World} {p B : Nat} {sv uv sv' uv' : Value} {xs xs' : List En} {us us' : List Value}
theorem said_turned (hb : Bf w p B sv uv xs us) (h1 : Below w.heap.size w w1) (hg : w1.grownBy w4 sv.ownBlock) (ho : w4.ownsRow B 85 3 sv' xs'.length (rowc xs'))
    (hl : sv'.ownBlock = sv.ownBlock ∨ ∃ k, sv'.ownBlock = some k ∧ w1.heap.size ≤ k) (he : ∀ x ∈ xs', x.Own B w) :
    Bf (w4.setCell ⟨p, 0, none⟩ sv') p B sv' uv xs' us ∧ Go1 (Bo p sv uv) w (Bo p sv' uv) (w4.setCell ⟨p, 0, none⟩ sv') := by
  have hm : Mv (Bo p sv uv) w (w4.setCell ⟨p, 0, none⟩ sv') := ((Mv.of_below h1).grown hg fun k hk => .inl (.inr (.inl hk))).setB (.inl rfl) 0 sv'
  have hb1 := hb.below h1
  have hp4 : w4.heap[p]? = some (.cells #[sv, uv] 69 (0, 0)) := (hg.block p (lt_of_block hb1.blk) (fun e => hb.sne e.symm)).trans hb1.blk
  have hsp : sv'.ownBlock ≠ some p := fun e => by
    obtain ⟨_, _, c, hc⟩ := row_at ho e
    rw [hp4] at hc; have := obj_type hc; simp at this
  refine ⟨⟨two_set0 hp4, row_of_block ho fun k hk => set_other _ _ _ _ _ (fun e => hsp (by rw [← e]; exact hk)), ?_, fun x hx => hb.own_move hm (he x hx), hb.base⟩, hm, ?_⟩
  · refine row_of_block hb1.undo fun k hk => ?_
    rw [set_other _ _ _ _ _ (fun e => hb.une (by rw [← e]; exact hk))]
    exact hg.block k (row_at hb1.undo hk).2.1 (fun e => hb.sune e.symm hk)
  · rintro k (rfl | e | e)
    · exact .inl (.inl rfl)
    · rcases hl with h | ⟨k', h, hk'⟩
      · exact .inl (.inr (.inl (by rw [← h]; exact e)))
      · rw [h] at e; cases e; exact .inr (Nat.le_trans h1.size hk')
    · exact .inl (.inr (.inr e))
theorem undo_turned (hb : Bf w p B sv uv xs us) (h1 : Below w.heap.size w w1) (hg : w1.grownBy w4 uv.ownBlock) (ho : w4.ownsRow B 1 1 uv' us'.length us')
    (hl : uv'.ownBlock = uv.ownBlock ∨ ∃ k, uv'.ownBlock = some k ∧ w1.heap.size ≤ k) :
    Bf (w4.setCell ⟨p, 1, none⟩ uv') p B sv uv' xs us' ∧ Go1 (Bo p sv uv) w (Bo p sv uv') (w4.setCell ⟨p, 1, none⟩ uv') := by
  have hm : Mv (Bo p sv uv) w (w4.setCell ⟨p, 1, none⟩ uv') := ((Mv.of_below h1).grown hg fun k hk => .inl (.inr (.inr hk))).setB (.inl rfl) 1 uv'
  have hb1 := hb.below h1
  have hp4 : w4.heap[p]? = some (.cells #[sv, uv] 69 (0, 0)) := (hg.block p (lt_of_block hb1.blk) (fun e => hb.une e.symm)).trans hb1.blk
  have hup : uv'.ownBlock ≠ some p := fun e => by
    obtain ⟨_, _, c, hc⟩ := row_at ho e
    rw [hp4] at hc; have := obj_type hc; simp at this
  refine ⟨⟨two_set1 hp4, ?_, row_of_block ho fun k hk => set_other _ _ _ _ _ (fun e => hup (by rw [← e]; exact hk)), fun x hx => hb.own_move hm (hb.each x hx), hb.base⟩, hm, ?_⟩
  · refine row_of_block hb1.said fun k hk => ?_
    rw [set_other _ _ _ _ _ (fun e => hb.sne (by rw [← e]; exact hk))]
    exact hg.block k (row_at hb1.said hk).2.1 (fun e => hb.sune hk e.symm)
  · rintro k (rfl | e | e)
    · exact .inl (.inl rfl)
    · exact .inl (.inr (.inl e))
    · rcases hl with h | ⟨k', h, hk'⟩
      · exact .inl (.inr (.inr (by rw [← h]; exact e)))
      · rw [h] at e; cases e; exact .inr (Nat.le_trans h1.size hk')
end
end Go.Proofs.Ytgohhlngnnmknaa
