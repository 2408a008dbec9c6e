/- The disk in memory: its struct, its lasting sectors, its cache and the cache's map; what stays as it was. -/
import Derived.Test.YtkammfkknfflgaaA
import Derived.Test.YtkammfkknfflgaaRows
import Derived.Deep.MidRow
import Derived.Maps.Own
import Derived.Maps.OwnSet
import Derived.Maps.AppendAt
import Derived.Deep.OwnRows
import Derived.Deep.WholeRow
import Derived.Great.BuildSlice
namespace Go.Proofs.Ytkammfkknfflgaa
open Go.RowKit Go.Maps
set_option linter.unusedVariables false

/-- bytes as cells. -/
def sv (xs : List Int) : List Value := xs.map (Value.int .u8)
/-- sectors, one behind the other. -/
def flat (L : List (List Int)) : List Value := (L.map sv).flatten
/-- a write of the cache: its sector's number, its bytes. -/
def wv (x : Nat × List Int) : List Value := .int .i64 (x.1 : Int) :: sv x.2
def wflat (W : List (Nat × List Int)) : List Value := (W.map wv).flatten

theorem sv_len (xs : List Int) : (sv xs).length = xs.length := by simp [sv]
theorem sv_one (xs : List Int) : ∀ v ∈ sv xs, v.oneCell' = true := by
  intro v hv
  simp only [sv, List.mem_map] at hv
  obtain ⟨x, _, rfl⟩ := hv
  rfl
theorem wv_one (x : Nat × List Int) : ∀ v ∈ wv x, v.oneCell' = true := by
  intro v hv
  simp only [wv, List.mem_cons] at hv
  rcases hv with rfl | hv
  · rfl
  · exact sv_one _ v hv
theorem flatten_len {n : Nat} : ∀ (L : List (List Value)), (∀ s ∈ L, s.length = n) → L.flatten.length = L.length * n
  | [], _ => by simp
  | s :: L, h => by rw [List.flatten_cons, List.length_append, h s (by simp), flatten_len L (fun t ht => h t (by simp [ht])), List.length_cons, Nat.add_mul]; omega
theorem flatten_at {n : Nat} : ∀ (L : List (List Value)), (∀ s ∈ L, s.length = n) → ∀ (i : Nat) (s : List Value), L[i]? = some s → ∀ j v, s[j]? = some v → L.flatten[i * n + j]? = some v
  | [], _, i, s, h, _, _, _ => by simp at h
  | t :: L, h, 0, s, hs, j, v, hv => by
    simp at hs
    subst hs
    rw [List.flatten_cons, List.getElem?_append_left (by have := (List.getElem?_eq_some_iff.1 hv).1; omega)]
    simpa using hv
  | t :: L, h, i + 1, s, hs, j, v, hv => by
    have ht := h t (by simp)
    rw [List.flatten_cons, List.getElem?_append_right (by rw [ht, Nat.add_mul]; omega), ht, show (i + 1) * n + j - n = i * n + j by rw [Nat.add_mul]; omega]
    exact flatten_at L (fun s hs => h s (by simp [hs])) i s (by simpa using hs) j v hv
theorem flatten_set {n : Nat} : ∀ (L : List (List Value)), (∀ s ∈ L, s.length = n) → ∀ (i : Nat) (s : List Value), s.length = n → i < L.length → (L.set i s).flatten = L.flatten.take (i * n) ++ s ++ L.flatten.drop (i * n + n)
  | [], _, i, s, _, h => by simp at h
  | t :: L, h, 0, s, hs, _ => by
    have ht := h t (by simp)
    simp only [List.set_cons_zero, List.flatten_cons, Nat.zero_mul, List.take_zero, List.nil_append, Nat.zero_add]
    rw [List.drop_append_of_le_length (by omega), List.drop_of_length_le (by omega), List.nil_append]
  | t :: L, h, i + 1, s, hs, hi => by
    have ht := h t (by simp)
    simp only [List.length_cons] at hi
    simp only [List.set_cons_succ, List.flatten_cons]
    rw [flatten_set L (fun s hs => h s (by simp [hs])) i s hs (by omega)]
    rw [List.take_append, List.take_of_length_le (l := t) (by rw [ht, Nat.add_mul]; omega), ht, show (i + 1) * n - n = i * n by rw [Nat.add_mul]; omega]
    rw [List.drop_append, List.drop_of_length_le (l := t) (by rw [ht, Nat.add_mul]; omega), ht, show (i + 1) * n + n - n = i * n + n by rw [Nat.add_mul]; omega]
    simp

/-- a disk's state: lasting sectors, the cache's writes, dark, the trip, the faults of reads, writes and syncs, the counts. -/
structure DS where
  ls : List (List Int)
  ws : List (Nat × List Int)
  dk : Bool
  ts : Bool
  tl : Int
  s1 : Bool
  l1 : Int
  s2 : Bool
  l2 : Int
  s3 : Bool
  l3 : Int
  n1 : Int
  n2 : Int
  n3 : Int
/-- a countdown that may be. -/
def Cd (s : Bool) (l : Int) : Prop := 0 ≤ l ∧ l ≤ 9223372036854775807
structure DS.Good (S : DS) : Prop where
  ls : ∀ s ∈ S.ls, s.length = 128 ∧ Byts s
  ws : ∀ x ∈ S.ws, x.1 < S.ls.length ∧ x.2.length = 128 ∧ Byts x.2
  most : S.ls.length ≤ 131072
  few : S.ws.length ≤ 40000000
  t : Cd S.ts S.tl
  f1 : Cd S.s1 S.l1
  f2 : Cd S.s2 S.l2
  f3 : Cd S.s3 S.l3
  n1 : 0 ≤ S.n1 ∧ S.n1 ≤ 40000000
  n2 : 0 ≤ S.n2 ∧ S.n2 ≤ 40000000
  n3 : 0 ≤ S.n3 ∧ S.n3 ≤ 40000000
/-- where a sector's last write stands. -/
def lastAt (W : List (Nat × List Int)) (n : Nat) : Option Nat := ((List.range W.length).reverse.find? fun i => (W.getD i (0, [])).1 == n)
/-- the map tells of each sector where its last write stands. -/
def Tells (D : DataW Unit) (W : List (Nat × List Int)) : Prop :=
  ∀ n : Nat, Maps.has D (.int .i64 (n : Int)) = (lastAt W n).isSome ∧ ∀ i, lastAt W n = some i → D.atKey (.int .i64 (n : Int)) (.lit (.int .i64 0)) = .lit (.int .i64 (i : Int))
/-- the blocks of a disk. -/
def Ow (p q : Nat) (vw : Value) (m : Option Nat) (k : Nat) : Prop := k = p ∨ k = q ∨ vw.ownBlock = some k ∨ m = some k
def MapAt (w : World) (m : Option Nat) (W : List (Nat × List Int)) : Prop :=
  match m with
  | none => W = []
  | some b => ∃ (n : Nat) (D : DataW Unit), n ≤ W.length ∧ w.ownsMap Try.prog 3 (plainElem Try.prog 3) b n D ∧ Tells D W
/-- the struct's cells. -/
def cells (q : Nat) (vw : Value) (m : Option Nat) (S : DS) : Array Value :=
  #[.slice (some ⟨q, 0, none⟩) S.ls.length S.ls.length, vw, .map m, .bool S.dk, .bool S.ts, .int .i64 S.tl, .bool false, .int .i64 0, .bool S.s1, .int .i64 S.l1, .bool S.s2, .int .i64 S.l2, .bool S.s3, .int .i64 S.l3, .int .i64 0, .int .i64 S.n1, .int .i64 S.n2, .int .i64 S.n3]
structure Dk (w : World) (p q : Nat) (vw : Value) (m : Option Nat) (S : DS) : Prop where
  blk : w.heap[p]? = some (.cells (cells q vw m S) 92 (0, 0))
  las : w.heap[q]? = some (.cells (flat S.ls).toArray 103 (0, 0))
  wri : w.ownsRow 0 110 129 vw S.ws.length (wflat S.ws)
  map : MapAt w m S.ws
  pq : p ≠ q
  pv : vw.ownBlock ≠ some p
  qv : vw.ownBlock ≠ some q
  pm : m ≠ some p
  qm : m ≠ some q
  vm : ∀ k, vw.ownBlock = some k → m ≠ some k
  good : S.Good
/-- all but the blocks of O stays as it was. -/
structure Mv (O : Nat → Prop) (w w' : World) : Prop where
  os : w'.os = w.os
  tape : w'.tape = w.tape
  output : w'.output = w.output
  size : w.heap.size ≤ w'.heap.size
  block : ∀ k, k < w.heap.size → ¬ O k → w'.heap[k]? = w.heap[k]?
/-- .. and what is owned behind it was owned, or is new. -/
structure Go1 (O : Nat → Prop) (w : World) (O' : Nat → Prop) (w' : World) : Prop where
  mv : Mv O w w'
  own : ∀ k, O' k → O k ∨ w.heap.size ≤ k
theorem Mv.refl (O : Nat → Prop) (w : World) : Mv O w w := ⟨rfl, rfl, rfl, Nat.le_refl _, fun _ _ _ => rfl⟩
theorem Go1.refl (O : Nat → Prop) (w : World) : Go1 O w O w := ⟨Mv.refl O w, fun _ h => .inl h⟩
theorem Go1.trans {O O1 O2 : Nat → Prop} {w w1 w2 : World} (h : Go1 O w O1 w1) (k : Go1 O1 w1 O2 w2) : Go1 O w O2 w2 :=
  ⟨⟨k.mv.os.trans h.mv.os, k.mv.tape.trans h.mv.tape, k.mv.output.trans h.mv.output, Nat.le_trans h.mv.size k.mv.size, fun i hi hn => by
    rw [k.mv.block i (Nat.lt_of_lt_of_le hi h.mv.size) (fun ho => (h.own i ho).elim hn (fun hl => by omega)), h.mv.block i hi hn]⟩,
   fun i hi => (k.own i hi).elim (h.own i) (fun hl => .inr (Nat.le_trans h.mv.size hl))⟩
theorem Go1.of_below {O : Nat → Prop} {w w' : World} (h : Below w.heap.size w w') : Go1 O w O w' := ⟨⟨h.os, h.tape, h.output, h.size, fun k hk _ => h.block k hk⟩, fun _ h => .inl h⟩
theorem Mv.below {O : Nat → Prop} {w w' : World} {B : Nat} (h : Mv O w w') (hB : B ≤ w.heap.size) (hO : ∀ k, O k → B ≤ k) : Below B w w' :=
  ⟨h.os, h.tape, h.output, h.size, fun k hk => h.block k (by omega) (fun ho => by have := hO k ho; omega)⟩
theorem find_congr' {α : Type} (f g : α → Bool) : ∀ (l : List α), (∀ x ∈ l, f x = g x) → l.find? f = l.find? g
  | [], _ => rfl
  | a :: l, h => by
    rw [List.find?_cons, List.find?_cons, h a (by simp), find_congr' f g l (fun x hx => h x (by simp [hx]))]
theorem lastAt_snoc (W : List (Nat × List Int)) (x : Nat × List Int) (n : Nat) : lastAt (W ++ [x]) n = if x.1 = n then some W.length else lastAt W n := by
  unfold lastAt
  rw [List.length_append, List.length_singleton, List.range_succ, List.reverse_append, List.reverse_singleton, List.singleton_append, List.find?_cons]
  have e : (W ++ [x]).getD W.length (0, []) = x := by simp
  rw [e]
  by_cases h : x.1 = n
  · simp [h]
  · have h' : (x.1 == n) = false := by simpa using h
    rw [h', if_neg h]
    apply find_congr'
    intro i hi
    simp only [List.mem_reverse, List.mem_range] at hi
    simp [List.getD_eq_getElem?_getD, List.getElem?_append_left hi]
theorem lastAt_some {W : List (Nat × List Int)} {n i : Nat} (h : lastAt W n = some i) : i < W.length ∧ ∃ x, W[i]? = some x ∧ x.1 = n := by
  have h1 := List.find?_some h
  have h2 := List.mem_of_find?_eq_some h
  simp only [List.mem_reverse, List.mem_range] at h2
  refine ⟨h2, W[i], by simp [h2], ?_⟩
  simpa [List.getD_eq_getElem?_getD, h2] using h1
theorem Tells.nil : Tells (.map []) [] := fun n => ⟨by simp [lastAt, Maps.has_eq], fun i h => by simp [lastAt] at h⟩
theorem Tells.snoc {D : DataW Unit} {W : List (Nat × List Int)} (h : Tells D W) (hD : IsMap D) (x : Nat × List Int) : Tells (D.put (.int .i64 (x.1 : Int)) (.lit (.int .i64 (W.length : Int)))) (W ++ [x]) := by
  intro n
  rw [lastAt_snoc]
  by_cases e : x.1 = n
  · subst e
    rw [if_pos rfl]
    exact ⟨by rw [has_put_same hD (by simp [WideAt.IsKeyLit])]; rfl, fun i hi => by cases hi; exact atKey_put_same hD (by simp [WideAt.IsKeyLit]) _ _⟩
  · rw [if_neg e]
    have hne : Lit.int .i64 (n : Int) ≠ Lit.int .i64 (x.1 : Int) := by intro h; injection h with _ h; omega
    exact ⟨by rw [has_put_other hne]; exact (h n).1, fun i hi => by rw [atKey_put_other hne]; exact (h n).2 i hi⟩
/-- the bytes that were written last. -/
def newest (S : DS) (n : Nat) : List Int := match lastAt S.ws n with
  | some i => (S.ws.getD i (0, [])).2
  | none => S.ls.getD n []
/-- a disk whose own blocks are as they were is as it was. -/
theorem Dk.stays {w w' : World} {p q : Nat} {vw : Value} {m : Option Nat} {S : DS} (h : Dk w p q vw m S) (hb : ∀ k, Ow p q vw m k → w'.heap[k]? = w.heap[k]?) : Dk w' p q vw m S := by
  refine ⟨(hb p (.inl rfl)).trans h.blk, (hb q (.inr (.inl rfl))).trans h.las, ?_, ?_, h.pq, h.pv, h.qv, h.pm, h.qm, h.vm, h.good⟩
  · obtain ⟨h1, h2⟩ := h.wri
    refine ⟨h1, ?_⟩
    rcases h2 with h2 | ⟨g, cap, cur, rfl, hg, hh, r⟩
    · exact .inl h2
    · exact .inr ⟨g, cap, cur, rfl, hg, by rw [hb g (.inr (.inr (.inl rfl)))]; exact hh, r⟩
  · have := h.map
    cases m with
    | none => exact this
    | some b =>
      obtain ⟨n, D, hn, ⟨es, clock, e1, e2⟩, ht⟩ := this
      exact ⟨n, D, hn, ⟨es, clock, (hb b (.inr (.inr (.inr rfl)))).trans e1, e2⟩, ht⟩
theorem Dk.lt {w : World} {p q : Nat} {vw : Value} {m : Option Nat} {S : DS} (h : Dk w p q vw m S) (k : Nat) (hk : Ow p q vw m k) : k < w.heap.size := by
  rcases hk with rfl | rfl | hk | hk
  · exact lt_of_block h.blk
  · exact lt_of_block h.las
  · exact (h.wri.lt k hk).2
  · have := h.map
    subst hk
    obtain ⟨n, D, hn, ho, ht⟩ := this
    exact ho.lt
theorem Dk.below {w w' : World} {p q : Nat} {vw : Value} {m : Option Nat} {S : DS} (h : Dk w p q vw m S) (hb : Below w.heap.size w w') : Dk w' p q vw m S := h.stays fun k hk => hb.block k (h.lt k hk)
/-- a disk at p, whose sectors lie at q, whose blocks are O. -/
def DkAt (w : World) (p q : Nat) (S : DS) (O : Nat → Prop) : Prop := ∃ vw m, Dk w p q vw m S ∧ ∀ k, O k ↔ Ow p q vw m k
theorem DkAt.below {w w' : World} {p q : Nat} {S : DS} {O : Nat → Prop} (h : DkAt w p q S O) (hb : Below w.heap.size w w') : DkAt w' p q S O := by
  obtain ⟨vw, m, hd, ho⟩ := h
  exact ⟨vw, m, hd.below hb, ho⟩
theorem DkAt.lt {w : World} {p q : Nat} {S : DS} {O : Nat → Prop} (h : DkAt w p q S O) (k : Nat) (hk : O k) : k < w.heap.size := by
  obtain ⟨vw, m, hd, ho⟩ := h
  exact hd.lt k ((ho k).1 hk)
/-- .. and so is one beside another that moves. -/
theorem DkAt.other {w w' : World} {p q : Nat} {S : DS} {O O1 : Nat → Prop} (h : DkAt w p q S O) (hm : Mv O1 w w') (hap : ∀ k, O k → ¬ O1 k) : DkAt w' p q S O := by
  obtain ⟨vw, m, hd, ho⟩ := h
  exact ⟨vw, m, hd.stays fun k hk => hm.block k (hd.lt k hk) (hap k ((ho k).2 hk)), ho⟩
end Go.Proofs.Ytkammfkknfflgaa
/- Contracts: bytes all alike, a countdown, how many pages, has it that page. -/
namespace Go.Proofs.Ytkammfkknfflgaa
open Go.RowKit Go.Maps
set_option linter.unusedVariables false

theorem Try.info5 : (Try.prog.info? 5).map (fun i => (i.zero, i.size, i.bytes)) = some (some (.int .u8 0), 1, 1) := by kernel_rfl
/-- a block of n bytes, the first k of them c. -/
def Fill (w : World) (g n k : Nat) (c : Int) : Prop := ∃ L : Array Value, w.heap[g]? = some (.cells L 5 (0, 0)) ∧ L.size = n ∧ ∀ i, i < k → L[i]? = some (.int .u8 c)
theorem Fill.f {w : World} {g n k : Nat} {c : Int} (h : Fill w g n k c) (i : Nat) : w.frozen? ⟨g, i, none⟩ = false := by obtain ⟨L, h, _⟩ := h; simp [World.frozen?, h]
theorem Fill.c {w : World} {g n k : Nat} {c : Int} (h : Fill w g n k c) (hk : k < n) : ∃ v, w.cell? ⟨g, k, none⟩ = some v := by
  obtain ⟨L, h, h2, _⟩ := h
  exact ⟨L[k]'(by omega), by simp [World.cell?, h, h2, hk]⟩
theorem Fill.set {w : World} {g n k : Nat} {c : Int} (h : Fill w g n k c) (hk : k < n) : Fill (w.setCell ⟨g, k, none⟩ (.int .u8 c)) g n (k + 1) c := by
  obtain ⟨L, h, h2, h3⟩ := h
  refine ⟨_, heap_setCell_same w g k _ 5 _ h, by simpa using h2, fun i hi => ?_⟩
  rw [Array.getElem?_setIfInBounds]
  by_cases e : k = i
  · rw [if_pos e, if_pos (by omega)]
  · rw [if_neg e]; exact h3 i (by omega)
theorem Fill.row {w : World} {g n : Nat} {c : Int} (h : Fill w g n n c) : Row w (some ⟨g, 0, none⟩) (List.replicate n c) := by
  obtain ⟨L, h, h2, h3⟩ := h
  refine .inr ⟨g, 0, rfl, lt_of_block h, fun i hi => ?_⟩
  rw [List.length_replicate] at hi
  have := h3 i hi
  simp only [World.cell?, h, Nat.zero_add, this]
  simp [hi]

set_option maxHeartbeats 800000 in
set_option maxRecDepth 1000000 in
theorem filled_any (n : Nat) (c : Int) (w : World) (hn : n ≤ 100000) :
    Calls Try.prog 19 #[.int .i64 (n : Int), .int .u8 c] w fun e w' => e = .returned (.slice (some ⟨w.heap.size, 0, none⟩) n n) ∧ Row w' (some ⟨w.heap.size, 0, none⟩) (List.replicate n c) ∧ w.heap.size < w'.heap.size ∧ Below w.heap.size w w' := by
  have hmk := run_make_row' (P := Try.prog) 63 5 (.int .u8 0) 1 Try.underlying63 Try.info5 rfl .i64 .i64 n (by omega) (by omega)
  have HB := hide (below_alloc w (.cells (madeCells #[Value.int .u8 0] n) 5))
  have HF : Hid (Fill (w.alloc (.cells (madeCells #[Value.int .u8 0] n) 5)) w.heap.size n 0 c) :=
    ⟨_, heap_alloc_new w _, size_madeCells _ _, fun i hi => by omega⟩
  go_enter Try.func19, Try.ntmps19
  go_wp2
  go_loopw [6] (fun i wr' => ∃ k : Nat, k ≤ n ∧ i = .int .i64 (k : Int) ∧ Fill wr' w.heap.size n k c ∧ Below w.heap.size w wr') (fun i _ => n - (intOf i).toNat)
  case atStart => exact ⟨0, Nat.zero_le _, rfl, HF.out, HB.out⟩
  case round =>
    obtain ⟨k, hk, rfl, hb, hg⟩ := hrel
    have HB := hide hb
    have HG := hide hg
    clear hb hg
    by_cases hlt : k < n
    · obtain ⟨v, hc⟩ := HB.out.c hlt
      have hf := HB.out.f k
      go_wp2
      go_roundw
      case rel => exact ⟨k + 1, by omega, by go_num, HB.out.set hlt, HG.out.setCell (p := ⟨_, _, none⟩) (Nat.le_refl _) _⟩
      case measure => simp [intOf]; omega
    · have e : k = n := by omega
      subst e
      have HR := hide HB.out.row
      have HL : Hid (w.heap.size < wr.heap.size) := by obtain ⟨L, h, _⟩ := HB.out; exact lt_of_block h
      go_wp2
      go_ret
      exact ⟨rfl, HR.out, HL.out, HG.out⟩

/-- a countdown: does it hit, and what is left of it. -/
def tick (s : Bool) (l : Int) : Bool × Bool × Int := if s = true then (if l = 0 then (true, false, 0) else (false, true, l - 1)) else (false, false, l)
set_option maxHeartbeats 800000 in
set_option maxRecDepth 1000000 in
theorem strikes_any (p o : Nat) (s : Bool) (l : Int) (w : World) (h0 : w.cell? ⟨p, o, none⟩ = some (.bool s)) (h1 : w.cell? ⟨p, o + 1, none⟩ = some (.int .i64 l)) (f0 : w.frozen? ⟨p, o, none⟩ = false) (f1 : w.frozen? ⟨p, o + 1, none⟩ = false) (hl : Cd s l) :
    Calls Try.prog 78 #[.pointer (some ⟨p, o, none⟩)] w fun e w' => e = .returned (.bool (tick s l).1) ∧ w' = (if s = true then (if l = 0 then (w.setCell ⟨p, o, none⟩ (.bool false)).setCell ⟨p, o + 1, none⟩ (.int .i64 0) else w.setCell ⟨p, o + 1, none⟩ (.int .i64 (l - 1))) else w) := by
  obtain ⟨l0, l1⟩ := hl
  unfold tick
  cases s
  · go_enter Try.func78, Try.ntmps78
    go_wp2
    go_ret
    exact ⟨rfl, rfl⟩
  · by_cases h : l = 0
    · subst h
      go_enter Try.func78, Try.ntmps78
      go_wp2
      go_ret
      exact ⟨rfl, rfl⟩
    · have hd : (l == 0) = false := by simp [h]
      have hw : Hid (IntKind.i64.wrap (l - 1) = l - 1) := by rw [Hid, IntKind.wrap_i64]; omega
      have hi := hide h
      clear h
      go_enter Try.func78, Try.ntmps78
      go_wp2
      go_ret
      exact ⟨rfl, rfl⟩
end Go.Proofs.Ytkammfkknfflgaa
/- The disk's struct: one field turned; a countdown of it; its pages. -/
namespace Go.Proofs.Ytkammfkknfflgaa
open Go.RowKit Go.Maps
set_option linter.unusedVariables false

section
variable {w w' : World} {p q : Nat} {vw : Value} {m : Option Nat} {S S' : DS}
theorem Dk.c (h : Dk w p q vw m S) (i : Nat) (v : Value) (hv : (cells q vw m S)[i]? = some v) : w.cell? ⟨p, i, none⟩ = some v := by simp [World.cell?, h.blk, hv]
theorem Dk.f (h : Dk w p q vw m S) (i : Nat) : w.frozen? ⟨p, i, none⟩ = false := by simp [World.frozen?, h.blk]
/-- only the struct has turned. -/
theorem Dk.fields (h : Dk w p q vw m S) (h1 : S'.ls = S.ls) (h2 : S'.ws = S.ws) (hg : S'.Good) (hb : w'.heap[p]? = some (.cells (cells q vw m S') 92 (0, 0))) (ho : ∀ k, k ≠ p → w'.heap[k]? = w.heap[k]?) : Dk w' p q vw m S' := by
  refine ⟨hb, ?_, ?_, ?_, h.pq, h.pv, h.qv, h.pm, h.qm, h.vm, hg⟩
  · rw [ho q h.pq.symm, h1]; exact h.las
  · rw [h2]
    obtain ⟨k1, k2⟩ := h.wri
    refine ⟨k1, ?_⟩
    rcases k2 with k2 | ⟨g, cap, cur, rfl, hg, hh, r⟩
    · exact .inl k2
    · exact .inr ⟨g, cap, cur, rfl, hg, by rw [ho g (fun e => h.pv (by rw [← e]; rfl))]; exact hh, r⟩
  · rw [h2]
    have := h.map
    cases m with
    | none => exact this
    | some b =>
      obtain ⟨n, D, hn, ⟨es, clock, e1, e2⟩, ht⟩ := this
      exact ⟨n, D, hn, ⟨es, clock, (ho b (fun e => h.pm (by rw [e]))).trans e1, e2⟩, ht⟩
theorem set_other (w : World) (p i : Nat) (v : Value) (k : Nat) (hk : k ≠ p) : (w.setCell ⟨p, i, none⟩ v).heap[k]? = w.heap[k]? := Below.heap_setCell _ _ _ _ (fun e => hk e)
theorem mv_set (w : World) (p i : Nat) (v : Value) : Mv (· = p) w (w.setCell ⟨p, i, none⟩ v) := ⟨rfl, rfl, rfl, by simp [World.setCell], fun k _ hk => set_other w p i v k hk⟩
theorem Mv.trans' {O : Nat → Prop} {a b c : World} (h : Mv O a b) (k : Mv O b c) : Mv O a c :=
  ⟨k.os.trans h.os, k.tape.trans h.tape, k.output.trans h.output, Nat.le_trans h.size k.size, fun i hi hn => (k.block i (Nat.lt_of_lt_of_le hi h.size) hn).trans (h.block i hi hn)⟩
theorem tick_cd (s : Bool) (l : Int) (h : Cd s l) : Cd (tick s l).2.1 (tick s l).2.2 := by
  obtain ⟨h1, h2⟩ := h
  unfold tick Cd
  split
  · split
    · simp
    · simp; omega
  · exact ⟨h1, h2⟩
end

/-- what a countdown at o does to a disk whose countdown it is. -/
theorem strikes_at (p q : Nat) (vw : Value) (m : Option Nat) (S S' : DS) (o : Nat) (s : Bool) (l : Int) (w : World) (h : Dk w p q vw m S)
    (h0 : (cells q vw m S)[o]? = some (.bool s)) (h1 : (cells q vw m S)[o + 1]? = some (.int .i64 l)) (hl : Cd s l)
    (e1 : S'.ls = S.ls) (e2 : S'.ws = S.ws) (hg : S'.Good) (hc : cells q vw m S' = ((cells q vw m S).setIfInBounds o (.bool (tick s l).2.1)).setIfInBounds (o + 1) (.int .i64 (tick s l).2.2)) :
    Calls Try.prog 78 #[.pointer (some ⟨p, o, none⟩)] w fun e w' => e = .returned (.bool (tick s l).1) ∧ Dk w' p q vw m S' ∧ Mv (· = p) w w' ∧ w'.heap.size = w.heap.size := by
  refine (strikes_any p o s l w (h.c o _ h0) (h.c (o + 1) _ h1) (h.f o) (h.f (o + 1)) hl).mono ?_
  rintro e w' ⟨rfl, rfl⟩
  refine ⟨rfl, ?_⟩
  have hb := h.blk
  unfold tick at hc
  cases s
  · simp only [Bool.false_eq_true, if_false] at hc ⊢
    refine ⟨h.fields e1 e2 hg ?_ (fun _ _ => rfl), Mv.refl _ _, trivial⟩
    rw [h.blk, hc]
    congr 2
    apply Array.ext_getElem?
    intro j
    rw [Array.getElem?_setIfInBounds, Array.getElem?_setIfInBounds]
    by_cases j1 : o + 1 = j
    · subst j1; rw [h1]; simp; exact (Array.getElem?_eq_some_iff.1 h1).1
    · rw [if_neg j1]
      by_cases j2 : o = j
      · subst j2; rw [h0]; simp; exact (Array.getElem?_eq_some_iff.1 h0).1
      · rw [if_neg j2]
  · simp only [if_true] at hc ⊢
    by_cases hz : l = 0
    · rw [if_pos hz] at hc ⊢
      refine ⟨h.fields e1 e2 hg ?_ (fun k hk => by rw [set_other _ _ _ _ _ hk, set_other _ _ _ _ _ hk]), (mv_set _ _ _ _).trans' (mv_set _ _ _ _), by simp [World.setCell]⟩
      rw [heap_setCell_same _ p (o + 1) _ 92 _ (heap_setCell_same w p o _ 92 _ hb), hc]
    · rw [if_neg hz] at hc ⊢
      refine ⟨h.fields e1 e2 hg ?_ (fun k hk => by rw [set_other _ _ _ _ _ hk]), mv_set _ _ _ _, by simp [World.setCell]⟩
      rw [heap_setCell_same _ p (o + 1) _ 92 _ hb, hc]
      congr 3
      apply Array.ext_getElem?
      intro j
      rw [Array.getElem?_setIfInBounds]
      by_cases j2 : o = j
      · subst j2; rw [h0]; simp; exact (Array.getElem?_eq_some_iff.1 h0).1
      · rw [if_neg j2]

set_option maxHeartbeats 800000 in
set_option maxRecDepth 1000000 in
theorem pages_any (p q n : Nat) (w : World) (h0 : w.cell? ⟨p, 0, none⟩ = some (.slice (some ⟨q, 0, none⟩) n n)) (hn : n ≤ 131072) :
    Calls Try.prog 28 #[.pointer (some ⟨p, 0, none⟩)] w fun e w' => e = .returned (.int .i64 ((n / 8 : Nat) : Int)) ∧ Below w.heap.size w w' := by
  go_enter Try.func28, Try.ntmps28
  go_wp2
  go_ret
  exact ⟨rfl, Below.refl _ _⟩

set_option maxHeartbeats 800000 in
set_option maxRecDepth 1000000 in
theorem has_any (p q n : Nat) (page : Int) (w : World) (h0 : w.cell? ⟨p, 0, none⟩ = some (.slice (some ⟨q, 0, none⟩) n n)) (hn : n ≤ 131072) :
    Calls Try.prog 34 #[.pointer (some ⟨p, 0, none⟩), .int .i64 page] w fun e w' => e = .returned (.bool (decide (0 ≤ page ∧ page < ((n / 8 : Nat) : Int)))) ∧ Below w.heap.size w w' := by
  have HP := hide (fun W (h : Below w.heap.size w W) => pages_any p q n W (by rw [h.cell (World.block_lt_of_cell? w _ h0)]; exact h0) hn)
  by_cases h1 : 0 ≤ page
  · have hd : decide (0 ≤ page) = true := by simp [h1]
    by_cases h2 : page < ((n / 8 : Nat) : Int)
    · have hr : Hid (decide (0 ≤ page ∧ page < ((n / 8 : Nat) : Int)) = true) := by simp only [Hid, decide_eq_true_eq]; exact ⟨h1, h2⟩
      have hd2 : decide (page < ((n / 8 : Nat) : Int)) = true := by simp only [decide_eq_true_eq]; exact h2
      rw [hr.out]
      clear h1 h2 h0 hr
      generalize n / 8 = N at *
      go_enter Try.func34, Try.ntmps34
      go_wp2_with fail
      refine (HP.out w (Below.refl _ _)).mono ?_
      rintro e w1 ⟨rfl, hb⟩
      go_wp2
      go_ret
      exact ⟨rfl, hb⟩
    · have hr : Hid (decide (0 ≤ page ∧ page < ((n / 8 : Nat) : Int)) = false) := by simp only [Hid, decide_eq_false_iff_not]; exact fun h => h2 h.2
      have hd2 : decide (page < ((n / 8 : Nat) : Int)) = false := by simp only [decide_eq_false_iff_not]; exact h2
      rw [hr.out]
      clear h1 h2 h0 hr
      generalize n / 8 = N at *
      go_enter Try.func34, Try.ntmps34
      go_wp2_with fail
      refine (HP.out w (Below.refl _ _)).mono ?_
      rintro e w1 ⟨rfl, hb⟩
      go_wp2
      go_ret
      exact ⟨rfl, hb⟩
  · have hd : decide (0 ≤ page) = false := by simp [h1]
    have hr : Hid (decide (0 ≤ page ∧ page < ((n / 8 : Nat) : Int)) = false) := by simp only [Hid, decide_eq_false_iff_not]; exact fun h => h1 h.1
    rw [hr.out]
    clear h1 h0 hr
    go_enter Try.func34, Try.ntmps34
    go_wp2
    go_ret
    exact ⟨rfl, Below.refl _ _⟩
end Go.Proofs.Ytkammfkknfflgaa
/- An operation: the power and the faults first, then what is handed in. -/
namespace Go.Proofs.Ytkammfkknfflgaa
open Go.RowKit Go.Maps
set_option linter.unusedVariables false

/-- the trip has counted. -/
def DS.tr (S : DS) : DS := { S with ts := (tick S.ts S.tl).2.1, tl := (tick S.ts S.tl).2.2 }
def DS.out (S : DS) : DS := { S.tr with dk := true }
/-- an operation whose kind's fault is s, l: its error, 0 where it is done. -/
def DS.er (S : DS) (s : Bool) (l : Int) : Nat := if S.dk = true then 4 else if (tick S.ts S.tl).1 = true then 4 else if (tick s l).1 = true then 6 else 0
def DS.be (S : DS) (S' : DS) : DS := if S.dk = true then S else if (tick S.ts S.tl).1 = true then S.out else S'
theorem DS.Good.tr {S : DS} (h : S.Good) : S.tr.Good := ⟨h.ls, h.ws, h.most, h.few, tick_cd _ _ h.t, h.f1, h.f2, h.f3, h.n1, h.n2, h.n3⟩
theorem DS.Good.out {S : DS} (h : S.Good) : S.out.Good := ⟨h.ls, h.ws, h.most, h.few, tick_cd _ _ h.t, h.f1, h.f2, h.f3, h.n1, h.n2, h.n3⟩
/-- behind the count and the fault of kind 1. -/
def DS.op1 (S : DS) : DS := { S.tr with n1 := S.n1 + 1, s1 := (tick S.s1 S.l1).2.1, l1 := (tick S.s1 S.l1).2.2 }
def DS.c1 (S : DS) : DS := { S.tr with n1 := S.n1 + 1 }
theorem DS.Good.c1 {S : DS} (h : S.Good) (hn : S.n1 + 1 ≤ 40000000) : S.c1.Good := ⟨h.ls, h.ws, h.most, h.few, tick_cd _ _ h.t, h.f1, h.f2, h.f3, ⟨by have := h.n1.1; show 0 ≤ S.n1 + 1; omega, hn⟩, h.n2, h.n3⟩
theorem DS.Good.op1 {S : DS} (h : S.Good) (hn : S.n1 + 1 ≤ 40000000) : S.op1.Good := ⟨h.ls, h.ws, h.most, h.few, tick_cd _ _ h.t, tick_cd _ _ h.f1, h.f2, h.f3, ⟨by have := h.n1.1; show 0 ≤ S.n1 + 1; omega, hn⟩, h.n2, h.n3⟩

set_option maxHeartbeats 1600000 in
set_option maxRecDepth 1000000 in
theorem operate1 (p q : Nat) (vw : Value) (m : Option Nat) (S : DS) (w : World) (x0 x1 x2 : Value) (Post : Int → World → Prop) (h : Dk w p q vw m S) (hn : S.n1 + 1 ≤ 40000000)
    (hcall : S.er S.s1 S.l1 = 0 → ∀ W, Dk W p q vw m S.op1 → Mv (· = p) w W → W.heap.size = w.heap.size → Calls Try.prog 38 #[x0, x1, x2] W fun e w' => ∃ x, e = .returned (.int .u16 x) ∧ Post x w')
    (hpost : S.er S.s1 S.l1 ≠ 0 → ∀ W, Dk W p q vw m (S.be S.op1) → Mv (· = p) w W → W.heap.size = w.heap.size → Post (S.er S.s1 S.l1 : Int) W) :
    Calls Try.prog 32 #[.pointer (some ⟨p, 0, none⟩), .int .i64 1, .func (.func 38) #[] #[x0, x1, x2]] w fun e w' => ∃ x, e = .returned (.int .u16 x) ∧ Post x w' := by
  have HD := hide h
  have HC := hide hcall
  have HP := hide hpost
  have k3 := h.c 3 (.bool S.dk) rfl
  have HG := hide h.good
  clear h hcall hpost
  cases hdk : S.dk
  · rw [hdk] at k3
    have HT := hide (strikes_at p q vw m S S.tr 4 S.ts S.tl w HD.out rfl rfl HG.out.t rfl rfl HG.out.tr rfl)
    cases ht : (tick S.ts S.tl).1
    · rw [ht] at HT
      have HN : Hid (0 ≤ S.n1 ∧ S.n1 + 1 ≤ 40000000) := ⟨HG.out.n1.1, hn⟩
      have hnw : IntKind.i64.wrap (S.n1 + 1) = S.n1 + 1 := by rw [IntKind.wrap_i64]; have := HN.out; omega
      go_enter Try.func32, Try.ntmps32
      go_wp2_with fail
      refine HT.out.mono ?_
      rintro e w1 ⟨rfl, hd1, hm1, hs1⟩
      have k16 := hd1.c 15 (.int .i64 S.n1) rfl
      have f16 := hd1.f 15
      have HD2 := hide (hd1.fields (S' := S.c1) rfl rfl (HG.out.c1 hn) (w' := (w1.setCell ⟨p, 15, none⟩ (.int .i64 (S.n1 + 1))).drew) (heap_setCell_same w1 p 15 _ 92 _ hd1.blk) (fun k hk => set_other w1 p 15 _ k hk))
      have HM2 : Hid (Mv (· = p) w (w1.setCell ⟨p, 15, none⟩ (.int .i64 (S.n1 + 1))).drew) := hm1.trans' ((mv_set w1 p 15 _).trans' ⟨rfl, rfl, rfl, Nat.le_refl _, fun _ _ _ => rfl⟩)
      have HS2 : Hid ((w1.setCell ⟨p, 15, none⟩ (.int .i64 (S.n1 + 1))).drew.heap.size = w.heap.size) := by simpa [World.setCell, Hid] using hs1
      clear hd1 hm1 hs1
      go_wp2
      go_region
      generalize (w1.setCell ⟨p, 15, none⟩ (.int .i64 (S.n1 + 1))).drew = w2 at HD2 HM2 HS2 ⊢
      clear k16 f16
      have HT2 := hide (strikes_at p q vw m S.c1 S.op1 8 S.s1 S.l1 w2 HD2.out rfl rfl HG.out.f1 rfl rfl (HG.out.op1 hn) rfl)
      cases ht2 : (tick S.s1 S.l1).1
      · rw [ht2] at HT2
        have e1 : Hid (S.er S.s1 S.l1 = 0) := by simp [DS.er, hdk, ht, ht2, Hid]
        have HC2 := hide (HC.out e1.out)
        clear HC HP e1
        go_wp2_with fail
        refine HT2.out.mono ?_
        rintro e w3 ⟨rfl, hd3, hm3, hs3⟩
        have HR := hide (HC2.out w3 hd3 (HM2.out.trans' hm3) (hs3.trans HS2.out))
        clear hd3 hm3 hs3 HC2
        go_wp2_with fail
        refine HR.out.mono ?_
        rintro e w4 ⟨x, rfl, hpost⟩
        have HQ := hide hpost
        clear hpost
        go_wp2
        go_ret
        exact ⟨x, rfl, HQ.out⟩
      · rw [ht2] at HT2
        have e1 : Hid (S.er S.s1 S.l1 = 6) := by simp [DS.er, hdk, ht, ht2, Hid]
        have e2 : Hid (S.be S.op1 = S.op1) := by simp [DS.be, hdk, ht, Hid]
        go_wp2_with fail
        refine HT2.out.mono ?_
        rintro e w3 ⟨rfl, hd3, hm3, hs3⟩
        have HR := hide (HP.out (by rw [e1.out]; omega) w3 (by rw [e2.out]; exact hd3) (HM2.out.trans' hm3) (hs3.trans HS2.out))
        rw [e1.out] at HR
        clear hd3 hm3 hs3 HC HP
        go_wp2
        go_ret
        exact ⟨_, rfl, HR.out⟩
    · rw [ht] at HT
      have e1 : Hid (S.er S.s1 S.l1 = 4) := by simp [DS.er, hdk, ht, Hid]
      have e2 : Hid (S.be S.op1 = S.out) := by simp [DS.be, hdk, ht, Hid]
      go_enter Try.func32, Try.ntmps32
      go_wp2_with fail
      refine HT.out.mono ?_
      rintro e w1 ⟨rfl, hd1, hm1, hs1⟩
      have k3' := hd1.c 3 (.bool S.dk) rfl
      have f3 := hd1.f 3
      have HR := hide (HP.out (by rw [e1.out]; omega) (w1.setCell ⟨p, 3, none⟩ (.bool true)) (by rw [e2.out]; exact hd1.fields rfl rfl HG.out.out (heap_setCell_same _ p 3 _ 92 _ hd1.blk) (fun k hk => set_other _ _ _ _ _ hk)) (hm1.trans' (mv_set _ _ _ _)) (by simpa [World.setCell] using hs1))
      rw [e1.out] at HR
      clear hd1 hm1 hs1 HC HP HD HG e1 e2 hdk
      go_wp2
      go_ret
      exact ⟨_, rfl, HR.out⟩
  · rw [hdk] at k3
    have e1 : Hid (S.er S.s1 S.l1 = 4) := by simp [DS.er, hdk, Hid]
    have e2 : Hid (S.be S.op1 = S) := by simp [DS.be, hdk, Hid]
    have HR := hide (HP.out (by rw [e1.out]; omega) w (by rw [e2.out]; exact HD.out) (Mv.refl _ _) rfl)
    rw [e1.out] at HR
    clear HC HP HD HG e1 e2 hdk
    go_enter Try.func32, Try.ntmps32
    go_wp2
    go_ret
    exact ⟨_, rfl, HR.out⟩
/-- behind the count and the fault of kind 2. -/
def DS.op2 (S : DS) : DS := { S.tr with n2 := S.n2 + 1, s2 := (tick S.s2 S.l2).2.1, l2 := (tick S.s2 S.l2).2.2 }
def DS.c2 (S : DS) : DS := { S.tr with n2 := S.n2 + 1 }
theorem DS.Good.c2 {S : DS} (h : S.Good) (hn : S.n2 + 1 ≤ 40000000) : S.c2.Good := ⟨h.ls, h.ws, h.most, h.few, tick_cd _ _ h.t, h.f1, h.f2, h.f3, h.n1, ⟨by have := h.n2.1; show 0 ≤ S.n2 + 1; omega, hn⟩, h.n3⟩
theorem DS.Good.op2 {S : DS} (h : S.Good) (hn : S.n2 + 1 ≤ 40000000) : S.op2.Good := ⟨h.ls, h.ws, h.most, h.few, tick_cd _ _ h.t, h.f1, tick_cd _ _ h.f2, h.f3, h.n1, ⟨by have := h.n2.1; show 0 ≤ S.n2 + 1; omega, hn⟩, h.n3⟩

set_option maxHeartbeats 1600000 in
set_option maxRecDepth 1000000 in
theorem operate2 (p q : Nat) (vw : Value) (m : Option Nat) (S : DS) (w : World) (x0 x1 x2 : Value) (Post : Int → World → Prop) (h : Dk w p q vw m S) (hn : S.n2 + 1 ≤ 40000000)
    (hcall : S.er S.s2 S.l2 = 0 → ∀ W, Dk W p q vw m S.op2 → Mv (· = p) w W → W.heap.size = w.heap.size → Calls Try.prog 33 #[x0, x1, x2] W fun e w' => ∃ x, e = .returned (.int .u16 x) ∧ Post x w')
    (hpost : S.er S.s2 S.l2 ≠ 0 → ∀ W, Dk W p q vw m (S.be S.op2) → Mv (· = p) w W → W.heap.size = w.heap.size → Post (S.er S.s2 S.l2 : Int) W) :
    Calls Try.prog 32 #[.pointer (some ⟨p, 0, none⟩), .int .i64 2, .func (.func 33) #[] #[x0, x1, x2]] w fun e w' => ∃ x, e = .returned (.int .u16 x) ∧ Post x w' := by
  have HD := hide h
  have HC := hide hcall
  have HP := hide hpost
  have k3 := h.c 3 (.bool S.dk) rfl
  have HG := hide h.good
  clear h hcall hpost
  cases hdk : S.dk
  · rw [hdk] at k3
    have HT := hide (strikes_at p q vw m S S.tr 4 S.ts S.tl w HD.out rfl rfl HG.out.t rfl rfl HG.out.tr rfl)
    cases ht : (tick S.ts S.tl).1
    · rw [ht] at HT
      have HN : Hid (0 ≤ S.n2 ∧ S.n2 + 1 ≤ 40000000) := ⟨HG.out.n2.1, hn⟩
      have hnw : IntKind.i64.wrap (S.n2 + 1) = S.n2 + 1 := by rw [IntKind.wrap_i64]; have := HN.out; omega
      go_enter Try.func32, Try.ntmps32
      go_wp2_with fail
      refine HT.out.mono ?_
      rintro e w1 ⟨rfl, hd1, hm1, hs1⟩
      have k16 := hd1.c 16 (.int .i64 S.n2) rfl
      have f16 := hd1.f 16
      have HD2 := hide (hd1.fields (S' := S.c2) rfl rfl (HG.out.c2 hn) (w' := (w1.setCell ⟨p, 16, none⟩ (.int .i64 (S.n2 + 1))).drew) (heap_setCell_same w1 p 16 _ 92 _ hd1.blk) (fun k hk => set_other w1 p 16 _ k hk))
      have HM2 : Hid (Mv (· = p) w (w1.setCell ⟨p, 16, none⟩ (.int .i64 (S.n2 + 1))).drew) := hm1.trans' ((mv_set w1 p 16 _).trans' ⟨rfl, rfl, rfl, Nat.le_refl _, fun _ _ _ => rfl⟩)
      have HS2 : Hid ((w1.setCell ⟨p, 16, none⟩ (.int .i64 (S.n2 + 1))).drew.heap.size = w.heap.size) := by simpa [World.setCell, Hid] using hs1
      clear hd1 hm1 hs1
      go_wp2
      go_region
      generalize (w1.setCell ⟨p, 16, none⟩ (.int .i64 (S.n2 + 1))).drew = w2 at HD2 HM2 HS2 ⊢
      clear k16 f16
      have HT2 := hide (strikes_at p q vw m S.c2 S.op2 10 S.s2 S.l2 w2 HD2.out rfl rfl HG.out.f2 rfl rfl (HG.out.op2 hn) rfl)
      cases ht2 : (tick S.s2 S.l2).1
      · rw [ht2] at HT2
        have e1 : Hid (S.er S.s2 S.l2 = 0) := by simp [DS.er, hdk, ht, ht2, Hid]
        have HC2 := hide (HC.out e1.out)
        clear HC HP e1
        go_wp2_with fail
        refine HT2.out.mono ?_
        rintro e w3 ⟨rfl, hd3, hm3, hs3⟩
        have HR := hide (HC2.out w3 hd3 (HM2.out.trans' hm3) (hs3.trans HS2.out))
        clear hd3 hm3 hs3 HC2
        go_wp2_with fail
        refine HR.out.mono ?_
        rintro e w4 ⟨x, rfl, hpost⟩
        have HQ := hide hpost
        clear hpost
        go_wp2
        go_ret
        exact ⟨x, rfl, HQ.out⟩
      · rw [ht2] at HT2
        have e1 : Hid (S.er S.s2 S.l2 = 6) := by simp [DS.er, hdk, ht, ht2, Hid]
        have e2 : Hid (S.be S.op2 = S.op2) := by simp [DS.be, hdk, ht, Hid]
        go_wp2_with fail
        refine HT2.out.mono ?_
        rintro e w3 ⟨rfl, hd3, hm3, hs3⟩
        have HR := hide (HP.out (by rw [e1.out]; omega) w3 (by rw [e2.out]; exact hd3) (HM2.out.trans' hm3) (hs3.trans HS2.out))
        rw [e1.out] at HR
        clear hd3 hm3 hs3 HC HP
        go_wp2
        go_ret
        exact ⟨_, rfl, HR.out⟩
    · rw [ht] at HT
      have e1 : Hid (S.er S.s2 S.l2 = 4) := by simp [DS.er, hdk, ht, Hid]
      have e2 : Hid (S.be S.op2 = S.out) := by simp [DS.be, hdk, ht, Hid]
      go_enter Try.func32, Try.ntmps32
      go_wp2_with fail
      refine HT.out.mono ?_
      rintro e w1 ⟨rfl, hd1, hm1, hs1⟩
      have k3' := hd1.c 3 (.bool S.dk) rfl
      have f3 := hd1.f 3
      have HR := hide (HP.out (by rw [e1.out]; omega) (w1.setCell ⟨p, 3, none⟩ (.bool true)) (by rw [e2.out]; exact hd1.fields rfl rfl HG.out.out (heap_setCell_same _ p 3 _ 92 _ hd1.blk) (fun k hk => set_other _ _ _ _ _ hk)) (hm1.trans' (mv_set _ _ _ _)) (by simpa [World.setCell] using hs1))
      rw [e1.out] at HR
      clear hd1 hm1 hs1 HC HP HD HG e1 e2 hdk
      go_wp2
      go_ret
      exact ⟨_, rfl, HR.out⟩
  · rw [hdk] at k3
    have e1 : Hid (S.er S.s2 S.l2 = 4) := by simp [DS.er, hdk, Hid]
    have e2 : Hid (S.be S.op2 = S) := by simp [DS.be, hdk, Hid]
    have HR := hide (HP.out (by rw [e1.out]; omega) w (by rw [e2.out]; exact HD.out) (Mv.refl _ _) rfl)
    rw [e1.out] at HR
    clear HC HP HD HG e1 e2 hdk
    go_enter Try.func32, Try.ntmps32
    go_wp2
    go_ret
    exact ⟨_, rfl, HR.out⟩
/-- behind the count and the fault of kind 3. -/
def DS.op3 (S : DS) : DS := { S.tr with n3 := S.n3 + 1, s3 := (tick S.s3 S.l3).2.1, l3 := (tick S.s3 S.l3).2.2 }
def DS.c3 (S : DS) : DS := { S.tr with n3 := S.n3 + 1 }
theorem DS.Good.c3 {S : DS} (h : S.Good) (hn : S.n3 + 1 ≤ 40000000) : S.c3.Good := ⟨h.ls, h.ws, h.most, h.few, tick_cd _ _ h.t, h.f1, h.f2, h.f3, h.n1, h.n2, ⟨by have := h.n3.1; show 0 ≤ S.n3 + 1; omega, hn⟩⟩
theorem DS.Good.op3 {S : DS} (h : S.Good) (hn : S.n3 + 1 ≤ 40000000) : S.op3.Good := ⟨h.ls, h.ws, h.most, h.few, tick_cd _ _ h.t, h.f1, h.f2, tick_cd _ _ h.f3, h.n1, h.n2, ⟨by have := h.n3.1; show 0 ≤ S.n3 + 1; omega, hn⟩⟩

set_option maxHeartbeats 1600000 in
set_option maxRecDepth 1000000 in
theorem operate3 (p q : Nat) (vw : Value) (m : Option Nat) (S : DS) (w : World) (x0 : Value) (Post : Int → World → Prop) (h : Dk w p q vw m S) (hn : S.n3 + 1 ≤ 40000000)
    (hcall : S.er S.s3 S.l3 = 0 → ∀ W, Dk W p q vw m S.op3 → Mv (· = p) w W → W.heap.size = w.heap.size → Calls Try.prog 81 #[x0] W fun e w' => ∃ x, e = .returned (.int .u16 x) ∧ Post x w')
    (hpost : S.er S.s3 S.l3 ≠ 0 → ∀ W, Dk W p q vw m (S.be S.op3) → Mv (· = p) w W → W.heap.size = w.heap.size → Post (S.er S.s3 S.l3 : Int) W) :
    Calls Try.prog 32 #[.pointer (some ⟨p, 0, none⟩), .int .i64 3, .func (.func 81) #[] #[x0]] w fun e w' => ∃ x, e = .returned (.int .u16 x) ∧ Post x w' := by
  have HD := hide h
  have HC := hide hcall
  have HP := hide hpost
  have k3 := h.c 3 (.bool S.dk) rfl
  have HG := hide h.good
  clear h hcall hpost
  cases hdk : S.dk
  · rw [hdk] at k3
    have HT := hide (strikes_at p q vw m S S.tr 4 S.ts S.tl w HD.out rfl rfl HG.out.t rfl rfl HG.out.tr rfl)
    cases ht : (tick S.ts S.tl).1
    · rw [ht] at HT
      have HN : Hid (0 ≤ S.n3 ∧ S.n3 + 1 ≤ 40000000) := ⟨HG.out.n3.1, hn⟩
      have hnw : IntKind.i64.wrap (S.n3 + 1) = S.n3 + 1 := by rw [IntKind.wrap_i64]; have := HN.out; omega
      go_enter Try.func32, Try.ntmps32
      go_wp2_with fail
      refine HT.out.mono ?_
      rintro e w1 ⟨rfl, hd1, hm1, hs1⟩
      have k16 := hd1.c 17 (.int .i64 S.n3) rfl
      have f16 := hd1.f 17
      have HD2 := hide (hd1.fields (S' := S.c3) rfl rfl (HG.out.c3 hn) (w' := (w1.setCell ⟨p, 17, none⟩ (.int .i64 (S.n3 + 1))).drew) (heap_setCell_same w1 p 17 _ 92 _ hd1.blk) (fun k hk => set_other w1 p 17 _ k hk))
      have HM2 : Hid (Mv (· = p) w (w1.setCell ⟨p, 17, none⟩ (.int .i64 (S.n3 + 1))).drew) := hm1.trans' ((mv_set w1 p 17 _).trans' ⟨rfl, rfl, rfl, Nat.le_refl _, fun _ _ _ => rfl⟩)
      have HS2 : Hid ((w1.setCell ⟨p, 17, none⟩ (.int .i64 (S.n3 + 1))).drew.heap.size = w.heap.size) := by simpa [World.setCell, Hid] using hs1
      clear hd1 hm1 hs1
      go_wp2
      go_region
      generalize (w1.setCell ⟨p, 17, none⟩ (.int .i64 (S.n3 + 1))).drew = w2 at HD2 HM2 HS2 ⊢
      clear k16 f16
      have HT2 := hide (strikes_at p q vw m S.c3 S.op3 12 S.s3 S.l3 w2 HD2.out rfl rfl HG.out.f3 rfl rfl (HG.out.op3 hn) rfl)
      cases ht2 : (tick S.s3 S.l3).1
      · rw [ht2] at HT2
        have e1 : Hid (S.er S.s3 S.l3 = 0) := by simp [DS.er, hdk, ht, ht2, Hid]
        have HC2 := hide (HC.out e1.out)
        clear HC HP e1
        go_wp2_with fail
        refine HT2.out.mono ?_
        rintro e w3 ⟨rfl, hd3, hm3, hs3⟩
        have HR := hide (HC2.out w3 hd3 (HM2.out.trans' hm3) (hs3.trans HS2.out))
        clear hd3 hm3 hs3 HC2
        go_wp2_with fail
        refine HR.out.mono ?_
        rintro e w4 ⟨x, rfl, hpost⟩
        have HQ := hide hpost
        clear hpost
        go_wp2
        go_ret
        exact ⟨x, rfl, HQ.out⟩
      · rw [ht2] at HT2
        have e1 : Hid (S.er S.s3 S.l3 = 6) := by simp [DS.er, hdk, ht, ht2, Hid]
        have e2 : Hid (S.be S.op3 = S.op3) := by simp [DS.be, hdk, ht, Hid]
        go_wp2_with fail
        refine HT2.out.mono ?_
        rintro e w3 ⟨rfl, hd3, hm3, hs3⟩
        have HR := hide (HP.out (by rw [e1.out]; omega) w3 (by rw [e2.out]; exact hd3) (HM2.out.trans' hm3) (hs3.trans HS2.out))
        rw [e1.out] at HR
        clear hd3 hm3 hs3 HC HP
        go_wp2
        go_ret
        exact ⟨_, rfl, HR.out⟩
    · rw [ht] at HT
      have e1 : Hid (S.er S.s3 S.l3 = 4) := by simp [DS.er, hdk, ht, Hid]
      have e2 : Hid (S.be S.op3 = S.out) := by simp [DS.be, hdk, ht, Hid]
      go_enter Try.func32, Try.ntmps32
      go_wp2_with fail
      refine HT.out.mono ?_
      rintro e w1 ⟨rfl, hd1, hm1, hs1⟩
      have k3' := hd1.c 3 (.bool S.dk) rfl
      have f3 := hd1.f 3
      have HR := hide (HP.out (by rw [e1.out]; omega) (w1.setCell ⟨p, 3, none⟩ (.bool true)) (by rw [e2.out]; exact hd1.fields rfl rfl HG.out.out (heap_setCell_same _ p 3 _ 92 _ hd1.blk) (fun k hk => set_other _ _ _ _ _ hk)) (hm1.trans' (mv_set _ _ _ _)) (by simpa [World.setCell] using hs1))
      rw [e1.out] at HR
      clear hd1 hm1 hs1 HC HP HD HG e1 e2 hdk
      go_wp2
      go_ret
      exact ⟨_, rfl, HR.out⟩
  · rw [hdk] at k3
    have e1 : Hid (S.er S.s3 S.l3 = 4) := by simp [DS.er, hdk, Hid]
    have e2 : Hid (S.be S.op3 = S) := by simp [DS.be, hdk, Hid]
    have HR := hide (HP.out (by rw [e1.out]; omega) w (by rw [e2.out]; exact HD.out) (Mv.refl _ _) rfl)
    rw [e1.out] at HR
    clear HC HP HD HG e1 e2 hdk
    go_enter Try.func32, Try.ntmps32
    go_wp2
    go_ret
    exact ⟨_, rfl, HR.out⟩
end Go.Proofs.Ytkammfkknfflgaa
/- A sector out of bytes; a write into the cache. -/
namespace Go.Proofs.Ytkammfkknfflgaa
open Go.RowKit Go.Maps
set_option linter.unusedVariables false

def z110 : Array Value := Array.replicate 128 (.int .u8 0)
theorem zero110 : ∀ w, (zeroValue 103).run Try.prog w = .ok (.agg z110) w := (zero_of_info (P := Try.prog) (t := 103) (v := .agg z110) (n := 128) (by kernel_rfl)).1
theorem size110 : (Try.prog.info? 103).map (·.size) = some 128 := by kernel_rfl
theorem Row.range {w : World} {b off : Nat} {zs : List Int} (h : Row w (some ⟨b, off, none⟩) zs) (k n : Nat) (hk : k + n ≤ zs.length) : w.rangeAt b (off + k) (sv ((zs.drop k).take n)) := by
  intro j v hv
  rcases h with h | ⟨b', off', e, hlt, hc⟩
  · subst h; simp [sv] at hv
  · cases e
    have hj : j < n := by
      have := (List.getElem?_eq_some_iff.1 hv).1
      simp only [sv, List.length_map, List.length_take] at this
      omega
    have := hc (k + j) (by omega)
    rw [Nat.add_assoc, this]
    rw [← hv]
    simp [sv, hj, show k + j < zs.length by omega]

theorem arrayAt110 (a : Option Addr) (n c : Nat) (h : 128 ≤ n) (W : World) : (Instr.arrayAt 103 (.slice a n c)).run Try.prog W = .ok (.pointer a) W := by
  simp [Instr.arrayAt, run_underlying Try.underlying103, show ¬ n < 128 by omega]
set_option maxHeartbeats 1600000 in
set_option maxRecDepth 1000000 in
theorem sectorAt_any (b off len cap : Nat) (zs : List Int) (at_ : Nat) (w : World) (hr : Row w (some ⟨b, off, none⟩) zs) (hl : zs.length = len) (hlc : len ≤ cap) (hc : cap ≤ 9223372036854775807) (ha : at_ * 128 + 128 ≤ len) :
    Calls Try.prog 31 #[.slice (some ⟨b, off, none⟩) len cap, .int .i64 (at_ : Int)] w fun e w' => e = .returned (.agg (sv ((zs.drop (at_ * 128)).take 128)).toArray) ∧ Below w.heap.size w w' := by
  have HR := hide (World.rangeAt_alloc (hr.range (at_ * 128) 128 (by omega)) (.cells z110 103))
  have hL : (sv ((zs.drop (at_ * 128)).take 128)).length = 128 := by rw [sv_len]; simp; omega
  have h1 := all_oneCell_toArray (sv_one ((zs.drop (at_ * 128)).take 128))
  have hz := zero110
  generalize sv ((zs.drop (at_ * 128)).take 128) = cs at *
  have hat := arrayAt110 (some ⟨b, off + at_ * 128, none⟩) (len - at_ * 128) (cap - at_ * 128) (by omega)
  have HI : Hid ((Try.prog.info? 103).map (·.size) = some cs.length) := by rw [hL]; exact size110
  have HI2 : Hid ((Try.prog.info? 103).map (·.size) = some cs.toArray.size) := by rw [List.size_toArray, hL]; exact size110
  have HT : Hid ((w.alloc (.cells z110 103)).heap[w.heap.size]? = some (.cells z110 103 (0, 0))) := heap_alloc_new w _
  have HZ : Hid (z110.size = cs.toArray.size) := by simp [z110, hL, Hid]
  have H1 := hide h1
  have HN := hide (heap_alloc_new w (.cells cs.toArray 103))
  have HB := hide (below_alloc w (.cells cs.toArray 103))
  clear hr h1 hL
  go_enter Try.func31, Try.ntmps31
  go_wp2_with (first | (refine wpList_load_mid (by rfl) 103 (.tmp 9) (by rfl) b (off + at_ * 128) (by rfl) cs _ HR.out Try.underlying103 rfl HI.out ?_) | (refine wpList_store_row (by rfl) 103 (.tmp 4) (.tmp 10) (by rfl) w.heap.size cs.toArray (by rfl) (by rfl) 103 z110 HT.out HI2.out HZ.out H1.out ?_; rw [World.setRow_alloc_new]))
  refine bodyPost_ret (v := .agg cs.toArray) ?_ rfl ?_
  · exact results_cell_row (p := 4) (ty := 103) rfl _ _ w.heap.size 103 _ (0, 0) _ rfl HN.out Try.underlying103 rfl HI2.out
  · exact ⟨rfl, HB.out⟩
end Go.Proofs.Ytkammfkknfflgaa
/- A write of the cache is built of its number and its bytes. -/
namespace Go.Proofs.Ytkammfkknfflgaa
open Go.RowKit Go.Maps
set_option linter.unusedVariables false

theorem fold_set (off : Nat) : ∀ (vs : List Value) (k : Nat) (cells : Array Value), off + k + vs.length ≤ cells.size →
    (vs.zipIdx k).foldl (fun cs (x : Value × Nat) => cs.setIfInBounds (off + x.2) x.1) cells = (cells.toList.take (off + k) ++ vs ++ cells.toList.drop (off + k + vs.length)).toArray
  | [], k, cells, _ => by simp
  | v :: vs, k, cells, h => by
    simp only [List.length_cons] at h
    rw [List.zipIdx_cons, List.foldl_cons, fold_set off vs (k + 1) _ (by simp; omega)]
    congr 1
    have e := list_seg_step cells.toList (off + k) v vs (by simp; omega)
    simpa [Array.toList_setIfInBounds, Nat.add_assoc] using e
theorem fill_one (place : Nat → Option (Nat × Nat)) (cells : Array Value) (i off : Nat) (v : Value) (rest : List (Nat × Value)) (hp : place i = some (off, v.cells.size)) (hs : off + v.cells.size ≤ cells.size) :
    Instr.fill place cells ((i, v) :: rest) = Instr.fill place (cells.toList.take off ++ v.cells.toList ++ cells.toList.drop (off + v.cells.size)).toArray rest := by
  rw [Instr.fill, hp]
  have e : v.cells.zipIdx.foldl (fun cs (x : Value × Nat) => cs.setIfInBounds (off + x.2) x.1) cells = (cells.toList.take off ++ v.cells.toList ++ cells.toList.drop (off + v.cells.size)).toArray := by
    have := fold_set off v.cells.toList 0 cells (by simpa using hs)
    rw [← Array.foldl_toList, Array.toList_zipIdx, this]
    simp
  have e2 : (v.cells.size ≠ v.cells.size || off + v.cells.size > cells.size) = false := by simp; omega
  simp only [e2, Bool.false_eq_true, if_false]
  exact congrArg (fun c => Instr.fill place c rest) e
def z117 : Array Value := #[.int .i64 0] ++ Array.replicate 128 (.int .u8 0)
theorem info117 : (Try.prog.info? 110).map (fun i => (i.zero, i.size, i.bytes)) = some (some (.agg z117), 129, 136) := by kernel_rfl
theorem size117 : (Try.prog.info? 110).map (·.size) = some 129 := by kernel_rfl
theorem size3 : (Try.prog.info? 3).map (·.size) = some 1 := by kernel_rfl
set_option maxRecDepth 100000 in
theorem built117 (n : Int) (A : List Value) (hA : A.length = 128) : Try.prog.built 110 [(0, .int .i64 n), (1, .agg A.toArray)] = some (Value.int .i64 n :: A).toArray := by
  obtain ⟨it, hi, hz, hs, hb⟩ := info_parts info117
  have h3 := size3
  have h110 := size110
  cases h3' : Try.prog.info? 3 with
  | none => rw [h3'] at h3; cases h3
  | some i3 =>
    cases h110' : Try.prog.info? 103 with
    | none => rw [h110'] at h110; cases h110
    | some i110 =>
      rw [h3'] at h3
      rw [h110'] at h110
      simp only [Option.map_some, Option.some.injEq] at h3 h110
      unfold Program.built
      rw [hi, Try.underlying110]
      simp only [hz, List.mapM_cons, List.mapM_nil, h3', h110', Option.map_some, Option.bind_eq_bind, Option.bind_some, Option.pure_def, h3, h110, Value.cells]
      rw [fill_one _ _ 0 0 (.int .i64 n) _ rfl (by simp [z117, Value.cells]), fill_one _ _ 1 1 (.agg A.toArray) _ (by simp [Value.cells, hA]) (by simp [z117, Value.cells, hA])]
      simp only [Instr.fill, Option.some.injEq]
      simp [z117, Value.cells, hA]
theorem slice91 (n : Int) (A : List Value) (hA : A.length = 128) (w : World) : (Instr.buildSlice 83 1 #[(0, .agg (Value.int .i64 n :: A).toArray)]).run Try.prog w = .ok (.slice (some ⟨w.heap.size, 0, none⟩) 1 1) (w.alloc (.cells (Value.int .i64 n :: A).toArray 110)) := by
  obtain ⟨it, hi, hz, hs, hb⟩ := info_parts info117
  refine run_buildSlice w 83 110 1 _ _ it _ Try.underlying83 hi hz (by rw [hs]; decide) (by rw [hs]; decide) ?_
  rw [hs]
  show Instr.fill _ _ [(0, Value.agg _)] = _
  rw [fill_one _ _ 0 0 _ _ (by simp [Value.cells, hA]) (by simp [Value.cells, hA])]
  simp only [Instr.fill, Option.some.injEq]
  simp [Value.cells, hA]
end Go.Proofs.Ytkammfkknfflgaa
