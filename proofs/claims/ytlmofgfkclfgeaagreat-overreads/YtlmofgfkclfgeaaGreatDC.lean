/- The disk in memory: its struct, its lasting sectors, its cache and the cache's map; what stays as it was. -/
import Derived.Test.YtlmofgfkclfgeaaGreatA
import Derived.Test.YtlmofgfkclfgeaaGreatRows
import Derived.Deep.MidRow
import Derived.Maps.Own
import Derived.Maps.OwnSet
import Derived.Maps.AppendAt
import Derived.Deep.OwnRows
namespace Go.Proofs.YtlmofgfkclfgeaaGreat
open Go.RowKit Go.Maps
set_option linter.unusedVariables false

/-- bytes as cells. -/
def sv (xs : List Int) : List Value := xs.map (Value.int .u8)
/-- sectors, one behind the other. -/
def flat (L : List (List Int)) : List Value := (L.map sv).flatten
/-- a write of the cache: its sector's number, its bytes. -/
def wv (x : Nat × List Int) : List Value := .int .i64 (x.1 : Int) :: sv x.2
def wflat (W : List (Nat × List Int)) : List Value := (W.map wv).flatten

theorem sv_len (xs : List Int) : (sv xs).length = xs.length := by simp [sv]
theorem sv_one (xs : List Int) : ∀ v ∈ sv xs, v.oneCell' = true := by
  intro v hv
  simp only [sv, List.mem_map] at hv
  obtain ⟨x, _, rfl⟩ := hv
  rfl
theorem wv_one (x : Nat × List Int) : ∀ v ∈ wv x, v.oneCell' = true := by
  intro v hv
  simp only [wv, List.mem_cons] at hv
  rcases hv with rfl | hv
  · rfl
  · exact sv_one _ v hv
theorem flatten_len {n : Nat} : ∀ (L : List (List Value)), (∀ s ∈ L, s.length = n) → L.flatten.length = L.length * n
  | [], _ => by simp
  | s :: L, h => by rw [List.flatten_cons, List.length_append, h s (by simp), flatten_len L (fun t ht => h t (by simp [ht])), List.length_cons, Nat.add_mul]; omega
theorem flatten_at {n : Nat} : ∀ (L : List (List Value)), (∀ s ∈ L, s.length = n) → ∀ (i : Nat) (s : List Value), L[i]? = some s → ∀ j v, s[j]? = some v → L.flatten[i * n + j]? = some v
  | [], _, i, s, h, _, _, _ => by simp at h
  | t :: L, h, 0, s, hs, j, v, hv => by
    simp at hs
    subst hs
    rw [List.flatten_cons, List.getElem?_append_left (by have := (List.getElem?_eq_some_iff.1 hv).1; omega)]
    simpa using hv
  | t :: L, h, i + 1, s, hs, j, v, hv => by
    have ht := h t (by simp)
    rw [List.flatten_cons, List.getElem?_append_right (by rw [ht, Nat.add_mul]; omega), ht, show (i + 1) * n + j - n = i * n + j by rw [Nat.add_mul]; omega]
    exact flatten_at L (fun s hs => h s (by simp [hs])) i s (by simpa using hs) j v hv
theorem flatten_set {n : Nat} : ∀ (L : List (List Value)), (∀ s ∈ L, s.length = n) → ∀ (i : Nat) (s : List Value), s.length = n → i < L.length → (L.set i s).flatten = L.flatten.take (i * n) ++ s ++ L.flatten.drop (i * n + n)
  | [], _, i, s, _, h => by simp at h
  | t :: L, h, 0, s, hs, _ => by
    have ht := h t (by simp)
    simp only [List.set_cons_zero, List.flatten_cons, Nat.zero_mul, List.take_zero, List.nil_append, Nat.zero_add]
    rw [List.drop_append_of_le_length (by omega), List.drop_of_length_le (by omega), List.nil_append]
  | t :: L, h, i + 1, s, hs, hi => by
    have ht := h t (by simp)
    simp only [List.length_cons] at hi
    simp only [List.set_cons_succ, List.flatten_cons]
    rw [flatten_set L (fun s hs => h s (by simp [hs])) i s hs (by omega)]
    rw [List.take_append, List.take_of_length_le (l := t) (by rw [ht, Nat.add_mul]; omega), ht, show (i + 1) * n - n = i * n by rw [Nat.add_mul]; omega]
    rw [List.drop_append, List.drop_of_length_le (l := t) (by rw [ht, Nat.add_mul]; omega), ht, show (i + 1) * n + n - n = i * n + n by rw [Nat.add_mul]; omega]
    simp

/-- a disk's state: lasting sectors, the cache's writes, dark, the trip, the faults of reads, writes and syncs, the counts. -/
structure DS where
  ls : List (List Int)
  ws : List (Nat × List Int)
  dk : Bool
  ts : Bool
  tl : Int
  s1 : Bool
  l1 : Int
  s2 : Bool
  l2 : Int
  s3 : Bool
  l3 : Int
  n1 : Int
  n2 : Int
  n3 : Int
/-- a countdown that may be. -/
def Cd (s : Bool) (l : Int) : Prop := 0 ≤ l ∧ l ≤ 9223372036854775807
structure DS.Good (S : DS) : Prop where
  ls : ∀ s ∈ S.ls, s.length = 128 ∧ Byts s
  ws : ∀ x ∈ S.ws, x.1 < S.ls.length ∧ x.2.length = 128 ∧ Byts x.2
  most : S.ls.length ≤ 131072
  few : S.ws.length ≤ 1000000
  t : Cd S.ts S.tl
  f1 : Cd S.s1 S.l1
  f2 : Cd S.s2 S.l2
  f3 : Cd S.s3 S.l3
  n1 : 0 ≤ S.n1 ∧ S.n1 ≤ 1000000
  n2 : 0 ≤ S.n2 ∧ S.n2 ≤ 1000000
  n3 : 0 ≤ S.n3 ∧ S.n3 ≤ 1000000
/-- where a sector's last write stands. -/
def lastAt (W : List (Nat × List Int)) (n : Nat) : Option Nat := ((List.range W.length).reverse.find? fun i => (W.getD i (0, [])).1 == n)
/-- the map tells of each sector where its last write stands. -/
def Tells (D : DataW Unit) (W : List (Nat × List Int)) : Prop :=
  ∀ n : Nat, Maps.has D (.int .i64 (n : Int)) = (lastAt W n).isSome ∧ ∀ i, lastAt W n = some i → D.atKey (.int .i64 (n : Int)) (.lit (.int .i64 0)) = .lit (.int .i64 (i : Int))
/-- the blocks of a disk. -/
def Ow (p q : Nat) (vw : Value) (m : Option Nat) (k : Nat) : Prop := k = p ∨ k = q ∨ vw.ownBlock = some k ∨ m = some k
def MapAt (w : World) (m : Option Nat) (W : List (Nat × List Int)) : Prop :=
  match m with
  | none => W = []
  | some b => ∃ (n : Nat) (D : DataW Unit), n ≤ W.length ∧ w.ownsMap Tryz.prog 3 (plainElem Tryz.prog 3) b n D ∧ Tells D W
/-- the struct's cells. -/
def cells (q : Nat) (vw : Value) (m : Option Nat) (S : DS) : Array Value :=
  #[.slice (some ⟨q, 0, none⟩) S.ls.length S.ls.length, vw, .map m, .bool S.dk, .bool S.ts, .int .i64 S.tl, .bool false, .int .i64 0, .bool S.s1, .int .i64 S.l1, .bool S.s2, .int .i64 S.l2, .bool S.s3, .int .i64 S.l3, .int .i64 0, .int .i64 S.n1, .int .i64 S.n2, .int .i64 S.n3]
structure Dk (w : World) (p q : Nat) (vw : Value) (m : Option Nat) (S : DS) : Prop where
  blk : w.heap[p]? = some (.cells (cells q vw m S) 95 (0, 0))
  las : w.heap[q]? = some (.cells (flat S.ls).toArray 97 (0, 0))
  wri : w.ownsRow 0 241 129 vw S.ws.length (wflat S.ws)
  map : MapAt w m S.ws
  pq : p ≠ q
  pv : vw.ownBlock ≠ some p
  qv : vw.ownBlock ≠ some q
  pm : m ≠ some p
  qm : m ≠ some q
  vm : ∀ k, vw.ownBlock = some k → m ≠ some k
  good : S.Good
/-- all but the blocks of O stays as it was. -/
structure Mv (O : Nat → Prop) (w w' : World) : Prop where
  os : w'.os = w.os
  tape : w'.tape = w.tape
  output : w'.output = w.output
  size : w.heap.size ≤ w'.heap.size
  block : ∀ k, k < w.heap.size → ¬ O k → w'.heap[k]? = w.heap[k]?
/-- .. and what is owned behind it was owned, or is new. -/
structure Go1 (O : Nat → Prop) (w : World) (O' : Nat → Prop) (w' : World) : Prop where
  mv : Mv O w w'
  own : ∀ k, O' k → O k ∨ w.heap.size ≤ k
theorem Mv.refl (O : Nat → Prop) (w : World) : Mv O w w := ⟨rfl, rfl, rfl, Nat.le_refl _, fun _ _ _ => rfl⟩
theorem Go1.refl (O : Nat → Prop) (w : World) : Go1 O w O w := ⟨Mv.refl O w, fun _ h => .inl h⟩
theorem Go1.trans {O O1 O2 : Nat → Prop} {w w1 w2 : World} (h : Go1 O w O1 w1) (k : Go1 O1 w1 O2 w2) : Go1 O w O2 w2 :=
  ⟨⟨k.mv.os.trans h.mv.os, k.mv.tape.trans h.mv.tape, k.mv.output.trans h.mv.output, Nat.le_trans h.mv.size k.mv.size, fun i hi hn => by
    rw [k.mv.block i (Nat.lt_of_lt_of_le hi h.mv.size) (fun ho => (h.own i ho).elim hn (fun hl => by omega)), h.mv.block i hi hn]⟩,
   fun i hi => (k.own i hi).elim (h.own i) (fun hl => .inr (Nat.le_trans h.mv.size hl))⟩
theorem Go1.of_below {O : Nat → Prop} {w w' : World} (h : Below w.heap.size w w') : Go1 O w O w' := ⟨⟨h.os, h.tape, h.output, h.size, fun k hk _ => h.block k hk⟩, fun _ h => .inl h⟩
theorem Mv.below {O : Nat → Prop} {w w' : World} {B : Nat} (h : Mv O w w') (hB : B ≤ w.heap.size) (hO : ∀ k, O k → B ≤ k) : Below B w w' :=
  ⟨h.os, h.tape, h.output, h.size, fun k hk => h.block k (by omega) (fun ho => by have := hO k ho; omega)⟩
theorem find_congr' {α : Type} (f g : α → Bool) : ∀ (l : List α), (∀ x ∈ l, f x = g x) → l.find? f = l.find? g
  | [], _ => rfl
  | a :: l, h => by
    rw [List.find?_cons, List.find?_cons, h a (by simp), find_congr' f g l (fun x hx => h x (by simp [hx]))]
theorem lastAt_snoc (W : List (Nat × List Int)) (x : Nat × List Int) (n : Nat) : lastAt (W ++ [x]) n = if x.1 = n then some W.length else lastAt W n := by
  unfold lastAt
  rw [List.length_append, List.length_singleton, List.range_succ, List.reverse_append, List.reverse_singleton, List.singleton_append, List.find?_cons]
  have e : (W ++ [x]).getD W.length (0, []) = x := by simp
  rw [e]
  by_cases h : x.1 = n
  · simp [h]
  · have h' : (x.1 == n) = false := by simpa using h
    rw [h', if_neg h]
    apply find_congr'
    intro i hi
    simp only [List.mem_reverse, List.mem_range] at hi
    simp [List.getD_eq_getElem?_getD, List.getElem?_append_left hi]
theorem lastAt_some {W : List (Nat × List Int)} {n i : Nat} (h : lastAt W n = some i) : i < W.length ∧ ∃ x, W[i]? = some x ∧ x.1 = n := by
  have h1 := List.find?_some h
  have h2 := List.mem_of_find?_eq_some h
  simp only [List.mem_reverse, List.mem_range] at h2
  refine ⟨h2, W[i], by simp [h2], ?_⟩
  simpa [List.getD_eq_getElem?_getD, h2] using h1
theorem Tells.nil : Tells (.map []) [] := fun n => ⟨by simp [lastAt, Maps.has_eq], fun i h => by simp [lastAt] at h⟩
theorem Tells.snoc {D : DataW Unit} {W : List (Nat × List Int)} (h : Tells D W) (hD : IsMap D) (x : Nat × List Int) : Tells (D.put (.int .i64 (x.1 : Int)) (.lit (.int .i64 (W.length : Int)))) (W ++ [x]) := by
  intro n
  rw [lastAt_snoc]
  by_cases e : x.1 = n
  · subst e
    rw [if_pos rfl]
    exact ⟨by rw [has_put_same hD (by simp [WideAt.IsKeyLit])]; rfl, fun i hi => by cases hi; exact atKey_put_same hD (by simp [WideAt.IsKeyLit]) _ _⟩
  · rw [if_neg e]
    have hne : Lit.int .i64 (n : Int) ≠ Lit.int .i64 (x.1 : Int) := by intro h; injection h with _ h; omega
    exact ⟨by rw [has_put_other hne]; exact (h n).1, fun i hi => by rw [atKey_put_other hne]; exact (h n).2 i hi⟩
/-- the bytes that were written last. -/
def newest (S : DS) (n : Nat) : List Int := match lastAt S.ws n with
  | some i => (S.ws.getD i (0, [])).2
  | none => S.ls.getD n []
/-- a disk whose own blocks are as they were is as it was. -/
theorem Dk.stays {w w' : World} {p q : Nat} {vw : Value} {m : Option Nat} {S : DS} (h : Dk w p q vw m S) (hb : ∀ k, Ow p q vw m k → w'.heap[k]? = w.heap[k]?) : Dk w' p q vw m S := by
  refine ⟨(hb p (.inl rfl)).trans h.blk, (hb q (.inr (.inl rfl))).trans h.las, ?_, ?_, h.pq, h.pv, h.qv, h.pm, h.qm, h.vm, h.good⟩
  · obtain ⟨h1, h2⟩ := h.wri
    refine ⟨h1, ?_⟩
    rcases h2 with h2 | ⟨g, cap, cur, rfl, hg, hh, r⟩
    · exact .inl h2
    · exact .inr ⟨g, cap, cur, rfl, hg, by rw [hb g (.inr (.inr (.inl rfl)))]; exact hh, r⟩
  · have := h.map
    cases m with
    | none => exact this
    | some b =>
      obtain ⟨n, D, hn, ⟨es, clock, e1, e2⟩, ht⟩ := this
      exact ⟨n, D, hn, ⟨es, clock, (hb b (.inr (.inr (.inr rfl)))).trans e1, e2⟩, ht⟩
theorem Dk.lt {w : World} {p q : Nat} {vw : Value} {m : Option Nat} {S : DS} (h : Dk w p q vw m S) (k : Nat) (hk : Ow p q vw m k) : k < w.heap.size := by
  rcases hk with rfl | rfl | hk | hk
  · exact lt_of_block h.blk
  · exact lt_of_block h.las
  · exact (h.wri.lt k hk).2
  · have := h.map
    subst hk
    obtain ⟨n, D, hn, ho, ht⟩ := this
    exact ho.lt
theorem Dk.below {w w' : World} {p q : Nat} {vw : Value} {m : Option Nat} {S : DS} (h : Dk w p q vw m S) (hb : Below w.heap.size w w') : Dk w' p q vw m S := h.stays fun k hk => hb.block k (h.lt k hk)
/-- a disk at p, whose sectors lie at q, whose blocks are O. -/
def DkAt (w : World) (p q : Nat) (S : DS) (O : Nat → Prop) : Prop := ∃ vw m, Dk w p q vw m S ∧ ∀ k, O k ↔ Ow p q vw m k
theorem DkAt.below {w w' : World} {p q : Nat} {S : DS} {O : Nat → Prop} (h : DkAt w p q S O) (hb : Below w.heap.size w w') : DkAt w' p q S O := by
  obtain ⟨vw, m, hd, ho⟩ := h
  exact ⟨vw, m, hd.below hb, ho⟩
theorem DkAt.lt {w : World} {p q : Nat} {S : DS} {O : Nat → Prop} (h : DkAt w p q S O) (k : Nat) (hk : O k) : k < w.heap.size := by
  obtain ⟨vw, m, hd, ho⟩ := h
  exact hd.lt k ((ho k).1 hk)
/-- .. and so is one beside another that moves. -/
theorem DkAt.other {w w' : World} {p q : Nat} {S : DS} {O O1 : Nat → Prop} (h : DkAt w p q S O) (hm : Mv O1 w w') (hap : ∀ k, O k → ¬ O1 k) : DkAt w' p q S O := by
  obtain ⟨vw, m, hd, ho⟩ := h
  exact ⟨vw, m, hd.stays fun k hk => hm.block k (hd.lt k hk) (hap k ((ho k).2 hk)), ho⟩
end Go.Proofs.YtlmofgfkclfgeaaGreat
/- Contracts: bytes all alike, a countdown, how many pages, has it that page. -/
namespace Go.Proofs.YtlmofgfkclfgeaaGreat
open Go.RowKit Go.Maps
set_option linter.unusedVariables false

theorem Tryz.info5 : (Tryz.prog.info? 5).map (fun i => (i.zero, i.size, i.bytes)) = some (some (.int .u8 0), 1, 1) := by kernel_rfl
/-- a block of n bytes, the first k of them c. -/
def Fill (w : World) (g n k : Nat) (c : Int) : Prop := ∃ L : Array Value, w.heap[g]? = some (.cells L 5 (0, 0)) ∧ L.size = n ∧ ∀ i, i < k → L[i]? = some (.int .u8 c)
theorem Fill.f {w : World} {g n k : Nat} {c : Int} (h : Fill w g n k c) (i : Nat) : w.frozen? ⟨g, i, none⟩ = false := by obtain ⟨L, h, _⟩ := h; simp [World.frozen?, h]
theorem Fill.c {w : World} {g n k : Nat} {c : Int} (h : Fill w g n k c) (hk : k < n) : ∃ v, w.cell? ⟨g, k, none⟩ = some v := by
  obtain ⟨L, h, h2, _⟩ := h
  exact ⟨L[k]'(by omega), by simp [World.cell?, h, h2, hk]⟩
theorem Fill.set {w : World} {g n k : Nat} {c : Int} (h : Fill w g n k c) (hk : k < n) : Fill (w.setCell ⟨g, k, none⟩ (.int .u8 c)) g n (k + 1) c := by
  obtain ⟨L, h, h2, h3⟩ := h
  refine ⟨_, heap_setCell_same w g k _ 5 _ h, by simpa using h2, fun i hi => ?_⟩
  rw [Array.getElem?_setIfInBounds]
  by_cases e : k = i
  · rw [if_pos e, if_pos (by omega)]
  · rw [if_neg e]; exact h3 i (by omega)
theorem Fill.row {w : World} {g n : Nat} {c : Int} (h : Fill w g n n c) : Row w (some ⟨g, 0, none⟩) (List.replicate n c) := by
  obtain ⟨L, h, h2, h3⟩ := h
  refine .inr ⟨g, 0, rfl, lt_of_block h, fun i hi => ?_⟩
  rw [List.length_replicate] at hi
  have := h3 i hi
  simp only [World.cell?, h, Nat.zero_add, this]
  simp [hi]

/-- a countdown: does it hit, and what is left of it. -/
def tick (s : Bool) (l : Int) : Bool × Bool × Int := if s = true then (if l = 0 then (true, false, 0) else (false, true, l - 1)) else (false, false, l)
set_option maxHeartbeats 800000 in
set_option maxRecDepth 1000000 in
theorem strikes_any (p o : Nat) (s : Bool) (l : Int) (w : World) (h0 : w.cell? ⟨p, o, none⟩ = some (.bool s)) (h1 : w.cell? ⟨p, o + 1, none⟩ = some (.int .i64 l)) (f0 : w.frozen? ⟨p, o, none⟩ = false) (f1 : w.frozen? ⟨p, o + 1, none⟩ = false) (hl : Cd s l) :
    Calls Tryz.prog 94 #[.pointer (some ⟨p, o, none⟩)] w fun e w' => e = .returned (.bool (tick s l).1) ∧ w' = (if s = true then (if l = 0 then (w.setCell ⟨p, o, none⟩ (.bool false)).setCell ⟨p, o + 1, none⟩ (.int .i64 0) else w.setCell ⟨p, o + 1, none⟩ (.int .i64 (l - 1))) else w) := by
  obtain ⟨l0, l1⟩ := hl
  unfold tick
  cases s
  · go_enter Tryz.func94, Tryz.ntmps94
    go_wp2
    go_ret
    exact ⟨rfl, rfl⟩
  · by_cases h : l = 0
    · subst h
      go_enter Tryz.func94, Tryz.ntmps94
      go_wp2
      go_ret
      exact ⟨rfl, rfl⟩
    · have hd : (l == 0) = false := by simp [h]
      have hw : Hid (IntKind.i64.wrap (l - 1) = l - 1) := by rw [Hid, IntKind.wrap_i64]; omega
      have hi := hide h
      clear h
      go_enter Tryz.func94, Tryz.ntmps94
      go_wp2
      go_ret
      exact ⟨rfl, rfl⟩
end Go.Proofs.YtlmofgfkclfgeaaGreat
/- The disk's struct: one field turned; a countdown of it; its pages. -/
namespace Go.Proofs.YtlmofgfkclfgeaaGreat
open Go.RowKit Go.Maps
set_option linter.unusedVariables false

section
variable {w w' : World} {p q : Nat} {vw : Value} {m : Option Nat} {S S' : DS}
theorem Dk.c (h : Dk w p q vw m S) (i : Nat) (v : Value) (hv : (cells q vw m S)[i]? = some v) : w.cell? ⟨p, i, none⟩ = some v := by simp [World.cell?, h.blk, hv]
theorem Dk.f (h : Dk w p q vw m S) (i : Nat) : w.frozen? ⟨p, i, none⟩ = false := by simp [World.frozen?, h.blk]
/-- only the struct has turned. -/
theorem Dk.fields (h : Dk w p q vw m S) (h1 : S'.ls = S.ls) (h2 : S'.ws = S.ws) (hg : S'.Good) (hb : w'.heap[p]? = some (.cells (cells q vw m S') 95 (0, 0))) (ho : ∀ k, k ≠ p → w'.heap[k]? = w.heap[k]?) : Dk w' p q vw m S' := by
  refine ⟨hb, ?_, ?_, ?_, h.pq, h.pv, h.qv, h.pm, h.qm, h.vm, hg⟩
  · rw [ho q h.pq.symm, h1]; exact h.las
  · rw [h2]
    obtain ⟨k1, k2⟩ := h.wri
    refine ⟨k1, ?_⟩
    rcases k2 with k2 | ⟨g, cap, cur, rfl, hg, hh, r⟩
    · exact .inl k2
    · exact .inr ⟨g, cap, cur, rfl, hg, by rw [ho g (fun e => h.pv (by rw [← e]; rfl))]; exact hh, r⟩
  · rw [h2]
    have := h.map
    cases m with
    | none => exact this
    | some b =>
      obtain ⟨n, D, hn, ⟨es, clock, e1, e2⟩, ht⟩ := this
      exact ⟨n, D, hn, ⟨es, clock, (ho b (fun e => h.pm (by rw [e]))).trans e1, e2⟩, ht⟩
theorem set_other (w : World) (p i : Nat) (v : Value) (k : Nat) (hk : k ≠ p) : (w.setCell ⟨p, i, none⟩ v).heap[k]? = w.heap[k]? := Below.heap_setCell _ _ _ _ (fun e => hk e)
theorem mv_set (w : World) (p i : Nat) (v : Value) : Mv (· = p) w (w.setCell ⟨p, i, none⟩ v) := ⟨rfl, rfl, rfl, by simp [World.setCell], fun k _ hk => set_other w p i v k hk⟩
theorem Mv.trans' {O : Nat → Prop} {a b c : World} (h : Mv O a b) (k : Mv O b c) : Mv O a c :=
  ⟨k.os.trans h.os, k.tape.trans h.tape, k.output.trans h.output, Nat.le_trans h.size k.size, fun i hi hn => (k.block i (Nat.lt_of_lt_of_le hi h.size) hn).trans (h.block i hi hn)⟩
theorem tick_cd (s : Bool) (l : Int) (h : Cd s l) : Cd (tick s l).2.1 (tick s l).2.2 := by
  obtain ⟨h1, h2⟩ := h
  unfold tick Cd
  split
  · split
    · simp
    · simp; omega
  · exact ⟨h1, h2⟩
end

/-- what a countdown at o does to a disk whose countdown it is. -/
theorem strikes_at (p q : Nat) (vw : Value) (m : Option Nat) (S S' : DS) (o : Nat) (s : Bool) (l : Int) (w : World) (h : Dk w p q vw m S)
    (h0 : (cells q vw m S)[o]? = some (.bool s)) (h1 : (cells q vw m S)[o + 1]? = some (.int .i64 l)) (hl : Cd s l)
    (e1 : S'.ls = S.ls) (e2 : S'.ws = S.ws) (hg : S'.Good) (hc : cells q vw m S' = ((cells q vw m S).setIfInBounds o (.bool (tick s l).2.1)).setIfInBounds (o + 1) (.int .i64 (tick s l).2.2)) :
    Calls Tryz.prog 94 #[.pointer (some ⟨p, o, none⟩)] w fun e w' => e = .returned (.bool (tick s l).1) ∧ Dk w' p q vw m S' ∧ Mv (· = p) w w' ∧ w'.heap.size = w.heap.size := by
  refine (strikes_any p o s l w (h.c o _ h0) (h.c (o + 1) _ h1) (h.f o) (h.f (o + 1)) hl).mono ?_
  rintro e w' ⟨rfl, rfl⟩
  refine ⟨rfl, ?_⟩
  have hb := h.blk
  unfold tick at hc
  cases s
  · simp only [Bool.false_eq_true, if_false] at hc ⊢
    refine ⟨h.fields e1 e2 hg ?_ (fun _ _ => rfl), Mv.refl _ _, trivial⟩
    rw [h.blk, hc]
    congr 2
    apply Array.ext_getElem?
    intro j
    rw [Array.getElem?_setIfInBounds, Array.getElem?_setIfInBounds]
    by_cases j1 : o + 1 = j
    · subst j1; rw [h1]; simp; exact (Array.getElem?_eq_some_iff.1 h1).1
    · rw [if_neg j1]
      by_cases j2 : o = j
      · subst j2; rw [h0]; simp; exact (Array.getElem?_eq_some_iff.1 h0).1
      · rw [if_neg j2]
  · simp only [if_true] at hc ⊢
    by_cases hz : l = 0
    · rw [if_pos hz] at hc ⊢
      refine ⟨h.fields e1 e2 hg ?_ (fun k hk => by rw [set_other _ _ _ _ _ hk, set_other _ _ _ _ _ hk]), (mv_set _ _ _ _).trans' (mv_set _ _ _ _), by simp [World.setCell]⟩
      rw [heap_setCell_same _ p (o + 1) _ 95 _ (heap_setCell_same w p o _ 95 _ hb), hc]
    · rw [if_neg hz] at hc ⊢
      refine ⟨h.fields e1 e2 hg ?_ (fun k hk => by rw [set_other _ _ _ _ _ hk]), mv_set _ _ _ _, by simp [World.setCell]⟩
      rw [heap_setCell_same _ p (o + 1) _ 95 _ hb, hc]
      congr 3
      apply Array.ext_getElem?
      intro j
      rw [Array.getElem?_setIfInBounds]
      by_cases j2 : o = j
      · subst j2; rw [h0]; simp; exact (Array.getElem?_eq_some_iff.1 h0).1
      · rw [if_neg j2]

set_option maxHeartbeats 800000 in
set_option maxRecDepth 1000000 in
theorem pages_any (p q n : Nat) (w : World) (h0 : w.cell? ⟨p, 0, none⟩ = some (.slice (some ⟨q, 0, none⟩) n n)) (hn : n ≤ 131072) :
    Calls Tryz.prog 82 #[.pointer (some ⟨p, 0, none⟩)] w fun e w' => e = .returned (.int .i64 ((n / 8 : Nat) : Int)) ∧ Below w.heap.size w w' := by
  go_enter Tryz.func82, Tryz.ntmps82
  go_wp2
  go_ret
  exact ⟨rfl, Below.refl _ _⟩

set_option maxHeartbeats 800000 in
set_option maxRecDepth 1000000 in
theorem has_any (p q n : Nat) (page : Int) (w : World) (h0 : w.cell? ⟨p, 0, none⟩ = some (.slice (some ⟨q, 0, none⟩) n n)) (hn : n ≤ 131072) :
    Calls Tryz.prog 87 #[.pointer (some ⟨p, 0, none⟩), .int .i64 page] w fun e w' => e = .returned (.bool (decide (0 ≤ page ∧ page < ((n / 8 : Nat) : Int)))) ∧ Below w.heap.size w w' := by
  have HP := hide (fun W (h : Below w.heap.size w W) => pages_any p q n W (by rw [h.cell (World.block_lt_of_cell? w _ h0)]; exact h0) hn)
  by_cases h1 : 0 ≤ page
  · have hd : decide (0 ≤ page) = true := by simp [h1]
    by_cases h2 : page < ((n / 8 : Nat) : Int)
    · have hr : Hid (decide (0 ≤ page ∧ page < ((n / 8 : Nat) : Int)) = true) := by simp only [Hid, decide_eq_true_eq]; exact ⟨h1, h2⟩
      have hd2 : decide (page < ((n / 8 : Nat) : Int)) = true := by simp only [decide_eq_true_eq]; exact h2
      rw [hr.out]
      clear h1 h2 h0 hr
      generalize n / 8 = N at *
      go_enter Tryz.func87, Tryz.ntmps87
      go_wp2_with fail
      refine (HP.out w (Below.refl _ _)).mono ?_
      rintro e w1 ⟨rfl, hb⟩
      go_wp2
      go_ret
      exact ⟨rfl, hb⟩
    · have hr : Hid (decide (0 ≤ page ∧ page < ((n / 8 : Nat) : Int)) = false) := by simp only [Hid, decide_eq_false_iff_not]; exact fun h => h2 h.2
      have hd2 : decide (page < ((n / 8 : Nat) : Int)) = false := by simp only [decide_eq_false_iff_not]; exact h2
      rw [hr.out]
      clear h1 h2 h0 hr
      generalize n / 8 = N at *
      go_enter Tryz.func87, Tryz.ntmps87
      go_wp2_with fail
      refine (HP.out w (Below.refl _ _)).mono ?_
      rintro e w1 ⟨rfl, hb⟩
      go_wp2
      go_ret
      exact ⟨rfl, hb⟩
  · have hd : decide (0 ≤ page) = false := by simp [h1]
    have hr : Hid (decide (0 ≤ page ∧ page < ((n / 8 : Nat) : Int)) = false) := by simp only [Hid, decide_eq_false_iff_not]; exact fun h => h1 h.1
    rw [hr.out]
    clear h1 h0 hr
    go_enter Tryz.func87, Tryz.ntmps87
    go_wp2
    go_ret
    exact ⟨rfl, Below.refl _ _⟩
end Go.Proofs.YtlmofgfkclfgeaaGreat
