/- The pages at hand: drop, use, take. -/
import Derived.Test.YtkkjppdooaipiaaPD
import Derived.Test.YtkkjppdooaipiaaRD
namespace Go.Proofs.Ytkkjppdooaipiaa
open Go.RowKit Go.Maps
set_option linter.unusedVariables false

/-- a pool's own memory: its struct at p, its disk's struct at d, the ring's end at e, the map at m; the sheets L, from the one that was used longest ago on. -/
structure Hd (w : World) (p d e m most : Nat) (L : List Sh) (el yo : Nat → Nat) : Prop where
  blk : w.heap[p]? = some (.cells #[.pointer (some ⟨d, 0, none⟩), .int .i64 (most : Int), .map (some m), .pointer (some ⟨e, 0, none⟩)] 73 (0, 0))
  fam : Fam w (eS e :: L) el yo
  ring : Ring el yo e (L.map Sh.b)
  pay : ∀ s ∈ L, Own w s.v s.pl ∧ s.pl.length ≤ 1008 ∧ Byts s.pl
  rg : ∀ s ∈ L, s.n < 4294967296 ∧ s.k < 256
  nums : (L.map Sh.n).Nodup
  map : MapTo w m L
  few : L.length ≤ most
  most : 1 ≤ most ∧ most ≤ 1000000
/-- the blocks of a pool. -/
def OwP (p e m : Nat) (L : List Sh) (k : Nat) : Prop := k = p ∨ k = e ∨ k = m ∨ ∃ s ∈ L, k = s.b ∨ s.v.ownBlock = some k
theorem own_five {w : World} {v : Value} {zs : List Int} (h : Own w v zs) {g : Nat} (hg : v.ownBlock = some g) : ∃ cur f, w.heap[g]? = some (.cells cur 5 f) := by
  rcases h.2 with ⟨rfl, h0⟩ | ⟨g', cap, cur, rfl, _, hh, _⟩
  · simp [Value.ownBlock] at hg
  · simp [Value.ownBlock] at hg
    subst hg
    exact ⟨_, _, hh⟩
variable {w w' : World} {p d e m most : Nat} {L : List Sh} {el yo : Nat → Nat}
theorem Hd.c0 (h : Hd w p d e m most L el yo) : w.cell? ⟨p, 0, none⟩ = some (.pointer (some ⟨d, 0, none⟩)) := by simp [World.cell?, h.blk]
theorem Hd.c1 (h : Hd w p d e m most L el yo) : w.cell? ⟨p, 1, none⟩ = some (.int .i64 (most : Int)) := by simp [World.cell?, h.blk]
theorem Hd.c2 (h : Hd w p d e m most L el yo) : w.cell? ⟨p, 2, none⟩ = some (.map (some m)) := by simp [World.cell?, h.blk]
theorem Hd.c3 (h : Hd w p d e m most L el yo) : w.cell? ⟨p, 3, none⟩ = some (.pointer (some ⟨e, 0, none⟩)) := by simp [World.cell?, h.blk]
theorem Hd.mem (h : Hd w p d e m most L el yo) {x : Nat} (hx : x ∈ e :: L.map Sh.b) : ∃ s ∈ eS e :: L, s.b = x := by
  rcases List.mem_cons.1 hx with rfl | hx
  · exact ⟨eS x, by simp, rfl⟩
  · obtain ⟨s, hs, e⟩ := List.mem_map.1 hx
    exact ⟨s, by simp [hs], e⟩
/-- a block that holds no sheet is none of the ring's. -/
theorem Hd.off (h : Hd w p d e m most L el yo) {x : Nat} (hx : ∀ C, w.heap[x]? ≠ some (.cells C 79 (0, 0))) : x ∉ e :: L.map Sh.b := fun hm => by
  obtain ⟨s, hs, rfl⟩ := h.mem hm
  exact hx _ (h.fam s hs)
theorem Hd.offp (h : Hd w p d e m most L el yo) : p ∉ e :: L.map Sh.b := h.off fun C => by rw [h.blk]; simp
theorem Hd.offm (h : Hd w p d e m most L el yo) : m ∉ e :: L.map Sh.b := h.off fun C => by
  obtain ⟨es, clock, hb⟩ := h.map.ismap
  rw [hb]; simp
theorem Hd.offv (h : Hd w p d e m most L el yo) {s : Sh} (hs : s ∈ L) {g : Nat} (hg : s.v.ownBlock = some g) : g ∉ e :: L.map Sh.b := h.off fun C => by
  obtain ⟨cur, f, hb⟩ := own_five (h.pay s hs).1 hg
  rw [hb]; simp
theorem Hd.pm (h : Hd w p d e m most L el yo) : p ≠ m := fun x => by
  obtain ⟨es, clock, hb⟩ := h.map.ismap
  rw [← x, h.blk] at hb; cases hb
theorem Hd.vm (h : Hd w p d e m most L el yo) {s : Sh} (hs : s ∈ L) {g : Nat} (hg : s.v.ownBlock = some g) : g ≠ m := fun x => by
  obtain ⟨es, clock, hb⟩ := h.map.ismap
  obtain ⟨cur, f, hb'⟩ := own_five (h.pay s hs).1 hg
  rw [x, hb] at hb'; cases hb'
theorem Hd.lt (h : Hd w p d e m most L el yo) (k : Nat) (hk : OwP p e m L k) : k < w.heap.size := by
  rcases hk with rfl | rfl | rfl | ⟨s, hs, rfl | hk⟩
  · exact lt_of_block h.blk
  · exact lt_of_block (h.fam (eS k) (by simp))
  · obtain ⟨es, clock, hb⟩ := h.map.ismap
    exact lt_of_block hb
  · exact lt_of_block (h.fam s (by simp [hs]))
  · exact (h.pay s hs).1.lt hk
/-- a pool whose own blocks are as they were is as it was. -/
theorem Hd.stays (h : Hd w p d e m most L el yo) (hb : ∀ k, OwP p e m L k → w'.heap[k]? = w.heap[k]?) : Hd w' p d e m most L el yo := by
  refine ⟨(hb p (.inl rfl)).trans h.blk, fun s hs => ?_, h.ring, fun s hs => ⟨(h.pay s hs).1.of_block fun k hk => hb k (.inr (.inr (.inr ⟨s, hs, .inr hk⟩))), (h.pay s hs).2⟩, h.rg, h.nums, h.map.kept (hb m (.inr (.inr (.inl rfl)))), h.few, h.most⟩
  rcases List.mem_cons.1 hs with rfl | hs'
  · exact (hb e (.inr (.inl rfl))).trans (h.fam _ hs)
  · exact (hb s.b (.inr (.inr (.inr ⟨s, hs', .inl rfl⟩)))).trans (h.fam _ hs)
theorem Hd.below (h : Hd w p d e m most L el yo) (hb : Below w.heap.size w w') : Hd w' p d e m most L el yo := h.stays fun k hk => hb.block k (h.lt k hk)
theorem Mv.mono {O O' : Nat → Prop} (h : Mv O w w') (ho : ∀ k, O k → O' k) : Mv O' w w' := ⟨h.os, h.tape, h.output, h.size, fun k hk hn => h.block k hk fun x => hn (ho k x)⟩
theorem Mv.of_below {O : Nat → Prop} (h : Below w.heap.size w w') : Mv O w w' := ⟨h.os, h.tape, h.output, h.size, fun k hk _ => h.block k hk⟩
theorem ringO {k : Nat} (hk : k ∈ e :: L.map Sh.b) : OwP p e m L k := by
  rcases List.mem_cons.1 hk with rfl | hk
  · exact .inr (.inl rfl)
  · obtain ⟨s, hs, rfl⟩ := List.mem_map.1 hk
    exact .inr (.inr (.inr ⟨s, hs, .inl rfl⟩))
theorem wo_mid {u v : List Sh} {s : Sh} (h : ((u ++ s :: v).map Sh.n).Nodup) : (u ++ v).map Sh.pg = wo ((u ++ s :: v).map Sh.pg) s.n := by
  have h1 : ∀ t ∈ u ++ v, t.n ≠ s.n := by
    rw [List.map_append, List.map_cons] at h
    have h2 := (List.nodup_cons.1 ((List.perm_middle.nodup_iff).1 h)).1
    intro t ht e
    rw [← List.map_append] at h2
    exact h2 (e ▸ List.mem_map.2 ⟨t, ht, rfl⟩)
  have hu : wo (u.map Sh.pg) s.n = u.map Sh.pg := List.filter_eq_self.2 fun x hx => by
    obtain ⟨t, ht, rfl⟩ := List.mem_map.1 hx
    simpa [Sh.pg] using h1 t (by simp [ht])
  have hv : wo (v.map Sh.pg) s.n = v.map Sh.pg := List.filter_eq_self.2 fun x hx => by
    obtain ⟨t, ht, rfl⟩ := List.mem_map.1 hx
    simpa [Sh.pg] using h1 t (by simp [ht])
  unfold wo at hu hv ⊢
  rw [List.map_append, List.map_append, List.map_cons, List.filter_append, List.filter_cons, hu, hv]
  simp [Sh.pg]
theorem wo_none {L : List Sh} {n : Nat} (h : n ∉ L.map Sh.n) : wo (L.map Sh.pg) n = L.map Sh.pg := List.filter_eq_self.2 fun x hx => by
  obtain ⟨t, ht, rfl⟩ := List.mem_map.1 hx
  have : t.n ≠ n := fun e => h (e ▸ List.mem_map.2 ⟨t, ht, rfl⟩)
  simpa [Sh.pg] using this
theorem mid_of {n : Nat} (h : n ∈ L.map Sh.n) : ∃ u s v, L = u ++ s :: v ∧ s.n = n := by
  obtain ⟨s, hs, e⟩ := List.mem_map.1 h
  obtain ⟨u, v, h2⟩ := List.append_of_mem hs
  exact ⟨u, s, v, h2, e⟩

set_option maxHeartbeats 1600000 in
set_option maxRecDepth 1000000 in
theorem drop_any (n : Nat) (h : Hd w p d e m most L el yo) (hn : n < 4294967296) :
    Calls Try.prog 28 #[.pointer (some ⟨p, 1, none⟩), .int .u32 (n : Int)] w fun ed w' => ed = .returned (.tuple #[]) ∧ ∃ L' el' yo', Hd w' p d e m most L' el' yo' ∧ L'.map Sh.pg = wo (L.map Sh.pg) n ∧ (∀ s ∈ L', s ∈ L) ∧ Mv (OwP p e m L) w w' := by
  have HH := hide h
  have c2 := h.c2
  by_cases hin : n ∈ L.map Sh.n
  · obtain ⟨u, s, v, rfl, rfl⟩ := mid_of hin
    have hs : s ∈ u ++ s :: v := by simp
    have hlk := h.map.there hs hn
    have HL := hide (leave_fam h.fam h.ring)
    clear h hin
    go_enter Try.func28, Try.ntmps28
    go_wp2_with fail
    refine HL.out.mono ?_
    rintro ed w1 ⟨rfl, hf1, hr1, hm1⟩
    have h := HH.out
    have hp1 := (hm1.block p (lt_of_block h.blk) h.offp).trans h.blk
    have hmp : MapTo w1 m (u ++ s :: v) := h.map.kept (hm1.block m (h.lt m (.inr (.inr (.inl rfl)))) h.offm)
    obtain ⟨w2, hdel, hm2, hmv2⟩ := hmp.del h.nums hn (fun t ht => (h.rg t ht).1) 0
    have hf2 : Fam w2 (eS e :: (u ++ v)) (upd el (yo s.b) (el s.b)) (upd yo (el s.b) (yo s.b)) := by
      refine Fam.sub (M := eS e :: (u ++ s :: v)) (fun t ht => ?_) ?_
      · have hne : t.b ≠ m := fun x => h.offm (x ▸ by
          rcases List.mem_cons.1 ht with rfl | ht
          · exact List.mem_cons_self ..
          · exact List.mem_cons_of_mem _ (List.mem_map.2 ⟨t, ht, rfl⟩))
        rw [hmv2.block t.b (lt_of_block (hf1 t ht)) hne]
        exact hf1 t ht
      · intro t ht
        rcases List.mem_cons.1 ht with rfl | ht
        · simp
        · rcases List.mem_append.1 ht with h | h <;> simp [h]
    have hsub : ∀ t ∈ u ++ v, t ∈ u ++ s :: v := fun t ht => by rcases List.mem_append.1 ht with h | h <;> simp [h]
    have hsl : ((u ++ v).map Sh.n).Sublist ((u ++ s :: v).map Sh.n) := (List.Sublist.append (List.Sublist.refl u) (List.sublist_cons_self s v)).map _
    have HE : Hid (Hd w2 p d e m most (u ++ v) (upd el (yo s.b) (el s.b)) (upd yo (el s.b) (yo s.b))) := hide {
      blk := (hmv2.block p (lt_of_block hp1) h.pm).trans hp1
      fam := hf2
      ring := hr1
      pay := fun t ht => ⟨(h.pay t (hsub t ht)).1.of_block fun k hk => by
        have hk1 := (h.pay t (hsub t ht)).1.lt hk
        rw [hmv2.block k (Nat.lt_of_lt_of_le hk1 hm1.size) (h.vm (hsub t ht) hk), hm1.block k hk1 (h.offv (hsub t ht) hk)], (h.pay t (hsub t ht)).2⟩
      rg := fun t ht => h.rg t (hsub t ht)
      nums := h.nums.sublist hsl
      map := hm2
      few := by have := h.few; simp at this ⊢; omega
      most := h.most }
    have HM : Hid (Mv (OwP p e m (u ++ s :: v)) w w2) := hide ((hm1.mono fun k hk => ringO hk).trans' (hmv2.mono fun k hk => .inr (.inr (.inl hk))))
    have HW := hide (wo_mid h.nums)
    have c2 : w1.cell? ⟨p, 2, none⟩ = some (.map (some m)) := by simp [World.cell?, hp1]
    clear h hp1 hmp hf2 hsub hsl hm2 hmv2 hf1 hr1 hm1 hlk
    go_wp2
    go_end0
    exact ⟨rfl, _, _, _, HE.out, HW.out, fun t ht => by rcases List.mem_append.1 ht with h | h <;> simp [h], HM.out⟩
  · have hlk := h.map.not hin hn
    have HW := hide (wo_none hin)
    clear h hin
    go_enter Try.func28, Try.ntmps28
    go_wp2
    go_end0
    exact ⟨rfl, L, el, yo, HH.out, HW.out.symm, fun s hs => hs, Mv.refl _ _⟩
end Go.Proofs.Ytkkjppdooaipiaa
