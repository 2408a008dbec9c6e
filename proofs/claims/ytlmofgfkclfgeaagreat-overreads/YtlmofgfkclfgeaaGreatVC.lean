/- The document's own pool in memory: its hands; find. -/
import Derived.Test.YtlmofgfkclfgeaaGreatXA
import Derived.Test.YtlmofgfkclfgeaaGreatPF
namespace Go.Proofs.YtlmofgfkclfgeaaGreat
open Go.RowKit Go.Maps
set_option linter.unusedVariables false

/-- a hand: its page, and where its bytes lie. -/
abbrev Hn := Pge × Value
def hc1 (h : Hn) : List Value := [.int .u32 (h.1.n : Int), .int .u8 (h.1.k : Int), h.2]
def hcl (H : List Hn) : List Value := H.flatMap hc1
theorem hcl_nil : hcl [] = [] := rfl
theorem hcl_cons (h : Hn) (H : List Hn) : hcl (h :: H) = hc1 h ++ hcl H := by simp [hcl]
theorem hcl_append (H H' : List Hn) : hcl (H ++ H') = hcl H ++ hcl H' := by simp [hcl]
theorem hcl_len : ∀ H : List Hn, (hcl H).length = H.length * 3
  | [] => rfl
  | h :: H => by rw [hcl_cons, List.length_append, hcl_len H, List.length_cons, Nat.add_mul]; simp [hc1]; omega
theorem hcl_take (H H' : List Hn) : (hcl (H ++ H')).take (H.length * 3) = hcl H := by
  rw [hcl_append, ← hcl_len H]
  exact List.take_left
theorem hcl_drop (H H' : List Hn) : (hcl (H ++ H')).drop (H.length * 3) = hcl H' := by
  rw [hcl_append, ← hcl_len H]
  exact List.drop_left
theorem hcl_at (u v : List Hn) (h : Hn) (j : Nat) (hj : j < 3) : (hcl (u ++ h :: v))[u.length * 3 + j]? = (hc1 h)[j]? := by
  rw [hcl_append, List.getElem?_append_right (by rw [hcl_len]; omega), hcl_len, hcl_cons, show u.length * 3 + j - u.length * 3 = j by omega, List.getElem?_append_left (by simpa [hc1] using hj)]
/-- the pool's own memory: its struct at p, over the disk at r; the row of its hands. -/
structure Qm (w : World) (p r most : Nat) (v : Value) (H : List Hn) : Prop where
  blk : w.heap[p]? = some (.cells #[.pointer (some ⟨r, 0, none⟩), .int .i64 (most : Int), v] 109 (0, 0))
  row : Rof w 159 3 v H.length (hcl H)
  pay : ∀ h ∈ H, Sl w h.2 h.1.pl ∧ h.1.pl.length ≤ 1008 ∧ Byts h.1.pl
  rg : ∀ h ∈ H, h.1.n < 4294967296 ∧ h.1.k < 256
  nums : (H.map (·.1.n)).Nodup
  few : H.length ≤ most
  most : 1 ≤ most ∧ most ≤ 9223372036854775807
/-- its blocks. -/
def OwQ (p : Nat) (v : Value) (H : List Hn) (k : Nat) : Prop := k = p ∨ v.ownBlock = some k ∨ ∃ h ∈ H, h.2.ownBlock = some k
variable {w w' : World} {p r most : Nat} {v : Value} {H : List Hn}
theorem Qm.c0 (h : Qm w p r most v H) : w.cell? ⟨p, 0, none⟩ = some (.pointer (some ⟨r, 0, none⟩)) := by simp [World.cell?, h.blk]
theorem Qm.c1 (h : Qm w p r most v H) : w.cell? ⟨p, 1, none⟩ = some (.int .i64 (most : Int)) := by simp [World.cell?, h.blk]
theorem Qm.c2 (h : Qm w p r most v H) : w.cell? ⟨p, 2, none⟩ = some v := by simp [World.cell?, h.blk]
theorem Qm.fz (h : Qm w p r most v H) (i : Nat) : w.frozen? ⟨p, i, none⟩ = false := by simp [World.frozen?, h.blk]
theorem Qm.lt (h : Qm w p r most v H) (k : Nat) (hk : OwQ p v H k) : k < w.heap.size := by
  rcases hk with rfl | hk | ⟨x, hx, hk⟩
  · exact lt_of_block h.blk
  · exact h.row.lt hk
  · exact (h.pay x hx).1.lt hk
theorem Qm.stays (h : Qm w p r most v H) (hb : ∀ k, OwQ p v H k → w'.heap[k]? = w.heap[k]?) : Qm w' p r most v H :=
  ⟨(hb p (.inl rfl)).trans h.blk, h.row.keep fun k hk => hb k (.inr (.inl hk)), fun x hx => ⟨Own.of_block (h.pay x hx).1 fun k hk => hb k (.inr (.inr ⟨x, hx, hk⟩)), (h.pay x hx).2⟩, h.rg, h.nums, h.few, h.most⟩
theorem Qm.below (h : Qm w p r most v H) (hb : Below w.heap.size w w') : Qm w' p r most v H := h.stays fun k hk => hb.block k (h.lt k hk)
/-- blocks of other kinds. -/
theorem Qm.pv (h : Qm w p r most v H) : v.ownBlock ≠ some p := fun e => by
  obtain ⟨c, g, h1⟩ := h.row.type e
  rw [h.blk] at h1
  simp at h1
theorem Qm.px (h : Qm w p r most v H) {x : Hn} (hx : x ∈ H) : x.2.ownBlock ≠ some p := fun e => by
  obtain ⟨c, g, h1⟩ := (h.pay x hx).1.type e
  rw [h.blk] at h1
  simp at h1
theorem Qm.vx (h : Qm w p r most v H) {x : Hn} (hx : x ∈ H) {k : Nat} (hk : v.ownBlock = some k) : x.2.ownBlock ≠ some k := fun e => by
  obtain ⟨c, g, h1⟩ := (h.pay x hx).1.type e
  obtain ⟨c2, g2, h2⟩ := h.row.type hk
  rw [h1] at h2
  simp at h2
theorem Qm.shape (h : Qm w p r most v H) : ∃ a c, v = .slice a H.length c ∧ H.length ≤ c ∧ c ≤ 9223372036854775807 ∧ (a = none → H.length = 0 ∧ c = 0) := by
  obtain ⟨a, c, h1, h2, h3, h4, _⟩ := h.row.shape
  exact ⟨a, c, h1, h2, by unfold maxLen at h3; omega, h4⟩
/-- with a hand in it, it lies somewhere. -/
theorem Qm.lies {x : Hn} (h : Qm w p r most v H) (hx : x ∈ H) : ∃ g o c, v = .slice (some ⟨g, o, none⟩) H.length c := by
  rcases h.row.2 with ⟨_, h0⟩ | ⟨g, o, c, cur, e, _⟩
  · cases H
    · simp at hx
    · simp at h0
  · exact ⟨g, o, c, e⟩
theorem Qm.hand {g o c : Nat} {u t : List Hn} {x : Hn} (h : Qm w p r most (.slice (some ⟨g, o, none⟩) H.length c) H) (hH : H = u ++ x :: t) : w.cell? ⟨g, o + u.length * 3, none⟩ = some (.int .u32 (x.1.n : Int)) ∧ w.cell? ⟨g, o + u.length * 3 + 1, none⟩ = some (.int .u8 (x.1.k : Int)) ∧ w.cell? ⟨g, o + u.length * 3 + 2, none⟩ = some x.2 := by
  have hr := h.row
  subst hH
  refine ⟨?_, ?_, ?_⟩
  · exact hr.cell (j := u.length * 3 + 0) (by rw [hcl_at u t x 0 (by omega)]; rfl)
  · exact hr.cell (j := u.length * 3 + 1) (by rw [hcl_at u t x 1 (by omega)]; rfl)
  · exact hr.cell (j := u.length * 3 + 2) (by rw [hcl_at u t x 2 (by omega)]; rfl)
theorem split_at {α : Type} (l : List α) {k : Nat} (hk : k < l.length) : ∃ u x t, l = u ++ x :: t ∧ u.length = k :=
  ⟨l.take k, l[k], l.drop (k + 1), by rw [List.getElem_cons_drop, List.take_append_drop], by rw [List.length_take]; omega⟩
set_option maxHeartbeats 1600000 in
set_option maxRecDepth 1000000 in
theorem qfind_any (h : Qm w p r most v H) (n m : Nat) (hm : m ≤ H.length) (hno : ∀ x ∈ H.take m, x.1.n ≠ n) (res : Int) (hyes : (m = H.length ∧ res = -1) ∨ ∃ x, H[m]? = some x ∧ x.1.n = n ∧ res = (m : Int)) :
    Calls Tryz.prog 58 #[.pointer (some ⟨p, 0, none⟩), .int .u32 (n : Int)] w fun e w' => e = .returned (.int .i64 res) ∧ w' = w := by
  obtain ⟨a, c, rfl, hc1, hc2, hc3⟩ := h.shape
  obtain ⟨N, HN⟩ : ∃ N, Hid (N = H.length) := ⟨_, rfl⟩
  have k2 := h.c2
  rw [← HN.out] at k2 hm hc1
  have HQ := hide h
  have HNo := hide hno
  have HY := hide hyes
  clear h hno hyes hc3
  go_enter Tryz.func58, Tryz.ntmps58
  go_wp2
  go_loopw [5] (fun i wr => ∃ k : Nat, k ≤ m ∧ i = .int .i64 (k : Int) ∧ wr = w) (fun i _ => N - (intOf i).toNat)
  case atStart => exact ⟨0, Nat.zero_le _, rfl, rfl⟩
  case round =>
    obtain ⟨k, hk, rfl, rfl⟩ := hrel
    by_cases hlt : k < N
    · have d1 : (k : Int) < (N : Int) := by omega
      have hkH : k < H.length := by have := HN.out; omega
      obtain ⟨u, x, t, hH, hu⟩ := split_at H hkH
      obtain ⟨g, o, c', e⟩ := HQ.out.lies (x := x) (by rw [hH]; simp)
      cases e
      obtain ⟨x0, _, _⟩ := HQ.out.hand hH
      rw [hu] at x0
      have hxk : H[k]? = some x := by rw [hH, ← hu]; simp
      have i1 : (0 : Int) ≤ (k : Int) := by omega
      by_cases hkm : k < m
      · have hne : x.1.n ≠ n := HNo.out x (by
          have : (H.take m)[k]? = some x := by rw [List.getElem?_take, if_pos hkm, hxk]
          exact List.mem_of_getElem? this)
        have e1 : ((x.1.n : Int) == (n : Int)) = false := by simp; omega
        clear hH hu hxk hne hkH
        generalize x.1.n = xn at *
        go_wp2
        go_roundw
        case rel => exact ⟨k + 1, by omega, by go_num, trivial⟩
        case measure => simp [intOf]; omega
      · have hkm' : k = m := by omega
        subst hkm'
        have hres : x.1.n = n ∧ res = (k : Int) := by
          rcases HY.out with ⟨h1, _⟩ | ⟨y, h1, h2, h3⟩
          · omega
          · rw [hxk] at h1
            cases h1
            exact ⟨h2, h3⟩
        have e1 : ((x.1.n : Int) == (n : Int)) = true := by rw [hres.1]; simp
        obtain ⟨hr1, rfl⟩ := hres
        clear hH hu hxk hkH hr1 HY
        generalize x.1.n = xn at *
        go_wp2
        go_ret
        exact ⟨rfl, rfl⟩
    · have d1 : ¬ (k : Int) < (N : Int) := by omega
      have HR : Hid (res = -1) := by
        rcases HY.out with ⟨_, h2⟩ | ⟨y, h1, h2, h3⟩
        · exact h2
        · have := (List.getElem?_eq_some_iff.1 h1).1
          have := HN.out
          omega
      obtain rfl := HR.out
      clear HY
      go_wp2
      go_ret
      exact ⟨rfl, rfl⟩
end Go.Proofs.YtlmofgfkclfgeaaGreat
/- The document's own pool: Forget. -/
namespace Go.Proofs.YtlmofgfkclfgeaaGreat
open Go.RowKit Go.Maps
set_option linter.unusedVariables false
variable {w w' : World} {p r most : Nat} {v : Value} {H : List Hn}

theorem Mv.alloc' {O : Nat → Prop} {w w' : World} (h : Mv O w w') (o : Obj) : Mv O w (w'.alloc o) :=
  ⟨h.os, h.tape, h.output, by simp; have := h.size; omega, fun k hk hn => (Below.heap_alloc w' o k (Nat.lt_of_lt_of_le hk h.size)).trans (h.block k hk hn)⟩
theorem Mv.grw {O : Nat → Prop} {w w1 w2 : World} {r : Option Nat} (h : Mv O w w1) (hg : w1.grownBy w2 r) (hr : ∀ k, r = some k → O k ∨ w.heap.size ≤ k) : Mv O w w2 :=
  ⟨hg.os.trans h.os, hg.tape.trans h.tape, hg.output.trans h.output, Nat.le_trans h.size hg.size, fun k hk hn => (hg.block k (Nat.lt_of_lt_of_le hk h.size) (fun e => by
    rcases hr k e.symm with h1 | h1
    · exact hn h1
    · omega)).trans (h.block k hk hn)⟩
theorem infoHn : (Tryz.prog.info? 159).map (fun i => (i.zero, i.size, i.bytes)) = some (some (.agg #[.int .u32 0, .int .u8 0, .slice none 0 0]), 3, 32) := by kernel_rfl
theorem hc1_one (h : Hn) (hv : h.2.oneCell' = true) : ∀ u ∈ hc1 h, u.oneCell' = true := by
  intro u hu
  simp only [hc1, List.mem_cons, List.not_mem_nil, or_false] at hu
  rcases hu with rfl | rfl | rfl
  · rfl
  · rfl
  · exact hv
theorem Qm.one (h : Qm w p r most v H) : ∀ u ∈ hcl H, u.oneCell' = true := by
  intro u hu
  obtain ⟨x, hx, hu⟩ := List.mem_flatMap.1 hu
  obtain ⟨a, c, e, _⟩ := (h.pay x hx).1.shape
  exact hc1_one x (by rw [e]; rfl) u hu
theorem mid_take (u t : List Hn) (x : Hn) : hcl u = (hcl (u ++ x :: t)).take (u.length * 3) := (hcl_take u (x :: t)).symm
theorem mid_drop (u t : List Hn) (x : Hn) : (hcl (u ++ x :: t)).drop ((u.length + 1) * 3) = hcl t := by
  have := hcl_drop (u ++ [x]) t
  rwa [List.length_append, List.append_assoc] at this
/-- one is let go: the others lie in a row that is new. -/
structure Gone (w w' : World) (p r most : Nat) (H' : List Hn) : Prop where
  ex : ∃ v', Qm w' p r most v' H' ∧ ∀ k, v'.ownBlock = some k → w.heap.size ≤ k
  mv : Mv (fun k => k = p) w w'
theorem nodup_mid {u t : List Hn} {x : Hn} (h : ((u ++ x :: t).map (·.1.n)).Nodup) : ((u ++ t).map (·.1.n)).Nodup := by
  refine List.Nodup.sublist ?_ h
  exact List.Sublist.map _ (List.Sublist.append (List.Sublist.refl _) (List.sublist_cons_self _ _))
theorem Qm.mids {u t : List Hn} {x : Hn} {v' : Value} (h : Qm w p r most v (u ++ x :: t)) (hm : Mv (fun k => k = p) w w') (hb : w'.heap[p]? = some (.cells #[.pointer (some ⟨r, 0, none⟩), .int .i64 (most : Int), v'] 109 (0, 0))) (hr : Rof w' 159 3 v' (u.length + t.length) (hcl u ++ hcl t)) : Qm w' p r most v' (u ++ t) := by
  have hsub : ∀ y ∈ u ++ t, y ∈ u ++ x :: t := fun y hy => by
    simp only [List.mem_append, List.mem_cons] at hy ⊢
    rcases hy with hy | hy
    · exact .inl hy
    · exact .inr (.inr hy)
  refine ⟨hb, ?_, fun y hy => ⟨Own.of_block (h.pay y (hsub y hy)).1 fun k hk => hm.block k ((h.pay y (hsub y hy)).1.lt hk) (fun e => ?_), (h.pay y (hsub y hy)).2⟩, fun y hy => h.rg y (hsub y hy), nodup_mid h.nums, ?_, h.most⟩
  · rw [List.length_append, hcl_append]; exact hr
  · exact h.px (hsub y hy) (e ▸ hk)
  · have := h.few
    simp at this ⊢
    omega
set_option maxHeartbeats 1600000 in
set_option maxRecDepth 1000000 in
theorem qforget_none (h : Qm w p r most v H) (n : Nat) (hno : n ∉ H.map (·.1.n)) :
    Calls Tryz.prog 69 #[.pointer (some ⟨p, 0, none⟩), .int .u32 (n : Int)] w fun e w' => e = .returned (.tuple #[]) ∧ w' = w := by
  have HF := hide (qfind_any h n H.length (Nat.le_refl _) (fun x hx e => hno (List.mem_map.2 ⟨x, List.mem_of_mem_take hx, e⟩)) (-1) (.inl ⟨rfl, rfl⟩))
  clear h hno
  go_enter Tryz.func69, Tryz.ntmps69
  go_wp2_with fail
  refine HF.out.mono ?_
  rintro e w1 ⟨rfl, rfl⟩
  go_wp2
  go_returns
  exact ⟨rfl, rfl⟩
set_option maxHeartbeats 3200000 in
set_option maxRecDepth 1000000 in
theorem qforget_some {u t : List Hn} {x : Hn} (h : Qm w p r most v (u ++ x :: t)) (hsz : (u ++ x :: t).length ≤ 1000000) :
    Calls Tryz.prog 69 #[.pointer (some ⟨p, 0, none⟩), .int .u32 (x.1.n : Int)] w fun e w' => e = .returned (.tuple #[]) ∧ Gone w w' p r most (u ++ t) := by
  have hux : ∀ y ∈ u, y.1.n ≠ x.1.n := fun y hy e => by
    have hn := h.nums
    rw [List.map_append, List.map_cons] at hn
    exact (List.nodup_append.1 hn).2.2 _ (List.mem_map_of_mem (f := fun z : Hn => z.1.n) hy) _ (List.mem_cons_self) e
  have HF := hide (qfind_any h x.1.n u.length (by simp) (fun y hy => by rw [List.take_left] at hy; exact hux y hy) (u.length : Int) (.inr ⟨x, by simp, rfl, rfl⟩))
  obtain ⟨g, o, c, rfl⟩ := h.lies (x := x) (by simp)
  obtain ⟨i0, hi, hz0, hz1, hz2⟩ := info_parts infoHn
  obtain ⟨a', c', e', hc1, hc2, hc3⟩ := h.shape
  cases e'
  have k2 := h.c2
  have f2 := h.fz 2
  have HQ := hide h
  obtain ⟨N, HN⟩ : ∃ N, Hid (N = (u ++ x :: t).length) := ⟨_, rfl⟩
  obtain ⟨i, HI⟩ : ∃ i, Hid (i = u.length) := ⟨_, rfl⟩
  have hiN : i + 1 ≤ N := by rw [HI.out, HN.out]; simp
  rw [← HN.out] at k2 hc1 hsz
  rw [← HI.out] at HF
  have HT : Hid (t.length = N - (i + 1)) := by rw [Hid, HN.out, HI.out]; simp; omega
  have HS1 : Hid (Src Tryz.prog 3 107 (.slice (some ⟨g, o, none⟩) i c) i (hcl u) w) := by
    have := HQ.out.row.src (P := Tryz.prog) (tx := 107) (k := u.length) (by simp) c Tryz.underlying107 HQ.out.one
    rw [← mid_take, ← HI.out] at this
    exact this
  have HS2 : Hid (∀ W, w.grownBy W none → ¬ c = i + 1 → Src Tryz.prog 3 107 (.slice (some ⟨g, o + (i + 1) * 3, none⟩) (N - (i + 1)) (c - (i + 1))) (N - (i + 1)) (hcl t) W) := fun W hg hne => by
    have h1 := (HQ.out.row.keep (w' := W) fun k hk => hg.block k (HQ.out.row.lt hk) (by simp)).drop (k := i + 1) (by rw [← HN.out]; exact hiN)
    rw [← HN.out, HI.out, mid_drop, ← HI.out] at h1
    have h2 := h1.src (P := Tryz.prog) (tx := 107) (k := N - (i + 1)) (Nat.le_refl _) (c - (i + 1)) Tryz.underlying107 (fun y hy => HQ.out.one y (by rw [hcl_append, hcl_cons]; simp only [List.mem_append]; exact .inr (.inr hy)))
    rwa [List.take_of_length_le (by rw [h1.1]; exact Nat.le_refl _)] at h2
  have HS3 : Hid (∀ W, c = i + 1 → Src Tryz.prog 3 107 (.slice (some ⟨g, o, none⟩) (N - (i + 1)) 0) (N - (i + 1)) (hcl t) W) := fun W he => by
    have h0 : N - (i + 1) = 0 := by omega
    have ht : t = [] := List.eq_nil_of_length_eq_zero (by rw [HT.out, h0])
    rw [ht, h0]
    exact Src.ofSlice W Tryz.underlying107 ⟨g, o, none⟩ 0 _ [] rfl (by simp) (by simp)
  have HFin : Hid (∀ v1 w1 v2 w2, Rof w1 159 3 v1 i (hcl u) → w.grownBy w1 none → (∀ k, v1.ownBlock = some k → (none : Option Nat) = some k ∨ w.heap.size ≤ k) → Rof w2 159 3 v2 (i + (N - (i + 1))) (hcl u ++ hcl t) → w1.grownBy w2 v1.ownBlock → (∀ k, v2.ownBlock = some k → v1.ownBlock = some k ∨ w1.heap.size ≤ k) →
      w2.cell? ⟨p, 2, none⟩ = some (.slice (some ⟨g, o, none⟩) N c) ∧ w2.frozen? ⟨p, 2, none⟩ = false ∧ Gone w (w2.setCell ⟨p, 2, none⟩ v2) p r most (u ++ t)) := by
    intro v1 w1 v2 w2 hr1 hg1 hf1 hr2 hg2 hf2
    have hp : p < w.heap.size := lt_of_block HQ.out.blk
    have hv1 : ∀ k, v1.ownBlock = some k → w.heap.size ≤ k := fun k hk => (hf1 k hk).elim (fun h => by cases h) id
    have hv2 : ∀ k, v2.ownBlock = some k → w.heap.size ≤ k := fun k hk => (hf2 k hk).elim (hv1 k) (fun h => Nat.le_trans hg1.size h)
    have hb1 : w1.heap[p]? = w.heap[p]? := hg1.block p hp (by simp)
    have hb2 : w2.heap[p]? = w.heap[p]? := (hg2.block p (Nat.lt_of_lt_of_le hp hg1.size) (fun e => by have := hv1 p e.symm; omega)).trans hb1
    have hbl := hb2.trans HQ.out.blk
    rw [← HN.out] at hbl
    have hm : Mv (fun k => k = p) w (w2.setCell ⟨p, 2, none⟩ v2) := Mv.setB (O := fun k => k = p) (b := p) (((Mv.refl _ w).grw hg1 (fun k hk => by cases hk)).grw hg2 (fun k hk => .inr (hv1 k hk))) rfl 2 v2
    refine ⟨by simp [World.cell?, hbl], by simp [World.frozen?, hbl], ⟨v2, HQ.out.mids hm ?_ ?_, hv2⟩, hm⟩
    · rw [heap_setCell_same w2 p 2 _ 109 _ hbl]; rfl
    · have e : u.length + t.length = i + (N - (i + 1)) := by rw [HT.out, ← HI.out]
      rw [e]
      refine Rof.keep (w := w2) hr2 fun k hk => Below.heap_setCell _ _ _ _ ?_
      have := hv2 k hk
      intro e
      simp at e
      omega
  have e0 : ¬ (i : Int) < 0 := by omega
  have e1 : (0 : Int) ≤ (i : Int) := by omega
  have e2 : (i : Int) ≤ (c : Int) := by omega
  have wr : IntKind.i64.wrap ((i : Int) + 1) = (i : Int) + 1 := by rw [IntKind.wrap_i64]; omega
  have e3 : (i : Int) + 1 ≤ (N : Int) := by omega
  have e4 : (0 : Int) ≤ (i : Int) + 1 := by omega
  have e5 : ((i : Int) + 1).toNat = i + 1 := by omega
  have HC1 : Hid (∀ w1, w.grownBy w1 none → w1.cell? ⟨p, 2, none⟩ = some (.slice (some ⟨g, o, none⟩) N c)) := fun w1 hg => by
    rw [World.cell?_of_block (a := ⟨p, 2, none⟩) (hg.block p (lt_of_block HQ.out.blk) (by simp))]
    exact k2
  clear h hux
  by_cases hce : c = i + 1
  · subst hce
    have h0 : N - (i + 1) = 0 := by omega
    rw [h0] at HS3 HFin
    have HS3' := hide (fun W => HS3.out W rfl)
    clear h0
    clear HS3
    go_enter Tryz.func69, Tryz.ntmps69
    go_wp2_with fail
    refine HF.out.mono ?_
    rintro e w0 ⟨rfl, rfl⟩
    clear HF
    go_wp2_with (first
      | (refine wpList_append_off (by rfl) (.tmp 11) (.tmp 17) 107 107 159 (by rfl) i0 _ 3 Tryz.underlying107 hi hz0 hz1 (by rfl) (by omega) (.slice none 0 0) 0 [] (by rfl) (Rof.nil _ _ _) (.slice (some ⟨g, o, none⟩) i (i + 1)) i (hcl u) (by rfl) HS1.out (by rw [hz2]; omega) (by omega) ?_; intro v1 w1 hr1 hg1 hf1; have hr1' : Rof w1 159 3 v1 i (hcl u) := (by simpa using hr1); have HR1 := hide hr1'; have HG1 := hide hg1; have HF1 := hide hf1; obtain ⟨a1, c1, rfl, -⟩ := hr1'.shape; have k3 := HC1.out w1 hg1; have HSx := hide (HS3'.out w1); clear hr1 hr1' hg1 hf1 k2)
      | (refine wpList_append_off (by rfl) (.tmp 20) (.tmp 27) 107 107 159 (by rfl) i0 _ 3 Tryz.underlying107 hi hz0 hz1 (by rfl) (by omega) (.slice a1 i c1) i (hcl u) (by rfl) HR1.out (.slice (some ⟨g, o, none⟩) 0 0) 0 (hcl t) (by rfl) HSx.out (by rw [hz2]; omega) (by omega) ?_; intro v2 w2 hr2 hg2 hf2; obtain ⟨a2, c2, rfl, -⟩ := hr2.shape; obtain ⟨k4, f4, hgo⟩ := HFin.out _ w1 _ w2 HR1.out HG1.out HF1.out hr2 hg2 hf2; have HGo := hide hgo; clear hr2 hg2 hf2 hgo k3))
    go_wp2
    go_end0
    exact ⟨rfl, HGo.out⟩
  · go_enter Tryz.func69, Tryz.ntmps69
    go_wp2_with fail
    refine HF.out.mono ?_
    rintro e w0 ⟨rfl, rfl⟩
    clear HF
    go_wp2_with (first
      | (refine wpList_append_off (by rfl) (.tmp 11) (.tmp 17) 107 107 159 (by rfl) i0 _ 3 Tryz.underlying107 hi hz0 hz1 (by rfl) (by omega) (.slice none 0 0) 0 [] (by rfl) (Rof.nil _ _ _) (.slice (some ⟨g, o, none⟩) i c) i (hcl u) (by rfl) HS1.out (by rw [hz2]; omega) (by omega) ?_; intro v1 w1 hr1 hg1 hf1; have hr1' : Rof w1 159 3 v1 i (hcl u) := (by simpa using hr1); have HR1 := hide hr1'; have HG1 := hide hg1; have HF1 := hide hf1; obtain ⟨a1, c1, rfl, -⟩ := hr1'.shape; have k3 := HC1.out w1 hg1; have HSx := hide (HS2.out w1 hg1 hce); clear hr1 hr1' hg1 hf1 k2)
      | (refine wpList_append_off (by rfl) (.tmp 20) (.tmp 27) 107 107 159 (by rfl) i0 _ 3 Tryz.underlying107 hi hz0 hz1 (by rfl) (by omega) (.slice a1 i c1) i (hcl u) (by rfl) HR1.out (.slice (some ⟨g, o + (i + 1) * 3, none⟩) (N - (i + 1)) (c - (i + 1))) (N - (i + 1)) (hcl t) (by rfl) HSx.out (by rw [hz2]; omega) (by omega) ?_; intro v2 w2 hr2 hg2 hf2; obtain ⟨a2, c2, rfl, -⟩ := hr2.shape; obtain ⟨k4, f4, hgo⟩ := HFin.out _ w1 _ w2 HR1.out HG1.out HF1.out hr2 hg2 hf2; have HGo := hide hgo; clear hr2 hg2 hf2 hgo k3))
    go_wp2
    go_end0
    exact ⟨rfl, HGo.out⟩
end Go.Proofs.YtlmofgfkclfgeaaGreat
