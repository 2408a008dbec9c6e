/- The document's own pool: use. -/
import Derived.Test.YtlmofgfkclfgeaaGreatVC
import Derived.Deep.RegionHeld3
namespace Go.Proofs.YtlmofgfkclfgeaaGreat
open Go.RowKit Go.Maps
set_option linter.unusedVariables false
variable {w w' : World} {p r most : Nat} {v : Value} {H : List Hn}

theorem find_hn (n : Nat) : n ∈ H.map (·.1.n) → ∃ u x t, H = u ++ x :: t ∧ x.1.n = n := fun h => by
  obtain ⟨x, hx, e⟩ := List.mem_map.1 h
  obtain ⟨u, t, e2⟩ := List.append_of_mem hx
  exact ⟨u, x, t, e2, e⟩
theorem wo_hn {u t : List Hn} {x : Hn} (h : ((u ++ x :: t).map (·.1.n)).Nodup) : (u ++ t).map (·.1) = wo ((u ++ x :: t).map (·.1)) x.1.n := by
  have h1 : ∀ y ∈ u ++ t, y.1.n ≠ x.1.n := fun y hy e => by
    have hp : ((u ++ x :: t).map (·.1.n)).Perm ((x :: (u ++ t)).map (·.1.n)) := List.Perm.map _ List.perm_middle
    have hn := (hp.nodup_iff).1 h
    rw [List.map_cons, List.nodup_cons] at hn
    exact hn.1 (List.mem_map.2 ⟨y, hy, e⟩)
  unfold wo
  rw [List.map_append, List.map_append, List.map_cons, List.filter_append, List.filter_cons]
  simp only [bne_self_eq_false, Bool.false_eq_true, if_false]
  rw [List.filter_eq_self.2, List.filter_eq_self.2]
  · intro y hy
    obtain ⟨z, hz, rfl⟩ := List.mem_map.1 hy
    simpa using h1 z (by simp [hz])
  · intro y hy
    obtain ⟨z, hz, rfl⟩ := List.mem_map.1 hy
    simpa using h1 z (by simp [hz])
theorem wo_no {n : Nat} (h : n ∉ H.map (·.1.n)) : wo (H.map (·.1)) n = H.map (·.1) := by
  unfold wo
  rw [List.filter_eq_self]
  intro y hy
  obtain ⟨z, hz, rfl⟩ := List.mem_map.1 hy
  simp
  intro e
  exact h (List.mem_map.2 ⟨z, hz, e⟩)
/-- Forget, of any number. -/
theorem qforget_all (h : Qm w p r most v H) (n : Nat) (hsz : H.length ≤ 1000000) :
    Calls Tryz.prog 69 #[.pointer (some ⟨p, 0, none⟩), .int .u32 (n : Int)] w fun e w' => ∃ v' H', e = .returned (.tuple #[]) ∧ Qm w' p r most v' H' ∧ H'.map (·.1) = wo (H.map (·.1)) n ∧ (∀ y ∈ H', y ∈ H) ∧ n ∉ H'.map (·.1.n) ∧ (∀ k, v'.ownBlock = some k → v.ownBlock = some k ∨ w.heap.size ≤ k) ∧ Mv (fun k => k = p) w w' := by
  by_cases hn : n ∈ H.map (·.1.n)
  · obtain ⟨u, x, t, rfl, rfl⟩ := find_hn n hn
    refine (qforget_some h hsz).mono ?_
    rintro e w' ⟨rfl, ⟨v', g1, g2⟩, g3⟩
    refine ⟨v', u ++ t, rfl, g1, wo_hn h.nums, fun y hy => ?_, fun hx => ?_, fun k hk => .inr (g2 k hk), g3⟩
    · simp only [List.mem_append, List.mem_cons] at hy ⊢
      rcases hy with hy | hy
      · exact .inl hy
      · exact .inr (.inr hy)
    · have hp : ((u ++ x :: t).map (·.1.n)).Perm ((x :: (u ++ t)).map (·.1.n)) := List.Perm.map _ List.perm_middle
      have h2 := (hp.nodup_iff).1 h.nums
      rw [List.map_cons, List.nodup_cons] at h2
      exact h2.1 hx
  · refine (qforget_none h n hn).mono ?_
    rintro e w' ⟨rfl, rfl⟩
    exact ⟨v, H, rfl, h, (wo_no hn).symm, fun y hy => hy, hn, fun k hk => .inl hk, Mv.refl _ _⟩
/-- what is behind use. -/
structure Used (w w' : World) (p r most : Nat) (v pv : Value) (H : List Hn) (x : Pge) : Prop where
  ex : ∃ v' H', Qm w' p r most v' H' ∧ H'.map (·.1) = inn most (wo (H.map (·.1)) x.n) x ∧ (∀ y ∈ H', y ∈ H ∨ y = (x, pv)) ∧ ∀ k, v'.ownBlock = some k → v.ownBlock = some k ∨ w.heap.size ≤ k
  mv : Mv (fun k => k = p ∨ v.ownBlock = some k) w w'
/-- one hand more than there may be, or not. -/
structure Qx (w w' : World) (p r most : Nat) (v v' pv : Value) (H H1 : List Hn) (x : Pge) : Prop where
  blk : w'.heap[p]? = some (.cells #[.pointer (some ⟨r, 0, none⟩), .int .i64 (most : Int), v'] 109 (0, 0))
  row : Rof w' 159 3 v' (H1.length + 1) (hcl (H1 ++ [(x, pv)]))
  pay : ∀ h ∈ H1 ++ [(x, pv)], Sl w' h.2 h.1.pl ∧ h.1.pl.length ≤ 1008 ∧ Byts h.1.pl
  rg : ∀ h ∈ H1 ++ [(x, pv)], h.1.n < 4294967296 ∧ h.1.k < 256
  nums : ((H1 ++ [(x, pv)]).map (·.1.n)).Nodup
  few : H1.length ≤ most
  most : 1 ≤ most ∧ most ≤ 9223372036854775807
  map : H1.map (·.1) = wo (H.map (·.1)) x.n
  sub : ∀ y ∈ H1, y ∈ H
  own : ∀ k, v'.ownBlock = some k → v.ownBlock = some k ∨ w.heap.size ≤ k
  mv : Mv (fun k => k = p ∨ v.ownBlock = some k) w w'
theorem Qx.drewN {v' pv : Value} {H1 : List Hn} {x : Pge} (h : Qx w w' p r most v v' pv H H1 x) (k : Nat) : Qx w (w'.drewN k) p r most v v' pv H H1 x :=
  ⟨h.blk, h.row.keep fun _ _ => rfl, fun y hy => ⟨Own.of_block (h.pay y hy).1 fun _ _ => rfl, (h.pay y hy).2⟩, h.rg, h.nums, h.few, h.most, h.map, h.sub, h.own, ⟨h.mv.os, h.mv.tape, h.mv.output, h.mv.size, h.mv.block⟩⟩
theorem Qx.fits {v' pv : Value} {H1 : List Hn} {x : Pge} (h : Qx w w' p r most v v' pv H H1 x) (hl : H1.length < most) : Used w w' p r most v pv H x := by
  refine ⟨⟨v', H1 ++ [(x, pv)], ⟨h.blk, by simpa using h.row, h.pay, h.rg, h.nums, by simp; omega, h.most⟩, ?_, fun y hy => ?_, h.own⟩, h.mv⟩
  · rw [List.map_append, h.map]
    unfold inn
    rw [← h.map, List.length_map, if_neg (by omega)]
    rfl
  · rcases List.mem_append.1 hy with hy | hy
    · exact .inl (h.sub y hy)
    · exact .inr (by simpa using hy)
/-- the one that was used longest ago goes. -/
theorem Qx.goes {pv : Value} {H1 : List Hn} {x : Pge} {g o c : Nat} (h : Qx w w' p r most v (.slice (some ⟨g, o, none⟩) (H1.length + 1) c) pv H H1 x) (hl : H1.length = most) :
    Used w (w'.setCell ⟨p, 2, none⟩ (.slice (some ⟨g, o + 3, none⟩) H1.length (c - 1))) p r most v pv H x := by
  have h1 := h.most
  have hr := h.row.drop (k := 1) (by omega)
  rw [Nat.one_mul, Nat.add_sub_cancel] at hr
  have hp : g ≠ p := fun e => by
    obtain ⟨cu, f, h2⟩ := h.row.type (k := g) rfl
    rw [e, h.blk] at h2
    simp at h2
  cases H1 with
  | nil => simp at hl; omega
  | cons y H2 =>
    have hm : Mv (fun k => k = p ∨ v.ownBlock = some k) w (w'.setCell ⟨p, 2, none⟩ (.slice (some ⟨g, o + 3, none⟩) (y :: H2).length (c - 1))) := h.mv.setB (.inl rfl) 2 _
    have hsub : ∀ z ∈ H2 ++ [(x, pv)], z ∈ y :: H2 ++ [(x, pv)] := fun z hz => by
      rw [List.cons_append]; exact List.mem_cons_of_mem _ hz
    have hset : ∀ k, k ≠ p → (w'.setCell ⟨p, 2, none⟩ (.slice (some ⟨g, o + 3, none⟩) (y :: H2).length (c - 1))).heap[k]? = w'.heap[k]? := fun k hk => Below.heap_setCell _ _ _ _ hk
    refine ⟨⟨.slice (some ⟨g, o + 3, none⟩) (y :: H2).length (c - 1), H2 ++ [(x, pv)], ⟨?_, ?_, fun z hz => ⟨Own.of_block (h.pay z (hsub z hz)).1 fun k hk => hset k (fun e => ?_), (h.pay z (hsub z hz)).2⟩, fun z hz => h.rg z (hsub z hz), ?_, ?_, h.most⟩, ?_, fun z hz => ?_, fun k hk => h.own k hk⟩, hm⟩
    · rw [heap_setCell_same w' p 2 _ 109 _ h.blk]; rfl
    · have e1 : (H2 ++ [(x, pv)]).length = (y :: H2).length := by simp
      have e2 : hcl (H2 ++ [(x, pv)]) = (hcl (y :: H2 ++ [(x, pv)])).drop 3 := (hcl_drop [y] (H2 ++ [(x, pv)])).symm
      rw [e1, e2]
      refine hr.keep fun k hk => hset k ?_
      simp only [Value.ownBlock, Option.some.injEq] at hk
      rw [← hk]
      exact hp
    · obtain ⟨cu, f, h2⟩ := (h.pay z (hsub z hz)).1.type hk
      rw [e, h.blk] at h2
      simp at h2
    · have h3 := h.nums
      rw [List.cons_append, List.map_cons, List.nodup_cons] at h3
      exact h3.2
    · simp at hl ⊢; omega
    · rw [List.map_append]
      unfold inn
      rw [← h.map, List.length_map, if_pos hl]
      rfl
    · rcases List.mem_append.1 hz with hz | hz
      · exact .inl (h.sub z (List.mem_cons_of_mem _ hz))
      · exact .inr (by simpa using hz)
set_option maxHeartbeats 3200000 in
set_option maxRecDepth 1000000 in
theorem quse_any (h : Qm w p r most v H) (hsz : H.length ≤ 100000) (x : Pge) (pa : Option Addr) (pn pc : Nat) (hpv : Sl w (.slice pa pn pc) x.pl) (hx : x.pl.length ≤ 1008 ∧ Byts x.pl) (hxn : x.n < 4294967296) (hxk : x.k < 256) :
    Calls Tryz.prog 59 #[.pointer (some ⟨p, 0, none⟩), .agg #[.int .u32 (x.n : Int), .int .u8 (x.k : Int), .slice pa pn pc]] w fun e w' => e = .returned (.tuple #[]) ∧ Used w w' p r most v (.slice pa pn pc) H x := by
  have hb0 := below_alloc w (.cells #[.int .u32 (x.n : Int), .int .u8 (x.k : Int), .slice pa pn pc] 159)
  have HFg := hide (qforget_all (h.below hb0) x.n (by omega))
  have HP := hide hpv
  have HX := hide (And.intro hx (And.intro hxn hxk))
  have HQ := hide h
  have HW : Hid (∀ W, Mv (fun k => k = p) (w.alloc (.cells #[.int .u32 (x.n : Int), .int .u8 (x.k : Int), .slice pa pn pc] 159)) W → W.heap[w.heap.size]? = some (.cells #[.int .u32 (x.n : Int), .int .u8 (x.k : Int), .slice pa pn pc] 159 (0, 0))) := fun W hW => by
    have hp : p < w.heap.size := lt_of_block HQ.out.blk
    rw [hW.block w.heap.size (by simp) (by omega)]
    exact heap_alloc_new w _
  obtain ⟨i0, hi, hz0, hz1, hz2⟩ := info_parts infoHn
  clear h hpv hx hxn hxk hb0
  obtain ⟨N, KD, PL⟩ := x
  simp only [] at HFg HX HW ⊢
  go_enter Tryz.func59, Tryz.ntmps59
  go_wp2_with (go_at_call 69; refine HFg.out.mono ?_; rintro e w2 ⟨v1, H1, rfl, q1, q2, q3, q4, q5, q6⟩; obtain ⟨a1, c1, rfl, hd1, hd2, hd3⟩ := q1.shape; have HQ1 := hide q1; have HQ2 := hide q2; have HQ3 := hide q3; have HQ4 := hide q4; have HQ5 := hide q5; have HQ6 := hide q6; have hbx := HW.out w2 q6; have x0 : w2.cell? ⟨w.heap.size, 0, none⟩ = some (.int .u32 (N : Int)) := (by simp [World.cell?, hbx]); have x1 : w2.cell? ⟨w.heap.size, 1, none⟩ = some (.int .u8 (KD : Int)) := (by simp [World.cell?, hbx]); have x2 : w2.cell? ⟨w.heap.size, 2, none⟩ = some (.slice pa pn pc) := (by simp [World.cell?, hbx]); have k2 := q1.c2; have k1 := q1.c1; have HBx := hide hbx; have hp2 : p < w2.heap.size := lt_of_block q1.blk; have hne2 : p ≠ w2.heap.size := (by omega); clear q1 q2 q3 q4 q5 q6 hbx hd3)
  have HRw : Hid (Rof (w2.alloc (.cells #[.int .u32 (N : Int), .int .u8 (KD : Int), .slice pa pn pc] 159)).drew 159 3 (.slice a1 H1.length c1) H1.length (hcl H1)) := HQ1.out.row.keep fun k hk => Below.heap_alloc w2 _ k (HQ1.out.row.lt hk)
  have HSrc : Hid (Src Tryz.prog 3 107 (.slice (some ⟨w2.heap.size, 0, none⟩) 1 1) 1 (hc1 (⟨N, KD, PL⟩, .slice pa pn pc)) (w2.alloc (.cells #[.int .u32 (N : Int), .int .u8 (KD : Int), .slice pa pn pc] 159)).drew) := Src.ofSlice _ Tryz.underlying107 ⟨w2.heap.size, 0, none⟩ 1 1 _ rfl (fun j u hu => by
    have hj : (⟨w2.heap.size, 0, none⟩ : Addr).add j = ⟨w2.heap.size, 0 + j, none⟩ := Addr.add_lit _ _ _
    rw [hj]
    show (w2.alloc _).cell? _ = _
    rw [cell_of_row _ _ (0 + j) _ 159 (0, 0) (heap_alloc_new w2 _)]
    simpa [hc1] using hu) (hc1_one _ rfl)
  have hln : H1.length ≤ 100000 := by
    have h1 := congrArg List.length HQ2.out
    rw [List.length_map] at h1
    have h2 : (wo (H.map (·.1)) N).length ≤ (H.map (·.1)).length := List.length_filter_le _ _
    rw [List.length_map] at h2
    omega
  have HFin : Hid (∀ v' w4, Rof w4 159 3 v' (H1.length + 1) (hcl H1 ++ hc1 (⟨N, KD, PL⟩, .slice pa pn pc)) → (w2.alloc (.cells #[.int .u32 (N : Int), .int .u8 (KD : Int), .slice pa pn pc] 159)).drew.grownBy w4 (Value.slice a1 H1.length c1).ownBlock → (∀ k, v'.ownBlock = some k → (Value.slice a1 H1.length c1).ownBlock = some k ∨ (w2.alloc (.cells #[.int .u32 (N : Int), .int .u8 (KD : Int), .slice pa pn pc] 159)).drew.heap.size ≤ k) →
      w4.cell? ⟨p, 2, none⟩ = some (.slice a1 H1.length c1) ∧ w4.frozen? ⟨p, 2, none⟩ = false ∧ Qx w (w4.setCell ⟨p, 2, none⟩ v') p r most v v' (.slice pa pn pc) H H1 ⟨N, KD, PL⟩) := by
    intro v' w4 hr hg hf
    have hw : w.heap.size ≤ w2.heap.size := Nat.le_trans (by simp) HQ6.out.size
    have hpw : p < w.heap.size := lt_of_block HQ.out.blk
    have hsz2 : (w2.alloc (.cells #[.int .u32 (N : Int), .int .u8 (KD : Int), .slice pa pn pc] 159)).drew.heap.size = w2.heap.size + 1 := by simp
    have hblk : w4.heap[p]? = some (.cells #[.pointer (some ⟨r, 0, none⟩), .int .i64 (most : Int), .slice a1 H1.length c1] 109 (0, 0)) := by
      rw [hg.block p (by omega) (fun e => HQ1.out.pv e.symm)]
      exact (Below.heap_alloc w2 _ p hp2).trans HQ1.out.blk
    have hv' : ∀ k, v'.ownBlock = some k → v.ownBlock = some k ∨ w.heap.size ≤ k := fun k hk => by
      rcases hf k hk with h1 | h1
      · exact (HQ5.out k h1).imp id (fun h => by simp at h; omega)
      · exact .inr (by omega)
    have hv'p : v'.ownBlock ≠ some p := fun e => by
      obtain ⟨cu, f, h2⟩ := hr.type e
      rw [hblk] at h2
      simp at h2
    have hm1 : Mv (fun k => k = p ∨ v.ownBlock = some k) w w2 := ((Mv.of_below (below_alloc w _)).trans' (HQ6.out.mono fun k hk => .inl hk))
    have hm4 : Mv (fun k => k = p ∨ v.ownBlock = some k) w w4 := (hm1.alloc' _).drew.grw hg fun k hk => (HQ5.out k hk).imp (fun h => .inr h) (fun h => by simp at h; omega)
    have hm : Mv (fun k => k = p ∨ v.ownBlock = some k) w (w4.setCell ⟨p, 2, none⟩ v') := hm4.setB (.inl rfl) 2 v'
    have hkeep : ∀ k, k < w2.heap.size → k ≠ p → some k ≠ (Value.slice a1 H1.length c1).ownBlock → (w4.setCell ⟨p, 2, none⟩ v').heap[k]? = w2.heap[k]? := fun k hk hkp hkv => by
      rw [Below.heap_setCell _ _ _ _ hkp, hg.block k (by omega) hkv]
      exact Below.heap_alloc w2 _ k hk
    have hpv2 : Sl w2 (.slice pa pn pc) PL := Own.of_block HP.out fun k hk => by
      have hkw := Own.lt HP.out hk
      rw [HQ6.out.block k (by simp; omega) (fun e => ?_)]
      · exact Below.heap_alloc w _ k hkw
      · obtain ⟨cu, f, h2⟩ := Sl.type HP.out hk
        rw [e, HQ.out.blk] at h2
        simp at h2
    have hpay : ∀ h ∈ H1 ++ [((⟨N, KD, PL⟩ : Pge), (Value.slice pa pn pc))], Sl w2 h.2 h.1.pl ∧ h.1.pl.length ≤ 1008 ∧ Byts h.1.pl := fun h hh => by
      rcases List.mem_append.1 hh with hh | hh
      · exact HQ1.out.pay h hh
      · simp only [List.mem_singleton] at hh
        subst hh
        exact ⟨hpv2, HX.out.1⟩
    refine ⟨by simp [World.cell?, hblk], by simp [World.frozen?, hblk], ⟨?_, ?_, fun h hh => ⟨Own.of_block (hpay h hh).1 fun k hk => hkeep k (Own.lt (hpay h hh).1 hk) (fun e => ?_) (fun e => ?_), (hpay h hh).2⟩, fun h hh => ?_, ?_, HQ1.out.few, HQ1.out.most, HQ2.out, HQ3.out, hv', hm⟩⟩
    · rw [heap_setCell_same w4 p 2 _ 109 _ hblk]; rfl
    · rw [hcl_append]
      have : hcl [((⟨N, KD, PL⟩ : Pge), (Value.slice pa pn pc))] = hc1 (⟨N, KD, PL⟩, .slice pa pn pc) := by simp [hcl]
      rw [this]
      exact hr.keep fun k hk => Below.heap_setCell _ _ _ _ (fun (e : k = p) => hv'p (e ▸ hk))
    · obtain ⟨cu, f, h2⟩ := Sl.type (hpay h hh).1 hk
      rw [e, HQ1.out.blk] at h2
      simp at h2
    · obtain ⟨cu, f, h2⟩ := Sl.type (hpay h hh).1 hk
      obtain ⟨cu2, f2, h3⟩ := HQ1.out.row.type e.symm
      rw [h2] at h3
      simp at h3
    · rcases List.mem_append.1 hh with hh | hh
      · exact HQ1.out.rg h hh
      · simp only [List.mem_singleton] at hh
        subst hh
        exact HX.out.2
    · rw [List.map_append]
      refine (List.nodup_append).2 ⟨HQ1.out.nums, by simp, fun x hx y hy => ?_⟩
      simp at hy
      subst hy
      exact fun h => HQ4.out (h ▸ hx)
  refine wp_region_any (by kernel_rfl) ?_
  change wpAny _ _ _ _ _ _ _ (World.drew _)
  refine wpAny_take (i := 0) (oi := { dst := some 8, op := Op.move (Operand.tmp 0), type := 36, pos := "ref.go:56", after := #[], guard := none }) (v := ?v0x1) rfl (by kernel_rfl) (by kernel_rfl) (by kernel_rfl) (fun _ _ _ h => h) (Or.inl ⟨by rfl, ?hy0x1⟩) ?rest0x1
  case hy0x1 => (intro w; (first | (go_simp; with_reducible rfl) | go_simp))
  try simp only [Act.put, List.setIfInBounds_toArray, List.set_cons_zero, List.set_cons_succ]
  refine wpAny_take (i := 1) (oi := { dst := some 9, op := Op.move (Operand.tmp 0), type := 36, pos := "ref.go:56", after := #[], guard := none }) (v := ?v1x2) rfl (by kernel_rfl) (by kernel_rfl) (by kernel_rfl) (fun _ _ _ h => h) (Or.inl ⟨by rfl, ?hy1x2⟩) ?rest1x2
  case hy1x2 => (intro w; (first | (go_simp; with_reducible rfl) | go_simp))
  try simp only [Act.put, List.setIfInBounds_toArray, List.set_cons_zero, List.set_cons_succ]
  refine wpAny_take (i := 2) (oi := { dst := some 10, op := Op.nilCheck (Operand.tmp 9), type := 0, pos := "ref.go:56", after := #[{ on := 1, ground := Ground.data }], guard := none }) (v := ?v2x3) rfl (by kernel_rfl) (by kernel_rfl) (by kernel_rfl) (fun _ _ _ h => h) (Or.inl ⟨by rfl, ?hy2x3⟩) ?rest2x3
  case hy2x3 => (intro w; (first | (go_simp; with_reducible rfl) | go_simp))
  try simp only [Act.put, List.setIfInBounds_toArray, List.set_cons_zero, List.set_cons_succ]
  refine wpAny_take (i := 3) (oi := { dst := some 11, op := Op.fieldAddr 109 (Operand.tmp 10) 2, type := 0, pos := "ref.go:56", after := #[{ on := 2, ground := Ground.data }], guard := none }) (v := ?v3x4) rfl (by kernel_rfl) (by kernel_rfl) (by kernel_rfl) (fun _ _ _ h => h) (Or.inl ⟨by rfl, ?hy3x4⟩) ?rest3x4
  case hy3x4 => (intro w; (first | (go_simp; with_reducible rfl) | go_simp))
  try simp only [Act.put, List.setIfInBounds_toArray, List.set_cons_zero, List.set_cons_succ]
  refine wpAny_ready (rs := [4, 5]) (by kernel_rfl) (by simp) ?_
  refine AllReady.cons (o := { dst := some 12, op := Op.load 107 (Operand.tmp 11), type := 107, pos := "ref.go:56", after := #[{ on := 3, ground := Ground.data }], guard := none }) rfl (fun K hK => ?_) (AllReady.cons (o := { dst := some 13, op := Op.load 159 (Operand.tmp 3), type := 159, pos := "ref.go:56", after := #[], guard := none }) rfl (fun K hK => ?_) AllReady.nil)
  · go_simp
    refine hK _ _ ?_
    clear hK K
    try simp only [Act.put, List.setIfInBounds_toArray, List.set_cons_zero, List.set_cons_succ]
    refine wpAny_ready (rs := [5]) (by kernel_rfl) (by simp) ?_
    refine AllReady.cons (o := { dst := some 13, op := Op.load 159 (Operand.tmp 3), type := 159, pos := "ref.go:56", after := #[], guard := none }) rfl (fun K hK => ?_) AllReady.nil
    go_simp
    refine hK _ _ ?_
    clear hK K
    try simp only [Act.put, List.setIfInBounds_toArray, List.set_cons_zero, List.set_cons_succ]
    refine wpAny_ready (rs := [6]) (by kernel_rfl) (by simp) ?_
    refine AllReady.cons (o := { dst := some 14, op := Op.buildSlice 107 1 #[(0, Operand.tmp 13)], type := 107, pos := "ref.go:56", after := #[{ on := 5, ground := Ground.data }], guard := none }) rfl (fun K hK => ?_) AllReady.nil
    go_simp
    refine hK _ _ ?_
    clear hK K
    try simp only [Act.put, List.setIfInBounds_toArray, List.set_cons_zero, List.set_cons_succ]
    refine wpAny_ready (rs := [7]) (by kernel_rfl) (by simp) ?_
    refine AllReady.cons (o := { dst := some 15, op := Op.call { callee := Callee.builtin Builtin.append, args := #[Operand.tmp 12, Operand.tmp 14], argTypes := #[107, 107] }, type := 107, pos := "ref.go:56", after := #[{ on := 4, ground := Ground.data }, { on := 6, ground := Ground.data }], guard := none }) rfl (fun K hK => ?_) AllReady.nil
    refine step_of rfl ?_
    refine wp_append_off (.tmp 12) (.tmp 14) 107 107 159 rfl i0 _ 3 Tryz.underlying107 hi hz0 hz1 (by rfl) (by omega) (.slice a1 H1.length c1) H1.length (hcl H1) rfl HRw.out (.slice (some ⟨w2.heap.size, 0, none⟩) 1 1) 1 (hc1 (⟨N, KD, PL⟩, .slice pa pn pc)) rfl HSrc.out (by rw [hz2]; omega) (by omega) ?_
    intro v' w4 hr4 hg4 hf4
    obtain ⟨g4, o4, c4, rfl, hc4⟩ := hr4.lies (by omega)
    obtain ⟨k5, f5, hfin⟩ := HFin.out _ _ hr4 hg4 hf4
    have HFn := hide hfin
    clear hr4 hg4 hf4 hfin k2
    refine hK _ _ ?_
    clear hK K
    try simp only [Act.put, List.setIfInBounds_toArray, List.set_cons_zero, List.set_cons_succ]
    refine wpAny_take (i := 8) (oi := { dst := some 16, op := Op.nilCheck (Operand.tmp 8), type := 0, pos := "ref.go:56", after := #[{ on := 0, ground := Ground.data }, { on := 0, ground := Ground.phase }, { on := 1, ground := Ground.phase }, { on := 2, ground := Ground.phase }, { on := 3, ground := Ground.phase }, { on := 4, ground := Ground.phase }, { on := 5, ground := Ground.phase }, { on := 6, ground := Ground.phase }, { on := 7, ground := Ground.phase }], guard := none }) (v := ?v8x5) rfl (by kernel_rfl) (by kernel_rfl) (by kernel_rfl) (fun _ _ _ h => h) (Or.inl ⟨by rfl, ?hy8x5⟩) ?rest8x5
    case hy8x5 => (intro w; (first | (go_simp; with_reducible rfl) | go_simp))
    try simp only [Act.put, List.setIfInBounds_toArray, List.set_cons_zero, List.set_cons_succ]
    refine wpAny_take (i := 9) (oi := { dst := some 17, op := Op.fieldAddr 109 (Operand.tmp 16) 2, type := 0, pos := "ref.go:56", after := #[{ on := 8, ground := Ground.data }, { on := 0, ground := Ground.phase }, { on := 1, ground := Ground.phase }, { on := 2, ground := Ground.phase }, { on := 3, ground := Ground.phase }, { on := 4, ground := Ground.phase }, { on := 5, ground := Ground.phase }, { on := 6, ground := Ground.phase }, { on := 7, ground := Ground.phase }], guard := none }) (v := ?v9x6) rfl (by kernel_rfl) (by kernel_rfl) (by kernel_rfl) (fun _ _ _ h => h) (Or.inl ⟨by rfl, ?hy9x6⟩) ?rest9x6
    case hy9x6 => (intro w; (first | (go_simp; with_reducible rfl) | go_simp))
    try simp only [Act.put, List.setIfInBounds_toArray, List.set_cons_zero, List.set_cons_succ]
    refine wpAny_ready (rs := [10]) (by kernel_rfl) (by simp) ?_
    refine AllReady.cons (o := { dst := none, op := Op.store 107 (Operand.tmp 17) (Operand.tmp 15), type := 0, pos := "ref.go:56", after := #[{ on := 9, ground := Ground.data }, { on := 7, ground := Ground.data }, { on := 7, ground := Ground.chain }, { on := 0, ground := Ground.phase }, { on := 1, ground := Ground.phase }, { on := 2, ground := Ground.phase }, { on := 3, ground := Ground.phase }, { on := 4, ground := Ground.phase }, { on := 5, ground := Ground.phase }, { on := 6, ground := Ground.phase }, { on := 7, ground := Ground.phase }], guard := none }) rfl (fun K hK => ?_) AllReady.nil
    go_simp
    refine hK _ _ ?_
    clear hK K
    try simp only [Act.put, List.setIfInBounds_toArray, List.set_cons_zero, List.set_cons_succ]
    refine wpAny_done (by kernel_rfl) ?_ _
    generalize hW : w4.setCell ⟨p, 2, none⟩ (.slice (some ⟨g4, o4, none⟩) (H1.length + 1) c4) = W5
    have HQx : Hid (Qx w W5 p r most v (.slice (some ⟨g4, o4, none⟩) (H1.length + 1) c4) (.slice pa pn pc) H H1 ⟨N, KD, PL⟩) := by rw [← hW]; exact HFn.out
    have m2 : W5.cell? ⟨p, 2, none⟩ = some (.slice (some ⟨g4, o4, none⟩) (H1.length + 1) c4) := by simp [World.cell?, HQx.out.blk]
    have m1 : W5.cell? ⟨p, 1, none⟩ = some (.int .i64 (most : Int)) := by simp [World.cell?, HQx.out.blk]
    have z2 : W5.frozen? ⟨p, 2, none⟩ = false := by simp [World.frozen?, HQx.out.blk]
    have hmo := HQx.out.most
    have hfw := HQx.out.few
    clear hW k5 f5 HFn x0 x1 x2
    by_cases hmx : H1.length < most
    · have d1 : ¬ (most : Int) < (H1.length : Int) + 1 := by omega
      go_wp2
      go_quiet (fail)
      go_wp2
      go_end0
      exact ⟨rfl, (HQx.out.drewN _).fits hmx⟩
    · have d1 : (most : Int) < (H1.length : Int) + 1 := by omega
      have d2 : (1 : Int) ≤ (H1.length : Int) + 1 := by omega
      have d3 : ¬ c4 = 1 := by omega
      have HEq : Hid (H1.length = most) := by rw [Hid]; omega
      go_wp2
      go_quiet (fail)
      go_wp2
      go_end0
      exact ⟨rfl, (HQx.out.drewN _).goes HEq.out⟩
  · go_simp
    refine hK _ _ ?_
    clear hK K
    try simp only [Act.put, List.setIfInBounds_toArray, List.set_cons_zero, List.set_cons_succ]
    refine wpAny_ready (rs := [4, 6]) (by kernel_rfl) (by simp) ?_
    refine AllReady.cons (o := { dst := some 12, op := Op.load 107 (Operand.tmp 11), type := 107, pos := "ref.go:56", after := #[{ on := 3, ground := Ground.data }], guard := none }) rfl (fun K hK => ?_) (AllReady.cons (o := { dst := some 14, op := Op.buildSlice 107 1 #[(0, Operand.tmp 13)], type := 107, pos := "ref.go:56", after := #[{ on := 5, ground := Ground.data }], guard := none }) rfl (fun K hK => ?_) AllReady.nil)
    · go_simp
      refine hK _ _ ?_
      clear hK K
      try simp only [Act.put, List.setIfInBounds_toArray, List.set_cons_zero, List.set_cons_succ]
      refine wpAny_ready (rs := [6]) (by kernel_rfl) (by simp) ?_
      refine AllReady.cons (o := { dst := some 14, op := Op.buildSlice 107 1 #[(0, Operand.tmp 13)], type := 107, pos := "ref.go:56", after := #[{ on := 5, ground := Ground.data }], guard := none }) rfl (fun K hK => ?_) AllReady.nil
      go_simp
      refine hK _ _ ?_
      clear hK K
      try simp only [Act.put, List.setIfInBounds_toArray, List.set_cons_zero, List.set_cons_succ]
      refine wpAny_ready (rs := [7]) (by kernel_rfl) (by simp) ?_
      refine AllReady.cons (o := { dst := some 15, op := Op.call { callee := Callee.builtin Builtin.append, args := #[Operand.tmp 12, Operand.tmp 14], argTypes := #[107, 107] }, type := 107, pos := "ref.go:56", after := #[{ on := 4, ground := Ground.data }, { on := 6, ground := Ground.data }], guard := none }) rfl (fun K hK => ?_) AllReady.nil
      refine step_of rfl ?_
      refine wp_append_off (.tmp 12) (.tmp 14) 107 107 159 rfl i0 _ 3 Tryz.underlying107 hi hz0 hz1 (by rfl) (by omega) (.slice a1 H1.length c1) H1.length (hcl H1) rfl HRw.out (.slice (some ⟨w2.heap.size, 0, none⟩) 1 1) 1 (hc1 (⟨N, KD, PL⟩, .slice pa pn pc)) rfl HSrc.out (by rw [hz2]; omega) (by omega) ?_
      intro v' w4 hr4 hg4 hf4
      obtain ⟨g4, o4, c4, rfl, hc4⟩ := hr4.lies (by omega)
      obtain ⟨k5, f5, hfin⟩ := HFin.out _ _ hr4 hg4 hf4
      have HFn := hide hfin
      clear hr4 hg4 hf4 hfin k2
      refine hK _ _ ?_
      clear hK K
      try simp only [Act.put, List.setIfInBounds_toArray, List.set_cons_zero, List.set_cons_succ]
      refine wpAny_take (i := 8) (oi := { dst := some 16, op := Op.nilCheck (Operand.tmp 8), type := 0, pos := "ref.go:56", after := #[{ on := 0, ground := Ground.data }, { on := 0, ground := Ground.phase }, { on := 1, ground := Ground.phase }, { on := 2, ground := Ground.phase }, { on := 3, ground := Ground.phase }, { on := 4, ground := Ground.phase }, { on := 5, ground := Ground.phase }, { on := 6, ground := Ground.phase }, { on := 7, ground := Ground.phase }], guard := none }) (v := ?v8x7) rfl (by kernel_rfl) (by kernel_rfl) (by kernel_rfl) (fun _ _ _ h => h) (Or.inl ⟨by rfl, ?hy8x7⟩) ?rest8x7
      case hy8x7 => (intro w; (first | (go_simp; with_reducible rfl) | go_simp))
      try simp only [Act.put, List.setIfInBounds_toArray, List.set_cons_zero, List.set_cons_succ]
      refine wpAny_take (i := 9) (oi := { dst := some 17, op := Op.fieldAddr 109 (Operand.tmp 16) 2, type := 0, pos := "ref.go:56", after := #[{ on := 8, ground := Ground.data }, { on := 0, ground := Ground.phase }, { on := 1, ground := Ground.phase }, { on := 2, ground := Ground.phase }, { on := 3, ground := Ground.phase }, { on := 4, ground := Ground.phase }, { on := 5, ground := Ground.phase }, { on := 6, ground := Ground.phase }, { on := 7, ground := Ground.phase }], guard := none }) (v := ?v9x8) rfl (by kernel_rfl) (by kernel_rfl) (by kernel_rfl) (fun _ _ _ h => h) (Or.inl ⟨by rfl, ?hy9x8⟩) ?rest9x8
      case hy9x8 => (intro w; (first | (go_simp; with_reducible rfl) | go_simp))
      try simp only [Act.put, List.setIfInBounds_toArray, List.set_cons_zero, List.set_cons_succ]
      refine wpAny_ready (rs := [10]) (by kernel_rfl) (by simp) ?_
      refine AllReady.cons (o := { dst := none, op := Op.store 107 (Operand.tmp 17) (Operand.tmp 15), type := 0, pos := "ref.go:56", after := #[{ on := 9, ground := Ground.data }, { on := 7, ground := Ground.data }, { on := 7, ground := Ground.chain }, { on := 0, ground := Ground.phase }, { on := 1, ground := Ground.phase }, { on := 2, ground := Ground.phase }, { on := 3, ground := Ground.phase }, { on := 4, ground := Ground.phase }, { on := 5, ground := Ground.phase }, { on := 6, ground := Ground.phase }, { on := 7, ground := Ground.phase }], guard := none }) rfl (fun K hK => ?_) AllReady.nil
      go_simp
      refine hK _ _ ?_
      clear hK K
      try simp only [Act.put, List.setIfInBounds_toArray, List.set_cons_zero, List.set_cons_succ]
      refine wpAny_done (by kernel_rfl) ?_ _
      generalize hW : w4.setCell ⟨p, 2, none⟩ (.slice (some ⟨g4, o4, none⟩) (H1.length + 1) c4) = W5
      have HQx : Hid (Qx w W5 p r most v (.slice (some ⟨g4, o4, none⟩) (H1.length + 1) c4) (.slice pa pn pc) H H1 ⟨N, KD, PL⟩) := by rw [← hW]; exact HFn.out
      have m2 : W5.cell? ⟨p, 2, none⟩ = some (.slice (some ⟨g4, o4, none⟩) (H1.length + 1) c4) := by simp [World.cell?, HQx.out.blk]
      have m1 : W5.cell? ⟨p, 1, none⟩ = some (.int .i64 (most : Int)) := by simp [World.cell?, HQx.out.blk]
      have z2 : W5.frozen? ⟨p, 2, none⟩ = false := by simp [World.frozen?, HQx.out.blk]
      have hmo := HQx.out.most
      have hfw := HQx.out.few
      clear hW k5 f5 HFn x0 x1 x2
      by_cases hmx : H1.length < most
      · have d1 : ¬ (most : Int) < (H1.length : Int) + 1 := by omega
        go_wp2
        go_quiet (fail)
        go_wp2
        go_end0
        exact ⟨rfl, (HQx.out.drewN _).fits hmx⟩
      · have d1 : (most : Int) < (H1.length : Int) + 1 := by omega
        have d2 : (1 : Int) ≤ (H1.length : Int) + 1 := by omega
        have d3 : ¬ c4 = 1 := by omega
        have HEq : Hid (H1.length = most) := by rw [Hid]; omega
        go_wp2
        go_quiet (fail)
        go_wp2
        go_end0
        exact ⟨rfl, (HQx.out.drewN _).goes HEq.out⟩
    · go_simp
      refine hK _ _ ?_
      clear hK K
      try simp only [Act.put, List.setIfInBounds_toArray, List.set_cons_zero, List.set_cons_succ]
      refine wpAny_ready (rs := [4]) (by kernel_rfl) (by simp) ?_
      refine AllReady.cons (o := { dst := some 12, op := Op.load 107 (Operand.tmp 11), type := 107, pos := "ref.go:56", after := #[{ on := 3, ground := Ground.data }], guard := none }) rfl (fun K hK => ?_) AllReady.nil
      go_simp
      refine hK _ _ ?_
      clear hK K
      try simp only [Act.put, List.setIfInBounds_toArray, List.set_cons_zero, List.set_cons_succ]
      refine wpAny_ready (rs := [7]) (by kernel_rfl) (by simp) ?_
      refine AllReady.cons (o := { dst := some 15, op := Op.call { callee := Callee.builtin Builtin.append, args := #[Operand.tmp 12, Operand.tmp 14], argTypes := #[107, 107] }, type := 107, pos := "ref.go:56", after := #[{ on := 4, ground := Ground.data }, { on := 6, ground := Ground.data }], guard := none }) rfl (fun K hK => ?_) AllReady.nil
      refine step_of rfl ?_
      refine wp_append_off (.tmp 12) (.tmp 14) 107 107 159 rfl i0 _ 3 Tryz.underlying107 hi hz0 hz1 (by rfl) (by omega) (.slice a1 H1.length c1) H1.length (hcl H1) rfl HRw.out (.slice (some ⟨w2.heap.size, 0, none⟩) 1 1) 1 (hc1 (⟨N, KD, PL⟩, .slice pa pn pc)) rfl HSrc.out (by rw [hz2]; omega) (by omega) ?_
      intro v' w4 hr4 hg4 hf4
      obtain ⟨g4, o4, c4, rfl, hc4⟩ := hr4.lies (by omega)
      obtain ⟨k5, f5, hfin⟩ := HFin.out _ _ hr4 hg4 hf4
      have HFn := hide hfin
      clear hr4 hg4 hf4 hfin k2
      refine hK _ _ ?_
      clear hK K
      try simp only [Act.put, List.setIfInBounds_toArray, List.set_cons_zero, List.set_cons_succ]
      refine wpAny_take (i := 8) (oi := { dst := some 16, op := Op.nilCheck (Operand.tmp 8), type := 0, pos := "ref.go:56", after := #[{ on := 0, ground := Ground.data }, { on := 0, ground := Ground.phase }, { on := 1, ground := Ground.phase }, { on := 2, ground := Ground.phase }, { on := 3, ground := Ground.phase }, { on := 4, ground := Ground.phase }, { on := 5, ground := Ground.phase }, { on := 6, ground := Ground.phase }, { on := 7, ground := Ground.phase }], guard := none }) (v := ?v8x9) rfl (by kernel_rfl) (by kernel_rfl) (by kernel_rfl) (fun _ _ _ h => h) (Or.inl ⟨by rfl, ?hy8x9⟩) ?rest8x9
      case hy8x9 => (intro w; (first | (go_simp; with_reducible rfl) | go_simp))
      try simp only [Act.put, List.setIfInBounds_toArray, List.set_cons_zero, List.set_cons_succ]
      refine wpAny_take (i := 9) (oi := { dst := some 17, op := Op.fieldAddr 109 (Operand.tmp 16) 2, type := 0, pos := "ref.go:56", after := #[{ on := 8, ground := Ground.data }, { on := 0, ground := Ground.phase }, { on := 1, ground := Ground.phase }, { on := 2, ground := Ground.phase }, { on := 3, ground := Ground.phase }, { on := 4, ground := Ground.phase }, { on := 5, ground := Ground.phase }, { on := 6, ground := Ground.phase }, { on := 7, ground := Ground.phase }], guard := none }) (v := ?v9x10) rfl (by kernel_rfl) (by kernel_rfl) (by kernel_rfl) (fun _ _ _ h => h) (Or.inl ⟨by rfl, ?hy9x10⟩) ?rest9x10
      case hy9x10 => (intro w; (first | (go_simp; with_reducible rfl) | go_simp))
      try simp only [Act.put, List.setIfInBounds_toArray, List.set_cons_zero, List.set_cons_succ]
      refine wpAny_ready (rs := [10]) (by kernel_rfl) (by simp) ?_
      refine AllReady.cons (o := { dst := none, op := Op.store 107 (Operand.tmp 17) (Operand.tmp 15), type := 0, pos := "ref.go:56", after := #[{ on := 9, ground := Ground.data }, { on := 7, ground := Ground.data }, { on := 7, ground := Ground.chain }, { on := 0, ground := Ground.phase }, { on := 1, ground := Ground.phase }, { on := 2, ground := Ground.phase }, { on := 3, ground := Ground.phase }, { on := 4, ground := Ground.phase }, { on := 5, ground := Ground.phase }, { on := 6, ground := Ground.phase }, { on := 7, ground := Ground.phase }], guard := none }) rfl (fun K hK => ?_) AllReady.nil
      go_simp
      refine hK _ _ ?_
      clear hK K
      try simp only [Act.put, List.setIfInBounds_toArray, List.set_cons_zero, List.set_cons_succ]
      refine wpAny_done (by kernel_rfl) ?_ _
      generalize hW : w4.setCell ⟨p, 2, none⟩ (.slice (some ⟨g4, o4, none⟩) (H1.length + 1) c4) = W5
      have HQx : Hid (Qx w W5 p r most v (.slice (some ⟨g4, o4, none⟩) (H1.length + 1) c4) (.slice pa pn pc) H H1 ⟨N, KD, PL⟩) := by rw [← hW]; exact HFn.out
      have m2 : W5.cell? ⟨p, 2, none⟩ = some (.slice (some ⟨g4, o4, none⟩) (H1.length + 1) c4) := by simp [World.cell?, HQx.out.blk]
      have m1 : W5.cell? ⟨p, 1, none⟩ = some (.int .i64 (most : Int)) := by simp [World.cell?, HQx.out.blk]
      have z2 : W5.frozen? ⟨p, 2, none⟩ = false := by simp [World.frozen?, HQx.out.blk]
      have hmo := HQx.out.most
      have hfw := HQx.out.few
      clear hW k5 f5 HFn x0 x1 x2
      by_cases hmx : H1.length < most
      · have d1 : ¬ (most : Int) < (H1.length : Int) + 1 := by omega
        go_wp2
        go_quiet (fail)
        go_wp2
        go_end0
        exact ⟨rfl, (HQx.out.drewN _).fits hmx⟩
      · have d1 : (most : Int) < (H1.length : Int) + 1 := by omega
        have d2 : (1 : Int) ≤ (H1.length : Int) + 1 := by omega
        have d3 : ¬ c4 = 1 := by omega
        have HEq : Hid (H1.length = most) := by rw [Hid]; omega
        go_wp2
        go_quiet (fail)
        go_wp2
        go_end0
        exact ⟨rfl, (HQx.out.drewN _).goes HEq.out⟩
end Go.Proofs.YtlmofgfkclfgeaaGreat
