/- The pages at hand: one is used, one is taken in. -/
import Derived.Test.YtlmofgfkclfgeaaGreatPE
namespace Go.Proofs.YtlmofgfkclfgeaaGreat
open Go.RowKit Go.Maps
set_option linter.unusedVariables false
variable {w w' : World} {p d e m most : Nat} {L : List Sh} {el yo : Nat → Nat}

theorem Hd.moved {w1 : World} (h : Hd w p d e m most L el yo) (hm : Mv (fun k => k ∈ e :: L.map Sh.b) w w1) : w1.heap[p]? = w.heap[p]? ∧ w1.heap[m]? = w.heap[m]? ∧ ∀ s ∈ L, ∀ k, s.v.ownBlock = some k → w1.heap[k]? = w.heap[k]? :=
  ⟨hm.block p (lt_of_block h.blk) h.offp, hm.block m (h.lt m (.inr (.inr (.inl rfl)))) h.offm, fun s hs k hk => hm.block k ((h.pay s hs).1.lt hk) (h.offv hs hk)⟩
theorem nodup_len : ∀ (N : Nat) (l : List Nat), l.Nodup → (∀ x ∈ l, x < N) → l.length ≤ N
  | 0, l, _, h => by
    cases l with
    | nil => simp
    | cons x _ => exact absurd (h x (by simp)) (by omega)
  | N + 1, l, hd, h => by
    by_cases hN : N ∈ l
    · have h1 := nodup_len N (l.erase N) (hd.erase N) (fun x hx => by
        have h2 := h x (List.mem_of_mem_erase hx)
        have h3 : x ≠ N := fun e => by rw [e] at hx; exact (List.Nodup.not_mem_erase hd) hx
        omega)
      rw [List.length_erase_of_mem hN] at h1
      omega
    · have h1 := nodup_len N l hd (fun x hx => by
        have h2 := h x hx
        have h3 : x ≠ N := fun e => hN (e ▸ hx)
        omega)
      omega
theorem few_of {L : List Sh} {n : Nat} (hd : (L.map Sh.n).Nodup) (h : ∀ s ∈ L, s.n < 4294967296) (hn : n ∉ L.map Sh.n) (hlt : n < 4294967296) : L.length < 4294967296 := by
  have h1 := nodup_len 4294967296 (n :: L.map Sh.n) (List.nodup_cons.2 ⟨hn, hd⟩) (fun x hx => by
    rcases List.mem_cons.1 hx with rfl | hx
    · exact hlt
    · obtain ⟨s, hs, rfl⟩ := List.mem_map.1 hx
      exact h s hs)
  simp at h1
  omega
theorem mid_perm (u v : List Sh) (s : Sh) : (u ++ v ++ [s]).Perm (u ++ s :: v) := by
  rw [List.append_assoc]
  exact List.Perm.append_left u (List.perm_append_comm.trans (List.Perm.refl _))
set_option maxHeartbeats 1600000 in
set_option maxRecDepth 1000000 in
theorem use_any {u v : List Sh} {s : Sh} (h : Hd w p d e m most (u ++ s :: v) el yo) :
    Calls Tryz.prog 75 #[.pointer (some ⟨p, 1, none⟩), .pointer (some ⟨s.b, 0, none⟩)] w fun ed w' => ed = .returned (.tuple #[]) ∧ (∃ el' yo', Hd w' p d e m most (u ++ v ++ [s]) el' yo') ∧ Mv (OwP p e m (u ++ s :: v)) w w' := by
  have HH := hide h
  have HL := hide (leave_fam h.fam h.ring)
  clear h
  go_enter Tryz.func75, Tryz.ntmps75
  go_wp2_with fail
  refine HL.out.mono ?_
  rintro ed w1 ⟨rfl, hf1, hr1, hm1⟩
  have h := HH.out
  obtain ⟨g1, g2, g3⟩ := h.moved hm1
  have hp1 := g1.trans h.blk
  have c3 : w1.cell? ⟨p, 3, none⟩ = some (.pointer (some ⟨e, 0, none⟩)) := by simp [World.cell?, hp1]
  have hsm : s ∈ eS e :: (u ++ s :: v) := by simp
  have hsn : s.b ∉ e :: (u ++ v).map Sh.b := by
    have hnd := h.ring.nodup
    rw [List.map_append, List.map_cons, ← List.cons_append] at hnd
    have := (List.nodup_cons.1 ((List.perm_middle.nodup_iff).1 hnd)).1
    rwa [List.map_append, ← List.cons_append]
  have HG := hide (hang_fam (s := s) _ _ (hf1.sub fun t ht => by
    rcases List.mem_cons.1 ht with rfl | ht
    · simp
    · rcases List.mem_append.1 ht with h | h <;> simp [h]) hr1 hsn (hf1 s hsm))
  have HM1 := hide hm1
  have HF1 := hide hf1
  have HR1 := hide hr1
  have HG3 := hide g3
  have HG2 := hide g2
  have HP1 := hide hp1
  clear h hf1 hr1 hm1 g1 g2 g3 hp1 hsm hsn
  go_wp2_with fail
  refine HG.out.mono ?_
  rintro ed w2 ⟨rfl, ⟨el', yo', hf2, hr2⟩, hm2⟩
  have h := HH.out
  have hpe := (mid_perm u v s)
  have hps : ∀ k, k ∈ e :: (u ++ v ++ [s]).map Sh.b ↔ k ∈ e :: (u ++ s :: v).map Sh.b := fun k => by
    rw [List.mem_cons, List.mem_cons, (hpe.map Sh.b).mem_iff]
  have hm2' : Mv (fun k => k ∈ e :: (u ++ s :: v).map Sh.b) w1 w2 := hm2.mono fun k hk => (hps k).1 hk
  have hmm := HM1.out.trans' hm2'
  obtain ⟨g1, g2, g3⟩ := h.moved hmm
  have HE : Hid (Hd w2 p d e m most (u ++ v ++ [s]) el' yo') := hide {
    blk := g1.trans h.blk
    fam := hf2
    ring := hr2
    pay := fun t ht => ⟨(h.pay t (hpe.mem_iff.1 ht)).1.of_block (g3 t (hpe.mem_iff.1 ht)), (h.pay t (hpe.mem_iff.1 ht)).2⟩
    rg := fun t ht => h.rg t (hpe.mem_iff.1 ht)
    nums := ((hpe.map Sh.n).nodup_iff).2 h.nums
    map := (h.map.kept g2).perm hpe
    few := by rw [hpe.length_eq]; exact h.few
    most := h.most }
  have HMM := hide (hmm.mono (O' := OwP p e m (u ++ s :: v)) fun k hk => ringO hk)
  clear h hf2 hr2 hm2 hpe hps hm2' hmm g1 g2 g3
  go_wp2
  go_end0
  exact ⟨rfl, ⟨_, _, HE.out⟩, HMM.out⟩

/-- what is at hand behind the coming in of a page. -/
def inn (most : Nat) (A : List Pge) (x : Pge) : List Pge := (if A.length = most then A.tail else A) ++ [x]
theorem buildS (n k : Nat) (a : Option Addr) (len c : Nat) (W : World) : (Instr.build 152 #[(1, .int .u32 (n : Int)), (2, .int .u8 (k : Int)), (3, .slice a len c)]).run Tryz.prog W = .ok (.agg #[.pointer none, .pointer none, .int .u32 (n : Int), .int .u8 (k : Int), .slice a len c]) W := run_build W 152 _ _ (by kernel_rfl)
theorem Mv.rowa {O : Nat → Prop} (h : Mv O w w') {a : Option Addr} {zs : List Int} (hr : Row w a zs) (ho : zs ≠ [] → ∀ ad, a = some ad → ¬ O ad.block) : Row w' a zs := by
  by_cases hz : zs = []
  · exact .inl hz
  · rcases hr with h0 | ⟨b, off, rfl, hlt, hc⟩
    · exact .inl h0
    · exact h.row (.inr ⟨b, off, rfl, hlt, hc⟩) (ho hz _ rfl)
theorem wo_head {s : Sh} {v : List Sh} (h : ((s :: v).map Sh.n).Nodup) : wo ((s :: v).map Sh.pg) s.n = v.map Sh.pg := (wo_mid (u := []) h).symm
set_option maxHeartbeats 3200000 in
set_option maxRecDepth 1000000 in
theorem take_any (n k : Nat) (a : Option Addr) (len c : Nat) (pl : List Int) (h : Hd w p d e m most L el yo) (hn : n < 4294967296) (hk : k < 256) (hnew : n ∉ L.map Sh.n) (hl : pl.length = len) (hna : a = none → len = 0 ∧ c = 0) (hr : Row w a pl) (h8 : Byts pl) (hlen : len ≤ 1008) (hap : pl ≠ [] → ∀ ad, a = some ad → ¬ OwP p e m L ad.block) :
    Calls Tryz.prog 79 #[.pointer (some ⟨p, 1, none⟩), .int .u32 (n : Int), .int .u8 (k : Int), .slice a len c] w fun ed w' => ed = .returned (.tuple #[]) ∧ ∃ L' el' yo', Hd w' p d e m most L' el' yo' ∧ L'.map Sh.pg = inn most (L.map Sh.pg) ⟨n, k, pl⟩ ∧ Go1 (OwP p e m L) w (OwP p e m L') w' := by
  have HH := hide h
  have c1 := h.c1
  have c2 := h.c2
  have c3 := h.c3
  have hlm : ∀ ty, (Builtin.len_ #[100] ty #[.map (some m)]).run Tryz.prog w.drew = .ok (.int .i64 (L.length : Int)) w.drew := fun ty => MapTo.len (w := w.drew) h.map ty
  have hfew := h.few
  have hmo := h.most
  have HAp := hide hap
  have HRw := hide hr
  have HNw := hide hnew
  have H8 := hide h8
  have HNa := hide hna
  have HLl := hide hl
  clear h hap hr hnew h8 hna hl
  obtain ⟨ll, HLL⟩ : ∃ ll, Hid (ll = L.length) := ⟨_, rfl⟩
  rw [← HLL.out] at hlm hfew
  by_cases hfull : ll = most
  · obtain ⟨s, v, rfl⟩ : ∃ s v, L = s :: v := by
      cases L with
      | nil => simp [Hid] at HLL; omega
      | cons s v => exact ⟨s, v, rfl⟩
    have hd1 : decide ((ll : Int) = (most : Int)) = true := by simp; omega
    have hye : yo e = s.b := HH.out.ring.first
    have ce : w.cell? ⟨e, 1, none⟩ = some (.pointer (some ⟨s.b, 0, none⟩)) := by rw [← hye]; exact (HH.out.fam.c (s := eS e) (by simp)).2.1
    have cs : w.cell? ⟨s.b, 2, none⟩ = some (.int .u32 (s.n : Int)) := (HH.out.fam.c (s := s) (by simp)).2.2.1
    have HD := hide (drop_any s.n (w := w.drew) (HH.out.below (Below.refl _ _).drew) (HH.out.rg s (by simp)).1)
    clear hye
    go_enter Tryz.func79, Tryz.ntmps79
    go_wp2
    go_region
    go_wp2_with fail
    refine HD.out.mono ?_
    rintro ed w1 ⟨rfl, L1, el1, yo1, hh1, hL1, hs1, hm1⟩
    rw [wo_head HH.out.nums] at hL1
    have HP1 : Hid (L1.map Sh.pg = (if ((s :: v).map Sh.pg).length = most then ((s :: v).map Sh.pg).tail else (s :: v).map Sh.pg)) := by
      rw [Hid, if_pos (by rw [List.length_map, ← HLL.out]; exact hfull), hL1]
      rfl
    have HL1 : Hid (L1.length < most) := by
      have h1 := congrArg List.length hL1
      have h2 := HLL.out
      simp only [List.length_map, List.length_cons] at h1 h2
      rw [Hid]
      omega
    have HM1 : Hid (Mv (OwP p e m (s :: v)) w w1) := hide ((Mv.of_below (Below.refl _ _).drew).trans' hm1)
    have HS1 := hide hs1
    have HH1 := hide hh1
    clear hL1 hs1 hm1 hh1 c1 c2 c3 ce cs
    have hr1 : Row w1 a pl := HM1.out.rowa HRw.out HAp.out
    have HCl := hide (clone_any a len c pl w1 HLl.out HNa.out hr1 (by omega))
    clear hr1
    go_wp2_with fail
    refine HCl.out.mono ?_
    rintro ed w2 ⟨cv, rfl, hown2, hnew2, hb2⟩
    obtain ⟨ca, cn, cc, rfl, -⟩ := hown2.shape2
    have hbd := buildS n k ca cn cc
    have hB3 := hb2.trans ((below_alloc w2 (.cells #[.pointer none, .pointer none, .int .u32 (n : Int), .int .u8 (k : Int), .slice ca cn cc] 152)).mono hb2.size)
    have hh3 := HH1.out.below hB3
    have c3 := hh3.c3
    have hsn : (⟨w2.heap.size, n, k, .slice ca cn cc, pl⟩ : Sh).b ∉ e :: (L1).map Sh.b := fun hx => by
      obtain ⟨t, ht, e1⟩ := HH1.out.mem hx
      have := lt_of_block (HH1.out.fam t ht)
      have h2 := hb2.size
      rw [e1] at this
      simp only at this
      omega
    have HG := hide (hang_fam (s := ⟨w2.heap.size, n, k, .slice ca cn cc, pl⟩) (.pointer none) (.pointer none) hh3.fam hh3.ring hsn (heap_alloc_new w2 _))
    have HH3 := hide hh3
    have HB3 := hide hB3
    have HO2 := hide hown2
    have HN2 := hide hnew2
    have HB2 := hide hb2
    have HSn := hide hsn
    clear hh3 hB3 hown2 hnew2 hb2 hsn
    go_wp2_with fail
    refine HG.out.mono ?_
    rintro ed w4 ⟨rfl, ⟨el', yo', hf4, hr4⟩, hm4⟩
    have hh3 := HH3.out
    have hm4' : Mv (fun k => k ∈ e :: (L1).map Sh.b ∨ k = w2.heap.size) (w2.alloc (.cells #[.pointer none, .pointer none, .int .u32 (n : Int), .int .u8 (k : Int), .slice ca cn cc] 152)) w4 := hm4.mono fun j hj => by
      rw [List.map_append] at hj
      simp only [List.mem_cons, List.mem_append, List.map_cons, List.map_nil, List.not_mem_nil, or_false] at hj ⊢
      rcases hj with h | h | h
      · exact .inl (.inl h)
      · exact .inl (.inr h)
      · exact .inr h
    have hbk : ∀ j, j < w2.heap.size → j ∉ e :: (L1).map Sh.b → w4.heap[j]? = w2.heap[j]? := fun j hj hn => by
      rw [hm4'.block j (by simp; omega) (fun hx => by rcases hx with h | h; exact hn h; omega)]
      exact Below.heap_alloc w2 _ j hj
    have hw12 := HB2.out.size
    have hp4 : w4.heap[p]? = some (.cells #[.pointer (some ⟨d, 0, none⟩), .int .i64 (most : Int), .map (some m), .pointer (some ⟨e, 0, none⟩)] 106 (0, 0)) := by
      have h1 := lt_of_block HH1.out.blk
      rw [hbk p (by omega) HH1.out.offp, HB2.out.block p h1]
      exact HH1.out.blk
    have hmp4 : MapTo w4 m L1 := HH1.out.map.kept (by
      have h1 := HH1.out.lt m (.inr (.inr (.inl rfl)))
      rw [hbk m (by omega) HH1.out.offm, HB2.out.block m h1])
    have hnn : n ∉ (L1).map Sh.n := fun hx => by
      obtain ⟨t, ht, e1⟩ := List.mem_map.1 hx
      exact HNw.out (e1 ▸ List.mem_map.2 ⟨t, HS1.out t ht, rfl⟩)
    obtain ⟨w5, hput, hmp5, hmv5⟩ := hmp4.put (s := ⟨w2.heap.size, n, k, .slice ca cn cc, pl⟩) hnn hn (few_of HH1.out.nums (fun s hs => (HH1.out.rg s hs).1) hnn hn)
    have hpm := hh3.pm
    have hmo2 : w2.heap.size ≠ m := fun hx => by have := HH1.out.lt m (.inr (.inr (.inl rfl))); omega
    have hblk : ∀ t ∈ eS e :: (L1 ++ [⟨w2.heap.size, n, k, .slice ca cn cc, pl⟩]), t.b ≠ m := fun t ht hx => by
      rcases List.mem_cons.1 ht with rfl | ht
      · exact HH1.out.offm (by rw [← hx]; exact List.mem_cons_self ..)
      · rcases List.mem_append.1 ht with ht | ht
        · exact HH1.out.offm (by rw [← hx]; exact List.mem_cons_of_mem _ (List.mem_map.2 ⟨t, ht, rfl⟩))
        · rw [List.mem_singleton.1 ht] at hx
          exact hmo2 hx
    have HE : Hid (Hd w5 p d e m most (L1 ++ [⟨w2.heap.size, n, k, .slice ca cn cc, pl⟩]) el' yo') := hide {
      blk := (hmv5.block p (lt_of_block hp4) hpm).trans hp4
      fam := fun t ht => (hmv5.block t.b (lt_of_block (hf4 t ht)) (hblk t ht)).trans (hf4 t ht)
      ring := hr4
      pay := fun t ht => by
        rcases List.mem_append.1 ht with ht | ht
        · refine ⟨(HH1.out.pay t ht).1.of_block fun j hj => ?_, (HH1.out.pay t ht).2⟩
          have h1 := (HH1.out.pay t ht).1.lt hj
          have h4 := hbk j (by omega) (HH1.out.offv ht hj)
          rw [hmv5.block j (by have := hm4'.size; simp at this; omega) (HH1.out.vm ht hj), h4, HB2.out.block j h1]
        · rw [List.mem_singleton.1 ht]
          refine ⟨HO2.out.of_block fun j hj => ?_, by show pl.length ≤ 1008; rw [HLl.out]; exact hlen, H8.out⟩
          have h1 := HO2.out.lt hj
          have h2 := HN2.out j hj
          have h3 : j ∉ e :: (L1).map Sh.b := fun hx => by
            obtain ⟨t, ht, e1⟩ := HH1.out.mem hx
            have := lt_of_block (HH1.out.fam t ht)
            omega
          have h5 := HH1.out.lt m (.inr (.inr (.inl rfl)))
          rw [hmv5.block j (by have := hm4'.size; simp at this; omega) (by omega), hbk j h1 h3]
      rg := fun t ht => by
        rcases List.mem_append.1 ht with ht | ht
        · exact HH1.out.rg t ht
        · rw [List.mem_singleton.1 ht]; exact ⟨hn, hk⟩
      nums := by
        rw [List.map_append]
        exact (List.nodup_append).2 ⟨HH1.out.nums, by simp, fun x hx y hy => by simp at hy; subst hy; exact fun h => hnn (h ▸ hx)⟩
      map := hmp5
      few := by have := HL1.out; simp; omega
      most := HH1.out.most }
    have HGo : Hid (Go1 (OwP p e m (s :: v)) w (OwP p e m (L1 ++ [⟨w2.heap.size, n, k, .slice ca cn cc, pl⟩])) w5) := hide ⟨⟨(hmv5.os.trans hm4'.os).trans (HB2.out.os.trans HM1.out.os), (hmv5.tape.trans hm4'.tape).trans (HB2.out.tape.trans HM1.out.tape), (hmv5.output.trans hm4'.output).trans (HB2.out.output.trans HM1.out.output), by have h1 := HM1.out.size; have h2 := hm4'.size; have h3 := hmv5.size; simp at h2; omega, fun j hj ho => by
        have h1 := HM1.out.size
        have h2 := hm4'.size
        simp at h2
        have h3 : j ∉ e :: (L1).map Sh.b := fun hx => ho (by
          rcases List.mem_cons.1 hx with rfl | hx
          · exact .inr (.inl rfl)
          · obtain ⟨t, ht, rfl⟩ := List.mem_map.1 hx
            exact .inr (.inr (.inr ⟨t, HS1.out t ht, .inl rfl⟩)))
        have h4 : j ≠ m := fun hx => ho (.inr (.inr (.inl hx)))
        rw [hmv5.block j (by omega) h4, hbk j (by omega) h3, HB2.out.block j (by omega)]
        exact HM1.out.block j hj ho⟩, fun j hj => by
        have h1 := HM1.out.size
        rcases hj with h | h | h | ⟨t, ht, h⟩
        · exact .inl (.inl h)
        · exact .inl (.inr (.inl h))
        · exact .inl (.inr (.inr (.inl h)))
        · rcases List.mem_append.1 ht with ht | ht
          · exact .inl (.inr (.inr (.inr ⟨t, HS1.out t ht, h⟩)))
          · rw [List.mem_singleton.1 ht] at h
            rcases h with h | h
            · right; simp only at h; omega
            · right
              have := HN2.out j h
              omega⟩
    have HPg : Hid ((L1 ++ [(⟨w2.heap.size, n, k, .slice ca cn cc, pl⟩ : Sh)]).map Sh.pg = inn most ((s :: v).map Sh.pg) ⟨n, k, pl⟩) := by
      rw [Hid, inn, List.map_append, ← HP1.out]
      rfl
    have c2 : w4.cell? ⟨p, 2, none⟩ = some (.map (some m)) := by simp [World.cell?, hp4]
    clear hh3 hm4' hbk hw12 hp4 hmp4 hnn hmp5 hmv5 hpm hmo2 hblk hf4 hr4 hm4 c3
    go_wp2
    go_end0
    exact ⟨rfl, _, _, _, HE.out, HPg.out, HGo.out⟩
  · have hd1 : decide ((ll : Int) = (most : Int)) = false := by simp; omega
    go_enter Tryz.func79, Tryz.ntmps79
    go_wp2
    go_region
    obtain ⟨w1, hw1⟩ : ∃ W, W = w.drew := ⟨_, rfl⟩
    have HP1 : Hid (L.map Sh.pg = (if (L.map Sh.pg).length = most then (L.map Sh.pg).tail else L.map Sh.pg)) := by
      rw [Hid, if_neg (by rw [List.length_map, ← HLL.out]; exact hfull)]
    have HL1 : Hid (L.length < most) := by rw [Hid, ← HLL.out]; omega
    have HM1 : Hid (Mv (OwP p e m L) w w1) := by rw [hw1]; exact Mv.of_below (Below.refl _ _).drew
    have HS1 : Hid (∀ s ∈ L, s ∈ L) := fun s hs => hs
    have HH1 : Hid (Hd w1 p d e m most L el yo) := by rw [hw1]; exact HH.out.below (Below.refl _ _).drew
    rw [← hw1]
    clear hw1 hlm c1 c2 c3
    have hr1 : Row w1 a pl := HM1.out.rowa HRw.out HAp.out
    have HCl := hide (clone_any a len c pl w1 HLl.out HNa.out hr1 (by omega))
    clear hr1
    go_wp2_with fail
    refine HCl.out.mono ?_
    rintro ed w2 ⟨cv, rfl, hown2, hnew2, hb2⟩
    obtain ⟨ca, cn, cc, rfl, -⟩ := hown2.shape2
    have hbd := buildS n k ca cn cc
    have hB3 := hb2.trans ((below_alloc w2 (.cells #[.pointer none, .pointer none, .int .u32 (n : Int), .int .u8 (k : Int), .slice ca cn cc] 152)).mono hb2.size)
    have hh3 := HH1.out.below hB3
    have c3 := hh3.c3
    have hsn : (⟨w2.heap.size, n, k, .slice ca cn cc, pl⟩ : Sh).b ∉ e :: L.map Sh.b := fun hx => by
      obtain ⟨t, ht, e1⟩ := HH1.out.mem hx
      have := lt_of_block (HH1.out.fam t ht)
      have h2 := hb2.size
      rw [e1] at this
      simp only at this
      omega
    have HG := hide (hang_fam (s := ⟨w2.heap.size, n, k, .slice ca cn cc, pl⟩) (.pointer none) (.pointer none) hh3.fam hh3.ring hsn (heap_alloc_new w2 _))
    have HH3 := hide hh3
    have HB3 := hide hB3
    have HO2 := hide hown2
    have HN2 := hide hnew2
    have HB2 := hide hb2
    have HSn := hide hsn
    clear hh3 hB3 hown2 hnew2 hb2 hsn
    go_wp2_with fail
    refine HG.out.mono ?_
    rintro ed w4 ⟨rfl, ⟨el', yo', hf4, hr4⟩, hm4⟩
    have hh3 := HH3.out
    have hm4' : Mv (fun k => k ∈ e :: L.map Sh.b ∨ k = w2.heap.size) (w2.alloc (.cells #[.pointer none, .pointer none, .int .u32 (n : Int), .int .u8 (k : Int), .slice ca cn cc] 152)) w4 := hm4.mono fun j hj => by
      rw [List.map_append] at hj
      simp only [List.mem_cons, List.mem_append, List.map_cons, List.map_nil, List.not_mem_nil, or_false] at hj ⊢
      rcases hj with h | h | h
      · exact .inl (.inl h)
      · exact .inl (.inr h)
      · exact .inr h
    have hbk : ∀ j, j < w2.heap.size → j ∉ e :: L.map Sh.b → w4.heap[j]? = w2.heap[j]? := fun j hj hn => by
      rw [hm4'.block j (by simp; omega) (fun hx => by rcases hx with h | h; exact hn h; omega)]
      exact Below.heap_alloc w2 _ j hj
    have hw12 := HB2.out.size
    have hp4 : w4.heap[p]? = some (.cells #[.pointer (some ⟨d, 0, none⟩), .int .i64 (most : Int), .map (some m), .pointer (some ⟨e, 0, none⟩)] 106 (0, 0)) := by
      have h1 := lt_of_block HH1.out.blk
      rw [hbk p (by omega) HH1.out.offp, HB2.out.block p h1]
      exact HH1.out.blk
    have hmp4 : MapTo w4 m L := HH1.out.map.kept (by
      have h1 := HH1.out.lt m (.inr (.inr (.inl rfl)))
      rw [hbk m (by omega) HH1.out.offm, HB2.out.block m h1])
    have hnn : n ∉ L.map Sh.n := fun hx => by
      obtain ⟨t, ht, e1⟩ := List.mem_map.1 hx
      exact HNw.out (e1 ▸ List.mem_map.2 ⟨t, HS1.out t ht, rfl⟩)
    obtain ⟨w5, hput, hmp5, hmv5⟩ := hmp4.put (s := ⟨w2.heap.size, n, k, .slice ca cn cc, pl⟩) hnn hn (few_of HH1.out.nums (fun s hs => (HH1.out.rg s hs).1) hnn hn)
    have hpm := hh3.pm
    have hmo2 : w2.heap.size ≠ m := fun hx => by have := HH1.out.lt m (.inr (.inr (.inl rfl))); omega
    have hblk : ∀ t ∈ eS e :: (L ++ [⟨w2.heap.size, n, k, .slice ca cn cc, pl⟩]), t.b ≠ m := fun t ht hx => by
      rcases List.mem_cons.1 ht with rfl | ht
      · exact HH1.out.offm (by rw [← hx]; exact List.mem_cons_self ..)
      · rcases List.mem_append.1 ht with ht | ht
        · exact HH1.out.offm (by rw [← hx]; exact List.mem_cons_of_mem _ (List.mem_map.2 ⟨t, ht, rfl⟩))
        · rw [List.mem_singleton.1 ht] at hx
          exact hmo2 hx
    have HE : Hid (Hd w5 p d e m most (L ++ [⟨w2.heap.size, n, k, .slice ca cn cc, pl⟩]) el' yo') := hide {
      blk := (hmv5.block p (lt_of_block hp4) hpm).trans hp4
      fam := fun t ht => (hmv5.block t.b (lt_of_block (hf4 t ht)) (hblk t ht)).trans (hf4 t ht)
      ring := hr4
      pay := fun t ht => by
        rcases List.mem_append.1 ht with ht | ht
        · refine ⟨(HH1.out.pay t ht).1.of_block fun j hj => ?_, (HH1.out.pay t ht).2⟩
          have h1 := (HH1.out.pay t ht).1.lt hj
          have h4 := hbk j (by omega) (HH1.out.offv ht hj)
          rw [hmv5.block j (by have := hm4'.size; simp at this; omega) (HH1.out.vm ht hj), h4, HB2.out.block j h1]
        · rw [List.mem_singleton.1 ht]
          refine ⟨HO2.out.of_block fun j hj => ?_, by show pl.length ≤ 1008; rw [HLl.out]; exact hlen, H8.out⟩
          have h1 := HO2.out.lt hj
          have h2 := HN2.out j hj
          have h3 : j ∉ e :: L.map Sh.b := fun hx => by
            obtain ⟨t, ht, e1⟩ := HH1.out.mem hx
            have := lt_of_block (HH1.out.fam t ht)
            omega
          have h5 := HH1.out.lt m (.inr (.inr (.inl rfl)))
          rw [hmv5.block j (by have := hm4'.size; simp at this; omega) (by omega), hbk j h1 h3]
      rg := fun t ht => by
        rcases List.mem_append.1 ht with ht | ht
        · exact HH1.out.rg t ht
        · rw [List.mem_singleton.1 ht]; exact ⟨hn, hk⟩
      nums := by
        rw [List.map_append]
        exact (List.nodup_append).2 ⟨HH1.out.nums, by simp, fun x hx y hy => by simp at hy; subst hy; exact fun h => hnn (h ▸ hx)⟩
      map := hmp5
      few := by have := HL1.out; simp; omega
      most := HH1.out.most }
    have HGo : Hid (Go1 (OwP p e m L) w (OwP p e m (L ++ [⟨w2.heap.size, n, k, .slice ca cn cc, pl⟩])) w5) := hide ⟨⟨(hmv5.os.trans hm4'.os).trans (HB2.out.os.trans HM1.out.os), (hmv5.tape.trans hm4'.tape).trans (HB2.out.tape.trans HM1.out.tape), (hmv5.output.trans hm4'.output).trans (HB2.out.output.trans HM1.out.output), by have h1 := HM1.out.size; have h2 := hm4'.size; have h3 := hmv5.size; simp at h2; omega, fun j hj ho => by
        have h1 := HM1.out.size
        have h2 := hm4'.size
        simp at h2
        have h3 : j ∉ e :: L.map Sh.b := fun hx => ho (by
          rcases List.mem_cons.1 hx with rfl | hx
          · exact .inr (.inl rfl)
          · obtain ⟨t, ht, rfl⟩ := List.mem_map.1 hx
            exact .inr (.inr (.inr ⟨t, HS1.out t ht, .inl rfl⟩)))
        have h4 : j ≠ m := fun hx => ho (.inr (.inr (.inl hx)))
        rw [hmv5.block j (by omega) h4, hbk j (by omega) h3, HB2.out.block j (by omega)]
        exact HM1.out.block j hj ho⟩, fun j hj => by
        have h1 := HM1.out.size
        rcases hj with h | h | h | ⟨t, ht, h⟩
        · exact .inl (.inl h)
        · exact .inl (.inr (.inl h))
        · exact .inl (.inr (.inr (.inl h)))
        · rcases List.mem_append.1 ht with ht | ht
          · exact .inl (.inr (.inr (.inr ⟨t, HS1.out t ht, h⟩)))
          · rw [List.mem_singleton.1 ht] at h
            rcases h with h | h
            · right; simp only at h; omega
            · right
              have := HN2.out j h
              omega⟩
    have HPg : Hid ((L ++ [(⟨w2.heap.size, n, k, .slice ca cn cc, pl⟩ : Sh)]).map Sh.pg = inn most (L.map Sh.pg) ⟨n, k, pl⟩) := by
      rw [Hid, inn, List.map_append, ← HP1.out]
      rfl
    have c2 : w4.cell? ⟨p, 2, none⟩ = some (.map (some m)) := by simp [World.cell?, hp4]
    clear hh3 hm4' hbk hw12 hp4 hmp4 hnn hmp5 hmv5 hpm hmo2 hblk hf4 hr4 hm4 c3
    go_wp2
    go_end0
    exact ⟨rfl, _, _, _, HE.out, HPg.out, HGo.out⟩
end Go.Proofs.YtlmofgfkclfgeaaGreat
