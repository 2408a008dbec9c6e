/- Sync and Cut. -/
import Derived.Test.YtobokocpapfjbaaGreatDL
import Derived.Deep.RegionHeld3
namespace Go.Proofs.YtobokocpapfjbaaGreat
open Go.RowKit Go.Maps
set_option linter.unusedVariables false

set_option maxHeartbeats 800000 in
set_option maxRecDepth 1000000 in
theorem sync1_any (p q : Nat) (vw : Value) (m : Option Nat) (S : DS) (k0 : Nat) (w : World) (h : Dk w p q vw m S) (c0 : w.cell? ⟨k0, 0, none⟩ = some (.pointer (some ⟨p, 0, none⟩))) :
    Calls Tryz.prog 103 #[.pointer (some ⟨k0, 0, none⟩)] w fun e w' => e = .returned (.int .u16 0) ∧ Dk w' p q (.slice none 0 0) none (S.set yes) ∧ Mv (Ow p q vw m) w w' := by
  have HS := hide (settle_all p q vw m S w h)
  clear h
  go_enter Tryz.func103, Tryz.ntmps103
  go_wp2_with fail
  refine HS.out.mono ?_
  rintro e w1 ⟨rfl, hh⟩
  have HH := hide hh
  clear hh
  go_wp2
  go_ret
  exact ⟨rfl, HH.out⟩

/-- a disk behind a sync. -/
def DS.sy (S : DS) : DS := if S.er S.s3 S.l3 = 0 then S.op3.set yes else S.be S.op3
theorem Go1.ofO {O O' : Nat → Prop} {P P' : Nat → Prop} {w w' : World} (h : Go1 P w P' w') (hO : ∀ k, O k ↔ P k) (hO' : ∀ k, O' k ↔ P' k) : Go1 O w O' w' :=
  ⟨⟨h.mv.os, h.mv.tape, h.mv.output, h.mv.size, fun k hk hn => h.mv.block k hk (fun e => hn ((hO k).2 e))⟩, fun k hk => (h.own k ((hO' k).1 hk)).imp (hO k).2 id⟩
theorem Ow_less (p q : Nat) (vw : Value) (m : Option Nat) (k : Nat) (h : Ow p q (.slice none 0 0) none k) : Ow p q vw m k := by
  rcases h with h | h | h | h
  · exact .inl h
  · exact .inr (.inl h)
  · simp [Value.ownBlock] at h
  · cases h

set_option maxHeartbeats 800000 in
set_option maxRecDepth 1000000 in
theorem sync_any (p q : Nat) (O : Nat → Prop) (S : DS) (w : World) (h : DkAt w p q S O) (hn : S.n3 + 1 ≤ 1000000) :
    Calls Tryz.prog 58 #[.pointer (some ⟨p, 0, none⟩)] w fun e w' => e = .returned (.int .u16 (S.er S.s3 S.l3 : Int)) ∧ ∃ O', DkAt w' p q S.sy O' ∧ Go1 O w O' w' := by
  obtain ⟨vw, m, hd, ho⟩ := h
  have hlt : ∀ k, Ow p q vw m k → k < w.heap.size := hd.lt
  have nO : ¬ Ow p q vw m w.heap.size := fun h => by have := hlt _ h; omega
  have hb := below_alloc w (.cells #[.pointer (some ⟨p, 0, none⟩)] 26)
  have c0 := cell_new w (.pointer (some ⟨p, 0, none⟩)) 26
  have HOp := hide (operate3 p q vw m S (w.alloc (.cells #[.pointer (some ⟨p, 0, none⟩)] 26)) (.pointer (some ⟨w.heap.size, 0, none⟩))
    (fun x w' => x = (S.er S.s3 S.l3 : Int) ∧ ∃ O', DkAt w' p q S.sy O' ∧ Go1 O w O' w') (hd.below hb) hn
    (fun he W hdW hm hs => by
      have hg0 : Go1 (Ow p q vw m) w (Ow p q vw m) W := (Go1.of_below hb).trans (Go1.of_mv hm (.inl rfl))
      have hm' : Mv (Ow p q vw m) (w.alloc (.cells #[.pointer (some ⟨p, 0, none⟩)] 26)) W := (Go1.of_mv hm (.inl rfl)).mv
      refine (sync1_any p q vw m S.op3 w.heap.size W hdW (hm'.cell c0 nO)).mono ?_
      rintro e w' ⟨rfl, hd', hg'⟩
      refine ⟨0, rfl, by rw [he]; rfl, Ow p q (.slice none 0 0) none, ⟨_, _, by rw [DS.sy, if_pos he]; exact hd', fun _ => Iff.rfl⟩, ?_⟩
      exact Go1.ofO (hg0.trans ⟨hg', fun k hk => .inl (Ow_less p q vw m k hk)⟩) ho (fun _ => Iff.rfl))
    (fun he W hdW hm hs => by
      have hg0 : Go1 (Ow p q vw m) w (Ow p q vw m) W := (Go1.of_below hb).trans (Go1.of_mv hm (.inl rfl))
      exact ⟨rfl, Ow p q vw m, ⟨vw, m, by rw [DS.sy, if_neg he]; exact hdW, fun _ => Iff.rfl⟩, Go1.ofO hg0 ho (fun _ => Iff.rfl)⟩))
  clear hd ho hlt nO hb
  have hmf' := hmf
  go_enter Tryz.func58, Tryz.ntmps58
  go_wp2_with fail
  refine HOp.out.mono ?_
  rintro e w' ⟨x, rfl, rfl, hh⟩
  have HH := hide hh
  clear hh
  go_wp2
  go_ret
  exact ⟨rfl, HH.out⟩

/-- cells of a block, one after the other. -/
def sets (w : World) (p : Nat) : List (Nat × Value) → World
  | [] => w
  | x :: r => sets (w.setCell ⟨p, x.1, none⟩ x.2) p r
theorem sets_blk (p : Nat) (t : TypeId) : ∀ (l : List (Nat × Value)) (w : World) (C : Array Value), w.heap[p]? = some (.cells C t (0, 0)) → (sets w p l).heap[p]? = some (.cells (l.foldl (fun C x => C.setIfInBounds x.1 x.2) C) t (0, 0))
  | [], w, C, h => h
  | x :: r, w, C, h => sets_blk p t r _ _ (heap_setCell_same w p x.1 _ t _ h)
theorem sets_other (p k : Nat) (hk : k ≠ p) : ∀ (l : List (Nat × Value)) (w : World), (sets w p l).heap[k]? = w.heap[k]?
  | [], w => rfl
  | x :: r, w => (sets_other p k hk r _).trans (set_other w p x.1 x.2 k hk)
theorem sets_mv (p : Nat) : ∀ (l : List (Nat × Value)) (w : World), Mv (· = p) w (sets w p l)
  | [], w => Mv.refl _ _
  | x :: r, w => (mv_set w p x.1 x.2).trans' (sets_mv p r _)
/-- a disk behind a cut. -/
def DS.cut (S : DS) (bs : List Bool) : DS := { S.set (kp bs) with dk := false, ts := false, tl := 0, s1 := false, l1 := 0, s2 := false, l2 := 0, s3 := false, l3 := 0 }
theorem Cd0 : Cd false 0 := ⟨Int.le_refl _, by decide⟩
theorem DS.Good.cut {S : DS} (h : S.Good) (bs : List Bool) : (S.cut bs).Good :=
  ⟨(h.set (kp bs)).ls, (h.set (kp bs)).ws, (h.set (kp bs)).most, (h.set (kp bs)).few, Cd0, Cd0, Cd0, Cd0, h.n1, h.n2, h.n3⟩
set_option maxHeartbeats 1600000 in
set_option maxRecDepth 1000000 in
theorem cut_any (p q : Nat) (O : Nat → Prop) (S : DS) (ka : Option Addr) (kc : Nat) (bs : List Bool) (w : World) (h : DkAt w p q S O) (hbr : BRow w ka bs) (hka : bs ≠ [] → ∀ ad, ka = some ad → ¬ O ad.block) (hkl : bs ≠ [] → ∀ ad, ka = some ad → ad.block < w.heap.size) (hbl : bs.length ≤ 9223372036854775807) :
    Calls Tryz.prog 27 #[.pointer (some ⟨p, 0, none⟩), .slice ka bs.length kc] w fun e w' => e = .returned (.tuple #[]) ∧ ∃ O', DkAt w' p q (S.cut bs) O' ∧ Go1 O w O' w' := by
  obtain ⟨vw, m, hd, ho⟩ := h
  have hlt : ∀ k, Ow p q vw m k → k < w.heap.size := hd.lt
  have nO : ¬ Ow p q vw m w.heap.size := fun h => by have := hlt _ h; omega
  have hb := below_alloc w (.cells #[.slice ka bs.length kc] 68)
  have c0 := cell_new w (.slice ka bs.length kc) 68
  have HS := hide (settle_some p q vw m S w.heap.size ka kc bs (w.alloc (.cells #[.slice ka bs.length kc] 68)) (hd.below hb) c0 nO (hbr.below hb hkl) (fun h0 ad e h => hka h0 ad e ((ho _).2 h)) hbl)
  have HGd := hide hd.good
  have HO := hide ho
  have HB := hide hb
  clear hd ho hlt nO hb c0 hbr hka hkl
  have hmf' := hmf
  have hbd96 : ∀ W, (Instr.build 104 #[]).run Tryz.prog W = .ok (.agg #[.bool false, .int .i64 0]) W := fun W => run_build W 104 #[] _ (by kernel_rfl)
  have hbd97 : ∀ W, (Instr.build 105 #[]).run Tryz.prog W = .ok (.agg #[.bool false, .int .i64 0, .bool false, .int .i64 0, .bool false, .int .i64 0, .bool false, .int .i64 0]) W := fun W => run_build W 105 #[] _ (by kernel_rfl)
  have HFi : Hid (∀ w1, Dk w1 p q (.slice none 0 0) none (S.set (kp bs)) → Mv (Ow p q vw m) (w.alloc (.cells #[.slice ka bs.length kc] 68)) w1 → ∃ O', DkAt (sets w1 p [(3, .bool false), (4, .bool false), (5, .int .i64 0), (6, .bool false), (7, .int .i64 0), (8, .bool false), (9, .int .i64 0), (10, .bool false), (11, .int .i64 0), (12, .bool false), (13, .int .i64 0)]) p q (S.cut bs) O' ∧ Go1 O w O' (sets w1 p [(3, .bool false), (4, .bool false), (5, .int .i64 0), (6, .bool false), (7, .int .i64 0), (8, .bool false), (9, .int .i64 0), (10, .bool false), (11, .int .i64 0), (12, .bool false), (13, .int .i64 0)])) := fun w1 hd1 hm1 => by
    refine ⟨Ow p q (.slice none 0 0) none, ⟨_, _, hd1.fields (S' := S.cut bs) rfl rfl (HGd.out.cut bs) ?_ (fun k hk => sets_other p k hk _ w1), fun _ => Iff.rfl⟩, ?_⟩
    · rw [sets_blk p 108 _ w1 _ hd1.blk]
      simp only [List.foldl_cons, List.foldl_nil, cells, List.setIfInBounds_toArray, List.set_cons_succ, List.set_cons_zero, DS.cut]
    · exact Go1.ofO (((Go1.of_below HB.out).trans ⟨hm1, fun k hk => .inl (Ow_less p q vw m k hk)⟩).trans (Go1.of_mv (O := Ow p q (.slice none 0 0) none) (sets_mv p _ w1) (.inl rfl))) HO.out (fun _ => Iff.rfl)
  go_enter Tryz.func27, Tryz.ntmps27
  go_wp2_with fail
  refine HS.out.mono ?_
  rintro e w1 ⟨rfl, hd1, hm1⟩
  have HD1 := hide hd1
  have HM1 := hide hm1
  have c3 := hd1.c 3 _ rfl
  have c4 := hd1.c 4 _ rfl
  have c5 := hd1.c 5 _ rfl
  have c6 := hd1.c 6 _ rfl
  have c7 := hd1.c 7 _ rfl
  have c8 := hd1.c 8 _ rfl
  have c9 := hd1.c 9 _ rfl
  have c10 := hd1.c 10 _ rfl
  have c11 := hd1.c 11 _ rfl
  have c12 := hd1.c 12 _ rfl
  have c13 := hd1.c 13 _ rfl
  have f3 := hd1.f 3
  have f4 := hd1.f 4
  have f5 := hd1.f 5
  have f6 := hd1.f 6
  have f7 := hd1.f 7
  have f8 := hd1.f 8
  have f9 := hd1.f 9
  have f10 := hd1.f 10
  have f11 := hd1.f 11
  have f12 := hd1.f 12
  have f13 := hd1.f 13
  clear hd1 hm1
  go_wp2
  go_end0
  exact ⟨rfl, HFi.out w1 HD1.out HM1.out⟩
end Go.Proofs.YtobokocpapfjbaaGreat
/- The bytes that were written last. -/
namespace Go.Proofs.YtobokocpapfjbaaGreat
open Go.RowKit Go.Maps
set_option linter.unusedVariables false

/-- a lasting sector. -/
theorem Dk.las_at {w : World} {p q : Nat} {vw : Value} {m : Option Nat} {S : DS} (h : Dk w p q vw m S) (n : Nat) (hn : n < S.ls.length) : w.rangeAt q (n * 128) (sv (S.ls.getD n [])) := by
  intro j v hv
  rw [cell_of_row w q _ _ 114 (0, 0) h.las]
  have := flatten_at (n := 128) (S.ls.map sv) (by intro s hs; simp only [List.mem_map] at hs; obtain ⟨y, hy, rfl⟩ := hs; rw [sv_len]; exact (h.good.ls y hy).1) n (sv (S.ls.getD n [])) (by simp [hn]) j v hv
  simpa [flat] using this
theorem getD_mem {α : Type} (L : List α) (n : Nat) (d : α) (h : n < L.length) : L.getD n d ∈ L := by
  rw [List.getD_eq_getElem?_getD, List.getElem?_eq_getElem h]; exact List.getElem_mem _
theorem newest_good {S : DS} (h : S.Good) (n : Nat) (hn : n < S.ls.length) : (newest S n).length = 128 ∧ Byts (newest S n) := by
  unfold newest
  cases hl : lastAt S.ws n with
  | none => exact h.ls _ (getD_mem _ _ _ hn)
  | some i => exact (h.ws _ (getD_mem _ _ _ (lastAt_some hl).1)).2
theorem zero3 : ∀ w, (zeroValue 3).run Tryz.prog w = .ok (.int .i64 0) w := (zero_of_info (P := Tryz.prog) (t := 3) (v := .int .i64 0) (n := 1) (by kernel_rfl)).1
/-- what the map answers. -/
theorem asked (m : Option Nat) (W : World) (ws : List (Nat × List Int)) (n : Nat) (hn : n ≤ 1000000) (h : MapAt W m ws) :
    ∃ c : Int, (Instr.lookup 100 (.map m) (.int .i64 (n : Int)) true).run Tryz.prog W = .ok (.tuple #[.int .i64 c, .bool (lastAt ws n).isSome]) W ∧ ∀ i, lastAt ws n = some i → c = (i : Int) := by
  have hkey : keyOf Tryz.prog 3 (.int .i64 (n : Int)) = some (.int .i64 (n : Int)) := keyOf_int_mk Tryz.underlying3 (WalkArith.wf_i64 (by omega))
  cases m with
  | none =>
    have e : ws = [] := h
    subst e
    refine ⟨0, ?_, fun i hi => by simp [lastAt] at hi⟩
    rw [Maps.look_nil true law3 Tryz.underlying100 (zero3 W) hkey]
    rfl
  | some b =>
    obtain ⟨N, D, hN, hown, ht⟩ := h
    obtain ⟨v, ps, hrun, hv⟩ := hown.look_ok law3 Tryz.underlying100 (zero3 W) (plainElem_int (H := Unit) Tryz.underlying3 (by decide)) hkey
    obtain ⟨c, rfl, hc, _⟩ := plainElem_int_inv Tryz.underlying3 hv
    refine ⟨c, by rw [hrun, (ht n).1], fun i hi => ?_⟩
    have h1 := (ht n).2 i hi
    have h2 : D.atKey (.int .i64 (n : Int)) (.lit (.int .i64 0)) = .lit (.int .i64 c) := congrArg Prod.fst hc
    have h3 : (DataW.lit (.int .i64 (i : Int)) : DataW Unit) = .lit (.int .i64 c) := h1.symm.trans h2
    cases h3
    rfl

set_option maxHeartbeats 1600000 in
set_option maxRecDepth 1000000 in
theorem newest_none (p q : Nat) (vw : Value) (m : Option Nat) (S : DS) (n : Nat) (w : World) (h : Dk w p q vw m S) (hn : n < S.ls.length) (hl : lastAt S.ws n = none) :
    Calls Tryz.prog 89 #[.pointer (some ⟨p, 0, none⟩), .int .i64 (n : Int)] w fun e w' => e = .returned (.agg (sv (newest S n)).toArray) ∧ Below w.heap.size w w' := by
  have hd0 := h.below (below_alloc w (.cells z110 114))
  have hgd := newest_good h.good n hn
  have hmost := h.good.most
  have hfew := h.good.few
  obtain ⟨c, hlk, hci⟩ := asked m (w.alloc (.cells z110 114)) S.ws n (by omega) hd0.map
  rw [hl] at hlk
  simp only [Option.isSome_none] at hlk
  clear hci
  have c0 := hd0.c 0 (.slice (some ⟨q, 0, none⟩) S.ls.length S.ls.length) rfl
  have HR : Hid ((w.alloc (.cells z110 114)).rangeAt q (n * 128) (sv (newest S n))) := by
    have := hd0.las_at n hn
    unfold newest
    rw [hl]
    exact this
  have hnb : decide (n < S.ls.length) = true := by simp [hn]
  have hL : (sv (newest S n)).length = 128 := by rw [sv_len]; exact hgd.1
  have h1 := all_oneCell_toArray (sv_one (newest S n))
  generalize sv (newest S n) = cs at *
  have hz := zero110
  have HI : Hid ((Tryz.prog.info? 114).map (·.size) = some cs.length) := by rw [hL]; exact size110
  have HI2 : Hid ((Tryz.prog.info? 114).map (·.size) = some cs.toArray.size) := by rw [List.size_toArray, hL]; exact size110
  have HT : Hid ((w.alloc (.cells z110 114)).heap[w.heap.size]? = some (.cells z110 114 (0, 0))) := heap_alloc_new w _
  have HZ : Hid (z110.size = cs.toArray.size) := by simp only [Hid, List.size_toArray, hL]; rfl
  have H1 := hide h1
  have HN := hide (heap_alloc_new w (.cells cs.toArray 114))
  have HB := hide (below_alloc w (.cells cs.toArray 114))
  have c2 := hd0.c 2 (.map m) rfl
  clear h hd0 hgd h1 hL
  go_enter Tryz.func89, Tryz.ntmps89
  go_wp2_with (first | (refine wpList_load_mid (by rfl) 114 (.tmp 32) (by rfl) q (n * 128) (by rfl) cs _ HR.out Tryz.underlying114 rfl HI.out ?_) | (refine wpList_store_row (by rfl) 114 (.tmp 4) (.tmp 33) (by rfl) w.heap.size cs.toArray (by rfl) (by rfl) 114 z110 HT.out HI2.out HZ.out H1.out ?_; rw [World.setRow_alloc_new]))
  refine bodyPost_ret (v := .agg cs.toArray) ?_ rfl ?_
  · exact results_cell_row (p := 4) (ty := 114) rfl _ _ w.heap.size 114 _ (0, 0) _ rfl HN.out Tryz.underlying114 rfl HI2.out
  · exact ⟨rfl, HB.out⟩
set_option maxHeartbeats 1600000 in
set_option maxRecDepth 1000000 in
theorem newest_some (p q : Nat) (vw : Value) (m : Option Nat) (S : DS) (n : Nat) (w : World) (h : Dk w p q vw m S) (hn : n < S.ls.length) (i : Nat) (hl : lastAt S.ws n = some i) :
    Calls Tryz.prog 89 #[.pointer (some ⟨p, 0, none⟩), .int .i64 (n : Int)] w fun e w' => e = .returned (.agg (sv (newest S n)).toArray) ∧ Below w.heap.size w w' := by
  have hd0 := h.below (below_alloc w (.cells z110 114))
  have hgd := newest_good h.good n hn
  have hmost := h.good.most
  have hfew := h.good.few
  obtain ⟨c, hlk, hci⟩ := asked m (w.alloc (.cells z110 114)) S.ws n (by omega) hd0.map
  rw [hl] at hlk
  simp only [Option.isSome_some] at hlk
  have hc := hci i hl
  subst hc
  clear hci
  obtain ⟨hi, x, hx, hxn⟩ := lastAt_some hl
  obtain ⟨g, cap, rfl, hle⟩ : ∃ g cap, vw = .slice (some ⟨g, 0, none⟩) S.ws.length cap ∧ S.ws.length ≤ cap := by
    rcases h.wri.2 with ⟨e, e2⟩ | ⟨g, cap, cur, e, _, _, hle, _⟩
    · omega
    · exact ⟨g, cap, e, hle⟩
  have c1 := hd0.c 1 (.slice (some ⟨g, 0, none⟩) S.ws.length cap) rfl
  have HR : Hid ((w.alloc (.cells z110 114)).rangeAt g (i * 129 + 1) (sv (newest S n))) := by
    have hr := Dk.wr_at hd0 i x hx
    have e : newest S n = x.2 := by unfold newest; rw [hl]; simp [hx]
    rw [e]
    intro j v hv
    have := hr (j + 1) v (by simpa [wv] using hv)
    rw [← this]
    congr 2
    omega
  have hnb : decide (i < S.ws.length) = true := by simp [hi]
  clear hx hxn
  have hL : (sv (newest S n)).length = 128 := by rw [sv_len]; exact hgd.1
  have h1 := all_oneCell_toArray (sv_one (newest S n))
  generalize sv (newest S n) = cs at *
  have hz := zero110
  have HI : Hid ((Tryz.prog.info? 114).map (·.size) = some cs.length) := by rw [hL]; exact size110
  have HI2 : Hid ((Tryz.prog.info? 114).map (·.size) = some cs.toArray.size) := by rw [List.size_toArray, hL]; exact size110
  have HT : Hid ((w.alloc (.cells z110 114)).heap[w.heap.size]? = some (.cells z110 114 (0, 0))) := heap_alloc_new w _
  have HZ : Hid (z110.size = cs.toArray.size) := by simp only [Hid, List.size_toArray, hL]; rfl
  have H1 := hide h1
  have HN := hide (heap_alloc_new w (.cells cs.toArray 114))
  have HB := hide (below_alloc w (.cells cs.toArray 114))
  have c2 := hd0.c 2 (.map m) rfl
  clear h hd0 hgd h1 hL
  go_enter Tryz.func89, Tryz.ntmps89
  go_wp2_with (first | (refine wpList_load_mid (by rfl) 114 (.tmp 25) (by rfl) g (i * 129 + 1) (by rfl) cs _ HR.out Tryz.underlying114 rfl HI.out ?_) | (refine wpList_store_row (by rfl) 114 (.tmp 4) (.tmp 26) (by rfl) w.heap.size cs.toArray (by rfl) (by rfl) 114 z110 HT.out HI2.out HZ.out H1.out ?_; rw [World.setRow_alloc_new]))
  refine bodyPost_ret (v := .agg cs.toArray) ?_ rfl ?_
  · exact results_cell_row (p := 4) (ty := 114) rfl _ _ w.heap.size 114 _ (0, 0) _ rfl HN.out Tryz.underlying114 rfl HI2.out
  · exact ⟨rfl, HB.out⟩
theorem newest_any (p q : Nat) (vw : Value) (m : Option Nat) (S : DS) (n : Nat) (w : World) (h : Dk w p q vw m S) (hn : n < S.ls.length) :
    Calls Tryz.prog 89 #[.pointer (some ⟨p, 0, none⟩), .int .i64 (n : Int)] w fun e w' => e = .returned (.agg (sv (newest S n)).toArray) ∧ Below w.heap.size w w' := by
  cases hl : lastAt S.ws n with
  | none => exact newest_none p q vw m S n w h hn hl
  | some i => exact newest_some p q vw m S n w h hn i hl
end Go.Proofs.YtobokocpapfjbaaGreat
/- What a read does, where nothing is in its way. -/
namespace Go.Proofs.YtobokocpapfjbaaGreat
open Go.RowKit Go.Maps
set_option linter.unusedVariables false

/-- the bytes of k sectors from the number b on. -/
def rd (S : DS) (b k : Nat) : List Int := ((List.range k).map fun i => newest S (b + i)).flatten
theorem rd_succ (S : DS) (b k : Nat) : rd S b (k + 1) = rd S b k ++ newest S (b + k) := by simp [rd, List.range_succ]
theorem rd_len {S : DS} (h : S.Good) (b : Nat) : ∀ k, b + k ≤ S.ls.length → (rd S b k).length = k * 128
  | 0, _ => by simp [rd]
  | k + 1, hk => by rw [rd_succ, List.length_append, rd_len h b k (by omega), (newest_good h (b + k) (by omega)).1, Nat.add_mul]
theorem make63 (W : World) : (Instr.makeSlice 22 (.int .i64 0) (.int .i64 1024)).run Tryz.prog W = .ok (.slice (some ⟨W.heap.size, 0, none⟩) 0 1024) (W.alloc (.cells (madeCells #[.int .u8 0] 1024) 5)) := by
  obtain ⟨i0, hi, hz0, hz1, hz2⟩ := info_parts Tryz.info5
  have := run_make (P := Tryz.prog) W 22 5 i0 _ Tryz.underlying22 hi hz0 .i64 .i64 0 1024 (by omega) (by omega) (by rw [hz2]; omega) (by omega)
  rw [hz1] at this
  exact this

set_option maxHeartbeats 3200000 in
set_option maxRecDepth 1000000 in
theorem reads_any (p q : Nat) (vw : Value) (m : Option Nat) (S : DS) (k0 k1 k2 : Nat) (pg : Nat) (v0 : Value) (w : World) (h : Dk w p q vw m S)
    (c0 : w.cell? ⟨k0, 0, none⟩ = some (.pointer (some ⟨p, 0, none⟩))) (c1 : w.cell? ⟨k1, 0, none⟩ = some (.int .i64 (pg : Int))) (c2 : w.heap[k2]? = some (.cells #[v0] 22 (0, 0)))
    (o2 : ¬ Ow p q vw m k2) (n0 : k0 ≠ k2) (n1 : k1 ≠ k2) (hpg : pg < S.ls.length / 8) :
    Calls Tryz.prog 88 #[.pointer (some ⟨k0, 0, none⟩), .pointer (some ⟨k1, 0, none⟩), .pointer (some ⟨k2, 0, none⟩)] w fun e w' => e = .returned (.int .u16 0) ∧ ∃ v, w'.heap[k2]? = some (.cells #[v] 22 (0, 0)) ∧ Own w' v (rd S (8 * pg) 8) ∧ (∀ g, v.ownBlock = some g → w.heap.size ≤ g) ∧ Mv (· = k2) w w' := by
  have HD : Hid (∀ W, Mv (· = k2) w W → Dk W p q vw m S) := fun W hm => h.stays (fun k hk => hm.block k (h.lt k hk) (fun e => o2 (by rw [← e]; exact hk)))
  have HK : Hid (∀ W, Mv (· = k2) w W → W.cell? ⟨k0, 0, none⟩ = some (.pointer (some ⟨p, 0, none⟩)) ∧ W.cell? ⟨k1, 0, none⟩ = some (.int .i64 (pg : Int))) := fun W hm => ⟨hm.cell c0 n0, hm.cell c1 n1⟩
  have HG := hide h.good
  have k00 := h.c 0 (.slice (some ⟨q, 0, none⟩) S.ls.length S.ls.length) rfl
  have Hhas := hide (has_any p q S.ls.length (pg : Int) w k00 h.good.most)
  have hdec : decide (0 ≤ (pg : Int) ∧ (pg : Int) < ((S.ls.length / 8 : Nat) : Int)) = true := by simp only [decide_eq_true_eq]; omega
  rw [hdec] at Hhas
  have Hpn : Hid (8 * pg + 8 ≤ S.ls.length) := by rw [Hid]; omega
  have hpb : pg ≤ 131072 := by have := h.good.most; omega
  have hk2 : k2 < w.heap.size := lt_of_block c2
  have HC2 := hide c2
  clear h o2 n0 n1 k00 hdec hpg c2
  have hmk := make63
  go_enter Tryz.func88, Tryz.ntmps88
  go_wp2_with fail
  refine Hhas.out.mono ?_
  rintro e w1 ⟨rfl, hb1⟩
  have HM1 : Hid (Mv (· = k2) w w1) := ⟨hb1.os, hb1.tape, hb1.output, hb1.size, fun k hk _ => hb1.block k hk⟩
  have HC3 : Hid (w1.heap[k2]? = some (.cells #[v0] 22 (0, 0))) := (hb1.block k2 hk2).trans HC2.out
  clear hb1 c0 c1
  have c2 : (w1.alloc (.cells (madeCells #[.int .u8 0] 1024) 5)).cell? ⟨k2, 0, none⟩ = some v0 := by
    rw [World.cell?_of_block (w := w1) (Below.heap_alloc w1 _ k2 (lt_of_block HC3.out)), cell_of_row w1 k2 0 _ 22 (0, 0) HC3.out]; rfl
  have f2 : (w1.alloc (.cells (madeCells #[.int .u8 0] 1024) 5)).frozen? ⟨k2, 0, none⟩ = false := by
    rw [World.frozen?_of_block (w := w1) (Below.heap_alloc w1 _ k2 (lt_of_block HC3.out))]; simp [World.frozen?, HC3.out]
  go_wp2
  clear c2 f2
  obtain ⟨i0, hi, hz0, hz1, hz2⟩ := info_parts Tryz.info5
  go_loopw [11] (fun i wr' => ∃ (k : Nat) (v : Value), k ≤ 8 ∧ i = .int .i64 (k : Int) ∧ wr'.heap[k2]? = some (.cells #[v] 22 (0, 0)) ∧ Own wr' v (rd S (8 * pg) k) ∧ (∀ g, v.ownBlock = some g → w.heap.size ≤ g) ∧ Mv (· = k2) w wr') (fun i _ => 8 - (intOf i).toNat)
  case atStart =>
    have hk2l := lt_of_block HC3.out
    refine ⟨0, .slice (some ⟨w1.heap.size, 0, none⟩) 0 1024, by omega, rfl, ?_, ?_, ?_, ?_⟩
    · rw [heap_setCell_same _ k2 0 _ 22 _ ((Below.heap_alloc w1 _ k2 hk2l).trans HC3.out)]; rfl
    · have h0 : (w1.alloc (.cells (madeCells #[Value.int .u8 0] 1024) 5)).ownsRow 0 5 1 (.slice (some ⟨w1.heap.size, 0, none⟩) 0 1024) 0 [] := World.ownsRow_made w1 _ 1024 (Nat.zero_le _) (by unfold maxLen; omega) (by rw [size_madeCells])
      exact h0.kept (row := some k2) (grown_setCell _ k2 0 _) (.inr (by simp only [Value.ownBlock]; intro e; cases e; omega))
    · intro g hg; simp only [Value.ownBlock] at hg; cases hg; exact HM1.out.size
    · have := below_alloc w1 (.cells (madeCells #[Value.int .u8 0] 1024) 5)
      exact HM1.out.trans' (Mv.trans' ⟨this.os, this.tape, this.output, this.size, fun k hk _ => this.block k hk⟩ (mv_set _ k2 0 _))
  case round =>
    obtain ⟨k, v, hk, rfl, hc, hown, hnew, hm⟩ := hrel
    have HC := hide hc
    have HO := hide hown
    have HNw := hide hnew
    have HM := hide hm
    clear hc hown hnew hm
    by_cases hlt : k < 8
    · have hx1 : IntKind.i64.wrap ((pg : Int) * 8) = (pg : Int) * 8 := by rw [IntKind.wrap_i64]; omega
      have hx2 : IntKind.i64.wrap ((pg : Int) * 8 + (k : Int)) = 8 * (pg : Int) + (k : Int) := by rw [IntKind.wrap_i64]; omega
      have hnn : ((8 * pg + k : Nat) : Int) = 8 * (pg : Int) + (k : Int) := by omega
      have HCall : Hid (Calls Tryz.prog 89 #[.pointer (some ⟨p, 0, none⟩), .int .i64 (8 * (pg : Int) + (k : Int))] wr fun e w' => e = .returned (.agg (sv (newest S (8 * pg + k))).toArray) ∧ Below wr.heap.size wr w') := by
        rw [← hnn]
        exact newest_any p q vw m S (8 * pg + k) wr (HD.out wr HM.out) (by have := Hpn.out; omega)
      clear hnn
      obtain ⟨c0, c1⟩ := HK.out wr HM.out
      have hz := zero110
      go_wp2_with fail
      refine HCall.out.mono ?_
      rintro e w2 ⟨rfl, hb2⟩
      have hgd := newest_good HG.out (8 * pg + k) (by have := Hpn.out; omega)
      have hL : (sv (newest S (8 * pg + k))).length = 128 := by rw [sv_len]; exact hgd.1
      have HI2 : Hid ((Tryz.prog.info? 114).map (·.size) = some (sv (newest S (8 * pg + k))).toArray.size) := by rw [Hid, List.size_toArray, hL]; exact size110
      have HT : Hid ((w2.alloc (.cells z110 114)).heap[w2.heap.size]? = some (.cells z110 114 (0, 0))) := heap_alloc_new w2 _
      have HZ : Hid (z110.size = (sv (newest S (8 * pg + k))).toArray.size) := by simp only [Hid, List.size_toArray, hL]; rfl
      have H1 := hide (all_oneCell_toArray (sv_one (newest S (8 * pg + k))))
      obtain ⟨W3, hW3⟩ : ∃ W3, W3 = w2.alloc (.cells (sv (newest S (8 * pg + k))).toArray 114) := ⟨_, rfl⟩
      have hb3 : Below wr.heap.size wr W3 := by rw [hW3]; exact hb2.trans ((below_alloc w2 _).mono hb2.size)
      have hkl : k2 < wr.heap.size := lt_of_block HC.out
      have HO3 : Hid (Own W3.drew v (rd S (8 * pg) k)) := HO.out.of_block (fun g hg => hb3.block g (HO.out.lt hg))
      have HC3' : Hid (W3.heap[k2]? = some (.cells #[v] 22 (0, 0))) := (hb3.block k2 hkl).trans HC.out
      have HM3 : Hid (Mv (· = k2) w W3) := HM.out.trans' ⟨hb3.os, hb3.tape, hb3.output, hb3.size, fun k hk _ => hb3.block k hk⟩
      have HSr : Hid (Src Tryz.prog 1 22 (.slice (some ⟨w2.heap.size, 0, none⟩) 128 128) 128 ((newest S (8 * pg + k)).map (Value.int .u8)) W3.drew) := by
        refine Src.ofSlice W3.drew Tryz.underlying22 ⟨w2.heap.size, 0, none⟩ 128 128 _ (by simp [hgd.1]) (fun j u hu => ?_) (ints_oneCell _ _)
        rw [Addr.add_lit, cell_of_row W3.drew w2.heap.size (0 + j) (sv (newest S (8 * pg + k))).toArray 114 (0, 0) (by rw [hW3]; exact heap_alloc_new w2 _)]
        simpa [sv] using hu
      have HBd : Hid ((rd S (8 * pg) k).length + 128 ≤ 140737488355328) := by
        have := rd_len HG.out (8 * pg) k (by have := Hpn.out; omega)
        rw [Hid, this]; omega
      have HV4 : Hid (∀ w4, W3.drew.grownBy w4 v.ownBlock → w4.cell? ⟨k2, 0, none⟩ = some v ∧ w4.frozen? ⟨k2, 0, none⟩ = false) := fun w4 hg => by
        have e : w4.heap[k2]? = some (.cells #[v] 22 (0, 0)) := (hg.block k2 (lt_of_block HC3'.out) (fun e => by have := HNw.out k2 e.symm; omega)).trans HC3'.out
        exact ⟨by rw [cell_of_row w4 k2 0 _ 22 (0, 0) e]; rfl, by simp [World.frozen?, e]⟩
      have HEnd : Hid (∀ v' w4, Own w4 v' (rd S (8 * pg) k ++ newest S (8 * pg + k)) → W3.drew.grownBy w4 v.ownBlock → (∀ g, v'.ownBlock = some g → v.ownBlock = some g ∨ W3.drew.heap.size ≤ g) → (w4.setCell ⟨k2, 0, none⟩ v').heap[k2]? = some (.cells #[v'] 22 (0, 0)) ∧ Own (w4.setCell ⟨k2, 0, none⟩ v') v' (rd S (8 * pg) (k + 1)) ∧ (∀ g, v'.ownBlock = some g → w.heap.size ≤ g) ∧ Mv (· = k2) w (w4.setCell ⟨k2, 0, none⟩ v')) := fun v' w4 ho hg hk => by
        have hnew : ∀ g, v'.ownBlock = some g → w.heap.size ≤ g := fun g hv => (hk g hv).elim (HNw.out g) (fun hl => Nat.le_trans HM3.out.size hl)
        have e : w4.heap[k2]? = some (.cells #[v] 22 (0, 0)) := (hg.block k2 (lt_of_block HC3'.out) (fun e => by have := HNw.out k2 e.symm; omega)).trans HC3'.out
        refine ⟨by rw [heap_setCell_same w4 k2 0 _ 22 _ e]; rfl, ?_, hnew, ?_⟩
        · rw [rd_succ]
          exact ho.of_block (fun g hv => set_other w4 k2 0 v' g (by have := hnew g hv; omega))
        · refine ⟨hg.os.trans HM3.out.os, hg.tape.trans HM3.out.tape, hg.output.trans HM3.out.output, Nat.le_trans HM3.out.size (Nat.le_trans hg.size (by rw [World.size_setCell]; exact Nat.le_refl _)), fun j hj hne => ?_⟩
          rw [set_other w4 k2 0 v' j hne, hg.block j (Nat.lt_of_lt_of_le hj HM3.out.size) (fun e => by have := HNw.out j e.symm; omega)]
          exact HM3.out.block j hj hne
      have c3 : W3.cell? ⟨k2, 0, none⟩ = some v := by rw [cell_of_row W3 k2 0 _ 22 (0, 0) HC3'.out]; rfl
      clear hgd hL hb3 hb2 c0 c1 hkl
      go_wp2_with (refine wpList_store_row (by rfl) 114 (.tmp 5) (.tmp 19) (by rfl) w2.heap.size (sv (newest S (8 * pg + k))).toArray (by rfl) (by rfl) 114 z110 HT.out HI2.out HZ.out H1.out ?_; rw [World.setRow_alloc_new, ← hW3])
      · clear hW3
        refine wp_region_noPanic ?_
        refine wp_region_held_drew (S := (fun W => True)) (by kernel_rfl) trivial (fun _hS => ?_)
        refine wpAnyH_take (i := 1) (oi := { dst := some 21, op := Op.slice 114 (Operand.tmp 5) none none none, type := 22, pos := "operation.go:60", after := #[], guard := none }) (v := ?v1x1) rfl (by kernel_rfl) (by kernel_rfl) (by kernel_rfl) (fun _ _ _ h => h) (Or.inl ⟨by rfl, ?hy1x1⟩) (by assumption) ?rest1x1
        case hy1x1 => (intro w hSw; (try dsimp only at hSw); (first | (go_simp; with_reducible rfl) | go_simp))
        try simp only [Act.put, List.setIfInBounds_toArray, List.set_cons_zero, List.set_cons_succ]
        refine wpAnyH_ready (rs := [0]) (by kernel_rfl) (by simp) ?_
        refine AllReadyH.cons (o := { dst := some 20, op := Op.load 22 (Operand.tmp 2), type := 22, pos := "operation.go:60", after := #[], guard := none }) rfl (fun K hK => ?_) AllReadyH.nil
        go_simp
        refine hK.out _ _ trivial (fun _hS => ?_)
        clear hK K
        try simp only [Act.put, List.setIfInBounds_toArray, List.set_cons_zero, List.set_cons_succ]
        refine wpAnyH_ready (rs := [2]) (by kernel_rfl) (by simp) ?_
        refine AllReadyH.cons (o := { dst := some 22, op := Op.call { callee := Callee.builtin Builtin.append, args := #[Operand.tmp 20, Operand.tmp 21], argTypes := #[22, 22] }, type := 22, pos := "operation.go:60", after := #[{ on := 0, ground := Ground.data }, { on := 1, ground := Ground.data }], guard := none }) rfl (fun K hK => ?_) AllReadyH.nil
        refine step_of rfl ?_
        refine wp_append_src (.tmp 20) (.tmp 21) 22 22 rfl i0 Tryz.underlying22 hi hz0 hz1 hz2 v (rd S (8 * pg) k) rfl HO3.out (.slice (some ⟨w2.heap.size, 0, none⟩) 128 128) 128 (newest S (8 * pg + k)) rfl HSr.out HBd.out ?_
        intro v' w4 hown4 hgr4 hk4
        obtain ⟨a', n', cc', rfl, -⟩ := hown4.shape2
        have HO4 := hide hown4
        have HG4 := hide hgr4
        have HK4 := hide hk4
        clear hown4 hgr4 hk4
        obtain ⟨c5, f5⟩ := HV4.out w4 HG4.out
        refine hK.out _ _ trivial (fun _hS => ?_)
        clear hK K
        try simp only [Act.put, List.setIfInBounds_toArray, List.set_cons_zero, List.set_cons_succ]
        refine wpAnyH_ready (rs := [3]) (by kernel_rfl) (by simp) ?_
        refine AllReadyH.cons (o := { dst := none, op := Op.store 22 (Operand.tmp 2) (Operand.tmp 22), type := 0, pos := "operation.go:60", after := #[{ on := 2, ground := Ground.data }, { on := 2, ground := Ground.chain }, { on := 0, ground := Ground.phase }, { on := 1, ground := Ground.phase }, { on := 2, ground := Ground.phase }], guard := none }) rfl (fun K hK => ?_) AllReadyH.nil
        go_simp
        refine hK.out _ _ trivial (fun _hS => ?_)
        clear hK K
        try simp only [Act.put]
        refine wpAnyH_done (by kernel_rfl) ?_ _
        refine NoPanic.normal ?_
        have HE := hide (HEnd.out _ w4 HO4.out HG4.out HK4.out)
        go_wp2
        go_roundw
        case rel => exact ⟨k + 1, _, by omega, by go_num, HE.out⟩
        case measure => simp [intOf]; omega
    · have e : k = 8 := by omega
      subst e
      go_wp2
      go_ret
      exact ⟨rfl, v, HC.out, HO.out, HNw.out, HM.out⟩
end Go.Proofs.YtobokocpapfjbaaGreat
