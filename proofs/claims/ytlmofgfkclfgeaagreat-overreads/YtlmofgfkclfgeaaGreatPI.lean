/- A pool over its disk: what it owns, how it is made, which pages it reaches. -/
import Derived.Test.YtlmofgfkclfgeaaGreatPF
import Derived.Test.YtlmofgfkclfgeaaGreatRF
import Derived.Test.YtlmofgfkclfgeaaGreatRH
import Derived.Deep.RegionHeld3
namespace Go.Proofs.YtlmofgfkclfgeaaGreat
open Go.RowKit Go.Maps
set_option linter.unusedVariables false

theorem buildE (W : World) : (Instr.build 152 #[]).run Tryz.prog W = .ok (.agg #[.pointer none, .pointer none, .int .u32 0, .int .u8 0, .slice none 0 0]) W := run_build W 152 _ _ (by kernel_rfl)
theorem buildH (x : Int) (m e : Nat) (W : World) : (Instr.build 103 #[(0, .int .i64 x), (1, .map (some m)), (2, .pointer (some ⟨e, 0, none⟩))]).run Tryz.prog W = .ok (.agg #[.int .i64 x, .map (some m), .pointer (some ⟨e, 0, none⟩)]) W := run_build W 103 _ _ (by kernel_rfl)
theorem buildP (d : Nat) (x : Int) (m e : Nat) (W : World) : (Instr.build 106 #[(0, .pointer (some ⟨d, 0, none⟩)), (1, .agg #[.int .i64 x, .map (some m), .pointer (some ⟨e, 0, none⟩)])]).run Tryz.prog W = .ok (.agg #[.pointer (some ⟨d, 0, none⟩), .int .i64 x, .map (some m), .pointer (some ⟨e, 0, none⟩)]) W := run_build W 106 _ _ (by kernel_rfl)
theorem zeroH : ∀ w, (zeroValue 103).run Tryz.prog w = .ok (.agg #[.int .i64 0, .map none, .pointer none]) w := (zero_of_info (P := Tryz.prog) (t := 103) (v := .agg #[.int .i64 0, .map none, .pointer none]) (n := 3) (by kernel_rfl)).1
theorem makeM (W : World) : (Instr.makeMap 100 none).run Tryz.prog W = .ok (.map (some W.heap.size)) (W.alloc (.map #[] 0)) := run_makeMap (P := Tryz.prog) 100 W
set_option maxHeartbeats 1600000 in
set_option maxRecDepth 1000000 in
theorem newHand_any (most : Nat) (w : World) (hm : most ≤ 9223372036854775807) :
    Calls Tryz.prog 22 #[.int .i64 (most : Int)] w fun ed w' => ed = .returned (.agg #[.int .i64 (most : Int), .map (some (w.heap.size + 2)), .pointer (some ⟨w.heap.size + 1, 0, none⟩)]) ∧ w'.heap[w.heap.size + 1]? = some (.cells (shc (w.heap.size + 1) (w.heap.size + 1) 0 0 (.slice none 0 0)) 152 (0, 0)) ∧ w'.heap[w.heap.size + 2]? = some (.map #[] 0) ∧ w'.heap.size = w.heap.size + 3 ∧ Below w.heap.size w w' := by
  have hz := zeroH
  have hbe := buildE
  have hbh := buildH
  have hmk := makeM
  go_enter Tryz.func22, Tryz.ntmps22
  go_wp2
  have s1 : (w.alloc (.cells #[.int .i64 (most : Int), .map (some (w.heap.size + 1 + 1)), .pointer (some ⟨w.heap.size + 1, 0, none⟩)] 103)).heap.size = w.heap.size + 1 := by simp
  have s2 : ((w.alloc (.cells #[.int .i64 (most : Int), .map (some (w.heap.size + 1 + 1)), .pointer (some ⟨w.heap.size + 1, 0, none⟩)] 103)).alloc (.cells #[.pointer (some ⟨w.heap.size + 1, 0, none⟩), .pointer (some ⟨w.heap.size + 1, 0, none⟩), .int .u32 0, .int .u8 0, .slice none 0 0] 152)).heap.size = w.heap.size + 2 := by simp
  have hA := heap_alloc_new w (.cells #[.int .i64 (most : Int), .map (some (w.heap.size + 1 + 1)), .pointer (some ⟨w.heap.size + 1, 0, none⟩)] 103)
  have hBl := below_alloc w (.cells #[.int .i64 (most : Int), .map (some (w.heap.size + 1 + 1)), .pointer (some ⟨w.heap.size + 1, 0, none⟩)] 103)
  generalize w.alloc (.cells #[.int .i64 (most : Int), .map (some (w.heap.size + 1 + 1)), .pointer (some ⟨w.heap.size + 1, 0, none⟩)] 103) = w1 at *
  have hB := heap_alloc_new w1 (.cells #[.pointer (some ⟨w.heap.size + 1, 0, none⟩), .pointer (some ⟨w.heap.size + 1, 0, none⟩), .int .u32 0, .int .u8 0, .slice none 0 0] 152)
  have hBl2 := below_alloc w1 (.cells #[.pointer (some ⟨w.heap.size + 1, 0, none⟩), .pointer (some ⟨w.heap.size + 1, 0, none⟩), .int .u32 0, .int .u8 0, .slice none 0 0] 152)
  generalize w1.alloc (.cells #[.pointer (some ⟨w.heap.size + 1, 0, none⟩), .pointer (some ⟨w.heap.size + 1, 0, none⟩), .int .u32 0, .int .u8 0, .slice none 0 0] 152) = w2 at *
  have hC := heap_alloc_new w2 (.map #[] 0)
  have hBl3 := below_alloc w2 (.map #[] 0)
  have s3 : (w2.alloc (.map #[] 0)).heap.size = w.heap.size + 3 := by simp; omega
  generalize w2.alloc (.map #[] 0) = w3 at *
  rw [s1] at hB
  rw [s2] at hC
  have hA3 : w3.heap[w.heap.size]? = some (.cells #[.int .i64 (most : Int), .map (some (w.heap.size + 1 + 1)), .pointer (some ⟨w.heap.size + 1, 0, none⟩)] 103 (0, 0)) := by
    rw [hBl3.block _ (by omega), hBl2.block _ (by omega)]; exact hA
  refine bodyPost_ret (v := .agg #[.int .i64 (most : Int), .map (some (w.heap.size + 1 + 1)), .pointer (some ⟨w.heap.size + 1, 0, none⟩)]) ?_ rfl ⟨rfl, ?_, hC, s3, ?_⟩
  · exact results_cell_row (p := 2) (ty := 103) rfl _ _ w.heap.size 103 _ (0, 0) _ rfl hA3 Tryz.underlying103 rfl (by kernel_rfl)
  · rw [hBl3.block _ (by omega)]; exact hB
  · exact (hBl.trans (hBl2.mono hBl.size)).trans (hBl3.mono (by omega))

/-- a pool over its disk, with all that it owns. -/
structure Pi (w : World) (p d q : Nat) (S : DS) (O : Nat → Prop) (e m most : Nat) (L : List Sh) (el yo : Nat → Nat) : Prop where
  dk : DkAt w d q S O
  hd : Hd w p d e m most L el yo
  ap : ∀ k, O k → ¬ OwP p e m L k
/-- .. told: the disk's state, the pages at hand, the blocks of both. -/
def Pl (w : World) (p d q : Nat) (S : DS) (most : Nat) (A : List Pge) (OO : Nat → Prop) : Prop := ∃ O e m L el yo, Pi w p d q S O e m most L el yo ∧ L.map Sh.pg = A ∧ ∀ k, OO k ↔ O k ∨ OwP p e m L k
variable {w w' : World} {p d q e m most : Nat} {S S' : DS} {O O' OO : Nat → Prop} {L L' : List Sh} {el yo el' yo' : Nat → Nat} {A : List Pge}
theorem Pi.disk (h : Pi w p d q S O e m most L el yo) (hd : DkAt w' d q S' O') (hg : Go1 O w O' w') : Pi w' p d q S' O' e m most L el yo :=
  ⟨hd, h.hd.stays fun k hk => hg.mv.block k (h.hd.lt k hk) (fun ho => h.ap k ho hk), fun k hk hp => (hg.own k hk).elim (fun ho => h.ap k ho hp) (fun hl => by have := h.hd.lt k hp; omega)⟩
theorem Pi.hand (h : Pi w p d q S O e m most L el yo) (hh : Hd w' p d e m most L' el' yo') (hg : Go1 (OwP p e m L) w (OwP p e m L') w') : Pi w' p d q S O e m most L' el' yo' :=
  ⟨h.dk.other hg.mv (h.ap), hh, fun k hk hp => (hg.own k hp).elim (h.ap k hk) (fun hl => by have := h.dk.lt k hk; omega)⟩
theorem Pi.below (h : Pi w p d q S O e m most L el yo) (hb : Below w.heap.size w w') : Pi w' p d q S O e m most L el yo := ⟨h.dk.below hb, h.hd.below hb, h.ap⟩
theorem Go1.left {P : Nat → Prop} (h : Go1 O w O' w') : Go1 (fun k => O k ∨ P k) w (fun k => O' k ∨ P k) w' :=
  ⟨h.mv.mono fun k hk => .inl hk, fun k hk => hk.elim (fun x => (h.own k x).elim (fun y => .inl (.inl y)) .inr) (fun x => .inl (.inr x))⟩
theorem Go1.right {P : Nat → Prop} (h : Go1 O w O' w') : Go1 (fun k => P k ∨ O k) w (fun k => P k ∨ O' k) w' :=
  ⟨h.mv.mono fun k hk => .inr hk, fun k hk => hk.elim (fun x => .inl (.inl x)) (fun x => (h.own k x).elim (fun y => .inl (.inr y)) .inr)⟩
theorem Go1.sub {P P' : Nat → Prop} (h : Mv P w w') (hs : ∀ k, P' k → P k) : Go1 P w P' w' := ⟨h, fun k hk => .inl (hs k hk)⟩
theorem Pl.below (h : Pl w p d q S most A OO) (hb : Below w.heap.size w w') : Pl w' p d q S most A OO := by
  obtain ⟨O, e, m, L, el, yo, h1, h2, h3⟩ := h
  exact ⟨O, e, m, L, el, yo, h1.below hb, h2, h3⟩
theorem Pl.lt (h : Pl w p d q S most A OO) (k : Nat) (hk : OO k) : k < w.heap.size := by
  obtain ⟨O, e, m, L, el, yo, h1, h2, h3⟩ := h
  exact ((h3 k).1 hk).elim (h1.dk.lt k) (h1.hd.lt k)
/-- a pool beside something else that moves. -/
theorem Pl.other {P : Nat → Prop} (h : Pl w p d q S most A OO) (hm : Mv P w w') (hap : ∀ k, OO k → ¬ P k) : Pl w' p d q S most A OO := by
  have hlt := h.lt
  obtain ⟨O, e, m, L, el, yo, h1, h2, h3⟩ := h
  refine ⟨O, e, m, L, el, yo, ⟨h1.dk.other hm fun k hk => hap k ((h3 k).2 (.inl hk)), h1.hd.stays fun k hk => ?_, h1.ap⟩, h2, h3⟩
  exact hm.block k (hlt k ((h3 k).2 (.inr hk))) (hap k ((h3 k).2 (.inr hk)))
theorem Pl.good (h : Pl w p d q S most A OO) : S.Good := by
  obtain ⟨O, e, m, L, el, yo, ⟨⟨vw, mm, hd, ho⟩, -, -⟩, h2, h3⟩ := h
  exact hd.good
theorem Pl.mo (h : Pl w p d q S most A OO) : 1 ≤ most ∧ most ≤ 9223372036854775807 ∧ A.length ≤ most ∧ (A.map Pge.n).Nodup ∧ ∀ x ∈ A, x.n < 4294967296 ∧ x.k < 256 ∧ x.pl.length ≤ 1008 ∧ Byts x.pl := by
  obtain ⟨O, e, m, L, el, yo, h1, rfl, h3⟩ := h
  refine ⟨h1.hd.most.1, h1.hd.most.2, by rw [List.length_map]; exact h1.hd.few, by rw [List.map_map]; exact h1.hd.nums, fun x hx => ?_⟩
  obtain ⟨s, hs, rfl⟩ := List.mem_map.1 hx
  exact ⟨(h1.hd.rg s hs).1, (h1.hd.rg s hs).2, (h1.hd.pay s hs).2.1, (h1.hd.pay s hs).2.2⟩
set_option maxHeartbeats 1600000 in
set_option maxRecDepth 1000000 in
theorem pnew_any (mo : Nat) (M : Int) (hM : M = (mo : Int)) (w : World) (h : DkAt w d q S O) (h1 : 1 ≤ mo) (h2 : mo ≤ 9223372036854775807) :
    Calls Tryz.prog 7 #[.pointer (some ⟨d, 0, none⟩), .int .i64 M] w fun ed w' => ∃ p OO, ed = .returned (.tuple #[.pointer (some ⟨p, 0, none⟩), .int .u16 0]) ∧ Pl w' p d q S mo [] OO ∧ Go1 O w OO w' := by
  subst hM
  have HD := hide h
  have HN := hide (newHand_any mo w h2)
  have hbp := buildP d (mo : Int)
  have d1 : ¬ (mo : Int) < 1 := by omega
  clear h
  go_enter Tryz.func7, Tryz.ntmps7
  go_wp2_with fail
  refine HN.out.mono ?_
  rintro ed w1 ⟨rfl, hE, hM, hs, hb⟩
  have hb2 := below_alloc w1 (.cells #[.pointer (some ⟨d, 0, none⟩), .int .i64 (mo : Int), .map (some (w.heap.size + 2)), .pointer (some ⟨w.heap.size + 1, 0, none⟩)] 106)
  have hnw := heap_alloc_new w1 (.cells #[.pointer (some ⟨d, 0, none⟩), .int .i64 (mo : Int), .map (some (w.heap.size + 2)), .pointer (some ⟨w.heap.size + 1, 0, none⟩)] 106)
  have HPi : Hid (Pi (w1.alloc (.cells #[.pointer (some ⟨d, 0, none⟩), .int .i64 (mo : Int), .map (some (w.heap.size + 2)), .pointer (some ⟨w.heap.size + 1, 0, none⟩)] 106)) w1.heap.size d q S O (w.heap.size + 1) (w.heap.size + 2) mo [] (fun _ => w.heap.size + 1) (fun _ => w.heap.size + 1)) := hide {
    dk := (HD.out.below hb).below hb2
    hd := {
      blk := hnw
      fam := fun t ht => by
        rw [List.mem_singleton.1 ht]
        show _[w.heap.size + 1]? = _
        rw [hb2.block _ (by omega)]
        exact hE
      ring := Ring.nil _
      pay := fun t ht => by simp at ht
      rg := fun t ht => by simp at ht
      nums := by simp
      map := ⟨.map [], ⟨#[], 0, (hb2.block _ (by omega)).trans hM, ⟨by simp, Go.MapKept.stamped_empty 0, by simp⟩, Nat.le_refl _, rfl⟩, ⟨fun n hn => by simp [Maps.has_eq], fun t ht => by simp at ht, rfl⟩⟩
      few := by simp
      most := ⟨h1, h2⟩ }
    ap := fun k hk hx => by
      have := HD.out.lt k hk
      rcases hx with h | h | h | ⟨t, ht, _⟩
      · omega
      · omega
      · omega
      · simp at ht }
  have HG : Hid (Go1 O w (fun k => O k ∨ OwP w1.heap.size (w.heap.size + 1) (w.heap.size + 2) [] k) (w1.alloc (.cells #[.pointer (some ⟨d, 0, none⟩), .int .i64 (mo : Int), .map (some (w.heap.size + 2)), .pointer (some ⟨w.heap.size + 1, 0, none⟩)] 106))) := hide ⟨Mv.of_below (hb.trans (hb2.mono hb.size)), fun k hk => by
    rcases hk with h | h | h | h | ⟨t, ht, _⟩
    · exact .inl h
    · right; omega
    · right; omega
    · right; omega
    · simp at ht⟩
  clear hE hM hb hb2 hnw hs
  go_wp2
  go_ret2
  exact ⟨_, _, rfl, ⟨_, _, _, _, _, _, HPi.out, rfl, fun k => Iff.rfl⟩, HG.out⟩
end Go.Proofs.YtlmofgfkclfgeaaGreat
/- A pool: does it reach a page, how many are at hand, is one; one is let go; a sync. -/
namespace Go.Proofs.YtlmofgfkclfgeaaGreat
open Go.RowKit Go.Maps
set_option linter.unusedVariables false
variable {w w' : World} {p d q e m most : Nat} {S S' : DS} {O O' OO : Nat → Prop} {L L' : List Sh} {el yo el' yo' : Nat → Nat} {A : List Pge}

theorem Pi.pages (h : Pi w p d q S O e m most L el yo) : Calls Tryz.prog 82 #[.pointer (some ⟨d, 0, none⟩)] w fun ed w' => ed = .returned (.int .i64 ((S.ls.length / 8 : Nat) : Int)) ∧ Below w.heap.size w w' := by
  obtain ⟨vw, mm, hd, ho⟩ := h.dk
  exact pages_any d q S.ls.length w (hd.c 0 _ rfl) hd.good.most
theorem Pi.good (h : Pi w p d q S O e m most L el yo) : S.Good := by
  obtain ⟨vw, mm, hd, ho⟩ := h.dk
  exact hd.good
set_option maxHeartbeats 1600000 in
set_option maxRecDepth 1000000 in
theorem reaches_yes (n : Nat) (h : Pi w p d q S O e m most L el yo) (hn : n < 4294967296) (hr : n < S.ls.length / 8) :
    Calls Tryz.prog 74 #[.pointer (some ⟨p, 0, none⟩), .int .u32 (n : Int)] w fun ed w' => ed = .returned (.bool true) ∧ Below w.heap.size w w' := by
  have HP := hide h.pages
  have c0 := h.hd.c0
  have hm := h.good.most
  obtain ⟨pg, HPg⟩ : ∃ pg, Hid (pg = S.ls.length / 8) := ⟨_, rfl⟩
  have hb : pg ≤ 131072 := by rw [HPg.out]; omega
  rw [← HPg.out] at HP hr
  clear h hm
  have hd1 : decide ((n : Int) < (pg : Int)) = true := by simp; omega
  go_enter Tryz.func74, Tryz.ntmps74
  go_wp2_with fail
  refine HP.out.mono ?_
  rintro ed w1 ⟨rfl, hb1⟩
  have HB := hide hb1
  clear hb1
  go_wp2
  go_ret
  exact ⟨rfl, HB.out⟩
set_option maxHeartbeats 1600000 in
set_option maxRecDepth 1000000 in
theorem reaches_no (n : Nat) (h : Pi w p d q S O e m most L el yo) (hn : n < 4294967296) (hr : ¬ n < S.ls.length / 8) :
    Calls Tryz.prog 74 #[.pointer (some ⟨p, 0, none⟩), .int .u32 (n : Int)] w fun ed w' => ed = .returned (.bool false) ∧ Below w.heap.size w w' := by
  have HP := hide h.pages
  have c0 := h.hd.c0
  have hm := h.good.most
  obtain ⟨pg, HPg⟩ : ∃ pg, Hid (pg = S.ls.length / 8) := ⟨_, rfl⟩
  have hb : pg ≤ 131072 := by rw [HPg.out]; omega
  rw [← HPg.out] at HP hr
  clear h hm
  have hd1 : decide ((n : Int) < (pg : Int)) = false := by simp; omega
  go_enter Tryz.func74, Tryz.ntmps74
  go_wp2_with fail
  refine HP.out.mono ?_
  rintro ed w1 ⟨rfl, hb1⟩
  have HB := hide hb1
  clear hb1
  go_wp2
  go_ret
  exact ⟨rfl, HB.out⟩
theorem Pl.gone {OO' : Nat → Prop} (h3 : ∀ k, OO k ↔ O k ∨ OwP p e m L k) (h4 : Go1 (fun k => O k ∨ OwP p e m L k) w OO' w') : Go1 OO w OO' w' := ⟨h4.mv.mono fun k hk => (h3 k).2 hk, fun k hk => (h4.own k hk).elim (fun x => .inl ((h3 k).2 x)) .inr⟩
theorem owp_sub (hs : ∀ s ∈ L', s ∈ L) (k : Nat) (hk : OwP p e m L' k) : OwP p e m L k := by
  rcases hk with h | h | h | ⟨t, ht, h⟩
  · exact .inl h
  · exact .inr (.inl h)
  · exact .inr (.inr (.inl h))
  · exact .inr (.inr (.inr ⟨t, hs t ht, h⟩))
end Go.Proofs.YtlmofgfkclfgeaaGreat
/- A pool's Read. -/
namespace Go.Proofs.YtlmofgfkclfgeaaGreat
open Go.RowKit Go.Maps
set_option linter.unusedVariables false
variable {w w' : World} {p d q e m most : Nat} {S S' : DS} {O O' OO : Nat → Prop} {L L' : List Sh} {el yo el' yo' : Nat → Nat} {A : List Pge}

theorem ret_three {v v' : Value} {k k2 : IntKind} {a a' b b' : Int} (h0 : a = a') (h : v = v') (h2 : b = b') : Ending.returned (.tuple #[.int k a, v, .int k2 b]) = .returned (.tuple #[.int k a', v', .int k2 b']) := by rw [h0, h, h2]
/-- bytes that a call made: their owner's, in a block that is new. -/
def Fresh (w w' : World) (OO' : Nat → Prop) (v : Value) (zs : List Int) : Prop := Own w' v zs ∧ (∀ g, v.ownBlock = some g → w.heap.size ≤ g ∧ ¬ OO' g)
theorem Fresh.nil (w w' : World) (OO' : Nat → Prop) : Fresh w w' OO' (.slice none 0 0) [] := ⟨Own.nil _, fun g hg => by simp [Value.ownBlock] at hg⟩
set_option maxHeartbeats 1600000 in
set_option maxRecDepth 1000000 in
theorem read_off (n : Nat) (hn : n < 4294967296) (h : Pl w p d q S most A OO) (hr : ¬ n < S.ls.length / 8) :
    Calls Tryz.prog 66 #[.pointer (some ⟨p, 0, none⟩), .int .u32 (n : Int)] w fun ed w' => ed = .returned (.tuple #[.int .u8 0, .slice none 0 0, .int .u16 2]) ∧ Below w.heap.size w w' := by
  obtain ⟨O, e, m, L, el, yo, h1, rfl, h3⟩ := h
  have HR := hide (reaches_no n h1 hn hr)
  clear h1 h3 hr
  go_enter Tryz.func66, Tryz.ntmps66
  go_wp2_with fail
  refine HR.out.mono ?_
  rintro ed w1 ⟨rfl, hb⟩
  have HB := hide hb
  clear hb
  go_wp2
  go_ret3
  exact ⟨rfl, HB.out⟩
set_option maxHeartbeats 1600000 in
set_option maxRecDepth 1000000 in
theorem read_hand (x : Pge) (hn : x.n < 4294967296) (h : Pl w p d q S most A OO) (hr : x.n < S.ls.length / 8) (hx : x ∈ A) :
    Calls Tryz.prog 66 #[.pointer (some ⟨p, 0, none⟩), .int .u32 (x.n : Int)] w fun ed w' => ∃ v OO', ed = .returned (.tuple #[.int .u8 (x.k : Int), v, .int .u16 0]) ∧ Fresh w w' OO' v x.pl ∧ Pl w' p d q S most (wo A x.n ++ [x]) OO' ∧ Go1 OO w OO' w' := by
  obtain ⟨O, e, m, L, el, yo, h1, rfl, h3⟩ := h
  obtain ⟨s, hs, rfl⟩ := List.mem_map.1 hx
  obtain ⟨u, v, rfl⟩ := List.append_of_mem hs
  have HR := hide (reaches_yes s.n h1 hn hr)
  have HP := hide h1
  have H3 := hide h3
  clear h1 h3 hr hx hs
  show Calls Tryz.prog 66 #[.pointer (some ⟨p, 0, none⟩), .int .u32 (s.n : Int)] w fun ed w' => ∃ v_1 OO', ed = .returned (.tuple #[.int .u8 (s.k : Int), v_1, .int .u16 0]) ∧ Fresh w w' OO' v_1 s.pl ∧ Pl w' p d q S most (wo ((u ++ s :: v).map Sh.pg) s.n ++ [s.pg]) OO' ∧ Go1 OO w OO' w'
  go_enter Tryz.func66, Tryz.ntmps66
  go_wp2_with fail
  refine HR.out.mono ?_
  rintro ed w1 ⟨rfl, hb1⟩
  have h1 := HP.out.below hb1
  have c2 := h1.hd.c2
  have hlk := h1.hd.map.there (s := s) (by simp) hn
  have HU := hide (use_any h1.hd)
  have HP1 := hide h1
  have HB1 := hide hb1
  clear h1 hb1
  go_wp2_with fail
  refine HU.out.mono ?_
  rintro ed w2 ⟨rfl, ⟨el2, yo2, hh2⟩, hm2⟩
  have hg2 : Go1 (OwP p e m (u ++ s :: v)) w1 (OwP p e m (u ++ v ++ [s])) w2 := Go1.sub hm2 (owp_sub fun t ht => (mid_perm u v s).mem_iff.1 ht)
  have hp2 := HP1.out.hand hh2 hg2
  have hsm : s ∈ u ++ v ++ [s] := by simp
  obtain ⟨-, -, -, q3, q4⟩ := hh2.fam.c (s := s) (by simp)
  obtain ⟨hown, hle, h8⟩ := hh2.pay s hsm
  obtain ⟨a, cc, hv, hcc, hcm, hna, hrow, -⟩ := hown.shape
  obtain ⟨ln, HLn⟩ : ∃ ln, Hid (ln = s.pl.length) := ⟨_, rfl⟩
  rw [hv] at q4
  have HG2 : Hid (Go1 OO w (fun k => O k ∨ OwP p e m (u ++ v ++ [s]) k) w2) := hide ((Go1.of_below HB1.out).trans (Pl.gone H3.out hg2.right))
  have HP2 := hide hp2
  have HCl := hide (clone_any a s.pl.length cc s.pl w2.drew rfl hna (hrow.below (Below.refl _ _).drew) (by omega))
  rw [← HLn.out] at HCl q4
  have HSt : Hid (∀ W, Below w2.heap.size w2 W → W.cell? ⟨s.b, 3, none⟩ = some (.int .u8 (s.k : Int)) ∧ W.cell? ⟨s.b, 4, none⟩ = some (.slice a ln cc)) := hide fun W hW => ⟨(hW.cell (p := ⟨s.b, 3, none⟩) (lt_of_block (hh2.fam s (by simp)))).trans q3, (hW.cell (p := ⟨s.b, 4, none⟩) (lt_of_block (hh2.fam s (by simp)))).trans q4⟩
  have HWo := hide (wo_mid HP.out.hd.nums)
  clear hm2 hg2 hp2 hsm hown hle h8 hv hcc hcm hna hrow hlk c2 hh2
  go_wp2
  go_region_held3 (fun W => W.cell? ⟨s.b, 3, none⟩ = some (.int .u8 (s.k : Int)) ∧ W.cell? ⟨s.b, 4, none⟩ = some (.slice a ln cc)) ((first | (refine ⟨?_, ?_⟩ <;> assumption) | exact HSt.out _ (Below.refl _ _).drew)) ((first | (go_at_call 76; refine HCl.out.mono ?_; intro r' w3 hh; obtain ⟨cv, rfl, hown3, hnew3, hb3⟩ := hh; have HB3 : Hid (Below w2.heap.size w2 w3) := hide ((Below.refl _ _).drew.trans hb3); have HO3 := hide hown3; have HN3 := hide hnew3; clear q3 q4 hown3 hnew3 hb3; obtain ⟨q3, q4⟩ := HSt.out w3 HB3.out)))
  go_wp2
  go_ret3
  refine ⟨cv, _, rfl, ⟨HO3.out, fun g hg => ?_⟩, ⟨_, _, _, _, _, _, HP2.out.below HB3.out, ?_, fun k => Iff.rfl⟩, HG2.out.trans (Go1.of_below HB3.out)⟩
  · have h2 : w2.heap.size ≤ g := HN3.out g hg
    have h3 := HG2.out.mv.size
    refine ⟨by omega, fun hx => ?_⟩
    rcases hx with hx | hx
    · have := HP2.out.dk.lt g hx; omega
    · have := HP2.out.hd.lt g hx; omega
  · rw [List.map_append, HWo.out]
    rfl
end Go.Proofs.YtlmofgfkclfgeaaGreat
