/- Sync and Cut. -/
import Derived.Test.YtkkjppdooaipiaaDL
namespace Go.Proofs.Ytkkjppdooaipiaa
open Go.RowKit Go.Maps
set_option linter.unusedVariables false

set_option maxHeartbeats 800000 in
set_option maxRecDepth 1000000 in
theorem sync1_any (p q : Nat) (vw : Value) (m : Option Nat) (S : DS) (k0 : Nat) (w : World) (h : Dk w p q vw m S) (c0 : w.cell? ⟨k0, 0, none⟩ = some (.pointer (some ⟨p, 0, none⟩))) :
    Calls Try.prog 52 #[.pointer (some ⟨k0, 0, none⟩)] w fun e w' => e = .returned (.int .u16 0) ∧ Dk w' p q (.slice none 0 0) none (S.set yes) ∧ Mv (Ow p q vw m) w w' := by
  have HS := hide (settle_all p q vw m S w h)
  clear h
  go_enter Try.func52, Try.ntmps52
  go_wp2_with fail
  refine HS.out.mono ?_
  rintro e w1 ⟨rfl, hh⟩
  have HH := hide hh
  clear hh
  go_wp2
  go_ret
  exact ⟨rfl, HH.out⟩

/-- a disk behind a sync. -/
def DS.sy (S : DS) : DS := if S.er S.s3 S.l3 = 0 then S.op3.set yes else S.be S.op3
theorem Go1.ofO {O O' : Nat → Prop} {P P' : Nat → Prop} {w w' : World} (h : Go1 P w P' w') (hO : ∀ k, O k ↔ P k) (hO' : ∀ k, O' k ↔ P' k) : Go1 O w O' w' :=
  ⟨⟨h.mv.os, h.mv.tape, h.mv.output, h.mv.size, fun k hk hn => h.mv.block k hk (fun e => hn ((hO k).2 e))⟩, fun k hk => (h.own k ((hO' k).1 hk)).imp (hO k).2 id⟩
theorem Ow_less (p q : Nat) (vw : Value) (m : Option Nat) (k : Nat) (h : Ow p q (.slice none 0 0) none k) : Ow p q vw m k := by
  rcases h with h | h | h | h
  · exact .inl h
  · exact .inr (.inl h)
  · simp [Value.ownBlock] at h
  · cases h

set_option maxHeartbeats 800000 in
set_option maxRecDepth 1000000 in
theorem sync_any (p q : Nat) (O : Nat → Prop) (S : DS) (w : World) (h : DkAt w p q S O) (hn : S.n3 + 1 ≤ 1000000) :
    Calls Try.prog 30 #[.pointer (some ⟨p, 0, none⟩)] w fun e w' => e = .returned (.int .u16 (S.er S.s3 S.l3 : Int)) ∧ ∃ O', DkAt w' p q S.sy O' ∧ Go1 O w O' w' := by
  obtain ⟨vw, m, hd, ho⟩ := h
  have hlt : ∀ k, Ow p q vw m k → k < w.heap.size := hd.lt
  have nO : ¬ Ow p q vw m w.heap.size := fun h => by have := hlt _ h; omega
  have hb := below_alloc w (.cells #[.pointer (some ⟨p, 0, none⟩)] 25)
  have c0 := cell_new w (.pointer (some ⟨p, 0, none⟩)) 25
  have HOp := hide (operate3 p q vw m S (w.alloc (.cells #[.pointer (some ⟨p, 0, none⟩)] 25)) (.pointer (some ⟨w.heap.size, 0, none⟩))
    (fun x w' => x = (S.er S.s3 S.l3 : Int) ∧ ∃ O', DkAt w' p q S.sy O' ∧ Go1 O w O' w') (hd.below hb) hn
    (fun he W hdW hm hs => by
      have hg0 : Go1 (Ow p q vw m) w (Ow p q vw m) W := (Go1.of_below hb).trans (Go1.of_mv hm (.inl rfl))
      have hm' : Mv (Ow p q vw m) (w.alloc (.cells #[.pointer (some ⟨p, 0, none⟩)] 25)) W := (Go1.of_mv hm (.inl rfl)).mv
      refine (sync1_any p q vw m S.op3 w.heap.size W hdW (hm'.cell c0 nO)).mono ?_
      rintro e w' ⟨rfl, hd', hg'⟩
      refine ⟨0, rfl, by rw [he]; rfl, Ow p q (.slice none 0 0) none, ⟨_, _, by rw [DS.sy, if_pos he]; exact hd', fun _ => Iff.rfl⟩, ?_⟩
      exact Go1.ofO (hg0.trans ⟨hg', fun k hk => .inl (Ow_less p q vw m k hk)⟩) ho (fun _ => Iff.rfl))
    (fun he W hdW hm hs => by
      have hg0 : Go1 (Ow p q vw m) w (Ow p q vw m) W := (Go1.of_below hb).trans (Go1.of_mv hm (.inl rfl))
      exact ⟨rfl, Ow p q vw m, ⟨vw, m, by rw [DS.sy, if_neg he]; exact hdW, fun _ => Iff.rfl⟩, Go1.ofO hg0 ho (fun _ => Iff.rfl)⟩))
  clear hd ho hlt nO hb
  have hmf' := hmf
  go_enter Try.func30, Try.ntmps30
  go_wp2_with fail
  refine HOp.out.mono ?_
  rintro e w' ⟨x, rfl, rfl, hh⟩
  have HH := hide hh
  clear hh
  go_wp2
  go_ret
  exact ⟨rfl, HH.out⟩

/-- cells of a block, one after the other. -/
def sets (w : World) (p : Nat) : List (Nat × Value) → World
  | [] => w
  | x :: r => sets (w.setCell ⟨p, x.1, none⟩ x.2) p r
theorem sets_blk (p : Nat) (t : TypeId) : ∀ (l : List (Nat × Value)) (w : World) (C : Array Value), w.heap[p]? = some (.cells C t (0, 0)) → (sets w p l).heap[p]? = some (.cells (l.foldl (fun C x => C.setIfInBounds x.1 x.2) C) t (0, 0))
  | [], w, C, h => h
  | x :: r, w, C, h => sets_blk p t r _ _ (heap_setCell_same w p x.1 _ t _ h)
theorem sets_other (p k : Nat) (hk : k ≠ p) : ∀ (l : List (Nat × Value)) (w : World), (sets w p l).heap[k]? = w.heap[k]?
  | [], w => rfl
  | x :: r, w => (sets_other p k hk r _).trans (set_other w p x.1 x.2 k hk)
theorem sets_mv (p : Nat) : ∀ (l : List (Nat × Value)) (w : World), Mv (· = p) w (sets w p l)
  | [], w => Mv.refl _ _
  | x :: r, w => (mv_set w p x.1 x.2).trans' (sets_mv p r _)
/-- a disk behind a cut. -/
def DS.cut (S : DS) (bs : List Bool) : DS := { S.set (kp bs) with dk := false, ts := false, tl := 0, s1 := false, l1 := 0, s2 := false, l2 := 0, s3 := false, l3 := 0 }
theorem Cd0 : Cd false 0 := ⟨Int.le_refl _, by decide⟩
theorem DS.Good.cut {S : DS} (h : S.Good) (bs : List Bool) : (S.cut bs).Good :=
  ⟨(h.set (kp bs)).ls, (h.set (kp bs)).ws, (h.set (kp bs)).most, (h.set (kp bs)).few, Cd0, Cd0, Cd0, Cd0, h.n1, h.n2, h.n3⟩
set_option maxHeartbeats 1600000 in
set_option maxRecDepth 1000000 in
theorem cut_any (p q : Nat) (O : Nat → Prop) (S : DS) (ka : Option Addr) (kc : Nat) (bs : List Bool) (w : World) (h : DkAt w p q S O) (hbr : BRow w ka bs) (hka : bs ≠ [] → ∀ ad, ka = some ad → ¬ O ad.block) (hkl : bs ≠ [] → ∀ ad, ka = some ad → ad.block < w.heap.size) (hbl : bs.length ≤ 9223372036854775807) :
    Calls Try.prog 19 #[.pointer (some ⟨p, 0, none⟩), .slice ka bs.length kc] w fun e w' => e = .returned (.tuple #[]) ∧ ∃ O', DkAt w' p q (S.cut bs) O' ∧ Go1 O w O' w' := by
  obtain ⟨vw, m, hd, ho⟩ := h
  have hlt : ∀ k, Ow p q vw m k → k < w.heap.size := hd.lt
  have nO : ¬ Ow p q vw m w.heap.size := fun h => by have := hlt _ h; omega
  have hb := below_alloc w (.cells #[.slice ka bs.length kc] 35)
  have c0 := cell_new w (.slice ka bs.length kc) 35
  have HS := hide (settle_some p q vw m S w.heap.size ka kc bs (w.alloc (.cells #[.slice ka bs.length kc] 35)) (hd.below hb) c0 nO (hbr.below hb hkl) (fun h0 ad e h => hka h0 ad e ((ho _).2 h)) hbl)
  have HGd := hide hd.good
  have HO := hide ho
  have HB := hide hb
  clear hd ho hlt nO hb c0 hbr hka hkl
  have hmf' := hmf
  have hbd96 : ∀ W, (Instr.build 62 #[]).run Try.prog W = .ok (.agg #[.bool false, .int .i64 0]) W := fun W => run_build W 62 #[] _ (by kernel_rfl)
  have hbd97 : ∀ W, (Instr.build 63 #[]).run Try.prog W = .ok (.agg #[.bool false, .int .i64 0, .bool false, .int .i64 0, .bool false, .int .i64 0, .bool false, .int .i64 0]) W := fun W => run_build W 63 #[] _ (by kernel_rfl)
  have HFi : Hid (∀ w1, Dk w1 p q (.slice none 0 0) none (S.set (kp bs)) → Mv (Ow p q vw m) (w.alloc (.cells #[.slice ka bs.length kc] 35)) w1 → ∃ O', DkAt (sets w1 p [(3, .bool false), (4, .bool false), (5, .int .i64 0), (6, .bool false), (7, .int .i64 0), (8, .bool false), (9, .int .i64 0), (10, .bool false), (11, .int .i64 0), (12, .bool false), (13, .int .i64 0)]) p q (S.cut bs) O' ∧ Go1 O w O' (sets w1 p [(3, .bool false), (4, .bool false), (5, .int .i64 0), (6, .bool false), (7, .int .i64 0), (8, .bool false), (9, .int .i64 0), (10, .bool false), (11, .int .i64 0), (12, .bool false), (13, .int .i64 0)])) := fun w1 hd1 hm1 => by
    refine ⟨Ow p q (.slice none 0 0) none, ⟨_, _, hd1.fields (S' := S.cut bs) rfl rfl (HGd.out.cut bs) ?_ (fun k hk => sets_other p k hk _ w1), fun _ => Iff.rfl⟩, ?_⟩
    · rw [sets_blk p 66 _ w1 _ hd1.blk]
      simp only [List.foldl_cons, List.foldl_nil, cells, List.setIfInBounds_toArray, List.set_cons_succ, List.set_cons_zero, DS.cut]
    · exact Go1.ofO (((Go1.of_below HB.out).trans ⟨hm1, fun k hk => .inl (Ow_less p q vw m k hk)⟩).trans (Go1.of_mv (O := Ow p q (.slice none 0 0) none) (sets_mv p _ w1) (.inl rfl))) HO.out (fun _ => Iff.rfl)
  go_enter Try.func19, Try.ntmps19
  go_wp2_with fail
  refine HS.out.mono ?_
  rintro e w1 ⟨rfl, hd1, hm1⟩
  have HD1 := hide hd1
  have HM1 := hide hm1
  have c3 := hd1.c 3 _ rfl
  have c4 := hd1.c 4 _ rfl
  have c5 := hd1.c 5 _ rfl
  have c6 := hd1.c 6 _ rfl
  have c7 := hd1.c 7 _ rfl
  have c8 := hd1.c 8 _ rfl
  have c9 := hd1.c 9 _ rfl
  have c10 := hd1.c 10 _ rfl
  have c11 := hd1.c 11 _ rfl
  have c12 := hd1.c 12 _ rfl
  have c13 := hd1.c 13 _ rfl
  have f3 := hd1.f 3
  have f4 := hd1.f 4
  have f5 := hd1.f 5
  have f6 := hd1.f 6
  have f7 := hd1.f 7
  have f8 := hd1.f 8
  have f9 := hd1.f 9
  have f10 := hd1.f 10
  have f11 := hd1.f 11
  have f12 := hd1.f 12
  have f13 := hd1.f 13
  clear hd1 hm1
  go_wp2
  go_end0
  exact ⟨rfl, HFi.out w1 HD1.out HM1.out⟩
end Go.Proofs.Ytkkjppdooaipiaa
