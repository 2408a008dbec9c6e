/- A pool: does it reach a page, how many are at hand, is one; one is let go; a sync. -/
import Derived.Test.YtkkjppdooaipiaaPG
namespace Go.Proofs.Ytkkjppdooaipiaa
open Go.RowKit Go.Maps
set_option linter.unusedVariables false
variable {w w' : World} {p d q e m most : Nat} {S S' : DS} {O O' OO : Nat → Prop} {L L' : List Sh} {el yo el' yo' : Nat → Nat} {A : List Pge}

theorem Pi.pages (h : Pi w p d q S O e m most L el yo) : Calls Try.prog 33 #[.pointer (some ⟨d, 0, none⟩)] w fun ed w' => ed = .returned (.int .i64 ((S.ls.length / 8 : Nat) : Int)) ∧ Below w.heap.size w w' := by
  obtain ⟨vw, mm, hd, ho⟩ := h.dk
  exact pages_any d q S.ls.length w (hd.c 0 _ rfl) hd.good.most
theorem Pi.good (h : Pi w p d q S O e m most L el yo) : S.Good := by
  obtain ⟨vw, mm, hd, ho⟩ := h.dk
  exact hd.good
set_option maxHeartbeats 1600000 in
set_option maxRecDepth 1000000 in
theorem reaches_yes (n : Nat) (h : Pi w p d q S O e m most L el yo) (hn : n < 4294967296) (hr : n < S.ls.length / 8) :
    Calls Try.prog 21 #[.pointer (some ⟨p, 0, none⟩), .int .u32 (n : Int)] w fun ed w' => ed = .returned (.bool true) ∧ Below w.heap.size w w' := by
  have HP := hide h.pages
  have c0 := h.hd.c0
  have hm := h.good.most
  obtain ⟨pg, HPg⟩ : ∃ pg, Hid (pg = S.ls.length / 8) := ⟨_, rfl⟩
  have hb : pg ≤ 131072 := by rw [HPg.out]; omega
  rw [← HPg.out] at HP hr
  clear h hm
  have hd1 : decide ((n : Int) < (pg : Int)) = true := by simp; omega
  go_enter Try.func21, Try.ntmps21
  go_wp2_with fail
  refine HP.out.mono ?_
  rintro ed w1 ⟨rfl, hb1⟩
  have HB := hide hb1
  clear hb1
  go_wp2
  go_ret
  exact ⟨rfl, HB.out⟩
set_option maxHeartbeats 1600000 in
set_option maxRecDepth 1000000 in
theorem reaches_no (n : Nat) (h : Pi w p d q S O e m most L el yo) (hn : n < 4294967296) (hr : ¬ n < S.ls.length / 8) :
    Calls Try.prog 21 #[.pointer (some ⟨p, 0, none⟩), .int .u32 (n : Int)] w fun ed w' => ed = .returned (.bool false) ∧ Below w.heap.size w w' := by
  have HP := hide h.pages
  have c0 := h.hd.c0
  have hm := h.good.most
  obtain ⟨pg, HPg⟩ : ∃ pg, Hid (pg = S.ls.length / 8) := ⟨_, rfl⟩
  have hb : pg ≤ 131072 := by rw [HPg.out]; omega
  rw [← HPg.out] at HP hr
  clear h hm
  have hd1 : decide ((n : Int) < (pg : Int)) = false := by simp; omega
  go_enter Try.func21, Try.ntmps21
  go_wp2_with fail
  refine HP.out.mono ?_
  rintro ed w1 ⟨rfl, hb1⟩
  have HB := hide hb1
  clear hb1
  go_wp2
  go_ret
  exact ⟨rfl, HB.out⟩
set_option maxHeartbeats 1600000 in
set_option maxRecDepth 1000000 in
theorem plen_any (h : Pl w p d q S most A OO) :
    Calls Try.prog 15 #[.pointer (some ⟨p, 0, none⟩)] w fun ed w' => ed = .returned (.int .i64 (A.length : Int)) ∧ Below w.heap.size w w' := by
  obtain ⟨O, e, m, L, el, yo, h1, rfl, h3⟩ := h
  have c2 := h1.hd.c2
  have hl := h1.hd.map.len
  rw [List.length_map]
  obtain ⟨n, HN⟩ : ∃ n, Hid (n = L.length) := ⟨_, rfl⟩
  rw [← HN.out] at hl ⊢
  clear h1 h3
  go_enter Try.func15, Try.ntmps15
  go_wp2
  go_ret
  exact ⟨rfl, Below.refl _ _⟩
set_option maxHeartbeats 1600000 in
set_option maxRecDepth 1000000 in
theorem phas_any (n : Nat) (hn : n < 4294967296) (h : Pl w p d q S most A OO) :
    Calls Try.prog 17 #[.pointer (some ⟨p, 0, none⟩), .int .u32 (n : Int)] w fun ed w' => ed = .returned (.bool (decide (n ∈ A.map Pge.n))) ∧ Below w.heap.size w w' := by
  obtain ⟨O, e, m, L, el, yo, h1, rfl, h3⟩ := h
  have c2 := h1.hd.c2
  have em : (L.map Sh.pg).map Pge.n = L.map Sh.n := by rw [List.map_map]; rfl
  rw [em]
  by_cases hin : n ∈ L.map Sh.n
  · rw [decide_eq_true hin]
    obtain ⟨u, s, v, rfl, rfl⟩ := mid_of hin
    have hlk := h1.hd.map.there (s := s) (by simp) hn
    clear h1 h3 em hin
    go_enter Try.func17, Try.ntmps17
    go_wp2
    go_ret
    exact ⟨rfl, Below.refl _ _⟩
  · rw [decide_eq_false hin]
    have hlk := h1.hd.map.not hin hn
    clear h1 h3 em hin
    go_enter Try.func17, Try.ntmps17
    go_wp2
    go_ret
    exact ⟨rfl, Below.refl _ _⟩
theorem Pl.gone {OO' : Nat → Prop} (h3 : ∀ k, OO k ↔ O k ∨ OwP p e m L k) (h4 : Go1 (fun k => O k ∨ OwP p e m L k) w OO' w') : Go1 OO w OO' w' := ⟨h4.mv.mono fun k hk => (h3 k).2 hk, fun k hk => (h4.own k hk).elim (fun x => .inl ((h3 k).2 x)) .inr⟩
theorem owp_sub (hs : ∀ s ∈ L', s ∈ L) (k : Nat) (hk : OwP p e m L' k) : OwP p e m L k := by
  rcases hk with h | h | h | ⟨t, ht, h⟩
  · exact .inl h
  · exact .inr (.inl h)
  · exact .inr (.inr (.inl h))
  · exact .inr (.inr (.inr ⟨t, hs t ht, h⟩))
set_option maxHeartbeats 1600000 in
set_option maxRecDepth 1000000 in
theorem forget_any (n : Nat) (hn : n < 4294967296) (h : Pl w p d q S most A OO) :
    Calls Try.prog 13 #[.pointer (some ⟨p, 0, none⟩), .int .u32 (n : Int)] w fun ed w' => ed = .returned (.tuple #[]) ∧ ∃ OO', Pl w' p d q S most (wo A n) OO' ∧ Go1 OO w OO' w' := by
  obtain ⟨O, e, m, L, el, yo, h1, rfl, h3⟩ := h
  have HD := hide (drop_any n h1.hd hn)
  have HP := hide h1
  have H3 := hide h3
  clear h1 h3
  go_enter Try.func13, Try.ntmps13
  go_wp2_with fail
  refine HD.out.mono ?_
  rintro ed w1 ⟨rfl, L1, el1, yo1, hh, hL, hs, hm⟩
  have hg : Go1 (OwP p e m L) w (OwP p e m L1) w1 := Go1.sub hm (owp_sub hs)
  have HPi := hide (HP.out.hand hh hg)
  have HG := hide (Pl.gone H3.out hg.right)
  have HL := hide hL
  clear hh hL hs hm hg
  go_wp2
  go_end0
  exact ⟨rfl, _, ⟨_, _, _, _, _, _, HPi.out, HL.out, fun k => Iff.rfl⟩, HG.out⟩
set_option maxHeartbeats 1600000 in
set_option maxRecDepth 1000000 in
theorem psync_any (h : Pl w p d q S most A OO) (hn : S.n3 + 1 ≤ 1000000) :
    Calls Try.prog 14 #[.pointer (some ⟨p, 0, none⟩)] w fun ed w' => ed = .returned (.int .u16 (S.er S.s3 S.l3 : Int)) ∧ ∃ OO', Pl w' p d q S.sy most A OO' ∧ Go1 OO w OO' w' := by
  obtain ⟨O, e, m, L, el, yo, h1, rfl, h3⟩ := h
  have HD := hide (sync_any d q O S w h1.dk hn)
  obtain ⟨r, HR⟩ : ∃ r, Hid (r = S.er S.s3 S.l3) := ⟨_, rfl⟩
  rw [← HR.out] at HD ⊢
  have c0 := h1.hd.c0
  have HP := hide h1
  have H3 := hide h3
  clear h1 h3
  go_enter Try.func14, Try.ntmps14
  go_wp2_with fail
  refine HD.out.mono ?_
  rintro ed w1 ⟨rfl, O1, hd1, hg1⟩
  have HPi := hide (HP.out.disk hd1 hg1)
  have HG := hide (Pl.gone H3.out (hg1.left (P := OwP p e m L)))
  clear hd1 hg1
  go_wp2
  go_ret
  exact ⟨rfl, _, ⟨_, _, _, _, _, _, HPi.out, rfl, fun k => Iff.rfl⟩, HG.out⟩
end Go.Proofs.Ytkkjppdooaipiaa
