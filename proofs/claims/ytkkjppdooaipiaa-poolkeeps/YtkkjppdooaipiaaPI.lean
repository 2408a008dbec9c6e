/- A pool's Read. -/
import Derived.Test.YtkkjppdooaipiaaPH
import Derived.Deep.RegionHeld3
namespace Go.Proofs.Ytkkjppdooaipiaa
open Go.RowKit Go.Maps
set_option linter.unusedVariables false
variable {w w' : World} {p d q e m most : Nat} {S S' : DS} {O O' OO : Nat → Prop} {L L' : List Sh} {el yo el' yo' : Nat → Nat} {A : List Pge}

theorem ret_three {v v' : Value} {k k2 : IntKind} {a a' b b' : Int} (h0 : a = a') (h : v = v') (h2 : b = b') : Ending.returned (.tuple #[.int k a, v, .int k2 b]) = .returned (.tuple #[.int k a', v', .int k2 b']) := by rw [h0, h, h2]
/-- bytes that a call made: their owner's, in a block that is new. -/
def Fresh (w w' : World) (OO' : Nat → Prop) (v : Value) (zs : List Int) : Prop := Own w' v zs ∧ (∀ g, v.ownBlock = some g → w.heap.size ≤ g ∧ ¬ OO' g)
theorem Fresh.nil (w w' : World) (OO' : Nat → Prop) : Fresh w w' OO' (.slice none 0 0) [] := ⟨Own.nil _, fun g hg => by simp [Value.ownBlock] at hg⟩
set_option maxHeartbeats 1600000 in
set_option maxRecDepth 1000000 in
theorem read_off (n : Nat) (hn : n < 4294967296) (h : Pl w p d q S most A OO) (hr : ¬ n < S.ls.length / 8) :
    Calls Try.prog 10 #[.pointer (some ⟨p, 0, none⟩), .int .u32 (n : Int)] w fun ed w' => ed = .returned (.tuple #[.int .u8 0, .slice none 0 0, .int .u16 2]) ∧ Below w.heap.size w w' := by
  obtain ⟨O, e, m, L, el, yo, h1, rfl, h3⟩ := h
  have HR := hide (reaches_no n h1 hn hr)
  clear h1 h3 hr
  go_enter Try.func10, Try.ntmps10
  go_wp2_with fail
  refine HR.out.mono ?_
  rintro ed w1 ⟨rfl, hb⟩
  have HB := hide hb
  clear hb
  go_wp2
  go_ret3
  exact ⟨rfl, HB.out⟩
set_option maxHeartbeats 1600000 in
set_option maxRecDepth 1000000 in
theorem read_hand (x : Pge) (hn : x.n < 4294967296) (h : Pl w p d q S most A OO) (hr : x.n < S.ls.length / 8) (hx : x ∈ A) :
    Calls Try.prog 10 #[.pointer (some ⟨p, 0, none⟩), .int .u32 (x.n : Int)] w fun ed w' => ∃ v OO', ed = .returned (.tuple #[.int .u8 (x.k : Int), v, .int .u16 0]) ∧ Fresh w w' OO' v x.pl ∧ Pl w' p d q S most (wo A x.n ++ [x]) OO' ∧ Go1 OO w OO' w' := by
  obtain ⟨O, e, m, L, el, yo, h1, rfl, h3⟩ := h
  obtain ⟨s, hs, rfl⟩ := List.mem_map.1 hx
  obtain ⟨u, v, rfl⟩ := List.append_of_mem hs
  have HR := hide (reaches_yes s.n h1 hn hr)
  have HP := hide h1
  have H3 := hide h3
  clear h1 h3 hr hx hs
  show Calls Try.prog 10 #[.pointer (some ⟨p, 0, none⟩), .int .u32 (s.n : Int)] w fun ed w' => ∃ v_1 OO', ed = .returned (.tuple #[.int .u8 (s.k : Int), v_1, .int .u16 0]) ∧ Fresh w w' OO' v_1 s.pl ∧ Pl w' p d q S most (wo ((u ++ s :: v).map Sh.pg) s.n ++ [s.pg]) OO' ∧ Go1 OO w OO' w'
  go_enter Try.func10, Try.ntmps10
  go_wp2_with fail
  refine HR.out.mono ?_
  rintro ed w1 ⟨rfl, hb1⟩
  have h1 := HP.out.below hb1
  have c2 := h1.hd.c2
  have hlk := h1.hd.map.there (s := s) (by simp) hn
  have HU := hide (use_any h1.hd)
  have HP1 := hide h1
  have HB1 := hide hb1
  clear h1 hb1
  go_wp2_with fail
  refine HU.out.mono ?_
  rintro ed w2 ⟨rfl, ⟨el2, yo2, hh2⟩, hm2⟩
  have hg2 : Go1 (OwP p e m (u ++ s :: v)) w1 (OwP p e m (u ++ v ++ [s])) w2 := Go1.sub hm2 (owp_sub fun t ht => (mid_perm u v s).mem_iff.1 ht)
  have hp2 := HP1.out.hand hh2 hg2
  have hsm : s ∈ u ++ v ++ [s] := by simp
  obtain ⟨-, -, -, q3, q4⟩ := hh2.fam.c (s := s) (by simp)
  obtain ⟨hown, hle, h8⟩ := hh2.pay s hsm
  obtain ⟨a, cc, hv, hcc, hcm, hna, hrow, -⟩ := hown.shape
  obtain ⟨ln, HLn⟩ : ∃ ln, Hid (ln = s.pl.length) := ⟨_, rfl⟩
  rw [hv] at q4
  have HG2 : Hid (Go1 OO w (fun k => O k ∨ OwP p e m (u ++ v ++ [s]) k) w2) := hide ((Go1.of_below HB1.out).trans (Pl.gone H3.out hg2.right))
  have HP2 := hide hp2
  have HCl := hide (clone_any a s.pl.length cc s.pl w2.drew rfl hna (hrow.below (Below.refl _ _).drew) (by omega))
  rw [← HLn.out] at HCl q4
  have HSt : Hid (∀ W, Below w2.heap.size w2 W → W.cell? ⟨s.b, 3, none⟩ = some (.int .u8 (s.k : Int)) ∧ W.cell? ⟨s.b, 4, none⟩ = some (.slice a ln cc)) := hide fun W hW => ⟨(hW.cell (p := ⟨s.b, 3, none⟩) (lt_of_block (hh2.fam s (by simp)))).trans q3, (hW.cell (p := ⟨s.b, 4, none⟩) (lt_of_block (hh2.fam s (by simp)))).trans q4⟩
  have HWo := hide (wo_mid HP.out.hd.nums)
  clear hm2 hg2 hp2 hsm hown hle h8 hv hcc hcm hna hrow hlk c2 hh2
  go_wp2
  go_region_held3 (fun W => W.cell? ⟨s.b, 3, none⟩ = some (.int .u8 (s.k : Int)) ∧ W.cell? ⟨s.b, 4, none⟩ = some (.slice a ln cc)) ((first | (refine ⟨?_, ?_⟩ <;> assumption) | exact HSt.out _ (Below.refl _ _).drew)) ((first | (go_at_call 23; refine HCl.out.mono ?_; intro r' w3 hh; obtain ⟨cv, rfl, hown3, hnew3, hb3⟩ := hh; have HB3 : Hid (Below w2.heap.size w2 w3) := hide ((Below.refl _ _).drew.trans hb3); have HO3 := hide hown3; have HN3 := hide hnew3; clear q3 q4 hown3 hnew3 hb3; obtain ⟨q3, q4⟩ := HSt.out w3 HB3.out)))
  go_wp2
  go_ret3
  refine ⟨cv, _, rfl, ⟨HO3.out, fun g hg => ?_⟩, ⟨_, _, _, _, _, _, HP2.out.below HB3.out, ?_, fun k => Iff.rfl⟩, HG2.out.trans (Go1.of_below HB3.out)⟩
  · have h2 : w2.heap.size ≤ g := HN3.out g hg
    have h3 := HG2.out.mv.size
    refine ⟨by omega, fun hx => ?_⟩
    rcases hx with hx | hx
    · have := HP2.out.dk.lt g hx; omega
    · have := HP2.out.hd.lt g hx; omega
  · rw [List.map_append, HWo.out]
    rfl
end Go.Proofs.Ytkkjppdooaipiaa
