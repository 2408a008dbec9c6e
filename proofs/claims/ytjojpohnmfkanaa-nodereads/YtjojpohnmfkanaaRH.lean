/- The reader of a value, of any bytes. -/
import Derived.Test.YtjojpohnmfkanaaRF
namespace Go.Proofs.Ytjojpohnmfkanaa
open Go.RowKit
set_option linter.unusedVariables false

theorem Two.refl (p q : Nat) (w : World) : Two p q w w := ⟨rfl, rfl, rfl, Nat.le_refl _, fun _ _ _ _ => rfl⟩
set_option maxHeartbeats 1600000 in
set_option maxRecDepth 1000000 in
theorem rvalue_nil (p q : Nat) (w : World) (h : Rdr w p []) :
    Calls Try.prog 73 #[.pointer (some ⟨p, 0, none⟩), .pointer (some ⟨q, 0, none⟩)] w fun e w' => e = .panicked flt ∧ Two p q w w' := by
  have HN := hide (num_no p 1 [] w (by simp) (by omega) h)
  clear h
  go_enter Try.func73, Try.ntmps73
  go_wp2_with fail
  refine HN.out.mono ?_
  rintro e w1 ⟨rfl, hg⟩
  exact ⟨rfl, rfl, Two.of_grown hg⟩
set_option maxHeartbeats 1600000 in
set_option maxRecDepth 1000000 in
theorem rvalue_short (p q m : Nat) (r : List Int) (w : World) (hm : m < 255) (hr : r.length < m) (h : Rdr w p ((m : Int) :: r)) :
    Calls Try.prog 73 #[.pointer (some ⟨p, 0, none⟩), .pointer (some ⟨q, 0, none⟩)] w fun e w' => e = .panicked flt ∧ Two p q w w' := by
  have HN := hide (num_ok p 1 [(m : Int)] r w rfl (by omega) (by simpa using h) (by intro c hc; simp at hc; omega))
  rw [leV_one1 _ (by omega)] at HN
  clear h
  have hne : ((m : Int) != 255) = true := by simp; omega
  go_enter Try.func73, Try.ntmps73
  go_wp2_with fail
  refine HN.out.mono ?_
  rintro e w1 ⟨rfl, hrd, hg⟩
  have HT := hide (take_no p m r w1 hr (by omega) hrd)
  have HG := hide hg
  clear hrd hg
  go_wp2_with fail
  refine HT.out.mono ?_
  rintro e w2 ⟨rfl, hg2⟩
  exact ⟨rfl, rfl, (Two.of_grown HG.out).trans (Two.of_grown hg2)⟩
set_option maxHeartbeats 1600000 in
set_option maxRecDepth 1000000 in
theorem rvalue_g1 (p q : Nat) (r : List Int) (w : World) (hr : r.length < 4) (h : Rdr w p (255 :: r)) :
    Calls Try.prog 73 #[.pointer (some ⟨p, 0, none⟩), .pointer (some ⟨q, 0, none⟩)] w fun e w' => e = .panicked flt ∧ Two p q w w' := by
  have HN := hide (num_ok p 1 [(255 : Int)] r w rfl (by omega) (by simpa using h) (by intro c hc; simp at hc; omega))
  rw [leV_one1 _ (by omega)] at HN
  clear h
  go_enter Try.func73, Try.ntmps73
  go_wp2_with fail
  refine HN.out.mono ?_
  rintro e w1 ⟨rfl, hrd, hg⟩
  have HT := hide (num_no p 4 r w1 hr (by omega) hrd)
  have HG := hide hg
  clear hrd hg
  go_wp2_with fail
  refine HT.out.mono ?_
  rintro e w2 ⟨rfl, hg2⟩
  exact ⟨rfl, rfl, (Two.of_grown HG.out).trans (Two.of_grown hg2)⟩
theorem cells_fourN {w : World} {q t : Nat} {a b c d : Value} (h : w.heap[q]? = some (.cells #[a, b, c, d] t (0, 0))) : w.cell? ⟨q, 0, none⟩ = some a ∧ w.cell? ⟨q, 1, none⟩ = some b ∧ w.cell? ⟨q, 2, none⟩ = some c ∧ w.cell? ⟨q, 3, none⟩ = some d := by
  refine ⟨by simp [World.cell?, h], by simp [World.cell?, h], by simp [World.cell?, h], by simp [World.cell?, h]⟩
set_option maxHeartbeats 1600000 in
set_option maxRecDepth 1000000 in
theorem rvalue_g2 (p q : Nat) (xs r : List Int) (ka : Option Addr) (kn kc : Nat) (w : World) (hx : xs.length = 4) (h8 : Byts xs) (hr : r.length < 4) (h : Rdr w p (255 :: (xs ++ r))) (hq : w.heap[q]? = some (.cells #[.slice ka kn kc, .slice none 0 0, .int .u32 0, .int .u32 0] 68 (0, 0))) (hpq : q ≠ p) :
    Calls Try.prog 73 #[.pointer (some ⟨p, 0, none⟩), .pointer (some ⟨q, 0, none⟩)] w fun e w' => e = .panicked flt ∧ Two p q w w' := by
  have HN := hide (num_ok p 1 [(255 : Int)] (xs ++ r) w rfl (by omega) (by simpa using h) (by intro c hc; simp at hc; omega))
  rw [leV_one1 _ (by omega)] at HN
  have HQ := hide hq
  clear h hq
  go_enter Try.func73, Try.ntmps73
  go_wp2_with fail
  refine HN.out.mono ?_
  rintro e w1 ⟨rfl, hrd, hg⟩
  have HT := hide (num_ok p 4 xs r w1 hx (by omega) hrd h8)
  have HG := hide hg
  have HQ1 := hide ((hg.block _ (lt_of_block HQ.out) (by simpa using hpq)).trans HQ.out)
  clear hrd hg
  go_wp2_with fail
  refine HT.out.mono ?_
  rintro e w2 ⟨rfl, hrd2, hg2⟩
  have HQ2 := hide ((hg2.block _ (lt_of_block HQ1.out) (by simpa using hpq)).trans HQ1.out)
  obtain ⟨g0, g1, g2, g3⟩ := cells_fourN HQ2.out
  have gf3 := frozen_blk (j := 3) HQ2.out
  have HG2 := hide hg2
  have HT2 := hide (num_no p 4 r _ hr (by omega) (hrd2.set_entry (j := 3) (u := .int .u32 ((Crc.leV xs : Nat) : Int)) HQ2.out hpq))
  clear hrd2 hg2
  go_wp2_with fail
  refine HT2.out.mono ?_
  rintro e w3 ⟨rfl, hg3⟩
  exact ⟨rfl, rfl, ((Two.of_grown HG.out).trans (Two.of_grown HG2.out)).trans ((Two.set w2 3 _).trans (Two.of_grown hg3))⟩
set_option maxHeartbeats 1600000 in
set_option maxRecDepth 1000000 in
theorem rvalue_g3 (p q : Nat) (xs ys r : List Int) (ka : Option Addr) (key : List Int) (kc : Nat) (w : World) (hx : xs.length = 4) (h8 : Byts xs) (hy : ys.length = 4) (hy8 : Byts ys) (h : Rdr w p (255 :: (xs ++ (ys ++ r)))) (hq : w.heap[q]? = some (.cells #[.slice ka key.length kc, .slice none 0 0, .int .u32 0, .int .u32 0] 68 (0, 0))) (hpq : q ≠ p) :
    Calls Try.prog 73 #[.pointer (some ⟨p, 0, none⟩), .pointer (some ⟨q, 0, none⟩)] w fun e w' => Two p q w w' ∧ if (⟨[], [], Crc.leV ys, Crc.leV xs⟩ : Ee).great = true then e = .returned (.tuple #[]) ∧ w'.heap[q]? = some (.cells #[.slice ka key.length kc, .slice none 0 0, .int .u32 ((Crc.leV ys : Nat) : Int), .int .u32 ((Crc.leV xs : Nat) : Int)] 68 (0, 0)) ∧ Rdr w' p r else e = .panicked flt := by
  have HN := hide (num_ok p 1 [(255 : Int)] (xs ++ (ys ++ r)) w rfl (by omega) (by simpa using h) (by intro c hc; simp at hc; omega))
  rw [leV_one1 _ (by omega)] at HN
  have HQ := hide hq
  clear h hq
  have hgr : (⟨[], [], Crc.leV ys, Crc.leV xs⟩ : Ee).great = (⟨key, [], Crc.leV ys, Crc.leV xs⟩ : Ee).great := rfl
  rw [hgr]
  obtain ⟨gb, hgb⟩ : ∃ gb, gb = (⟨key, [], Crc.leV ys, Crc.leV xs⟩ : Ee).great := ⟨_, rfl⟩
  rw [← hgb]
  have HGb := hide hgb
  clear hgr hgb
  go_enter Try.func73, Try.ntmps73
  go_wp2_with fail
  refine HN.out.mono ?_
  rintro e w1 ⟨rfl, hrd, hg⟩
  have HT := hide (num_ok p 4 xs (ys ++ r) w1 hx (by omega) hrd h8)
  have HG := hide hg
  have HQ1 := hide ((hg.block _ (lt_of_block HQ.out) (by simpa using hpq)).trans HQ.out)
  clear hrd hg
  go_wp2_with fail
  refine HT.out.mono ?_
  rintro e w2 ⟨rfl, hrd2, hg2⟩
  have HQ2 := hide ((hg2.block _ (lt_of_block HQ1.out) (by simpa using hpq)).trans HQ1.out)
  obtain ⟨g0, g1, g2, g3⟩ := cells_fourN HQ2.out
  have gf3 := frozen_blk (j := 3) HQ2.out
  have HG2 := hide hg2
  have HT2 := hide (num_ok p 4 ys r _ hy (by omega) (hrd2.set_entry (j := 3) (u := .int .u32 ((Crc.leV xs : Nat) : Int)) HQ2.out hpq) hy8)
  have hq3 : (w2.setCell ⟨q, 3, none⟩ (.int .u32 ((Crc.leV xs : Nat) : Int))).heap[q]? = some (.cells #[.slice ka key.length kc, .slice none 0 0, .int .u32 0, .int .u32 ((Crc.leV xs : Nat) : Int)] 68 (0, 0)) := by rw [heap_setCell_same _ q 3 _ 68 _ HQ2.out]; rfl
  have HQ3 := hide hq3
  clear hrd2 hg2 hq3
  go_wp2_with fail
  refine HT2.out.mono ?_
  rintro e w3 ⟨rfl, hrd3, hg3⟩
  have HQ4 := hide ((hg3.block _ (lt_of_block HQ3.out) (by simpa using hpq)).trans HQ3.out)
  clear g0 g1 g2 g3 gf3
  obtain ⟨g0, g1, g2, g3⟩ := cells_fourN HQ4.out
  have gf2 := frozen_blk (j := 2) HQ4.out
  have hq5 : (w3.setCell ⟨q, 2, none⟩ (.int .u32 ((Crc.leV ys : Nat) : Int))).heap[q]? = some (.cells #[.slice ka key.length kc, .slice none 0 0, .int .u32 ((Crc.leV ys : Nat) : Int), .int .u32 ((Crc.leV xs : Nat) : Int)] 68 (0, 0)) := by rw [heap_setCell_same _ q 2 _ 68 _ HQ4.out]; rfl
  have HQ5 := hide hq5
  have HR5 := hide (hrd3.set_entry (j := 2) (u := .int .u32 ((Crc.leV ys : Nat) : Int)) HQ4.out hpq)
  have HT5 : Hid (Two p q w (w3.setCell ⟨q, 2, none⟩ (.int .u32 ((Crc.leV ys : Nat) : Int)))) := (((Two.of_grown HG.out).trans (Two.of_grown HG2.out)).trans ((Two.set w2 3 _).trans (Two.of_grown hg3))).trans (Two.set w3 2 _)
  clear hrd3 hg3 hq5
  obtain ⟨c0, c1, c2, c3⟩ := cells_fourN HQ5.out
  go_wp2_with fail
  generalize w3.setCell ⟨q, 2, none⟩ (.int .u32 ((Crc.leV ys : Nat) : Int)) = W5 at *
  refine (great_any ⟨⟨key, [], Crc.leV ys, Crc.leV xs⟩, ka, kc, none, 0⟩ W5 (by simp)).mono ?_
  rintro e w6 ⟨rfl, hb6⟩
  have HB6 := hide hb6
  clear hb6
  simp only []
  rw [← HGb.out]
  have HT6 : Hid (Two p q w w6) := HT5.out.trans (Two.of_below HB6.out)
  cases gb with
  | true =>
    go_wp2_with fail
    refine (must_yes _ _ rfl _).mono ?_
    rintro e w7 ⟨rfl, rfl⟩
    go_wp2
    go_end0
    exact ⟨HT6.out, rfl, (HB6.out.block _ (lt_of_block HQ5.out)).trans HQ5.out, HR5.out.below HB6.out⟩
  | false =>
    go_wp2_with fail
    refine (must_no _ _ rfl _).mono ?_
    rintro e w7 ⟨rfl, rfl⟩
    exact ⟨rfl, HT6.out, by simp⟩
theorem Rdr.byts {w : World} {p : Nat} {zs : List Int} (h : Rdr w p zs) : Byts zs := by obtain ⟨a, n, c, h⟩ := h; exact h.byts
/-- what reading a value comes to. -/
def VOut (p q : Nat) (zs : List Int) (ka : Option Addr) (kn kc : Nat) (w : World) (e : Ending) (w' : World) : Prop :=
  Two p q w w' ∧ ((e = .returned (.tuple #[]) ∧ ∃ (av : Option Addr) (cv : Nat) (val : List Int) (page size : Nat) (rest : List Int), zs = vtail val page size ++ rest ∧ VOk val page size ∧ w'.heap[q]? = some (.cells #[.slice ka kn kc, .slice av val.length cv, .int .u32 (page : Int), .int .u32 (size : Int)] 68 (0, 0)) ∧ Own w' (.slice av val.length cv) val ∧ (∀ j, (Value.slice av val.length cv).ownBlock = some j → w.heap.size ≤ j) ∧ Rdr w' p rest) ∨ (e = .panicked flt ∧ ∀ val page size rest, VOk val page size → zs ≠ vtail val page size ++ rest))
theorem rvalue_any (p q : Nat) (zs : List Int) (ka : Option Addr) (key : List Int) (kc : Nat) (w : World) (h : Rdr w p zs) (hq : w.heap[q]? = some (.cells #[.slice ka key.length kc, .slice none 0 0, .int .u32 0, .int .u32 0] 68 (0, 0))) (hpq : q ≠ p) :
    Calls Try.prog 73 #[.pointer (some ⟨p, 0, none⟩), .pointer (some ⟨q, 0, none⟩)] w fun e w' => VOut p q zs ka key.length kc w e w' := by
  have hb := h.byts
  cases zs with
  | nil =>
    refine (rvalue_nil p q w h).mono ?_
    rintro e w' ⟨rfl, ht⟩
    refine ⟨ht, .inr ⟨rfl, fun val page size rest hv e => ?_⟩⟩
    rcases vok_cases hv with ⟨_, _, _, ht⟩ | ⟨_, _, _, _, _, ht⟩ <;> rw [ht] at e <;> simp at e
  | cons c r =>
    have hc := hb c (List.mem_cons_self ..)
    have hr8 : Byts r := fun x hx => hb x (List.mem_cons_of_mem _ hx)
    obtain ⟨m, rfl⟩ := Int.eq_ofNat_of_zero_le hc.1
    by_cases h255 : m = 255
    · subst h255
      by_cases h4 : r.length < 4
      · refine (rvalue_g1 p q r w h4 h).mono ?_
        rintro e w' ⟨rfl, ht⟩
        refine ⟨ht, .inr ⟨rfl, fun val page size rest hv e => ?_⟩⟩
        rcases vok_cases hv with ⟨_, _, hl, ht⟩ | ⟨_, _, _, _, _, ht⟩
        · rw [ht] at e
          simp only [List.cons_append, List.cons.injEq] at e
          omega
        · rw [ht] at e
          have := congrArg List.length e
          simp [Crc.le_length] at this
          omega
      · obtain ⟨xs, r1, rfl, hx⟩ : ∃ xs r1, r = xs ++ r1 ∧ xs.length = 4 := ⟨r.take 4, r.drop 4, (List.take_append_drop 4 r).symm, by simp; omega⟩
        have hx8 : Byts xs := fun x hx => hr8 x (List.mem_append.2 (.inl hx))
        have hr18 : Byts r1 := fun x hx => hr8 x (List.mem_append.2 (.inr hx))
        by_cases h8 : r1.length < 4
        · refine (rvalue_g2 p q xs r1 ka key.length kc w hx hx8 h8 h hq hpq).mono ?_
          rintro e w' ⟨rfl, ht⟩
          refine ⟨ht, .inr ⟨rfl, fun val page size rest hv e => ?_⟩⟩
          rcases vok_cases hv with ⟨_, _, hl, ht⟩ | ⟨_, _, _, _, _, ht⟩
          · rw [ht] at e
            simp only [List.cons_append, List.cons.injEq] at e
            omega
          · rw [ht] at e
            have := congrArg List.length e
            simp [Crc.le_length] at this
            omega
        · obtain ⟨ys, r2, rfl, hy⟩ : ∃ ys r2, r1 = ys ++ r2 ∧ ys.length = 4 := ⟨r1.take 4, r1.drop 4, (List.take_append_drop 4 r1).symm, by simp; omega⟩
          have hy8 : Byts ys := fun x hx => hr18 x (List.mem_append.2 (.inl hx))
          refine (rvalue_g3 p q xs ys r2 ka key kc w hx hx8 hy hy8 h hq hpq).mono ?_
          rintro e w' ⟨ht, hif⟩
          refine ⟨ht, ?_⟩
          have ex : Crc.le 4 (Crc.leV xs) = xs := by rw [← hx]; exact Crc.le_leV xs hx8
          have ey : Crc.le 4 (Crc.leV ys) = ys := by rw [← hy]; exact Crc.le_leV ys hy8
          by_cases hg : (⟨[], [], Crc.leV ys, Crc.leV xs⟩ : Ee).great = true
          · rw [if_pos hg] at hif
            obtain ⟨rfl, h1, h2⟩ := hif
            refine .inl ⟨rfl, none, 0, [], Crc.leV ys, Crc.leV xs, r2, ?_, ⟨by intro c hc; simp at hc, .inr hg⟩, h1, Own.nil _, by intro j hj; simp [Value.ownBlock] at hj, h2⟩
            obtain ⟨-, hp, -⟩ := great_iff.1 hg
            rw [vtail_great (by omega), ex, ey]
            simp
          · rw [if_neg hg] at hif
            refine .inr ⟨hif, fun val page size rest hv e => ?_⟩
            rcases vok_cases hv with ⟨_, _, hl, ht⟩ | ⟨rfl, a1, a2, a3, a4, ht⟩
            · rw [ht] at e
              simp only [List.cons_append, List.cons.injEq] at e
              omega
            · rw [ht] at e
              simp only [List.cons_append, List.cons.injEq, List.append_assoc] at e
              obtain ⟨b1, b2⟩ := List.append_inj e.2 (by rw [Crc.le_length, hx])
              obtain ⟨b3, b4⟩ := List.append_inj b2 (by rw [Crc.le_length, hy])
              refine hg (great_iff.2 ?_)
              rw [b1, b3, Crc.leV_le 4 size (by omega), Crc.leV_le 4 page (by omega)]
              exact ⟨rfl, a1, a2, a3, a4⟩
    · have hm : m < 255 := by have := hc.2; omega
      by_cases hs : r.length < m
      · refine (rvalue_short p q m r w hm hs h).mono ?_
        rintro e w' ⟨rfl, ht⟩
        refine ⟨ht, .inr ⟨rfl, fun val page size rest hv e => ?_⟩⟩
        rcases vok_cases hv with ⟨_, _, hl, ht⟩ | ⟨_, _, _, _, _, ht⟩
        · rw [ht] at e
          simp only [List.cons_append, List.cons.injEq] at e
          have := congrArg List.length e.2
          simp at this
          omega
        · rw [ht] at e
          simp only [List.cons_append, List.cons.injEq] at e
          omega
      · obtain ⟨val, rest, rfl, hv⟩ : ∃ val rest, r = val ++ rest ∧ val.length = m := ⟨r.take m, r.drop m, (List.take_append_drop m r).symm, by simp; omega⟩
        subst hv
        have hv8 : Byts val := fun x hx => hr8 x (List.mem_append.2 (.inl hx))
        refine (rvalue_small p q val rest ka key.length kc w hm hv8 h hq hpq).mono ?_
        rintro e w' ⟨rfl, av, cv, h1, h2, h3, h4, h5⟩
        refine ⟨h5, .inl ⟨rfl, av, cv, val, 0, 0, rest, ?_, ⟨hv8, .inl ⟨rfl, rfl, hm⟩⟩, h1, h2, h3, h4⟩⟩
        rw [vtail_small]
        rfl
end Go.Proofs.Ytjojpohnmfkanaa
/- The reader of an entry, of any bytes. -/
namespace Go.Proofs.Ytjojpohnmfkanaa
open Go.RowKit
set_option linter.unusedVariables false

theorem grown_kb {p : Nat} {w w' : World} (h : Kb w.heap.size p w w') : w.grownBy w' (some p) := h.grown
set_option maxHeartbeats 1600000 in
set_option maxRecDepth 1000000 in
theorem rentry_nil (leaf : Bool) (p : Nat) (w : World) (h : Rdr w p []) :
    Calls Try.prog 58 #[.pointer (some ⟨p, 0, none⟩), .bool leaf] w fun e w' => e = .panicked flt ∧ w.grownBy w' (some p) := by
  have hB := below_alloc w (.cells #[.slice none 0 0, .slice none 0 0, .int .u32 0, .int .u32 0] 68)
  have HN := hide (num_no p 1 [] _ (by simp) (by omega) (h.below hB))
  have HB := hide hB
  clear h hB
  go_enter Try.func58, Try.ntmps58
  go_wp2_with fail
  refine HN.out.mono ?_
  rintro e w1 ⟨rfl, hg⟩
  exact ⟨rfl, rfl, grown_trans (grown_below HB.out) hg⟩
set_option maxHeartbeats 1600000 in
set_option maxRecDepth 1000000 in
theorem rentry_short (leaf : Bool) (p m : Nat) (r : List Int) (w : World) (hm : m < 256) (hr : r.length < m) (h : Rdr w p ((m : Int) :: r)) :
    Calls Try.prog 58 #[.pointer (some ⟨p, 0, none⟩), .bool leaf] w fun e w' => e = .panicked flt ∧ w.grownBy w' (some p) := by
  have hB := below_alloc w (.cells #[.slice none 0 0, .slice none 0 0, .int .u32 0, .int .u32 0] 68)
  have HN := hide (num_ok p 1 [(m : Int)] r _ rfl (by omega) (by have := h.below hB; simpa using this) (by intro c hc; simp at hc; omega))
  rw [leV_one1 _ (by omega)] at HN
  have HB := hide hB
  clear h hB
  go_enter Try.func58, Try.ntmps58
  go_wp2_with fail
  refine HN.out.mono ?_
  rintro e w1 ⟨rfl, hrd, hg⟩
  have HT := hide (take_no p m r w1 hr (by omega) hrd)
  have HG := hide hg
  clear hrd hg
  go_wp2_with fail
  refine HT.out.mono ?_
  rintro e w2 ⟨rfl, hg2⟩
  exact ⟨rfl, rfl, grown_trans (grown_trans (grown_below HB.out) HG.out) hg2⟩
/-- what reading an entry comes to. -/
def EOut (leaf : Bool) (p : Nat) (zs : List Int) (w : World) (e : Ending) (w' : World) : Prop :=
  w.grownBy w' (some p) ∧ ((∃ (y : En) (rest : List Int), e = .returned y.v ∧ zs = y.e.enc leaf ++ rest ∧ y.e.Rok leaf ∧ y.Own w.heap.size w' ∧ Rdr w' p rest) ∨ (e = .panicked flt ∧ ∀ (x : Ee) (rest : List Int), x.Rok leaf → zs ≠ x.enc leaf ++ rest))
theorem vok_bounds {val : List Int} {page size : Nat} (h : VOk val page size) : page < 4294967296 ∧ size < 4294967296 := by
  rcases vok_cases h with ⟨rfl, rfl, _⟩ | ⟨_, _, h1, _, h2, _⟩ <;> omega
set_option maxHeartbeats 3200000 in
set_option maxRecDepth 1000000 in
theorem rentry_leaf (p : Nat) (key r1 : List Int) (w : World) (hk : key.length < 256) (hk8 : Byts key) (h : Rdr w p (((key.length : Int) :: key) ++ r1)) :
    Calls Try.prog 58 #[.pointer (some ⟨p, 0, none⟩), .bool true] w fun e w' => EOut true p (((key.length : Int) :: key) ++ r1) w e w' := by
  have hpw := h.lt
  have hB := below_alloc w (.cells #[.slice none 0 0, .slice none 0 0, .int .u32 0, .int .u32 0] 68)
  have hb0 := heap_alloc_new w (.cells #[.slice none 0 0, .slice none 0 0, .int .u32 0, .int .u32 0] 68)
  have HN := hide (num_ok p 1 [(key.length : Int)] (key ++ r1) _ rfl (by omega) (by have := h.below hB; simpa using this) (by intro c hc; simp at hc; omega))
  rw [leV_one1 _ (by omega)] at HN
  have HB := hide hB
  have HB0 := hide hb0
  have HK8 := hide hk8
  clear h hB hb0 hk8
  go_enter Try.func58, Try.ntmps58
  go_wp2_with fail
  refine HN.out.mono ?_
  rintro e w1 ⟨rfl, hrd, hg⟩
  have HT := hide (take_ok p key.length key _ w1 rfl (by omega) hrd)
  have hwp : w.heap.size ≠ p := by omega
  have HQ1 := hide ((hg.block _ (lt_of_block HB0.out) (by simpa using hwp)).trans HB0.out)
  have HG := hide hg
  clear hrd hg
  go_wp2_with fail
  refine HT.out.mono ?_
  rintro e w2 ⟨a2, c2, rfl, h2c, h2m, h2b, h2r, h2d, h2g⟩
  have HC := hide (clone_any a2 key.length c2 key w2 (rowN_inn h2r rfl h2c h2m h2b HK8.out) (by omega))
  have HQ2 := hide ((h2g.block _ (lt_of_block HQ1.out) (by simpa using hwp)).trans HQ1.out)
  have HG2 := hide h2g
  have HRd := hide h2d
  clear h2c h2m h2b h2r h2d h2g
  go_wp2_with fail
  refine HC.out.mono ?_
  rintro e w3 ⟨v3, rfl, hm3⟩
  obtain ⟨a3, n3, c3, rfl, hn3⟩ := hm3.1.shape2
  have hn3' : n3 = key.length := hn3.out
  subst hn3'
  have HM3 := hide hm3
  have HQ3 := hide ((hm3.2.2.block _ (lt_of_block HQ2.out)).trans HQ2.out)
  have HRd3 := hide (HRd.out.below hm3.2.2)
  clear hm3 hn3
  have hbl4 := below_alloc w3 (.cells #[.slice a3 key.length c3, .slice none 0 0, .int .u32 0, .int .u32 0] 68)
  have hp3 : p < w3.heap.size := HRd3.out.lt
  have HV := hide (rvalue_any p w3.heap.size r1 a3 key c3 _ (HRd3.out.below hbl4) (heap_alloc_new w3 _) (by omega))
  have HBl4 := hide hbl4
  clear hbl4
  go_wp2_with fail
  refine HV.out.mono ?_
  rintro e w4 ⟨htw, hvo⟩
  rcases hvo with ⟨rfl, av, cv, val, page, size, rest, hzs, hvk, hq4, hov, hvb, hrd4⟩ | ⟨rfl, hno⟩
  rotate_left
  · have hwk : w.heap.size < w3.heap.size := lt_of_block HQ3.out
    have hw1 : w.heap.size + 1 ≤ w2.heap.size := by have h1 := HG.out.size; have h2 := HG2.out.size; simp at h1; omega
    refine ⟨rfl, ?_, .inr ⟨rfl, fun x rest hx e => ?_⟩⟩
    · have k1 : Kb w.heap.size p w w1 := (Kb.of_below HB.out (Nat.le_refl _)).trans (Kb.of_grown HG.out (by simp))
      have k2 : Kb w.heap.size p w w3 := k1.trans ((Kb.of_grown HG2.out (by have := HG.out.size; simp at this; omega)).trans (Kb.of_below HM3.out.2.2 (by omega)))
      exact (k2.trans ((Kb.of_below HBl4.out (by omega)).trans (Kb.of_two htw (by simp; omega) (by omega)))).grown
    · rw [enc_tail] at e
      simp only [List.cons_append, List.cons.injEq, List.append_assoc] at e
      obtain ⟨_, e2⟩ := List.append_inj e.2 (by omega)
      exact hno _ _ _ _ (by have := hx.2.2; simpa using this) e2
  have HVk := hide hvk
  have HZs := hide hzs
  clear hvk hzs
  have hwk : w.heap.size < w3.heap.size := lt_of_block HQ3.out
  have hz : w4.heap[w.heap.size]? = some (.cells #[.slice none 0 0, .slice none 0 0, .int .u32 0, .int .u32 0] 68 (0, 0)) := (htw.block _ (by simp; omega) hwp (by omega)).trans ((HBl4.out.block _ hwk).trans HQ3.out)
  obtain ⟨f0, f1, f2, f3, -⟩ := cells_four hq4
  obtain ⟨g0, g1, g2, g3, gf⟩ := cells_four hz
  have gf0 := gf 0
  have gf1 := gf 1
  have gf2 := gf 2
  have gf3 := gf 3
  have HZ := hide hz
  have HOv := hide hov
  have HVb := hide hvb
  have HRd4 := hide hrd4
  have HTw := hide htw
  have HWk := hide hwk
  have HP3 := hide hp3
  clear hq4 hov hvb hrd4 htw hz gf hwk hp3
  go_wp2
  have hf := put4 (a := .slice a3 key.length c3) (b := .slice av val.length cv) (c := .int .u32 (page : Int)) (d := .int .u32 (size : Int)) HZ.out
  obtain ⟨q0, q1, q2, q3, -⟩ := cells_four hf
  have hw1 : w.heap.size + 1 ≤ w2.heap.size := by have h1 := HG.out.size; have h2 := HG2.out.size; simp at h1; omega
  have hKb : ∀ k, (Value.slice a3 key.length c3).ownBlock = some k → w.heap.size + 1 ≤ k ∧ k < w3.heap.size := fun k hk => ⟨by have := HM3.out.2.1 k hk; omega, HM3.out.1.lt hk⟩
  have hVb : ∀ k, (Value.slice av val.length cv).ownBlock = some k → w3.heap.size + 1 ≤ k := fun k hk => by have := HVb.out k hk; simpa using this
  refine bodyPost_ret (v := .agg #[.slice a3 key.length c3, .slice av val.length cv, .int .u32 (page : Int), .int .u32 (size : Int)]) ?_ rfl ?_
  · simp [results, Try.results58, go_sem, q0, q1, q2, q3]
  · have hbd := vok_bounds HVk.out
    refine ⟨?_, .inl ⟨⟨⟨key, val, page, size⟩, a3, c3, av, cv⟩, rest, rfl, ?_, ⟨hk, HK8.out, by simp only [if_true]; exact HVk.out⟩, ⟨?_, ?_, fun k hk => by have := hKb k hk; omega, fun k hk => by have := hVb k hk; have := HWk.out; omega, fun k hk e => by have := hKb k hk; have := hVb k e; omega, HK8.out, HVk.out.1, hbd.1, hbd.2⟩, HRd4.out.put4 HZ.out hwp⟩⟩
    · have k1 : Kb w.heap.size p w w1 := (Kb.of_below HB.out (Nat.le_refl _)).trans (Kb.of_grown HG.out (by simp))
      have k2 : Kb w.heap.size p w w3 := k1.trans ((Kb.of_grown HG2.out (by have := HG.out.size; simp at this; omega)).trans (Kb.of_below HM3.out.2.2 (by omega)))
      have k3 : Kb w.heap.size p w w4 := k2.trans ((Kb.of_below HBl4.out (by have := HWk.out; omega)).trans (Kb.of_two HTw.out (by simp; have := HWk.out; omega) (by have := HWk.out; omega)))
      exact (k3.put4 (Nat.le_refl _)).grown
    · rw [enc_tail, HZs.out]
      simp
    · refine HM3.out.1.of_block fun k hk => ?_
      have h1 := hKb k hk
      exact (put4_other (by omega)).trans ((HTw.out.block k (by simp; omega) (by omega) (by omega)).trans (HBl4.out.block k h1.2))
    · exact HOv.out.of_block fun k hk => put4_other (by have := hVb k hk; have := HWk.out; omega)
set_option maxHeartbeats 3200000 in
set_option maxRecDepth 1000000 in
theorem rentry_branch (p : Nat) (key r1 : List Int) (w : World) (hk : key.length < 256) (hk8 : Byts key) (h : Rdr w p (((key.length : Int) :: key) ++ r1)) :
    Calls Try.prog 58 #[.pointer (some ⟨p, 0, none⟩), .bool false] w fun e w' => EOut false p (((key.length : Int) :: key) ++ r1) w e w' := by
  have hr8 : Byts r1 := fun x hx => h.byts x (List.mem_append.2 (.inr hx))
  have HR8 := hide hr8
  clear hr8
  have hpw := h.lt
  have hB := below_alloc w (.cells #[.slice none 0 0, .slice none 0 0, .int .u32 0, .int .u32 0] 68)
  have hb0 := heap_alloc_new w (.cells #[.slice none 0 0, .slice none 0 0, .int .u32 0, .int .u32 0] 68)
  have HN := hide (num_ok p 1 [(key.length : Int)] (key ++ r1) _ rfl (by omega) (by have := h.below hB; simpa using this) (by intro c hc; simp at hc; omega))
  rw [leV_one1 _ (by omega)] at HN
  have HB := hide hB
  have HB0 := hide hb0
  have HK8 := hide hk8
  clear h hB hb0 hk8
  go_enter Try.func58, Try.ntmps58
  go_wp2_with fail
  refine HN.out.mono ?_
  rintro e w1 ⟨rfl, hrd, hg⟩
  have HT := hide (take_ok p key.length key _ w1 rfl (by omega) hrd)
  have hwp : w.heap.size ≠ p := by omega
  have HQ1 := hide ((hg.block _ (lt_of_block HB0.out) (by simpa using hwp)).trans HB0.out)
  have HG := hide hg
  clear hrd hg
  go_wp2_with fail
  refine HT.out.mono ?_
  rintro e w2 ⟨a2, c2, rfl, h2c, h2m, h2b, h2r, h2d, h2g⟩
  have HC := hide (clone_any a2 key.length c2 key w2 (rowN_inn h2r rfl h2c h2m h2b HK8.out) (by omega))
  have HQ2 := hide ((h2g.block _ (lt_of_block HQ1.out) (by simpa using hwp)).trans HQ1.out)
  have HG2 := hide h2g
  have HRd := hide h2d
  clear h2c h2m h2b h2r h2d h2g
  go_wp2_with fail
  refine HC.out.mono ?_
  rintro e w3 ⟨v3, rfl, hm3⟩
  obtain ⟨a3, n3, c3, rfl, hn3⟩ := hm3.1.shape2
  have hn3' : n3 = key.length := hn3.out
  subst hn3'
  have HM3 := hide hm3
  have HQ3 := hide ((hm3.2.2.block _ (lt_of_block HQ2.out)).trans HQ2.out)
  have HRd3 := hide (HRd.out.below hm3.2.2)
  clear hm3 hn3
  have hbl4 := below_alloc w3 (.cells #[.slice a3 key.length c3, .slice none 0 0, .int .u32 0, .int .u32 0] 68)
  have hp3 : p < w3.heap.size := HRd3.out.lt
  have HBl4 := hide hbl4
  have hwk : w.heap.size < w3.heap.size := lt_of_block HQ3.out
  have hw1 : w.heap.size + 1 ≤ w2.heap.size := by have h1 := HG.out.size; have h2 := HG2.out.size; simp at h1; omega
  have k1 : Kb w.heap.size p w w1 := (Kb.of_below HB.out (Nat.le_refl _)).trans (Kb.of_grown HG.out (by simp))
  have k2 : Kb w.heap.size p w w3 := k1.trans ((Kb.of_grown HG2.out (by have := HG.out.size; simp at this; omega)).trans (Kb.of_below HM3.out.2.2 (by omega)))
  have HK4 := hide (k2.trans (Kb.of_below hbl4 (by omega)))
  have HW1 := hide hw1
  have HWk := hide hwk
  have HP3 := hide hp3
  clear k1 k2 hw1 hwk hp3
  by_cases h4 : r1.length < 4
  · have HN4 := hide (num_no p 4 r1 _ h4 (by omega) (HRd3.out.below hbl4))
    clear hbl4
    go_wp2_with fail
    refine HN4.out.mono ?_
    rintro e w4 ⟨rfl, hg4⟩
    refine ⟨rfl, (HK4.out.trans (Kb.of_grown hg4 (by have := HWk.out; simp; omega))).grown, .inr ⟨rfl, fun x rest hx e => ?_⟩⟩
    rw [enc_branch] at e
    simp only [List.cons_append, List.cons.injEq, List.append_assoc] at e
    obtain ⟨_, e2⟩ := List.append_inj e.2 (by omega)
    have := congrArg List.length e2
    simp [Crc.le_length] at this
    omega
  · obtain ⟨xs, rest, hxr, hx⟩ : ∃ xs rest, r1 = xs ++ rest ∧ xs.length = 4 := ⟨r1.take 4, r1.drop 4, (List.take_append_drop 4 r1).symm, by simp; omega⟩
    have HXr := hide hxr
    have hx8 : Byts xs := fun x hx => HR8.out x (by rw [HXr.out]; exact List.mem_append.2 (.inl hx))
    have HN4 := hide (num_ok p 4 xs rest _ hx (by omega) (by have := HRd3.out.below hbl4; rw [HXr.out] at this; exact this) hx8)
    have HE4 := hide (heap_alloc_new w3 (.cells #[.slice a3 key.length c3, .slice none 0 0, .int .u32 0, .int .u32 0] 68))
    have HLe : Hid (Crc.le 4 (Crc.leV xs) = xs) := by rw [← hx]; exact Crc.le_leV xs hx8
    have HLt : Hid (Crc.leV xs < 4294967296) := by have := Crc.leV_lt xs hx8; rw [hx] at this; exact this
    clear hbl4 hxr hx8
    go_wp2_with fail
    refine HN4.out.mono ?_
    rintro e w4 ⟨rfl, hrd4, hg4⟩
    have hwk := HWk.out
    have hp3 := HP3.out
    have hq4 := (hg4.block _ (lt_of_block HE4.out) (by simp; omega)).trans HE4.out
    have hz4 : w4.heap[w.heap.size]? = some (.cells #[.slice none 0 0, .slice none 0 0, .int .u32 0, .int .u32 0] 68 (0, 0)) := (hg4.block _ (by simp; omega) (by simp; omega)).trans ((HBl4.out.block _ hwk).trans HQ3.out)
    have hq5 : (w4.setCell ⟨w3.heap.size, 2, none⟩ (.int .u32 ((Crc.leV xs : Nat) : Int))).heap[w3.heap.size]? = some (.cells #[.slice a3 key.length c3, .slice none 0 0, .int .u32 ((Crc.leV xs : Nat) : Int), .int .u32 0] 68 (0, 0)) := by rw [heap_setCell_same _ _ 2 _ 68 _ hq4]; rfl
    have hz5 : (w4.setCell ⟨w3.heap.size, 2, none⟩ (.int .u32 ((Crc.leV xs : Nat) : Int))).heap[w.heap.size]? = some (.cells #[.slice none 0 0, .slice none 0 0, .int .u32 0, .int .u32 0] 68 (0, 0)) := (Below.heap_setCell _ _ _ _ (show w.heap.size ≠ w3.heap.size by omega)).trans hz4
    have c2 := (cells_fourN hq4).2.2.1
    have cf2 := frozen_blk (j := 2) hq4
    obtain ⟨f0, f1, f2, f3⟩ := cells_fourN hq5
    obtain ⟨g0, g1, g2, g3⟩ := cells_fourN hz5
    have gf0 := frozen_blk (j := 0) hz5
    have gf1 := frozen_blk (j := 1) hz5
    have gf2 := frozen_blk (j := 2) hz5
    have gf3 := frozen_blk (j := 3) hz5
    have HZ := hide hz5
    have HQ4 := hide hq4
    have HRd5 := hide (hrd4.set_entry (j := 2) (u := .int .u32 ((Crc.leV xs : Nat) : Int)) hq4 (by omega))
    have HG4 := hide hg4
    have s4 : w.heap.size + 1 ≤ w4.heap.size := by have := hg4.size; simp at this; omega
    have HK5 : Hid (Kb w.heap.size p w (w4.setCell ⟨w3.heap.size, 2, none⟩ (.int .u32 ((Crc.leV xs : Nat) : Int)))) := HK4.out.trans ((Kb.of_grown hg4 (by simp; omega)).trans ⟨rfl, rfl, rfl, by simp [World.setCell], fun k hk _ => Below.heap_setCell _ _ _ _ (show k ≠ w3.heap.size by omega)⟩)
    clear hq4 hz4 hq5 hz5 hrd4 hg4
    go_wp2
    have hf := put4 (a := .slice a3 key.length c3) (b := .slice none 0 0) (c := .int .u32 ((Crc.leV xs : Nat) : Int)) (d := .int .u32 0) HZ.out
    obtain ⟨q0, q1, q2, q3, -⟩ := cells_four hf
    have hKb : ∀ k, (Value.slice a3 key.length c3).ownBlock = some k → w.heap.size + 1 ≤ k ∧ k < w3.heap.size := fun k hk => ⟨by have := HM3.out.2.1 k hk; have := HW1.out; omega, HM3.out.1.lt hk⟩
    refine bodyPost_ret (v := .agg #[.slice a3 key.length c3, .slice none 0 0, .int .u32 ((Crc.leV xs : Nat) : Int), .int .u32 0]) ?_ rfl ?_
    · simp [results, Try.results58, go_sem, q0, q1, q2, q3]
    · refine ⟨(HK5.out.put4 (Nat.le_refl _)).grown, .inl ⟨⟨⟨key, [], Crc.leV xs, 0⟩, a3, c3, none, 0⟩, rest, rfl, ?_, ⟨hk, HK8.out, by simpa using HLt.out⟩, ⟨?_, Own.nil _, fun k hk => by have := hKb k hk; omega, fun k hk => by simp [Value.ownBlock] at hk, fun k _ e => by simp [Value.ownBlock] at e, HK8.out, by intro c hc; simp at hc, HLt.out, by simp⟩, HRd5.out.put4 HZ.out hwp⟩⟩
      · rw [enc_branch, HXr.out, HLe.out]
        simp
      · refine HM3.out.1.of_block fun k hk => ?_
        have h1 := hKb k hk
        exact (put4_other (by omega)).trans ((Below.heap_setCell _ _ _ _ (show k ≠ w3.heap.size by omega)).trans ((HG4.out.block k (by simp; omega) (fun e => by
          have e2 : k = p := by simpa using e
          subst e2
          have hu := HM3.out.1.u8 hk
          obtain ⟨cur, hu⟩ := hu
          obtain ⟨ra, rn, rcc, hrr⟩ := HRd3.out
          have := hrr.blk
          rw [hu] at this
          simp at this)).trans (HBl4.out.block k h1.2)))
theorem rentry_any (leaf : Bool) (p : Nat) (zs : List Int) (w : World) (h : Rdr w p zs) :
    Calls Try.prog 58 #[.pointer (some ⟨p, 0, none⟩), .bool leaf] w fun e w' => EOut leaf p zs w e w' := by
  have hb := h.byts
  have henc : ∀ x : Ee, ∃ t, x.enc leaf = (x.key.length : Int) :: (x.key ++ t) := fun x => by
    cases leaf with
    | true => exact ⟨_, enc_tail x⟩
    | false => exact ⟨_, enc_branch x⟩
  cases zs with
  | nil =>
    refine (rentry_nil leaf p w h).mono ?_
    rintro e w' ⟨rfl, hg⟩
    refine ⟨hg, .inr ⟨rfl, fun x rest hx e => ?_⟩⟩
    obtain ⟨t, ht⟩ := henc x
    rw [ht] at e
    simp at e
  | cons c r =>
    have hc := hb c (List.mem_cons_self ..)
    have hr8 : Byts r := fun x hx => hb x (List.mem_cons_of_mem _ hx)
    obtain ⟨m, rfl⟩ := Int.eq_ofNat_of_zero_le hc.1
    have hm : m < 256 := by have := hc.2; omega
    by_cases hs : r.length < m
    · refine (rentry_short leaf p m r w hm hs h).mono ?_
      rintro e w' ⟨rfl, hg⟩
      refine ⟨hg, .inr ⟨rfl, fun x rest hx e => ?_⟩⟩
      obtain ⟨t, ht⟩ := henc x
      rw [ht] at e
      simp only [List.cons_append, List.cons.injEq, List.append_assoc] at e
      have := congrArg List.length e.2
      simp at this
      omega
    · obtain ⟨key, r1, rfl, hk⟩ : ∃ key r1, r = key ++ r1 ∧ key.length = m := ⟨r.take m, r.drop m, (List.take_append_drop m r).symm, by simp; omega⟩
      subst hk
      have hk8 : Byts key := fun x hx => hr8 x (List.mem_append.2 (.inl hx))
      cases leaf with
      | true => exact rentry_leaf p key r1 w hm hk8 h
      | false => exact rentry_branch p key r1 w hm hk8 h
end Go.Proofs.Ytjojpohnmfkanaa
