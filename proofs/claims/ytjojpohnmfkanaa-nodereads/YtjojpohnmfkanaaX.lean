/- Encode. -/
import Derived.Test.YtjojpohnmfkanaaW
namespace Go.Proofs.Ytjojpohnmfkanaa
open Go.RowKit
set_option linter.unusedVariables false

/-- bytes that a call made lie in a block of their own. -/
def Made (w : World) (v : Value) (zs : List Int) (W : World) : Prop := Own W v zs ∧ (∀ k, v.ownBlock = some k → w.heap.size ≤ k) ∧ Below w.heap.size w W
theorem Made.below {w W W' : World} {v : Value} {zs : List Int} (h : Made w v zs W) (hb : Below W.heap.size W W') : Made w v zs W' :=
  ⟨h.1.below hb, h.2.1, h.2.2.trans (hb.mono h.2.2.size)⟩
theorem Made.inn {w W : World} {a : Option Addr} {n c : Nat} {zs : List Int} (h : Made w (.slice a n c) zs W) (h8 : Byts zs) : Inn W a n c zs ∧ Hid (n = zs.length) := by
  obtain ⟨a', c', e, h1, h2, h3, h4, _⟩ := h.1.shape
  cases e
  exact ⟨⟨rfl, h1, by unfold maxLen at h2; omega, h3, h4, h8⟩, hide rfl⟩
theorem keysOk_mem {a : List Int} {es : List Ee} (h : keysOk a es = true) : ∀ e ∈ es, e.key.length ≤ 160 := by
  induction es generalizing a with
  | nil => intro e he; simp at he
  | cons x es ih =>
    simp only [keysOk, Bool.and_eq_true, decide_eq_true_eq] at h
    intro e he
    rcases List.mem_cons.1 he with rfl | he
    · exact h.1
    · exact ih h.2.2 e he
theorem mayB_mem {leaf : Bool} {es : List Ee} (h : mayB leaf es = true) : ∀ e ∈ es, e.key.length ≤ 160 ∧ (leaf = true → e.valOk = true) ∧ (leaf = false → e.kid = true) := by
  cases es with
  | nil => intro e he; simp at he
  | cons x es =>
    cases leaf with
    | true =>
      simp only [mayB, if_true, Bool.and_eq_true] at h
      intro e he
      exact ⟨keysOk_mem h.1 e he, fun _ => List.all_eq_true.1 h.2 e he, fun h => by cases h⟩
    | false =>
      simp only [mayB, Bool.false_eq_true, if_false, Bool.and_eq_true, decide_eq_true_eq] at h
      intro e he
      refine ⟨?_, (fun h => by cases h), fun _ => List.all_eq_true.1 h.2.2.1 e he⟩
      rcases List.mem_cons.1 he with rfl | he
      · omega
      · exact keysOk_mem h.2.1 e he
theorem valOk_short {e : Ee} (h : e.valOk = true) : e.page = 0 → e.val.length < 256 := by
  intro hp
  simp only [Ee.valOk, Ee.small, Ee.great, pageOk, Bool.or_eq_true, Bool.and_eq_true, decide_eq_true_eq] at h
  omega
theorem chk_zero {leaf : Bool} {es : List Ee} (h : chk leaf es = 0) : mayB leaf es = true ∧ nsz leaf es ≤ 1008 := by
  unfold chk at h
  split at h
  · split at h
    · exact ⟨by assumption, by assumption⟩
    · simp at h
  · simp at h
theorem len_le_esum (leaf : Bool) (es : List Ee) : es.length * 2 ≤ esum leaf es := by
  induction es with
  | nil => simp [esum]
  | cons x xs ih =>
    rw [esum_cons, List.length_cons]
    have : 2 ≤ x.sz leaf := by unfold Ee.sz; split; split <;> omega; omega
    omega
theorem encs_snoc (leaf : Bool) (xs : List En) (k : Nat) (x : En) (h : xs[k]? = some x) : encs leaf (ers (xs.take (k + 1))) = encs leaf (ers (xs.take k)) ++ x.e.enc leaf := by
  rw [take_at h, ers_app, encs_app]
  simp [ers, encs]
theorem enc_leaf (e : Ee) : e.enc true = (e.key.length : Int) :: (e.key ++ e.tail) := by simp [Ee.enc, Ee.tail]
theorem enc_branch (e : Ee) : e.enc false = (e.key.length : Int) :: (e.key ++ Crc.le 4 e.page) := by simp [Ee.enc]

set_option maxHeartbeats 1600000 in
set_option maxRecDepth 1000000 in
theorem encode_no (leaf : Bool) (a : Option Addr) (n c : Nat) (xs : List En) (w : World) (h : Ens w a n c xs) (hn : n ≤ 1000000) (hw : wts (ers xs) ≤ 1000000) (hc : chk leaf (ers xs) ≠ 0) :
    Calls Try.prog 13 #[.agg #[.bool leaf, .slice a n c]] w fun e w' => e = .returned (.tuple #[.slice none 0 0, .int .u16 ((chk leaf (ers xs) : Nat) : Int)]) ∧ Below w.heap.size w w' := by
  have hb := heap_alloc_new w (.cells #[.bool leaf, .slice a n c] 25)
  obtain ⟨n0, n1, -⟩ := cells_two hb
  have hB0 := below_alloc w (.cells #[.bool leaf, .slice a n c] 25)
  have HB0 := hide hB0
  have HM := hide (check_any leaf a n c xs _ (h.below hB0) hn hw)
  have hcb : (((chk leaf (ers xs) : Nat) : Int) != 0) = true := by simp; exact hc
  clear h hB0 hb hc
  generalize chk leaf (ers xs) = C at *
  go_enter Try.func13, Try.ntmps13
  go_wp2_with (go_at_call 26; refine HM.out.mono ?_; rintro e w2 ⟨rfl, hb2⟩)
  go_ret2
  exact ⟨rfl, HB0.out.trans (hb2.mono HB0.out.size)⟩
/-- the writer at p is under way: its blocks lie from B on, and nothing below has turned. -/
structure Way (B : Nat) (w0 W : World) (p : Nat) (zs : List Int) : Prop where
  wr : Wr W p zs
  nw : New B W p
  bl : Below B w0 W
  sz : B ≤ W.heap.size
theorem Way.below {B p : Nat} {w0 W W' : World} {zs : List Int} (h : Way B w0 W p zs) (hb : Below W.heap.size W W') : Way B w0 W' p zs :=
  ⟨h.wr.below hb, h.nw.below h.wr.lt hb, h.bl.trans (hb.mono h.sz), Nat.le_trans h.sz hb.size⟩
theorem Way.wrote {B p : Nat} {w0 W W' : World} {zs ys : List Int} (h : Way B w0 W p zs) (hw : Wr W' p ys) (hr : Wrote p W W') : Way B w0 W' p ys :=
  ⟨hw, h.nw.wrote hr h.sz, h.bl.trans (hr.below h.nw h.sz), Nat.le_trans h.sz hr.size⟩
theorem row_off {w0 W : World} {B p : Nat} {a : Option Addr} {ys : List Int} (h : Row w0 a ys) (hB : w0.heap.size ≤ B) (hn : New B W p) : ys = [] ∨ ∀ b off, a = some ⟨b, off, none⟩ → ¬ foot W p b := by
  rcases h with h0 | ⟨b', off', e', hlt, _⟩
  · exact .inl h0
  · refine .inr fun b off e hf => ?_
    have hbb : b' = b := by rw [e] at e'; cases e'; rfl
    have := hn b hf
    omega
theorem En.Ok.off {x : En} {w0 W : World} {B p : Nat} (h : x.Ok w0) (hB : w0.heap.size ≤ B) (hn : New B W p) : x.Off W p := ⟨row_off h.key.row hB hn, row_off h.val.row hB hn⟩
theorem Way.box {B p q : Nat} {w0 W W' : World} {zs : List Int} (h : Way B w0 W p zs) (hq : W.heap.size ≤ q) (hb : Below W.heap.size W W') : ¬ foot W' p q := fun hf => by
  have := h.wr.foot_lt ((foot_same (hb.block p h.wr.lt)).1 hf)
  omega
theorem enc_start {w3 w4 : World} {q Z : Nat} {t u : Value} (hown : Own w4 (.slice (some ⟨w3.heap.size, 0, none⟩) 0 Z) []) (hg : w3.grownBy w4 none) (hbk : w3.heap[q]? = some (.cells #[t, u] 25 (0, 0))) :
    (w4.alloc (.cells #[.slice (some ⟨w3.heap.size, 0, none⟩) 0 Z] 88)).heap[q]? = some (.cells #[t, u] 25 (0, 0)) ∧ Wr (w4.alloc (.cells #[.slice (some ⟨w3.heap.size, 0, none⟩) 0 Z] 88)) w4.heap.size [] ∧ New w3.heap.size (w4.alloc (.cells #[.slice (some ⟨w3.heap.size, 0, none⟩) 0 Z] 88)) w4.heap.size ∧ Below w3.heap.size w3 (w4.alloc (.cells #[.slice (some ⟨w3.heap.size, 0, none⟩) 0 Z] 88)) := by
  have hlt : w3.heap.size < w4.heap.size := hown.lt (k := w3.heap.size) rfl
  have hb := (Below.refl w3.heap.size w3).grown hg (Nat.le_refl _) (fun k h => by cases h)
  have hc := heap_alloc_new w4 (.cells #[.slice (some ⟨w3.heap.size, 0, none⟩) 0 Z] 88)
  have hq : q < w3.heap.size := lt_of_block hbk
  refine ⟨(Below.heap_alloc w4 _ q (by omega)).trans ((hb.block q hq).trans hbk), ⟨_, hc, hown.alloc _, ?_⟩, ?_, hb.alloc hb.size _⟩
  · simp [Value.ownBlock]; omega
  · intro k hk
    rcases hk with rfl | ⟨v, h1, h2⟩
    · exact hb.size
    · rw [hc] at h1
      simp at h1
      rw [← h1] at h2
      simp [Value.ownBlock] at h2
      omega
set_option maxHeartbeats 3200000 in
set_option maxRecDepth 1000000 in
theorem encode_ok (leaf : Bool) (a : Option Addr) (n c : Nat) (xs : List En) (w : World) (h : Ens w a n c xs) (hc : chk leaf (ers xs) = 0) (hw : wts (ers xs) ≤ 1000000) :
    Calls Try.prog 13 #[.agg #[.bool leaf, .slice a n c]] w fun e w' => ∃ v, e = .returned (.tuple #[v, .int .u16 0]) ∧ Made w v (nenc leaf (ers xs)) w' := by
  obtain ⟨i0, hi, hz0, hz1, hz2⟩ := info_parts Try.info5
  obtain ⟨hmay, hsz⟩ := chk_zero hc
  have hn : n ≤ 504 := by have := len_le_esum leaf (ers xs); rw [ers_len, h.len] at this; unfold nsz at hsz; omega
  have hb := heap_alloc_new w (.cells #[.bool leaf, .slice a n c] 25)
  obtain ⟨n0, n1, -⟩ := cells_two hb
  have hB0 := below_alloc w (.cells #[.bool leaf, .slice a n c] 25)
  have HB0 := hide hB0
  have HB := hide hb
  have HM := hide (check_any leaf a n c xs _ (h.below hB0) (by omega) hw)
  rw [hc] at HM
  have HS := hide (fun (W : World) (e : Ens W a n c xs) => size_any leaf a n c xs W e (by omega) hw)
  have HE := hide (h.below hB0)
  have HMay := hide (mayB_mem hmay)
  have HW := hide hw
  have HSz := hide hsz
  clear h hB0 hb hmay hw hc
  generalize hZ : nsz leaf (ers xs) = Z at *
  have HZ := hide hZ
  clear hZ
  go_enter Try.func13, Try.ntmps13
  go_wp2_with fail
  refine HM.out.mono ?_
  rintro e w2 ⟨rfl, hb2⟩
  have hbk := (hb2.block _ (lt_of_block HB.out)).trans HB.out
  obtain ⟨m0, m1, -⟩ := cells_two hbk
  have HE2 := hide (HE.out.below hb2)
  have HB2 := hide (HB0.out.trans (hb2.mono HB0.out.size))
  have HBk2 := hide hbk
  clear hb2 hbk HM
  go_wp2_with fail
  refine (HS.out _ HE2.out).mono ?_
  rintro e w3 ⟨rfl, hb3⟩
  have hbk := (hb3.block _ (lt_of_block HBk2.out)).trans HBk2.out
  obtain ⟨p0, p1, -⟩ := cells_two hbk
  have HE3 := hide (HE2.out.below hb3)
  have HB3 := hide (HB2.out.trans (hb3.mono HB2.out.size))
  have HBk3 := hide hbk
  clear hb3 hbk HS
  go_wp2_with (first
    | (at_make; refine wpList_make_own _ rfl _ _ 22 rfl 0 5 i0 (.int .u8 0) 1 Try.underlying22 hi hz0 hz1 _ _ _ Z rfl rfl rfl (by rw [hz2]; omega) (by unfold maxLen; omega) (Nat.zero_le _) ?_; intro w4 hown4 hgrow4; obtain ⟨hbk5, hwr5, hnew5, hbel5⟩ := enc_start hown4 hgrow4 HBk3.out; obtain ⟨q0, q1, -⟩ := cells_two hbk5; have HBk5 := hide hbk5; have HWr5 := hide hwr5; have HNew5 := hide hnew5; have HBel5 := hide hbel5; clear hbk5 hwr5 hnew5 hbel5 hown4 hgrow4))
  have HN5 := hide (wnum_any _ n 2 [] _ HWr5.out (by omega) (by omega) (by simp))
  refine HN5.out.mono ?_
  rintro e w6 ⟨rfl, hw6, hr6⟩
  simp only [List.nil_append] at hw6
  have hnf5 : ¬ foot (w4.alloc (.cells #[.slice (some ⟨w3.heap.size, 0, none⟩) 0 Z] 88)) w4.heap.size w.heap.size := fun hf => by have := HNew5.out _ hf; have := lt_of_block HBk3.out; omega
  have hbk6 := (hr6.block _ (lt_of_block HBk5.out) hnf5).trans HBk5.out
  obtain ⟨r0, r1, -⟩ := cells_two hbk6
  have HBk6 := hide hbk6
  have HNew6 := hide (HNew5.out.wrote hr6 HBel5.out.size)
  have HBel6 := hide (HBel5.out.trans (hr6.below HNew5.out HBel5.out.size))
  have HWr6 := hide hw6
  clear hnf5 hbk6 hw6 hr6 HN5 HBk5 HWr5 HNew5 HBel5 q0 q1
  have HP : Hid (w3.heap.size ≤ w4.heap.size) := hide (HNew6.out _ (.inl rfl))
  generalize w4.heap.size = p at *
  have HWay : Hid (Way w3.heap.size w3 w6 p (Crc.le 2 n)) := hide ⟨HWr6.out, HNew6.out, HBel6.out, HBel6.out.size⟩
  have HQ : Hid (w.heap.size < w3.heap.size) := hide (lt_of_block HBk3.out)
  clear HNew6 HBel6 HWr6 HBk6
  go_wp2
  go_loopw [27] (fun i wr => ∃ k : Nat, k ≤ n ∧ i = .int .i64 (k : Int) ∧ Way w3.heap.size w3 wr p (Crc.le 2 n ++ encs leaf (ers (xs.take k)))) (fun i _ => n - (intOf i).toNat)
  case atStart => exact ⟨0, Nat.zero_le _, rfl, by simpa [ers, encs] using HWay.out⟩
  case round =>
    obtain ⟨k, hk, rfl, hway⟩ := hrel
    have HWay := hide hway
    have hx0 : wr.heap[w.heap.size]? = some (.cells #[.bool leaf, .slice a n c] 25 (0, 0)) := (hway.bl.block _ HQ.out).trans HBk3.out
    obtain ⟨s0, s1, -⟩ := cells_two hx0
    by_cases hlt : k < n
    · obtain ⟨x, hx, hok⟩ := HE3.out.at hlt
      obtain ⟨b, off, rfl, hbs, c0, c1, c2, c3⟩ := (HE3.out.below hway.bl).cells hx
      have hmem := HMay.out x.e (List.mem_map.2 ⟨x, List.mem_of_getElem? hx, rfl⟩)
      have hBn := below_alloc wr (.cells #[.slice x.ka x.e.key.length x.kc, .slice x.va x.e.val.length x.vc, .int .u32 (x.e.page : Int), .int .u32 (x.e.size : Int)] 68)
      have hbx := heap_alloc_new wr (.cells #[.slice x.ka x.e.key.length x.kc, .slice x.va x.e.val.length x.vc, .int .u32 (x.e.page : Int), .int .u32 (x.e.size : Int)] 68)
      have hnf := hway.box (Nat.le_refl _) hBn
      have hway1 := hway.below hBn
      have hlen : (Crc.le 2 n ++ encs leaf (ers (xs.take k))).length ≤ 11000 := by
        rw [List.length_append, Crc.le_length, encs_length]
        have := esum_take_le leaf xs k
        have := HSz.out
        have := HZ.out
        unfold nsz at this
        omega
      have HS := hide (wshort_any p x.ka x.e.key.length x.kc _ x.e.key _ hway1.wr ((hok.below (hway1.bl)).key) (by have := hmem.1; omega) (by omega) (row_off hok.key.row (Nat.le_refl _) hway1.nw))
      have HEn : Hid (Crc.le 2 n ++ encs leaf (ers (xs.take (k + 1))) = Crc.le 2 n ++ encs leaf (ers (xs.take k)) ++ x.e.enc leaf) := by rw [Hid, encs_snoc leaf xs k x hx, List.append_assoc]
      have HBx := hide hbx
      have HNf := hide hnf
      have HWay1 := hide hway1
      have HOk := hide hok
      have HMm := hide hmem
      have HLn := hide hlen
      have hkl := hmem.1
      have HKl := hide hkl
      have hps := hok.page
      have y0 := (hBn.cell (p := ⟨w.heap.size, 0, none⟩) (World.block_lt_of_cell? wr _ s0)).trans s0
      clear hx hbx hnf hway1 hok hmem hlen hkl hway hBn
      generalize Crc.le 2 n ++ encs leaf (ers (xs.take k)) = zs at *
      go_wp2_with fail
      refine HS.out.mono ?_
      rintro e w7 ⟨rfl, hw7, hr7⟩
      have hway7 := HWay1.out.wrote hw7 hr7
      have hbx7 := (hr7.block _ (lt_of_block HBx.out) HNf.out).trans HBx.out
      obtain ⟨d0, d1, d2, d3, -⟩ := cells_four hbx7
      have z0 : w7.cell? ⟨w.heap.size, 0, none⟩ = some (.bool leaf) := by
        have := (hway7.bl.block _ HQ.out).trans HBk3.out
        exact (cells_two this).1
      have HWay7 := hide hway7
      clear hw7 hr7 hbx7 HS
      cases leaf with
      | true =>
        have HV := hide (wvalue_any p x _ w7 hway7.wr (HOk.out.below hway7.bl) (valOk_short (HMm.out.2.1 rfl)) (by have := HLn.out; have := HKl.out; simp; omega) (HOk.out.off (Nat.le_refl _) hway7.nw))
        clear hway7
        go_wp2_with (go_at_call 31; refine HV.out.mono ?_; rintro e w8 ⟨rfl, hw8, hr8⟩)
        go_roundw
        case rel => exact ⟨k + 1, by omega, by go_num, by rw [HEn.out, enc_leaf]; have := HWay7.out.wrote hw8 hr8; simpa [List.append_assoc] using this⟩
        case measure => simp [intOf]; omega
      | false =>
        have HV := hide (wnum_any p x.e.page 4 _ w7 hway7.wr hps (by omega) (by have := HLn.out; have := HKl.out; simp; omega))
        clear hway7
        go_wp2_with (go_at_call 29; refine HV.out.mono ?_; rintro e w8 ⟨rfl, hw8, hr8⟩)
        go_roundw
        case rel => exact ⟨k + 1, by omega, by go_num, by rw [HEn.out, enc_branch]; have := HWay7.out.wrote hw8 hr8; simpa [List.append_assoc] using this⟩
        case measure => simp [intOf]; omega
    · obtain rfl : k = n := by omega
      have HF : Hid (xs.take k = xs) := hide (List.take_of_length_le (by rw [HE3.out.len]; exact Nat.le_refl _))
      obtain ⟨v, hcell, hown, hap⟩ := hway.wr
      have k0 := cell_of_one hcell
      have HOw := hide hown
      have HVn : Hid (∀ j, v.ownBlock = some j → w.heap.size ≤ j) := hide fun j hj => by have := hway.nw j (.inr ⟨v, hcell, hj⟩); have := HQ.out; omega
      have HBw := hide (HB3.out.trans (hway.bl.mono (Nat.le_of_lt HQ.out)))
      clear hcell hown hap hway
      go_wp2
      go_ret2
      refine ⟨v, rfl, ?_, HVn.out, HBw.out⟩
      have := HOw.out
      rw [HF.out] at this
      rw [nenc, ers_len, HE3.out.len]
      exact this
end Go.Proofs.Ytjojpohnmfkanaa
