/- Contract of asking whether lists of bytes, with what room they have, are their owner's alone. -/
import Derived.Test.YtfbkcolcdkglbaaBC
namespace Go.Proofs.Ytfbkcolcdkglbaa
open Go.RowKit
set_option linter.unusedVariables false

theorem Fam.same {w : World} {v : Value} {n : Nat} {A : Nat → Option Addr} {C : Nat → Nat} {Z Y : Nat → List Int} (h : Fam w v n A C Z) (e : Z = Y) : Fam w v n A C Y := e ▸ h

theorem Own.list {w : World} {v : Value} {zs : List Int} (h : Own w v zs) : w.ownsRow 0 5 1 v (zs.map (Value.int .u8)).length (zs.map (Value.int .u8)) := by rw [List.length_map]; exact h
theorem Own.of_list {w : World} {v : Value} {zs : List Int} {c : Int} (h : w.ownsRow 0 5 1 v (zs.map (Value.int .u8) ++ [Value.int .u8 c]).length (zs.map (Value.int .u8) ++ [Value.int .u8 c])) : Own w v (zs ++ [c]) := by
  have e : zs.map (Value.int .u8) ++ [Value.int .u8 c] = (zs ++ [c]).map (Value.int .u8) := by simp
  rw [e, List.length_map] at h
  exact h
/-- a list within a family of lists stands in another block than the others. -/
theorem fam_apart {w : World} {v : Value} {n : Nat} {A : Nat → Option Addr} {C : Nat → Nat} {Z : Nat → List Int} (h : Fam w v n A C Z) {i j k : Nat} (hi : i < n) (hj : j < n) (hne : i ≠ j) (h1 : blks (rv (A i) (C i) (Z i)) k) : ¬ blks (rv (A j) (C j) (Z j)) k := h.apart i j hi hj hne k h1
/-- lists that have grown: each is its marks and those behind them; it lies where the list lay that it grew out of, or in a block made since. -/
structure Lg (n : Nat) (A : Nat → Option Addr) (C : Nat → Nat) (fv : Value) (w0 w : World) (v : Value) (i : Nat) (Z : Nat → List Int) (X : Nat → Value) : Prop where
  kp : Kp (rft n A) w0 w
  fam : Fam w fv n A C (zf Z n 0)
  list : w.ownsRow 0 23 1 v i ((List.range i).map X)
  rows : ∀ j, j < i → Own w (X j) (mks j (Z j).length ++ nks j 16)
  lies : ∀ j, j < i → ∀ k, blks (X j) k → (∃ ad, A j = some ad ∧ ad.block = k) ∨ w0.heap.size ≤ k
  low : ∀ k, blks v k → w0.heap.size ≤ k
/-- within one list that grows: the row it grew out of stays, nothing but its block turns. -/
structure Gs (r : Value) (ms : List Int) (W1 w : World) (x : Value) (zs : List Int) : Prop where
  own : Own w x (ms ++ zs)
  row : Own w r ms
  lies : ∀ b, blks x b → blks r b ∨ W1.heap.size ≤ b
  kp : Kp (blks r) W1 w
theorem grow_step {W1 wr w' : World} {r x v' : Value} {ms zs : List Int} {c : Int} {o : Obj} (h : Gs r ms W1 wr x zs)
    (h1 : w'.ownsRow 0 5 1 v' ((ms ++ zs).map (Value.int .u8) ++ [Value.int .u8 c]).length ((ms ++ zs).map (Value.int .u8) ++ [Value.int .u8 c])) (h2 : (wr.alloc o).grownBy w' x.ownBlock) (h3 : ∀ k, v'.ownBlock = some k → x.ownBlock = some k ∨ (wr.alloc o).heap.size ≤ k)
    (h4 : 0 < 1 → (Below (wr.alloc o).heap.size (wr.alloc o) w' ∧ ∀ k, v'.ownBlock = some k → (wr.alloc o).heap.size ≤ k) ∨ ∃ a m c, x = .slice a m c ∧ v' = .slice a (m + 1) c) :
    Gs r ms W1 w' v' (zs ++ [c]) := by
  have hs : wr.heap.size ≤ (wr.alloc o).heap.size := (below_alloc wr o).size
  have hs1 := h.kp.size
  have ho : Own w' v' (ms ++ (zs ++ [c])) := by rw [← List.append_assoc]; exact Own.of_list h1
  have hra : Own (wr.alloc o) r ms := h.row.alloc o
  refine ⟨ho, ?_, ?_, ?_⟩
  · by_cases hx : ∃ b, blks x b ∧ blks r b
    · obtain ⟨b, hxb, hrb⟩ := hx
      rcases h4 (by omega) with ⟨h5, _⟩ | ⟨a, m, cc, hxe, hve⟩
      · exact hra.of_block fun k hk => h5.block k (hra.lt hk)
      · obtain ⟨cr, er⟩ := h.row.some_at hrb
        obtain ⟨cx, ex⟩ := h.own.some_at hxb
        have hroom := h.row.room er h.own ex
        rw [ex] at hxe
        cases hxe
        exact h.row.front er ho hve hroom rfl
    · exact hra.of_block fun k hk => h2.block k (hra.lt hk) (fun e => hx ⟨k, e.symm, hk⟩)
  · intro b hb
    rcases h3 b hb with h5 | h5
    · exact h.lies b h5
    · exact .inr (by omega)
  · refine ⟨h2.os.trans h.kp.os, h2.tape.trans h.kp.tape, h2.output.trans h.kp.output, by have := h2.size; omega, fun k hk hr => ?_⟩
    rw [h2.block k (by omega) (fun e => (h.lies k e.symm).elim hr (fun h => by omega)), Below.heap_alloc wr o k (by omega)]
    exact h.kp.block k hk hr
theorem Lg.more {n i : Nat} {A : Nat → Option Addr} {C : Nat → Nat} {fv : Value} {w0 wi w w' : World} {v v' x : Value} {Z : Nat → List Int} {X : Nat → Value} {o : Obj} (h : Lg n A C fv w0 wi v i Z X) (hi : i < n) (g : Gs (rv (A i) (C i) (mks i (Z i).length)) (mks i (Z i).length) wi w x (nks i 16)) (hlow : ∀ k, rft n A k → k < w0.heap.size) (hfv : ∀ k, blks fv k → k < w0.heap.size)
    (h1 : w'.ownsRow 0 23 1 v' ((List.range i).map X ++ [x]).length ((List.range i).map X ++ [x])) (h2 : (w.alloc o).grownBy w' v.ownBlock) (h3 : ∀ k, v'.ownBlock = some k → v.ownBlock = some k ∨ (w.alloc o).heap.size ≤ k) :
    Lg n A C fv w0 w' v' (i + 1) Z (put X i x) := by
  have hs : w.heap.size ≤ (w.alloc o).heap.size := (below_alloc w o).size
  have hs0 := h.kp.size
  have hs1 := g.kp.size
  have hs2 := h2.size
  have hrb : ∀ k, blks (rv (A i) (C i) (mks i (Z i).length)) k ↔ ∃ ad, A i = some ad ∧ ad.block = k := fun k => blks_rv _ _ _ k
  have hblk : ∀ k, k < wi.heap.size → (¬ ∃ ad, A i = some ad ∧ ad.block = k) → ¬ blks v k → w'.heap[k]? = wi.heap[k]? := by
    intro k hk hr hv
    rw [h2.block k (by omega) (fun e => hv e.symm), Below.heap_alloc w o k (by omega)]
    exact g.kp.block k hk (fun h => hr ((hrb k).1 h))
  have hrow' : ∀ u ys, Own w u ys → (∀ k, blks u k → ¬ blks v k) → Own w' u ys := fun u ys hu hne =>
    (hu.alloc o).of_block fun k hk => h2.block k ((hu.alloc o).lt hk) (fun e => hne k hk e.symm)
  have hvlow : ∀ k, blks v k → w0.heap.size ≤ k := h.low
  have hvA : ∀ k, blks v k → ¬ rft n A k := fun k hk hr => by have := hlow k hr; have := hvlow k hk; omega
  have hlist : w.ownsRow 0 23 1 v i ((List.range i).map X) := list_of_block h.list fun k hk => g.kp.block k (list_lt h.list k hk) (fun hr => hvA k hk ⟨i, hi, (hrb k).1 hr⟩)
  have hxv : ∀ k, blks x k → ¬ blks v k := fun k hx hv => list_ne_row hlist g.own k hv hx
  refine ⟨⟨?_, ?_, ?_, by omega, ?_⟩, ⟨?_, ?_, h.fam.apart⟩, ?_, ?_, ?_, ?_⟩
  · exact (h2.os.trans g.kp.os).trans h.kp.os
  · exact (h2.tape.trans g.kp.tape).trans h.kp.tape
  · exact (h2.output.trans g.kp.output).trans h.kp.output
  · intro k hk hr
    rw [hblk k (by omega) (fun hh => hr ⟨i, hi, hh⟩) (fun hv => by have := hvlow k hv; omega)]
    exact h.kp.block k hk hr
  · refine list_of_block h.fam.list fun k hk => hblk k (list_lt h.fam.list k hk) (fun hh => ?_) (fun hv => by have := hvlow k hv; have := hfv k hk; omega)
    exact list_ne_row h.fam.list (h.fam.rows i hi) k hk ((blks_rv _ _ _ k).2 hh)
  · intro j hj
    by_cases e : j = i
    · subst e
      rw [zf_end Z n j hj]
      exact hrow' _ _ g.row (fun k hk hv => hvA k hv ⟨j, hj, (hrb k).1 hk⟩)
    · refine (h.fam.rows j hj).of_block fun k hk => hblk k ((h.fam.rows j hj).lt hk) (fun hh => ?_) (fun hv => hvA k hv ⟨j, hj, (blks_rv _ _ _ k).1 hk⟩)
      exact h.fam.apart j i hj hi e k hk ((blks_rv _ _ _ k).2 hh)
  · have e : (List.range (i + 1)).map (put X i x) = (List.range i).map X ++ [x] := by
      rw [List.range_succ, List.map_append]
      congr 1
      · apply List.map_congr_left
        intro j hj
        exact put_other _ _ _ _ (by have := List.mem_range.1 hj; omega)
      · simp [put_same]
    rw [e]
    have e2 : ((List.range i).map X ++ [x]).length = i + 1 := by simp
    rw [e2] at h1
    exact h1
  · intro j hj
    by_cases e : j = i
    · subst e
      rw [put_same]
      exact hrow' _ _ g.own hxv
    · rw [put_other _ _ _ _ e]
      have hj' : j < i := by omega
      refine (h.rows j hj').of_block fun k hk => hblk k ((h.rows j hj').lt hk) (fun hh => ?_) (fun hv => list_ne_row h.list (h.rows j hj') k hv hk)
      rcases h.lies j hj' k hk with h5 | h5
      · exact h.fam.apart j i (by omega) hi e k ((blks_rv _ _ _ k).2 h5) ((blks_rv _ _ _ k).2 hh)
      · have := hlow k ⟨i, hi, hh⟩; omega
  · intro j hj k hk
    by_cases e : j = i
    · subst e
      rw [put_same] at hk
      rcases g.lies k hk with h5 | h5
      · exact .inl ((hrb k).1 h5)
      · exact .inr (by omega)
    · rw [put_other _ _ _ _ e] at hk
      exact h.lies j (by omega) k hk
  · intro k hk
    rcases h3 k hk with h4 | h4
    · exact h.low k h4
    · omega

theorem long_at {w : World} {x : Value} {i N : Nat} (h : Own w x (mks i N ++ nks i 16)) : ∃ b c, x = .slice (some ⟨b, 0, none⟩) (N + 16) c ∧ ∀ k, k < N + 16 → w.cell? ⟨b, k, none⟩ = some (.int .u8 ((mks i N ++ nks i 16).getD k 0)) := by
  have e : (mks i N ++ nks i 16).length = N + 16 := by rw [List.length_append, mks_len, nks_len]
  rcases h.2 with ⟨_, h0⟩ | ⟨g, cap, cur, rfl, _⟩
  · omega
  · obtain ⟨_, _, _, h4, _⟩ := h.at_
    rw [e] at h4 ⊢
    exact ⟨g, cap, rfl, h4⟩
theorem both_left (i N m k : Nat) (h : k < N) : (mks i N ++ nks i m).getD k 0 = mk i k := by
  rw [List.getD_eq_getElem?_getD, List.getElem?_append_left (by rw [mks_len]; exact h), ← List.getD_eq_getElem?_getD, mks_at _ _ _ h]
theorem both_right (i N m k : Nat) (h : k < m) : (mks i N ++ nks i m).getD (N + k) 0 = nk i k := by
  rw [List.getD_eq_getElem?_getD, List.getElem?_append_right (by rw [mks_len]; omega), mks_len, Nat.add_sub_cancel_left, ← List.getD_eq_getElem?_getD, nks_at _ _ _ h]

set_option maxHeartbeats 3200000 in
set_option maxRecDepth 1000000 in
theorem ownBytes_some (lb n cap : Nat) (A : Nat → Option Addr) (C : Nat → Nat) (Z : Nat → List Int) (w : World) (h : Fam w (.slice (some ⟨lb, 0, none⟩) n cap) n A C Z) (hn : n ≤ 100000) (hz : ∀ i, i < n → (Z i).length ≤ 10000000) :
    Calls Try.prog 35 #[.slice (some ⟨lb, 0, none⟩) n cap] w fun r w' => r = .returned (.bool true) ∧ Kp (rft n A) w w' := by
  obtain ⟨i0, hi, hz0, hz1, hz2⟩ := info_parts Try.info5
  obtain ⟨i1, hi1, hy0, hy1, hy2⟩ := info_parts Try.info23
  have H := hide h
  have HZ := hide hz
  clear h hz
  go_enter Try.func35, Try.ntmps35
  go_wp2
  go_loopw [3] (fun x wr' => ∃ i : Nat, i ≤ n ∧ x = .int .i64 (i : Int) ∧ Fam wr' (.slice (some ⟨lb, 0, none⟩) n cap) n A C (zf Z i 0) ∧ Kp (rft n A) w wr') (fun x _ => n - (intOf x).toNat)
  case atStart => exact ⟨0, Nat.zero_le _, rfl, by rw [zf_start]; exact H.out, Kp.refl _ _⟩
  case round =>
    obtain ⟨i, hin, rfl, hF, hK⟩ := hrel
    have HF := hide hF
    have HK := hide hK
    clear hF hK
    by_cases hlt : i < n
    · go_wp2
      go_loopw [4] (fun x wr' => ∃ k : Nat, k ≤ (Z i).length ∧ x = .int .i64 (k : Int) ∧ Fam wr' (.slice (some ⟨lb, 0, none⟩) n cap) n A C (zf Z i k) ∧ Kp (rft n A) w wr') (fun x _ => (Z i).length - (intOf x).toNat)
      case atStart => exact ⟨0, Nat.zero_le _, rfl, HF.out, HK.out⟩
      case round =>
        clear HF HK
        obtain ⟨k, hk, rfl, hF, hK⟩ := hrel
        have HF := hide hF
        have HK := hide hK
        have hc := hF.cell i hlt
        rw [zf_len Z i k i hk] at hc
        have hN := HZ.out i hlt
        clear hF hK
        by_cases hkl : k < (Z i).length
        · obtain ⟨b, ha, hb, hf⟩ := row_at (HF.out.rows i hlt) k (by rw [zf_len Z i k i hk]; exact hkl)
          have HS := hide (HF.out.set i k b hlt (by rw [zf_len Z i k i hk]; exact hkl) ha (mk i k))
          rw [zf_set Z i k hkl] at HS
          rw [ha] at hc
          generalize (zf Z i k i).getD k 0 = old at hb
          have HM : Hid (mk i k = ((i : Int) * 97 + (k : Int) * 13) % 256) := rfl
          rw [HM.out] at HS
          generalize hNN : (Z i).length = N at *
          go_wp2
          go_roundw
          case rel => exact ⟨k + 1, by omega, by go_num, HS.out.1, HK.out.trans HS.out.2⟩
          case measure => first | (simp [intOf]; omega) | (simp [intOf]; done)
        · have hke : k = (Z i).length := by omega
          have HF2 : Hid (Fam wr (.slice (some ⟨lb, 0, none⟩) n cap) n A C (zf Z (i + 1) 0)) := HF.out.same (by rw [hke]; exact zf_next Z i)
          clear HF
          generalize hNN : (Z i).length = N at *
          subst hke
          go_wp2
          go_roundw
          case rel => exact ⟨i + 1, by omega, by go_num, HF2.out, HK.out⟩
          case measure => first | (simp [intOf]; omega) | (simp [intOf]; done)
    · have hie : n = i := by omega
      subst hie
      clear hin hlt
      obtain ⟨W0, hW0⟩ : ∃ W, W = wr := ⟨_, rfl⟩
      subst hW0
      have HS0 := hide (HF.out.lt)
      go_wp2
      go_loopw [5, 6] (fun x y wr' => ∃ (i : Nat) (X : Nat → Value), i ≤ n ∧ y = .int .i64 (i : Int) ∧ Lg n A C (.slice (some ⟨lb, 0, none⟩) n cap) W0 wr' x i Z X) (fun _ y _ => n - (intOf y).toNat)
      case atStart => exact ⟨0, fun _ => .slice none 0 0, Nat.zero_le _, rfl, Kp.refl _ _, HF.out, World.ownsRow_nil _ _ _ _, fun j hj => by omega, fun j hj => by omega, fun k hk => by cases hk⟩
      case round =>
        obtain ⟨i, X, hin, rfl, hL⟩ := hrel
        obtain ⟨va, vm, vc, rfl, HVm⟩ := list_shape hL.list
        have HL := hide hL
        clear hL
        by_cases hlt : i < n
        · obtain ⟨W1, hW1⟩ : ∃ W, W = wr := ⟨_, rfl⟩
          subst hW1
          have HFr := hide HL.out.fam
          have hc := HFr.out.cell i hlt
          have hR := HFr.out.rows i hlt
          have hN := HZ.out i hlt
          rw [zf_end Z n i hlt] at hc hR
          rw [mks_len] at hc
          have HR := hide hR
          have HN2 : Hid ((mks i (Z i).length).length = (Z i).length) := mks_len _ _
          clear hR HFr
          go_wp2
          go_loopw [7, 8] (fun x y wr' => ∃ k : Nat, k ≤ 16 ∧ y = .int .i64 (k : Int) ∧ Gs (rv (A i) (C i) (mks i (Z i).length)) (mks i (Z i).length) W1 wr' x (nks i k)) (fun _ y _ => 16 - (intOf y).toNat)
          case atStart =>
            refine ⟨0, by omega, rfl, ?_, HR.out, ?_, Kp.refl _ _⟩
            · have h := HR.out
              unfold rv at h
              rw [HN2.out] at h
              simpa [nks] using h
            · intro b hb
              exact .inl ((blks_rv _ _ _ b).2 ((blks_rv _ _ (Z i) b).1 hb))
          case round =>
            obtain ⟨k, hk, rfl, hgs⟩ := hrel
            obtain ⟨xa, xm, xc, rfl, HXm⟩ := hgs.own.shape2
            have HO := hide hgs.own
            have HGs := hide hgs
            clear hgs
            by_cases hk16 : k < 16
            · have HM : Hid (nk i k = ((-1 - (i : Int)) * 97 + (k : Int) * 13) % 256) := rfl
              have HOl := hide (HO.out.alloc (.cells #[.int .u8 (((-1 - (i : Int)) * 97 + (k : Int) * 13) % 256)] 5)).list
              have HSr := hide (src_one wr (((-1 - (i : Int)) * 97 + (k : Int) * 13) % 256))
              have hlen : ((mks i (Z i).length ++ nks i k).map (Value.int .u8)).length = (Z i).length + k := by rw [List.length_map, List.length_append, mks_len, nks_len]
              have HB1 : Hid ((((mks i (Z i).length ++ nks i k).map (Value.int .u8)).length + 1) * i0.bytes ≤ 140737488355328) := by rw [Hid, hlen, hz2]; omega
              have HB2 : Hid (((mks i (Z i).length ++ nks i k).map (Value.int .u8)).length + 1 ≤ 140737488355328) := by rw [Hid, hlen]; omega
              clear hlen
              go_wp2_with (at_builtin; refine wpList_append_one (by rfl) (.tmp 54) (.tmp 62) 23 23 5 (by rfl) i0 (.int .u8 0) Try.underlying23 hi hz0 hz1 rfl (.slice xa xm xc) _ (by rfl) HOl.out _ 1 [.int .u8 (((-1 - (i : Int)) * 97 + (k : Int) * 13) % 256)] (by rfl) HSr.out HB1.out HB2.out ?_; intro v' w1 h1 h2 h3 h4; have HG := hide (grow_step HGs.out h1 h2 h3 h4); clear h1 h2 h3 h4)
              go_roundw
              case rel => exact ⟨k + 1, by omega, by go_num, by rw [nks_succ, HM.out]; exact HG.out⟩
              case measure => simp [intOf]; omega
            · obtain rfl : k = 16 := by omega
              have hls : ((List.range i).map X).length = i := by simp
              have HLl := hide (list_of_block HL.out.list (w' := wr) (fun b hb => HGs.out.kp.block b (list_lt HL.out.list b hb) (fun hr => by have h5 := HL.out.low b hb; have h6 := HS0.out b (.inr ⟨i, hlt, (blks_rv _ _ _ b).1 hr⟩); omega)))
              have HLa : Hid ((wr.alloc (.cells #[.slice xa xm xc] 23)).ownsRow 0 23 1 (.slice va vm vc) ((List.range i).map X).length ((List.range i).map X)) := by rw [Hid, hls]; exact list_of_block HLl.out (fun b hb => Below.heap_alloc wr _ b (list_lt HLl.out b hb))
              have HSr := hide (src_list wr (.slice xa xm xc) rfl)
              have HB1 : Hid ((((List.range i).map X).length + 1) * i1.bytes ≤ 140737488355328) := by rw [Hid, hls, hy2]; omega
              have HB2 : Hid (((List.range i).map X).length + 1 ≤ 140737488355328) := by rw [Hid, hls]; omega
              clear hls
              go_wp2_with (at_builtin; refine wpList_append_one (by rfl) (.tmp 64) (.tmp 66) 32 32 23 (by rfl) i1 (.slice none 0 0) Try.underlying32 hi1 hy0 hy1 rfl (.slice va vm vc) _ (by rfl) HLa.out _ 1 [.slice xa xm xc] (by rfl) HSr.out HB1.out HB2.out ?_; intro v' w1 h1 h2 h3 h4; have HG := hide (HL.out.more hlt HGs.out (fun k hk => HS0.out k (.inr hk)) (fun k hk => HS0.out k (.inl hk)) h1 h2 h3); clear h1 h2 h3 h4)
              go_roundw
              case rel => exact ⟨i + 1, _, by omega, by go_num, HG.out⟩
              case measure => simp [intOf]; omega
        · have hie : n = i := by omega
          subst hie
          clear hin hlt
          obtain ⟨W3, hW3⟩ : ∃ W, W = wr := ⟨_, rfl⟩
          subst hW3
          have HF3 := hide HL.out.fam
          have HK3 : Hid (Kp (rft n A) w W3) := HK.out.trans HL.out.kp
          rcases HL.out.list.2 with ⟨e, h0⟩ | ⟨g, cap2, cur, e, -, -, -, -, -, -⟩
          · subst h0
            go_wp2
            go_loopw [9] (fun x wr' => x = .int .i64 0 ∧ wr' = W3) (fun _ _ => 0)
            case atStart => exact ⟨rfl, rfl⟩
            case round =>
              obtain ⟨rfl, rfl⟩ := hrel
              go_wp2
              go_ret
              exact ⟨rfl, HK3.out⟩
          · cases e
            go_wp2
            go_loopw [9] (fun x wr' => ∃ i : Nat, i ≤ n ∧ x = .int .i64 (i : Int) ∧ wr' = W3) (fun x _ => n - (intOf x).toNat)
            case atStart => exact ⟨0, Nat.zero_le _, rfl, rfl⟩
            case round =>
              obtain ⟨i, hin, rfl, rfl⟩ := hrel
              by_cases hlt : i < n
              · have hc := HF3.out.cell i hlt
                have hR := HF3.out.rows i hlt
                have hN := HZ.out i hlt
                rw [zf_end Z n i hlt] at hc hR
                rw [mks_len] at hc
                have hd := list_cell HL.out.list rfl i (X i) (by simp [hlt])
                obtain ⟨b2, c2, hXe, hX4⟩ := long_at (HL.out.rows i hlt)
                rw [hXe] at hd
                have HX4 := hide hX4
                have HR := hide hR
                clear hXe hX4 hR
                generalize (Z i).length = N at *
                go_wp2
                go_loopw [11] (fun x wr' => ∃ k : Nat, k ≤ N ∧ x = .int .i64 (k : Int) ∧ wr' = wr) (fun x _ => N - (intOf x).toNat)
                case atStart => exact ⟨0, Nat.zero_le _, rfl, rfl⟩
                case round =>
                  obtain ⟨k, hk, rfl, rfl⟩ := hrel
                  by_cases hkl : k < N
                  · obtain ⟨b, ha, hb, hf⟩ := row_at HR.out k (by rw [mks_len]; exact hkl)
                    rw [mks_at _ _ _ hkl] at hb
                    rw [ha] at hc
                    have hb2 := (HX4.out k (by omega)).trans (by rw [both_left _ _ _ _ hkl])
                    unfold mk at hb hb2
                    clear hf
                    go_wp2
                    go_roundw
                    case rel => exact ⟨k + 1, by omega, by go_num, by trivial⟩
                    case measure => simp [intOf]; omega
                  · obtain rfl : k = N := by omega
                    go_wp2
                    go_loopw [12] (fun x wr' => ∃ j : Nat, j ≤ 16 ∧ x = .int .i64 (j : Int) ∧ wr' = wr) (fun x _ => 16 - (intOf x).toNat)
                    case atStart => exact ⟨0, Nat.zero_le _, rfl, rfl⟩
                    case round =>
                      obtain ⟨j, hj, rfl, rfl⟩ := hrel
                      by_cases hj16 : j < 16
                      · have hb2 := (HX4.out (k + j) (by omega)).trans (by rw [both_right _ _ _ _ hj16])
                        unfold nk at hb2
                        go_wp2
                        go_roundw
                        case rel => exact ⟨j + 1, by omega, by go_num, by trivial⟩
                        case measure => simp [intOf]; omega
                      · obtain rfl : j = 16 := by omega
                        go_wp2
                        go_roundw
                        case rel => exact ⟨i + 1, by omega, by go_num, by trivial⟩
                        case measure => simp [intOf]; omega
              · go_wp2
                go_ret
                exact ⟨rfl, HK3.out⟩
end Go.Proofs.Ytfbkcolcdkglbaa
