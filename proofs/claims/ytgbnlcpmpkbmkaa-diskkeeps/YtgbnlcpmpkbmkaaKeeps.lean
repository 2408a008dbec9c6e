/- The Go function DiskKeeps answers true for all numbers of pages, all writes ahead of a sync and behind it and all that is kept, and leaves them as they were: behind a cut each sector has what lasted, or what the last of its writes gave that was kept; behind a sync a cut changes nothing. No condition. -/
import Derived.Test.YtgbnlcpmpkbmkaaEA
import Derived.Deep.RegionHeld3
namespace Go.Proofs.Ytgbnlcpmpkbmkaa.Keeps
open Go.ChangeShapes Go.WideShapes Go.ChangeAt Go.RowKit
set_option linter.unusedVariables false

theorem Try.info63 : (Try.prog.info? 63).map (fun i => (i.zero, i.size, i.bytes)) = some (some (.slice none 0 0), 1, 24) := by kernel_rfl
theorem row_zeroN (n : Nat) (w : World) : Row (w.alloc (.cells (madeCells #[.int .u8 0] n) 5)) (some ⟨w.heap.size, 0, none⟩) (List.replicate n 0) := by
  refine .inr ⟨w.heap.size, 0, rfl, by rw [size_al]; omega, fun i hi => ?_⟩
  rw [List.length_replicate] at hi
  rw [cell_of_row _ _ (0 + i) _ 5 (0, 0) (heap_alloc_new w _)]
  simp [madeCells, hi, Nat.mod_one]
theorem row_zero (w : World) : Row (w.alloc (.cells (madeCells #[.int .u8 0] 128) 5)) (some ⟨w.heap.size, 0, none⟩) (List.replicate 128 0) := row_zeroN 128 w
/-- a disk behind k writes ahead of the sync. -/
structure Ka (M N0 k : Nat) (S : DS) : Prop where
  ls : S.ls.length = 8 * M
  ws : S.ws.length ≤ 8 * k
  off : S.dk = false ∧ S.ts = false ∧ S.s2 = false ∧ S.s3 = false
  n2 : S.n2 ≤ ((N0 + k : Nat) : Int)
  n3 : S.n3 ≤ ((N0 : Nat) : Int)
theorem Ka.start (M : Nat) : Ka M 0 0 (DS.new (8 * M)) := ⟨by simp [DS.new], by simp [DS.new], ⟨rfl, rfl, rfl, rfl⟩, Int.le_refl _, Int.le_refl _⟩
theorem tick_off (l : Int) : tick false l = (false, false, l) := rfl
theorem Ka.er2 {M N0 k : Nat} {S : DS} (h : Ka M N0 k S) : S.er S.s2 S.l2 = 0 := by
  obtain ⟨h1, h2, h3, h4⟩ := h.off
  simp [DS.er, h1, h2, h3, tick_off]
theorem Ka.er3 {M N0 k : Nat} {S : DS} (h : Ka M N0 k S) : S.er S.s3 S.l3 = 0 := by
  obtain ⟨h1, h2, h3, h4⟩ := h.off
  simp [DS.er, h1, h2, h4, tick_off]
theorem Ka.writeN {M N0 k : Nat} {S : DS} (h : Ka M N0 k S) (b : Nat) (zs : List Int) (N : Nat) (hN : N ≤ 8) : Ka M N0 (k + 1) (S.op2.adds b zs N) := by
  obtain ⟨h1, h2, h3, h4⟩ := h.off
  refine ⟨h.ls, ?_, ⟨h1, ?_, ?_, h4⟩, ?_, h.n3⟩
  · rw [DS.adds_len]; show S.ws.length + N ≤ _; have := h.ws; omega
  · show (tick S.ts S.tl).2.1 = false; rw [h2]; rfl
  · show (tick S.s2 S.l2).2.1 = false; rw [h3]; rfl
  · show S.n2 + 1 ≤ _; have := h.n2; omega
theorem Ka.write {M N0 k : Nat} {S : DS} (h : Ka M N0 k S) (b : Nat) (zs : List Int) : Ka M N0 (k + 1) (S.op2.adds b zs 8) := h.writeN b zs 8 (by omega)
theorem Ka.next {M k : Nat} {S : DS} (h : Ka M 0 k S) (hk : k ≤ 100) (bs : List Bool) : Ka M 100 0 ((S.op3.set yes).cut bs) :=
  ⟨by rw [cut_len]; show (settled _ _ _ _).length = _; rw [settled_len]; exact h.ls, Nat.zero_le _, ⟨rfl, rfl, rfl, rfl⟩, by show S.n2 ≤ _; have := h.n2; omega, by show S.n3 + 1 ≤ _; have := h.n3; omega⟩
theorem brow_at' {w : World} {a : Option Addr} {bs : List Bool} (h : BRow w a bs) {k : Nat} (hk : k < bs.length) : ∃ b off, a = some ⟨b, off, none⟩ ∧ w.cell? ⟨b, off + k, none⟩ = some (.bool (kp bs k)) := by
  rcases h with h | ⟨b, off, rfl, _, hc⟩
  · subst h; simp at hk
  · exact ⟨b, off, rfl, hc k hk⟩
theorem kp_out' (bs : List Bool) (k : Nat) (h : bs.length ≤ k) : kp bs k = false := by unfold kp; rw [List.getD_eq_getElem?_getD, List.getElem?_eq_none h]; rfl
theorem DkAt.good' {w : World} {p q : Nat} {S : DS} {O : Nat → Prop} (h : DkAt w p q S O) : S.Good := by
  obtain ⟨vw, m, hd, _⟩ := h
  exact hd.good
theorem own_some {w : World} {v : Value} {zs : List Int} (h : Own w v zs) (hz : 0 < zs.length) : ∃ g n c, v = .slice (some ⟨g, 0, none⟩) n c ∧ n = zs.length := by
  rcases h.2 with ⟨_, e⟩ | ⟨g, cap, cur, e, _⟩
  · omega
  · exact ⟨g, _, cap, e, rfl⟩
theorem own_cap' {w : World} {g n c : Nat} {zs : List Int} (h : Own w (.slice (some ⟨g, 0, none⟩) n c) zs) : n ≤ c := by
  rcases h.2 with ⟨e, _⟩ | ⟨g', cap, cur, e, _, _, hn, _⟩
  · cases e
  · cases e; exact hn
theorem own_capm' {w : World} {g n c : Nat} {zs : List Int} (h : Own w (.slice (some ⟨g, 0, none⟩) n c) zs) : c ≤ 9223372036854775807 := by
  rcases h.2 with ⟨e, _⟩ | ⟨g', cap, cur, e, _, _, _, hm, _⟩
  · cases e
  · cases e; unfold maxLen at hm; omega
theorem flat_get (LL : List (List Int)) (h : ∀ s ∈ LL, s.length = 128) (k : Nat) (hk : k < LL.length) (i : Nat) (hi : i < 128) : LL.flatten.getD (128 * k + i) 0 = (LL.getD k []).getD i 0 := by
  have e : LL.flatten = (LL.take k).flatten ++ (LL.getD k [] ++ (LL.drop (k + 1)).flatten) := by
    rw [← List.append_assoc, ← flat_take LL k hk, ← List.flatten_append, List.take_append_drop]
  have hl := flat_tlen LL h k (by omega)
  have hg := h _ (getD_mem LL k [] hk)
  rw [e, List.getD_eq_getElem?_getD, List.getElem?_append_right (by omega), List.getElem?_append_left (by omega), hl, show 128 * k + i - k * 128 = i by omega, ← List.getD_eq_getElem?_getD]
theorem row_seg {w : World} {g : Nat} {LL : List (List Int)} (hr : Row w (some ⟨g, 0, none⟩) LL.flatten) (L' : List (List Int)) (h : ∀ s ∈ LL, s.length = 128) (k : Nat) (hk : k < LL.length) : Row w (some ⟨g, 128 * k, none⟩) (LL.getD k []) := by
  have hg := h _ (getD_mem LL k [] hk)
  have hl := flat_tlen LL h LL.length (Nat.le_refl _)
  rw [List.take_length] at hl
  rcases hr with e | ⟨b, off, e, hlt, hc⟩
  · rw [e] at hl; simp at hl; omega
  · cases e
    refine .inr ⟨g, 128 * k, rfl, hlt, fun i hi => ?_⟩
    rw [hg] at hi
    have := hc (128 * k + i) (by omega)
    rw [Nat.zero_add] at this
    rw [this, flat_get LL h k hk i hi]
theorem sec_one (c : Int) : sec (List.replicate 128 c) 0 = List.replicate 128 c := by
  unfold sec
  rw [List.drop_replicate, List.take_replicate]
  congr 1
theorem sec_rep (c : Int) (i : Nat) (h : i < 8) : sec (List.replicate 1024 c) i = List.replicate 128 c := by
  unfold sec
  rw [List.drop_replicate, List.take_replicate]
  congr 1
  omega
theorem set_rep (n k : Nat) : (DS.new n).ls.set k (List.replicate 128 0) = (DS.new n).ls := by
  apply List.ext_getElem?
  intro j
  by_cases h : j < n
  · by_cases e : k = j
    · subst e
      simp [DS.new, h]
    · rw [List.getElem?_set_ne e]
  · rw [List.getElem?_eq_none (by simp [DS.new]; omega), List.getElem?_eq_none (by simp [DS.new]; omega)]
set_option maxHeartbeats 12800000 in
set_option maxRecDepth 1000000 in
theorem walk (a : Nat) (la lb' : Option Addr) (lc lc' : Nat) (xs ys : List Nat) (ka : Option Addr) (kc : Nat) (bs : List Bool) (w : World) (ha : a ≤ 255) (hr : WRow w la xs) (hx : ∀ x ∈ xs, x ≤ 65535) (hl : xs.length ≤ 9223372036854775807) (hr' : WRow w lb' ys) (hx' : ∀ x ∈ ys, x ≤ 65535) (hl' : ys.length ≤ 9223372036854775807) (hbr : BRow w ka bs) (hbl : bs.length ≤ 9223372036854775807) :
    Calls Try.prog 5 #[.int .u8 (a : Int), .slice la xs.length lc, .slice lb' ys.length lc', .slice ka bs.length kc] w fun e w' => e = .returned (.bool true) ∧ Below w.heap.size w w' := by
  have HRw : Hid (∀ W, Below w.heap.size w W → WRow W la xs) := fun W hb => hr.below hb
  have HRw' : Hid (∀ W, Below w.heap.size w W → WRow W lb' ys) := fun W hb => hr'.below hb
  have HLt := hide hbr.lt
  have HBr : Hid (∀ W, Below w.heap.size w W → BRow W ka bs) := fun W hb => hbr.below hb HLt.out
  have HXb : Hid (∀ i, xs.getD i 0 ≤ 65535) := fun i => by
    by_cases h : i < xs.length
    · exact hx _ (getD_mem _ _ _ h)
    · rw [List.getD_eq_getElem?_getD, List.getElem?_eq_none (by omega)]; exact Nat.zero_le _
  have HXb' : Hid (∀ i, ys.getD i 0 ≤ 65535) := fun i => by
    by_cases h : i < ys.length
    · exact hx' _ (getD_mem _ _ _ h)
    · rw [List.getD_eq_getElem?_getD, List.getElem?_eq_none (by omega)]; exact Nat.zero_le _
  clear hr hx hr' hx' hbr
  obtain ⟨M, HM, hM1, hM6⟩ : ∃ M, Hid (M = a % 6 + 1) ∧ 1 ≤ M ∧ M ≤ 6 := ⟨_, rfl, by omega, by omega⟩
  have e3 : (a : Int) % 6 + 1 = (M : Int) := by rw [HM.out]; omega
  have hmk : ∀ W, (Instr.makeSlice 35 (.int .i64 (8 * (M : Int))) (.int .i64 (8 * (M : Int)))).run Try.prog W = .ok (.slice (some ⟨W.heap.size, 0, none⟩) (8 * M) (8 * M)) (W.alloc (.cells (madeCells #[.slice none 0 0] (8 * M)) 63)) := fun W => by
    have := run_make_row' (P := Try.prog) 35 63 (.slice none 0 0) 24 Try.underlying35 Try.info63 rfl .i64 .i64 (8 * M) (by omega) (by omega) W
    rwa [show ((8 * M : Nat) : Int) = 8 * (M : Int) by omega] at this
  have hw8 : IntKind.i64.wrap (8 * (M : Int)) = 8 * (M : Int) := by rw [IntKind.wrap_i64]; omega
  have hmk2 : ∀ W, (Instr.makeSlice 63 (.int .i64 128) (.int .i64 128)).run Try.prog W = .ok (.slice (some ⟨W.heap.size, 0, none⟩) 128 128) (W.alloc (.cells (madeCells #[.int .u8 0] 128) 5)) := fun W => run_make_row' (P := Try.prog) 63 5 (.int .u8 0) 1 Try.underlying63 Try.info5 rfl .i64 .i64 128 (by omega) (by omega) W
  go_enter Try.func5, Try.ntmps5
  go_wp2_with fail
  refine (new_at M (M : Int) w rfl hM1 (by omega)).mono ?_
  rintro e w1 ⟨O1, p, q, rfl, hd, hf⟩
  have HD1 := hide hd
  have HF1 := hide hf
  clear hd hf
  go_wp2_with fail
  refine (known_any w1).mono ?_
  rintro e w2 ⟨rfl, hb⟩
  have HD2 := hide (HD1.out.below hb)
  have HF2 := hide (HF1.out.on hb)
  clear hb HD1 HF1
  go_wp2
  obtain ⟨w3, HW3⟩ : ∃ w3, Hid (w3 = w2.alloc (.cells (madeCells #[.slice none 0 0] (8 * M)) 63)) := ⟨_, rfl⟩
  have HDt3 : Hid (Dt w.heap.size w w3 p q O1 (DS.new (8 * M)) w2.heap.size (madeCells #[.slice none 0 0] (8 * M)).toList (DS.new (8 * M)).ls 0) := by
    have hb : Below w2.heap.size w2 w3 := by rw [HW3.out]; exact below_alloc _ _
    exact ⟨HD2.out.below hb, ⟨by rw [HW3.out]; exact heap_alloc_new w2 _, by simp [size_madeCells, DS.new], fun h => by have := HD2.out.lt _ h; omega, fun i hi => by omega⟩, HF2.out.on hb, HF2.out.size⟩
  rw [← HW3.out]
  generalize w2.heap.size = lb at *
  clear HW3 HD2 HF2 hmk hw8
  have HLl : Hid ((DS.new (8 * M)).ls.length = 8 * M) := by simp [DS.new, Hid]
  go_loopw [13] (fun i wr' => ∃ (k : Nat) (vs : List Value), k ≤ 8 * M ∧ i = .int .i64 (k : Int) ∧ Dt w.heap.size w wr' p q O1 (DS.new (8 * M)) lb vs (DS.new (8 * M)).ls k) (fun i _ => 8 * M - (intOf i).toNat)
  case atStart => exact ⟨0, _, by omega, rfl, HDt3.out⟩
  case round =>
    obtain ⟨k1, vs, hk1, rfl, hd⟩ := hrel
    have HDt := hide hd
    clear hd
    by_cases hlt : k1 < 8 * M
    · have hnb : decide (k1 < 8 * M) = true := by simp [hlt]
      have hb := below_alloc wr (.cells (madeCells #[.int .u8 0] 128) 5)
      have HDa := hide (HDt.out.on hb)
      obtain ⟨v0, c0⟩ := HDa.out.c1 k1 (by rw [HLl.out]; exact hlt)
      have f0 := HDa.out.f1 k1
      have HRz : Hid (Row (wr.alloc (.cells (madeCells #[.int .u8 0] 128) 5)) (some ⟨wr.heap.size, 0, none⟩) (List.replicate 128 0)) := row_zero wr
      have HEs : Hid ((DS.new (8 * M)).ls.set k1 (List.replicate 128 0) = (DS.new (8 * M)).ls) := set_rep (8 * M) k1
      have HDn := hide (HDa.out.put k1 wr.heap.size (List.replicate 128 0) (k1 + 1) (by rw [HLl.out]; exact hlt) (by omega) (by have := HDt.out.t.lt; omega) HDt.out.no (by rw [size_al]; omega) HRz.out)
      rw [HEs.out] at HDn
      clear hb
      go_wp2
      go_roundw
      case rel => exact ⟨k1 + 1, _, by omega, by go_num, HDn.out⟩
      case measure => simp [intOf]; omega
    · have e : k1 = 8 * M := by omega
      rw [e] at HDt
      have hnb : decide (k1 < 8 * M) = false := by simp; omega
      clear hmk2 e
      go_wp2
      clear hnb hk1 hlt
      have HKa0 : Hid (Ka M 0 0 (DS.new (8 * M))) := Ka.start M
      go_loopw [14] (fun i wr' => ∃ (k : Nat) (vs : List Value) (S : DS) (O : Nat → Prop), k ≤ 100 ∧ i = .int .i64 (k : Int) ∧ Dt w.heap.size w wr' p q O S lb vs (S.lt yes) (8 * M) ∧ Ka M 0 k S) (fun i _ => 100 - (intOf i).toNat)
      case atStart => exact ⟨0, vs, _, O1, by omega, rfl, HDt.out, HKa0.out⟩
      case round =>
        clear HDt
        obtain ⟨k, vs, S, O, hk, rfl, hd, hka⟩ := hrel
        have HDt := hide hd
        have HKa := hide hka
        clear hd hka
        by_cases hlt : k < xs.length ∧ k < 100
        · obtain ⟨hlt1, hlt2⟩ := hlt
          have hd1 : decide (k < xs.length) = true := by simp [hlt1]
          have hd2 : decide ((k : Int) < 100) = true := by simp; omega
          obtain ⟨gb, go, rfl, hcell⟩ : ∃ gb go, la = some ⟨gb, go, none⟩ ∧ Hid (∀ W, Below w.heap.size w W → W.cell? ⟨gb, go + k, none⟩ = some (.int .u16 ((xs.getD k 0 : Nat) : Int))) := wrow_at (HRw.out) hlt1
          have HCl := hcell
          clear hcell
          have hxb := HXb.out k
          generalize xs.getD k 0 = x at *
          obtain ⟨r, HR, hrM⟩ : ∃ r, Hid (r = x % M) ∧ r < M := ⟨_, rfl, Nat.mod_lt _ (by omega)⟩
          obtain ⟨cc, HC, hcb⟩ : ∃ cc, Hid (cc = x / 256) ∧ cc ≤ 255 := ⟨_, rfl, by omega⟩
          have e6 : (x : Int) % (M : Int) = (r : Int) := by rw [HR.out]; rfl
          have e7 : (x : Int) / 256 = (cc : Int) := by rw [HC.out]; rfl
          have e8 : Int.tmod (x : Int) (M : Int) = (r : Int) := by rw [Int.tmod_eq_emod_of_nonneg (by omega)]; exact e6
          have e9 : IntKind.i64.wrap (r : Int) = (r : Int) := by rw [IntKind.wrap_i64]; omega
          have hM0 : ¬ ((M : Int) = 0) := by omega
          have hM0' : ((M : Int) == 0) = false := by simp; omega
          have hM0'' : ¬ (M = 0) := by omega
          have e12 : IntKind.i64.wrap (x : Int) = (x : Int) := by rw [IntKind.wrap_i64]; omega
          have e10 : IntKind.u16.wrap (cc : Int) = (cc : Int) := by rw [IntKind.wrap_u16]; omega
          have e11 : IntKind.u8.wrap (cc : Int) = (cc : Int) := by rw [IntKind.wrap_u8]; omega
          have c0 := HCl.out wr HDt.out.f.below
          go_wp2_with fail
          refine (filled_at 1024 1024 (cc : Int) wr rfl (by omega)).mono ?_
          rintro e w5 ⟨rfl, hrow, hlt5, hb⟩
          have HR5 := hide hrow
          have HNo := hide HDt.out.no
          have HDt5 := hide (HDt.out.on hb)
          clear hrow hb c0
          go_wp2_with fail
          refine (write_ok p q O S r (r : Int) wr.heap.size 1024 (cc : Int) 8 w5 HDt5.out.d rfl (by omega) HNo.out HR5.out hlt5 (by rw [HKa.out.ls]; omega) (by rw [HKa.out.ls]; omega) (by omega) (by have := HKa.out.ws; omega) (by have := HKa.out.n2; omega) HKa.out.er2).mono ?_
          rintro e w6 ⟨rfl, O6, hd, hg⟩
          have HDt6 := hide (HDt5.out.go hd hg)
          have HKn := hide (HKa.out.write (8 * r) (List.replicate 1024 (cc : Int)))
          clear hd hg
          have c0 := HCl.out w6 HDt6.out.f.below
          go_wp2
          clear c0
          go_loopw [16] (fun i wr' => ∃ (j : Nat) (vs : List Value), j ≤ 8 ∧ i = .int .i64 (j : Int) ∧ Dt w.heap.size w wr' p q O6 (S.op2.adds (8 * r) (List.replicate 1024 (cc : Int)) 8) lb vs ((S.op2.adds (8 * r) (List.replicate 1024 (cc : Int)) j).lt yes) (8 * M)) (fun i _ => 8 - (intOf i).toNat)
          case atStart => exact ⟨0, vs, by omega, rfl, by rw [DS.adds_zero]; exact HDt6.out⟩
          case round =>
            clear HDt6 HDt5 HDt
            obtain ⟨j, vs, hj, rfl, hd⟩ := hrel
            have HDt := hide hd
            clear hd
            by_cases hj8 : j < 8
            · have c0 := HCl.out wr HDt.out.f.below
              have HLs : Hid (((S.op2.adds (8 * r) (List.replicate 1024 (cc : Int)) j).lt yes).length = 8 * M) := by rw [Hid, DS.lt_len]; exact HKa.out.ls
              have g1 : IntKind.i64.wrap (8 * (r : Int)) = 8 * (r : Int) := by rw [IntKind.wrap_i64]; omega
              have g2 : IntKind.i64.wrap (8 * (r : Int) + (j : Int)) = 8 * (r : Int) + (j : Int) := by rw [IntKind.wrap_i64]; omega
              have g3 : (8 * (r : Int) + (j : Int)).toNat = 8 * r + j := by omega
              have g4 : 8 * (r : Int) + (j : Int) < 8 * (M : Int) := by omega
              have g5 : (0 : Int) ≤ 8 * (r : Int) + (j : Int) := by omega
              go_wp2_with fail
              refine (filled_at 128 128 (cc : Int) wr rfl (by omega)).mono ?_
              rintro e w7 ⟨rfl, hrow, hlt7, hb⟩
              have HR7 := hide hrow
              have HNo7 := hide HDt.out.no
              have hbl7 := HDt.out.t.lt
              have HDt7 := hide (HDt.out.on hb)
              obtain ⟨v0, cv⟩ := HDt7.out.c1 (8 * r + j) (by rw [HLs.out]; omega)
              have fv := HDt7.out.f1 (8 * r + j)
              have HDn := hide (HDt7.out.put (8 * r + j) wr.heap.size (List.replicate 128 (cc : Int)) (8 * M) (by rw [HLs.out]; omega) (fun i hi => .inr hi) (by omega) HNo7.out hlt7 HR7.out)
              have HLn : Hid (((S.op2.adds (8 * r) (List.replicate 1024 (cc : Int)) j).lt yes).set (8 * r + j) (List.replicate 128 (cc : Int)) = (S.op2.adds (8 * r) (List.replicate 1024 (cc : Int)) (j + 1)).lt yes) := by rw [Hid, DS.adds_succ, DS.lt_add, sec_rep _ j hj8]; rfl
              rw [HLn.out] at HDn
              clear hrow hb c0
              go_wp2
              go_roundw
              case rel => exact ⟨j + 1, _, by omega, by go_num, HDn.out⟩
              case measure => simp [intOf]; omega
            · have e : j = 8 := by omega
              subst e
              go_wp2
              go_roundw
              case rel => exact ⟨k + 1, vs, _, O6, by omega, by go_num, HDt.out, HKn.out⟩
              case measure => simp [intOf]; omega
        · by_cases hk1 : k < xs.length
          · have hd1 : decide (k < xs.length) = true := by simp; omega
            have hd2 : decide ((k : Int) < 100) = false := by simp; omega
            go_wp2_with fail
            refine (sync_ok p q O S wr HDt.out.d (by have := HKa.out.n3; omega) HKa.out.er3).mono ?_
            rintro e w5 ⟨rfl, O5, hd, hg⟩
            have HDt5 := hide (HDt.out.go hd hg)
            clear hd hg
            have HBk := hide (HBr.out w5 HDt5.out.f.below)
            go_wp2_with fail
            refine (cut_any p q O5 (S.op3.set yes) ka kc bs w5 HDt5.out.d HBk.out (fun h0 ad e ho => by have h1 := HLt.out h0 ad e; have h2 := HDt5.out.f.own _ ho; omega) (fun h0 ad e => Nat.lt_of_lt_of_le (HLt.out h0 ad e) HDt5.out.f.size) hbl).mono ?_
            rintro e w6 ⟨rfl, O6, hd, hg⟩
            have HDt6 := hide (HDt5.out.go hd hg)
            have HKb := hide (HKa.out.next hk bs)
            have HS3 : Hid (((S.op3.set yes).cut bs).lt (kp bs) = S.lt yes) := rfl
            rw [← HS3.out] at HDt6
            have HW3 : Hid (((S.op3.set yes).cut bs).ws.length = 0) := rfl
            generalize (S.op3.set yes).cut bs = S3 at HDt6 HKb HW3
            clear hd hg HDt5 HDt HKa HS3 HBk
            go_wp2
            go_loopw [18, 17] (fun i mt wr' => ∃ (k : Nat) (vs : List Value) (m : Nat) (S : DS) (O : Nat → Prop), k ≤ 100 ∧ i = .int .i64 (k : Int) ∧ mt = .int .i64 (m : Int) ∧ Hid (m = S.ws.length) ∧ Dt w.heap.size w wr' p q O S lb vs (S.lt (kp bs)) (8 * M) ∧ Ka M 100 k S) (fun i _ _ => 100 - (intOf i).toNat)
            case atStart => exact ⟨0, vs, 0, S3, O6, by omega, rfl, rfl, HW3.out.symm, HDt6.out, HKb.out⟩
            case round =>
              clear HDt6 HKb HW3
              obtain ⟨k, vs, m, S, O, hk, rfl, rfl, hm, hd, hka⟩ := hrel
              have HMl := hm
              have HDt := hide hd
              have HKa := hide hka
              clear hd hka hm
              by_cases hlt : k < ys.length ∧ k < 100
              · obtain ⟨hlt1, hlt2⟩ := hlt
                have hd1 : decide (k < ys.length) = true := by simp [hlt1]
                have hd2 : decide ((k : Int) < 100) = true := by simp; omega
                obtain ⟨gb, go, rfl, hcell⟩ : ∃ gb go, lb' = some ⟨gb, go, none⟩ ∧ Hid (∀ W, Below w.heap.size w W → W.cell? ⟨gb, go + k, none⟩ = some (.int .u16 ((ys.getD k 0 : Nat) : Int))) := wrow_at (HRw'.out) hlt1
                have HCl := hcell
                clear hcell
                have hxb := HXb'.out k
                generalize ys.getD k 0 = x at *
                obtain ⟨r, HR, hrM⟩ : ∃ r, Hid (r = x % M) ∧ r < M := ⟨_, rfl, Nat.mod_lt _ (by omega)⟩
                obtain ⟨cc, HC, hcb⟩ : ∃ cc, Hid (cc = x / 256) ∧ cc ≤ 255 := ⟨_, rfl, by omega⟩
                have e6 : (x : Int) % (M : Int) = (r : Int) := by rw [HR.out]; rfl
                have e7 : (x : Int) / 256 = (cc : Int) := by rw [HC.out]; rfl
                have e8 : Int.tmod (x : Int) (M : Int) = (r : Int) := by rw [Int.tmod_eq_emod_of_nonneg (by omega)]; exact e6
                have e9 : IntKind.i64.wrap (r : Int) = (r : Int) := by rw [IntKind.wrap_i64]; omega
                have hM0 : ¬ ((M : Int) = 0) := by omega
                have hM0' : ((M : Int) == 0) = false := by simp; omega
                have hM0'' : ¬ (M = 0) := by omega
                have e12 : IntKind.i64.wrap (x : Int) = (x : Int) := by rw [IntKind.wrap_i64]; omega
                have e10 : IntKind.u16.wrap (cc : Int) = (cc : Int) := by rw [IntKind.wrap_u16]; omega
                have e11 : IntKind.u8.wrap (cc : Int) = (cc : Int) := by rw [IntKind.wrap_u8]; omega
                have c0 := HCl.out wr HDt.out.f.below
                have hmb : m ≤ 1000 := by rw [HMl.out]; have := HKa.out.ws; omega
                by_cases hodd : cc % 2 = 1
                · have e13 : (cc : Int) % 2 = 1 := by omega
                  have e14 : Int.tmod (cc : Int) 2 = 1 := by rw [Int.tmod_eq_emod_of_nonneg (by omega)]; exact e13
                  go_wp2_with fail
                  refine (filled_at 128 128 (cc : Int) wr rfl (by omega)).mono ?_
                  rintro e w5 ⟨rfl, hrow, hlt5, hb⟩
                  have HR5 := hide hrow
                  have HNo := hide HDt.out.no
                  have HDt5 := hide (HDt.out.on hb)
                  clear hrow hb c0
                  go_wp2_with fail
                  refine (write_ok p q O S r (r : Int) wr.heap.size 128 (cc : Int) 1 w5 HDt5.out.d rfl (by omega) HNo.out HR5.out hlt5 (by rw [HKa.out.ls]; omega) (by rw [HKa.out.ls]; omega) (by omega) (by have := HKa.out.ws; omega) (by have := HKa.out.n2; omega) HKa.out.er2).mono ?_
                  rintro e w6 ⟨rfl, O6, hd, hg⟩
                  have HDt6 := hide (HDt5.out.go hd hg)
                  have HKn := hide (HKa.out.writeN (8 * r) (List.replicate 128 (cc : Int)) 1 (by omega))
                  clear hd hg
                  go_wp2
                  go_loopw [22, 17] (fun i mt wr' => ∃ (j m : Nat) (vs : List Value), j ≤ 1 ∧ i = .int .i64 (j : Int) ∧ mt = .int .i64 (m : Int) ∧ Hid (m = S.ws.length + j) ∧ Dt w.heap.size w wr' p q O6 (S.op2.adds (8 * r) (List.replicate 128 (cc : Int)) 1) lb vs ((S.op2.adds (8 * r) (List.replicate 128 (cc : Int)) j).lt (kp bs)) (8 * M)) (fun i _ _ => 1 - (intOf i).toNat)
                  case atStart => exact ⟨0, m, vs, by omega, rfl, rfl, HMl.out, by rw [DS.adds_zero]; exact HDt6.out⟩
                  case round =>
                    clear HDt6 HDt5 HDt
                    obtain ⟨j, mm, vs, hj, rfl, rfl, hm, hd⟩ := hrel
                    have HMe := hm
                    have HDt := hide hd
                    clear hd hm
                    have hmm : mm ≤ 1000 := by rw [HMe.out]; have := HKa.out.ws; omega
                    by_cases hj8 : j < 1
                    · have HLs : Hid (((S.op2.adds (8 * r) (List.replicate 128 (cc : Int)) j).lt (kp bs)).length = 8 * M) := by rw [Hid, DS.lt_len]; exact HKa.out.ls
                      have g1 : IntKind.i64.wrap (8 * (r : Int)) = 8 * (r : Int) := by rw [IntKind.wrap_i64]; omega
                      have g2 : IntKind.i64.wrap (8 * (r : Int) + (j : Int)) = 8 * (r : Int) + (j : Int) := by rw [IntKind.wrap_i64]; omega
                      have g3 : (8 * (r : Int) + (j : Int)).toNat = 8 * r + j := by omega
                      have g4 : 8 * (r : Int) + (j : Int) < 8 * (M : Int) := by omega
                      have g5 : (0 : Int) ≤ 8 * (r : Int) + (j : Int) := by omega
                      have g6 : IntKind.i64.wrap (128 * (j : Int)) = 128 * (j : Int) := by rw [IntKind.wrap_i64]; omega
                      have g7 : decide (128 * (j : Int) < 128) = true := by simp; omega
                      have hmw : IntKind.i64.wrap ((mm : Int) + 1) = (mm : Int) + 1 := by rw [IntKind.wrap_i64]; omega
                      have HStep : Hid ((S.op2.adds (8 * r) (List.replicate 128 (cc : Int)) (j + 1)).lt (kp bs) = if kp bs mm then (((S.op2.adds (8 * r) (List.replicate 128 (cc : Int)) j).lt (kp bs))).set (8 * r + j) (List.replicate 128 (cc : Int)) else ((S.op2.adds (8 * r) (List.replicate 128 (cc : Int)) j).lt (kp bs))) := by rw [Hid, DS.adds_succ, DS.lt_add, DS.adds_len, HMe.out, show j = 0 by omega, sec_one]; rfl
                      by_cases hkb : mm < bs.length
                      · have hkd : decide (mm < bs.length) = true := by simp [hkb]
                        obtain ⟨b0, of0, rfl, hcell⟩ := brow_at' (HBr.out wr HDt.out.f.below) hkb
                        by_cases hkp : kp bs mm = true
                        · rw [hkp] at hcell
                          go_wp2_with fail
                          refine (filled_at 128 128 (cc : Int) wr rfl (by omega)).mono ?_
                          rintro e w7 ⟨rfl, hrow, hlt7, hb⟩
                          have HR7 := hide hrow
                          have HNo7 := hide HDt.out.no
                          have hbl7 := HDt.out.t.lt
                          have HDt7 := hide (HDt.out.on hb)
                          obtain ⟨v0, cv⟩ := HDt7.out.c1 (8 * r + j) (by rw [HLs.out]; omega)
                          have fv := HDt7.out.f1 (8 * r + j)
                          have HDn := hide (HDt7.out.put (8 * r + j) wr.heap.size (List.replicate 128 (cc : Int)) (8 * M) (by rw [HLs.out]; omega) (fun i hi => .inr hi) (by omega) HNo7.out hlt7 HR7.out)
                          rw [if_pos hkp] at HStep
                          rw [← HStep.out] at HDn
                          clear hrow hb
                          go_wp2
                          go_roundw
                          case rel => exact ⟨j + 1, mm + 1, _, by omega, by go_num, by go_num, (by rw [Hid, HMe.out]; omega), HDn.out⟩
                          case measure => simp [intOf]; omega
                        · have hkp : kp bs mm = false := by simpa using hkp
                          rw [hkp] at hcell
                          rw [if_neg (by rw [hkp]; decide)] at HStep
                          rw [← HStep.out] at HDt
                          go_wp2
                          go_roundw
                          case rel => exact ⟨j + 1, mm + 1, _, by omega, by go_num, by go_num, (by rw [Hid, HMe.out]; omega), HDt.out⟩
                          case measure => simp [intOf]; omega
                      · have hkd : decide (mm < bs.length) = false := by simp; omega
                        have hkp : kp bs mm = false := kp_out' bs mm (by omega)
                        rw [if_neg (by rw [hkp]; decide)] at HStep
                        rw [← HStep.out] at HDt
                        go_wp2
                        go_roundw
                        case rel => exact ⟨j + 1, mm + 1, _, by omega, by go_num, by go_num, (by rw [Hid, HMe.out]; omega), HDt.out⟩
                        case measure => simp [intOf]; omega
                    · have e : j = 1 := by omega
                      have g6 : IntKind.i64.wrap (128 * (j : Int)) = 128 * (j : Int) := by rw [IntKind.wrap_i64]; omega
                      have g7 : decide (128 * (j : Int) < 128) = false := by simp; omega
                      rw [e] at HDt HMe
                      clear e
                      go_wp2
                      go_roundw
                      case rel => exact ⟨k + 1, vs, mm, _, O6, by omega, by go_num, rfl, (by rw [Hid, DS.adds_len]; exact HMe.out), HDt.out, HKn.out⟩
                      case measure => simp [intOf]; omega
                · have e13 : (cc : Int) % 2 = 0 := by omega
                  have e14 : Int.tmod (cc : Int) 2 = 0 := by rw [Int.tmod_eq_emod_of_nonneg (by omega)]; exact e13
                  go_wp2_with fail
                  refine (filled_at 1024 1024 (cc : Int) wr rfl (by omega)).mono ?_
                  rintro e w5 ⟨rfl, hrow, hlt5, hb⟩
                  have HR5 := hide hrow
                  have HNo := hide HDt.out.no
                  have HDt5 := hide (HDt.out.on hb)
                  clear hrow hb c0
                  go_wp2_with fail
                  refine (write_ok p q O S r (r : Int) wr.heap.size 1024 (cc : Int) 8 w5 HDt5.out.d rfl (by omega) HNo.out HR5.out hlt5 (by rw [HKa.out.ls]; omega) (by rw [HKa.out.ls]; omega) (by omega) (by have := HKa.out.ws; omega) (by have := HKa.out.n2; omega) HKa.out.er2).mono ?_
                  rintro e w6 ⟨rfl, O6, hd, hg⟩
                  have HDt6 := hide (HDt5.out.go hd hg)
                  have HKn := hide (HKa.out.writeN (8 * r) (List.replicate 1024 (cc : Int)) 8 (by omega))
                  clear hd hg
                  go_wp2
                  go_loopw [22, 17] (fun i mt wr' => ∃ (j m : Nat) (vs : List Value), j ≤ 8 ∧ i = .int .i64 (j : Int) ∧ mt = .int .i64 (m : Int) ∧ Hid (m = S.ws.length + j) ∧ Dt w.heap.size w wr' p q O6 (S.op2.adds (8 * r) (List.replicate 1024 (cc : Int)) 8) lb vs ((S.op2.adds (8 * r) (List.replicate 1024 (cc : Int)) j).lt (kp bs)) (8 * M)) (fun i _ _ => 8 - (intOf i).toNat)
                  case atStart => exact ⟨0, m, vs, by omega, rfl, rfl, HMl.out, by rw [DS.adds_zero]; exact HDt6.out⟩
                  case round =>
                    clear HDt6 HDt5 HDt
                    obtain ⟨j, mm, vs, hj, rfl, rfl, hm, hd⟩ := hrel
                    have HMe := hm
                    have HDt := hide hd
                    clear hd hm
                    have hmm : mm ≤ 1000 := by rw [HMe.out]; have := HKa.out.ws; omega
                    by_cases hj8 : j < 8
                    · have HLs : Hid (((S.op2.adds (8 * r) (List.replicate 1024 (cc : Int)) j).lt (kp bs)).length = 8 * M) := by rw [Hid, DS.lt_len]; exact HKa.out.ls
                      have g1 : IntKind.i64.wrap (8 * (r : Int)) = 8 * (r : Int) := by rw [IntKind.wrap_i64]; omega
                      have g2 : IntKind.i64.wrap (8 * (r : Int) + (j : Int)) = 8 * (r : Int) + (j : Int) := by rw [IntKind.wrap_i64]; omega
                      have g3 : (8 * (r : Int) + (j : Int)).toNat = 8 * r + j := by omega
                      have g4 : 8 * (r : Int) + (j : Int) < 8 * (M : Int) := by omega
                      have g5 : (0 : Int) ≤ 8 * (r : Int) + (j : Int) := by omega
                      have g6 : IntKind.i64.wrap (128 * (j : Int)) = 128 * (j : Int) := by rw [IntKind.wrap_i64]; omega
                      have g7 : decide (128 * (j : Int) < 1024) = true := by simp; omega
                      have hmw : IntKind.i64.wrap ((mm : Int) + 1) = (mm : Int) + 1 := by rw [IntKind.wrap_i64]; omega
                      have HStep : Hid ((S.op2.adds (8 * r) (List.replicate 1024 (cc : Int)) (j + 1)).lt (kp bs) = if kp bs mm then (((S.op2.adds (8 * r) (List.replicate 1024 (cc : Int)) j).lt (kp bs))).set (8 * r + j) (List.replicate 128 (cc : Int)) else ((S.op2.adds (8 * r) (List.replicate 1024 (cc : Int)) j).lt (kp bs))) := by rw [Hid, DS.adds_succ, DS.lt_add, DS.adds_len, HMe.out, sec_rep _ j hj8]; rfl
                      by_cases hkb : mm < bs.length
                      · have hkd : decide (mm < bs.length) = true := by simp [hkb]
                        obtain ⟨b0, of0, rfl, hcell⟩ := brow_at' (HBr.out wr HDt.out.f.below) hkb
                        by_cases hkp : kp bs mm = true
                        · rw [hkp] at hcell
                          go_wp2_with fail
                          refine (filled_at 128 128 (cc : Int) wr rfl (by omega)).mono ?_
                          rintro e w7 ⟨rfl, hrow, hlt7, hb⟩
                          have HR7 := hide hrow
                          have HNo7 := hide HDt.out.no
                          have hbl7 := HDt.out.t.lt
                          have HDt7 := hide (HDt.out.on hb)
                          obtain ⟨v0, cv⟩ := HDt7.out.c1 (8 * r + j) (by rw [HLs.out]; omega)
                          have fv := HDt7.out.f1 (8 * r + j)
                          have HDn := hide (HDt7.out.put (8 * r + j) wr.heap.size (List.replicate 128 (cc : Int)) (8 * M) (by rw [HLs.out]; omega) (fun i hi => .inr hi) (by omega) HNo7.out hlt7 HR7.out)
                          rw [if_pos hkp] at HStep
                          rw [← HStep.out] at HDn
                          clear hrow hb
                          go_wp2
                          go_roundw
                          case rel => exact ⟨j + 1, mm + 1, _, by omega, by go_num, by go_num, (by rw [Hid, HMe.out]; omega), HDn.out⟩
                          case measure => simp [intOf]; omega
                        · have hkp : kp bs mm = false := by simpa using hkp
                          rw [hkp] at hcell
                          rw [if_neg (by rw [hkp]; decide)] at HStep
                          rw [← HStep.out] at HDt
                          go_wp2
                          go_roundw
                          case rel => exact ⟨j + 1, mm + 1, _, by omega, by go_num, by go_num, (by rw [Hid, HMe.out]; omega), HDt.out⟩
                          case measure => simp [intOf]; omega
                      · have hkd : decide (mm < bs.length) = false := by simp; omega
                        have hkp : kp bs mm = false := kp_out' bs mm (by omega)
                        rw [if_neg (by rw [hkp]; decide)] at HStep
                        rw [← HStep.out] at HDt
                        go_wp2
                        go_roundw
                        case rel => exact ⟨j + 1, mm + 1, _, by omega, by go_num, by go_num, (by rw [Hid, HMe.out]; omega), HDt.out⟩
                        case measure => simp [intOf]; omega
                    · have e : j = 8 := by omega
                      have g6 : IntKind.i64.wrap (128 * (j : Int)) = 128 * (j : Int) := by rw [IntKind.wrap_i64]; omega
                      have g7 : decide (128 * (j : Int) < 1024) = false := by simp; omega
                      rw [e] at HDt HMe
                      clear e
                      go_wp2
                      go_roundw
                      case rel => exact ⟨k + 1, vs, mm, _, O6, by omega, by go_num, rfl, (by rw [Hid, DS.adds_len]; exact HMe.out), HDt.out, HKn.out⟩
                      case measure => simp [intOf]; omega
              · by_cases hk2 : k < ys.length
                · have hd1 : decide (k < ys.length) = true := by simp; omega
                  have hd2 : decide ((k : Int) < 100) = false := by simp; omega
                  go_wp2_with fail
                  have HBk := hide (HBr.out wr HDt.out.f.below)
                  refine (cut_any p q O S ka kc bs wr HDt.out.d HBk.out (fun h0 ad e ho => by have h1 := HLt.out h0 ad e; have h2 := HDt.out.f.own _ ho; omega) (fun h0 ad e => Nat.lt_of_lt_of_le (HLt.out h0 ad e) HDt.out.f.size) hbl).mono ?_
                  rintro e w5 ⟨rfl, O5, hd, hg⟩
                  have HDt5 := hide (HDt.out.go hd hg)
                  clear hd hg HBk
                  go_wp2_with fail
                  refine (image_any p q O5 (S.cut bs) w5 HDt5.out.d).mono ?_
                  rintro e w6 ⟨v6, rfl, hown, hnew, hb⟩
                  have HDt6 := hide (HDt5.out.on hb)
                  have HG := hide (DkAt.good' HDt5.out.d)
                  have HLL : Hid ((S.lt (kp bs)).length = 8 * M) := by rw [Hid, DS.lt_len]; exact HKa.out.ls
                  have HL8 : Hid (∀ s ∈ S.lt (kp bs), s.length = 128) := fun s hs => (HG.out.ls s hs).1
                  have hown' : Own w6 v6 (S.lt (kp bs)).flatten := hown
                  have HPe := hide (pending_any p q O5 (S.cut bs) w6 HDt6.out.d)
                  rw [show (S.cut bs).ws.map (·.1) = [] from rfl] at HPe
                  clear HDt HDt5 HMl
                  generalize S.lt (kp bs) = LL at HDt6 HLL HL8 hown'
                  have hfl := flat_tlen LL HL8.out LL.length (Nat.le_refl _)
                  rw [List.take_length, HLL.out] at hfl
                  have HFl := hide hfl
                  obtain ⟨ga, n6, c6, rfl, hn6⟩ := own_some hown' (by omega)
                  have hc6 := own_cap' hown'
                  have hm6 := own_capm' hown'
                  rw [hfl] at hn6
                  have HO6 := hide hown'
                  clear hown hown' hnew hb hfl
                  have e15 : (n6 : Int) = 1024 * (M : Int) := by omega
                  have hw10 : IntKind.i64.wrap (1024 * (M : Int)) = 1024 * (M : Int) := by rw [IntKind.wrap_i64]; omega
                  have HN6 := hide hn6
                  clear hn6
                  go_wp2_with fail
                  refine HPe.out.mono ?_
                  rintro e w7 ⟨v7, rfl, hown, hnew, hb⟩
                  obtain ⟨a7, c7, rfl, -⟩ := hown.row
                  have HDt7 := hide (HDt6.out.on hb)
                  have HO7 := hide (HO6.out.on hb)
                  clear hown hnew hb HDt6 HO6 HPe
                  go_wp2
                  go_loopw [24] (fun i wr' => ∃ k : Nat, k ≤ 8 * M ∧ i = .int .i64 (k : Int) ∧ Own wr' (.slice (some ⟨ga, 0, none⟩) n6 c6) LL.flatten ∧ Dt w.heap.size w wr' p q O5 (S.cut bs) lb vs LL (8 * M)) (fun i _ => 8 * M - (intOf i).toNat)
                  case atStart => exact ⟨0, by omega, rfl, HO7.out, HDt7.out⟩
                  case round =>
                    clear HDt7 HO7
                    obtain ⟨k6, hk6, rfl, hown, hd⟩ := hrel
                    have HO := hide hown
                    have HDt := hide hd
                    clear hown hd
                    by_cases hlt6 : k6 < 8 * M
                    · have hn6 := HN6.out
                      obtain ⟨b, hv, hbne, -, hbs, hrow⟩ := HDt.out.t.row k6 hlt6
                      have HRb := hide hrow
                      have HRi : Hid (Row wr (some ⟨ga, 128 * k6, none⟩) (LL.getD k6 [])) := row_seg (own_row HO.out) LL HL8.out k6 (by rw [HLL.out]; exact hlt6)
                      have HLg : Hid ((LL.getD k6 []).length = 128) := HL8.out _ (getD_mem _ _ _ (by rw [HLL.out]; exact hlt6))
                      have HCb : Hid (∀ W, Below wr.heap.size wr W → W.cell? ⟨lb, k6, none⟩ = some (.slice (some ⟨b, 0, none⟩) 128 128)) := fun W hb => by rw [hb.cell (p := ⟨lb, k6, none⟩) HDt.out.t.lt, cell_of_row wr lb k6 _ 63 (0, 0) HDt.out.t.blk]; simpa using hv
                      clear hv hrow
                      have c0 := HCb.out wr.drew (Below.refl _ _).drew
                      have hx1 : IntKind.i64.wrap (128 * (k6 : Int)) = 128 * (k6 : Int) := by rw [IntKind.wrap_i64]; omega
                      have hx2 : IntKind.i64.wrap (128 * (k6 : Int) + 128) = 128 * (k6 : Int) + 128 := by rw [IntKind.wrap_i64]; omega
                      have hA1 : (0 : Int) ≤ 128 * (k6 : Int) := by omega
                      have hA2 : 128 * (k6 : Int) ≤ 128 * (k6 : Int) + 128 := by omega
                      have hA3 : 128 * (k6 : Int) + 128 ≤ (c6 : Int) := by omega
                      have hA4 : (0 : Int) ≤ 128 * (k6 : Int) + 128 := by omega
                      have hA5 : ¬ (c6 = (128 * (k6 : Int)).toNat) := by omega
                      have hnb : decide (k6 < 8 * M) = true := by simp [hlt6]
                      have HSm : Hid (∀ W, Below wr.heap.size wr W → Calls Try.prog 21 #[.slice (some ⟨ga, (128 * (k6 : Int)).toNat, none⟩) ((128 * (k6 : Int) + 128).toNat - (128 * (k6 : Int)).toNat) (c6 - (128 * (k6 : Int)).toNat), .slice (some ⟨b, 0, none⟩) 128 128] W fun e w' => e = .returned (.bool true) ∧ Below W.heap.size W w') := fun W hb => by
                        rw [show (128 * (k6 : Int)).toNat = 128 * k6 by omega, show (128 * (k6 : Int) + 128).toNat - 128 * k6 = 128 by omega]
                        have := sameb_any (some ⟨ga, 128 * k6, none⟩) (some ⟨b, 0, none⟩) 128 128 (c6 - 128 * k6) 128 _ _ W HLg.out HLg.out (by omega) (by omega) (HRi.out.below hb) (HRb.out.below hb)
                        rwa [sameB_self] at this
                      clear hn6
                      go_wp2
                      go_region_held3 (fun W => W.cell? ⟨lb, k6, none⟩ = some (.slice (some ⟨b, 0, none⟩) 128 128)) (assumption) ((first | (go_at_call 21; refine (HSm.out _ (Below.refl _ _).drew).mono ?_; intro r' w9 hh; obtain ⟨rfl, hb⟩ := hh; have HBw : Hid (Below wr.heap.size wr w9) := (Below.refl wr.heap.size wr).drew.trans hb; clear hb c0; have c0 := HCb.out w9 HBw.out)))
                      go_wp2
                      go_roundw
                      case rel => exact ⟨k6 + 1, by omega, by go_num, HO.out.on HBw.out, HDt.out.on HBw.out⟩
                      case measure => simp [intOf]; omega
                    · have hnb : decide (k6 < 8 * M) = false := by simp; omega
                      go_wp2
                      go_ret
                      exact ⟨rfl, HDt.out.f.below⟩
                · have hd1 : decide (k < ys.length) = false := by simp; omega
                  go_wp2_with fail
                  have HBk := hide (HBr.out wr HDt.out.f.below)
                  refine (cut_any p q O S ka kc bs wr HDt.out.d HBk.out (fun h0 ad e ho => by have h1 := HLt.out h0 ad e; have h2 := HDt.out.f.own _ ho; omega) (fun h0 ad e => Nat.lt_of_lt_of_le (HLt.out h0 ad e) HDt.out.f.size) hbl).mono ?_
                  rintro e w5 ⟨rfl, O5, hd, hg⟩
                  have HDt5 := hide (HDt.out.go hd hg)
                  clear hd hg HBk
                  go_wp2_with fail
                  refine (image_any p q O5 (S.cut bs) w5 HDt5.out.d).mono ?_
                  rintro e w6 ⟨v6, rfl, hown, hnew, hb⟩
                  have HDt6 := hide (HDt5.out.on hb)
                  have HG := hide (DkAt.good' HDt5.out.d)
                  have HLL : Hid ((S.lt (kp bs)).length = 8 * M) := by rw [Hid, DS.lt_len]; exact HKa.out.ls
                  have HL8 : Hid (∀ s ∈ S.lt (kp bs), s.length = 128) := fun s hs => (HG.out.ls s hs).1
                  have hown' : Own w6 v6 (S.lt (kp bs)).flatten := hown
                  have HPe := hide (pending_any p q O5 (S.cut bs) w6 HDt6.out.d)
                  rw [show (S.cut bs).ws.map (·.1) = [] from rfl] at HPe
                  clear HDt HDt5 HMl
                  generalize S.lt (kp bs) = LL at HDt6 HLL HL8 hown'
                  have hfl := flat_tlen LL HL8.out LL.length (Nat.le_refl _)
                  rw [List.take_length, HLL.out] at hfl
                  have HFl := hide hfl
                  obtain ⟨ga, n6, c6, rfl, hn6⟩ := own_some hown' (by omega)
                  have hc6 := own_cap' hown'
                  have hm6 := own_capm' hown'
                  rw [hfl] at hn6
                  have HO6 := hide hown'
                  clear hown hown' hnew hb hfl
                  have e15 : (n6 : Int) = 1024 * (M : Int) := by omega
                  have hw10 : IntKind.i64.wrap (1024 * (M : Int)) = 1024 * (M : Int) := by rw [IntKind.wrap_i64]; omega
                  have HN6 := hide hn6
                  clear hn6
                  go_wp2_with fail
                  refine HPe.out.mono ?_
                  rintro e w7 ⟨v7, rfl, hown, hnew, hb⟩
                  obtain ⟨a7, c7, rfl, -⟩ := hown.row
                  have HDt7 := hide (HDt6.out.on hb)
                  have HO7 := hide (HO6.out.on hb)
                  clear hown hnew hb HDt6 HO6 HPe
                  go_wp2
                  go_loopw [24] (fun i wr' => ∃ k : Nat, k ≤ 8 * M ∧ i = .int .i64 (k : Int) ∧ Own wr' (.slice (some ⟨ga, 0, none⟩) n6 c6) LL.flatten ∧ Dt w.heap.size w wr' p q O5 (S.cut bs) lb vs LL (8 * M)) (fun i _ => 8 * M - (intOf i).toNat)
                  case atStart => exact ⟨0, by omega, rfl, HO7.out, HDt7.out⟩
                  case round =>
                    clear HDt7 HO7
                    obtain ⟨k6, hk6, rfl, hown, hd⟩ := hrel
                    have HO := hide hown
                    have HDt := hide hd
                    clear hown hd
                    by_cases hlt6 : k6 < 8 * M
                    · have hn6 := HN6.out
                      obtain ⟨b, hv, hbne, -, hbs, hrow⟩ := HDt.out.t.row k6 hlt6
                      have HRb := hide hrow
                      have HRi : Hid (Row wr (some ⟨ga, 128 * k6, none⟩) (LL.getD k6 [])) := row_seg (own_row HO.out) LL HL8.out k6 (by rw [HLL.out]; exact hlt6)
                      have HLg : Hid ((LL.getD k6 []).length = 128) := HL8.out _ (getD_mem _ _ _ (by rw [HLL.out]; exact hlt6))
                      have HCb : Hid (∀ W, Below wr.heap.size wr W → W.cell? ⟨lb, k6, none⟩ = some (.slice (some ⟨b, 0, none⟩) 128 128)) := fun W hb => by rw [hb.cell (p := ⟨lb, k6, none⟩) HDt.out.t.lt, cell_of_row wr lb k6 _ 63 (0, 0) HDt.out.t.blk]; simpa using hv
                      clear hv hrow
                      have c0 := HCb.out wr.drew (Below.refl _ _).drew
                      have hx1 : IntKind.i64.wrap (128 * (k6 : Int)) = 128 * (k6 : Int) := by rw [IntKind.wrap_i64]; omega
                      have hx2 : IntKind.i64.wrap (128 * (k6 : Int) + 128) = 128 * (k6 : Int) + 128 := by rw [IntKind.wrap_i64]; omega
                      have hA1 : (0 : Int) ≤ 128 * (k6 : Int) := by omega
                      have hA2 : 128 * (k6 : Int) ≤ 128 * (k6 : Int) + 128 := by omega
                      have hA3 : 128 * (k6 : Int) + 128 ≤ (c6 : Int) := by omega
                      have hA4 : (0 : Int) ≤ 128 * (k6 : Int) + 128 := by omega
                      have hA5 : ¬ (c6 = (128 * (k6 : Int)).toNat) := by omega
                      have hnb : decide (k6 < 8 * M) = true := by simp [hlt6]
                      have HSm : Hid (∀ W, Below wr.heap.size wr W → Calls Try.prog 21 #[.slice (some ⟨ga, (128 * (k6 : Int)).toNat, none⟩) ((128 * (k6 : Int) + 128).toNat - (128 * (k6 : Int)).toNat) (c6 - (128 * (k6 : Int)).toNat), .slice (some ⟨b, 0, none⟩) 128 128] W fun e w' => e = .returned (.bool true) ∧ Below W.heap.size W w') := fun W hb => by
                        rw [show (128 * (k6 : Int)).toNat = 128 * k6 by omega, show (128 * (k6 : Int) + 128).toNat - 128 * k6 = 128 by omega]
                        have := sameb_any (some ⟨ga, 128 * k6, none⟩) (some ⟨b, 0, none⟩) 128 128 (c6 - 128 * k6) 128 _ _ W HLg.out HLg.out (by omega) (by omega) (HRi.out.below hb) (HRb.out.below hb)
                        rwa [sameB_self] at this
                      clear hn6
                      go_wp2
                      go_region_held3 (fun W => W.cell? ⟨lb, k6, none⟩ = some (.slice (some ⟨b, 0, none⟩) 128 128)) (assumption) ((first | (go_at_call 21; refine (HSm.out _ (Below.refl _ _).drew).mono ?_; intro r' w9 hh; obtain ⟨rfl, hb⟩ := hh; have HBw : Hid (Below wr.heap.size wr w9) := (Below.refl wr.heap.size wr).drew.trans hb; clear hb c0; have c0 := HCb.out w9 HBw.out)))
                      go_wp2
                      go_roundw
                      case rel => exact ⟨k6 + 1, by omega, by go_num, HO.out.on HBw.out, HDt.out.on HBw.out⟩
                      case measure => simp [intOf]; omega
                    · have hnb : decide (k6 < 8 * M) = false := by simp; omega
                      go_wp2
                      go_ret
                      exact ⟨rfl, HDt.out.f.below⟩
          · have hd1 : decide (k < xs.length) = false := by simp; omega
            go_wp2_with fail
            refine (sync_ok p q O S wr HDt.out.d (by have := HKa.out.n3; omega) HKa.out.er3).mono ?_
            rintro e w5 ⟨rfl, O5, hd, hg⟩
            have HDt5 := hide (HDt.out.go hd hg)
            clear hd hg
            have HBk := hide (HBr.out w5 HDt5.out.f.below)
            go_wp2_with fail
            refine (cut_any p q O5 (S.op3.set yes) ka kc bs w5 HDt5.out.d HBk.out (fun h0 ad e ho => by have h1 := HLt.out h0 ad e; have h2 := HDt5.out.f.own _ ho; omega) (fun h0 ad e => Nat.lt_of_lt_of_le (HLt.out h0 ad e) HDt5.out.f.size) hbl).mono ?_
            rintro e w6 ⟨rfl, O6, hd, hg⟩
            have HDt6 := hide (HDt5.out.go hd hg)
            have HKb := hide (HKa.out.next hk bs)
            have HS3 : Hid (((S.op3.set yes).cut bs).lt (kp bs) = S.lt yes) := rfl
            rw [← HS3.out] at HDt6
            have HW3 : Hid (((S.op3.set yes).cut bs).ws.length = 0) := rfl
            generalize (S.op3.set yes).cut bs = S3 at HDt6 HKb HW3
            clear hd hg HDt5 HDt HKa HS3 HBk
            go_wp2
            go_loopw [18, 17] (fun i mt wr' => ∃ (k : Nat) (vs : List Value) (m : Nat) (S : DS) (O : Nat → Prop), k ≤ 100 ∧ i = .int .i64 (k : Int) ∧ mt = .int .i64 (m : Int) ∧ Hid (m = S.ws.length) ∧ Dt w.heap.size w wr' p q O S lb vs (S.lt (kp bs)) (8 * M) ∧ Ka M 100 k S) (fun i _ _ => 100 - (intOf i).toNat)
            case atStart => exact ⟨0, vs, 0, S3, O6, by omega, rfl, rfl, HW3.out.symm, HDt6.out, HKb.out⟩
            case round =>
              clear HDt6 HKb HW3
              obtain ⟨k, vs, m, S, O, hk, rfl, rfl, hm, hd, hka⟩ := hrel
              have HMl := hm
              have HDt := hide hd
              have HKa := hide hka
              clear hd hka hm
              by_cases hlt : k < ys.length ∧ k < 100
              · obtain ⟨hlt1, hlt2⟩ := hlt
                have hd1 : decide (k < ys.length) = true := by simp [hlt1]
                have hd2 : decide ((k : Int) < 100) = true := by simp; omega
                obtain ⟨gb, go, rfl, hcell⟩ : ∃ gb go, lb' = some ⟨gb, go, none⟩ ∧ Hid (∀ W, Below w.heap.size w W → W.cell? ⟨gb, go + k, none⟩ = some (.int .u16 ((ys.getD k 0 : Nat) : Int))) := wrow_at (HRw'.out) hlt1
                have HCl := hcell
                clear hcell
                have hxb := HXb'.out k
                generalize ys.getD k 0 = x at *
                obtain ⟨r, HR, hrM⟩ : ∃ r, Hid (r = x % M) ∧ r < M := ⟨_, rfl, Nat.mod_lt _ (by omega)⟩
                obtain ⟨cc, HC, hcb⟩ : ∃ cc, Hid (cc = x / 256) ∧ cc ≤ 255 := ⟨_, rfl, by omega⟩
                have e6 : (x : Int) % (M : Int) = (r : Int) := by rw [HR.out]; rfl
                have e7 : (x : Int) / 256 = (cc : Int) := by rw [HC.out]; rfl
                have e8 : Int.tmod (x : Int) (M : Int) = (r : Int) := by rw [Int.tmod_eq_emod_of_nonneg (by omega)]; exact e6
                have e9 : IntKind.i64.wrap (r : Int) = (r : Int) := by rw [IntKind.wrap_i64]; omega
                have hM0 : ¬ ((M : Int) = 0) := by omega
                have hM0' : ((M : Int) == 0) = false := by simp; omega
                have hM0'' : ¬ (M = 0) := by omega
                have e12 : IntKind.i64.wrap (x : Int) = (x : Int) := by rw [IntKind.wrap_i64]; omega
                have e10 : IntKind.u16.wrap (cc : Int) = (cc : Int) := by rw [IntKind.wrap_u16]; omega
                have e11 : IntKind.u8.wrap (cc : Int) = (cc : Int) := by rw [IntKind.wrap_u8]; omega
                have c0 := HCl.out wr HDt.out.f.below
                have hmb : m ≤ 1000 := by rw [HMl.out]; have := HKa.out.ws; omega
                by_cases hodd : cc % 2 = 1
                · have e13 : (cc : Int) % 2 = 1 := by omega
                  have e14 : Int.tmod (cc : Int) 2 = 1 := by rw [Int.tmod_eq_emod_of_nonneg (by omega)]; exact e13
                  go_wp2_with fail
                  refine (filled_at 128 128 (cc : Int) wr rfl (by omega)).mono ?_
                  rintro e w5 ⟨rfl, hrow, hlt5, hb⟩
                  have HR5 := hide hrow
                  have HNo := hide HDt.out.no
                  have HDt5 := hide (HDt.out.on hb)
                  clear hrow hb c0
                  go_wp2_with fail
                  refine (write_ok p q O S r (r : Int) wr.heap.size 128 (cc : Int) 1 w5 HDt5.out.d rfl (by omega) HNo.out HR5.out hlt5 (by rw [HKa.out.ls]; omega) (by rw [HKa.out.ls]; omega) (by omega) (by have := HKa.out.ws; omega) (by have := HKa.out.n2; omega) HKa.out.er2).mono ?_
                  rintro e w6 ⟨rfl, O6, hd, hg⟩
                  have HDt6 := hide (HDt5.out.go hd hg)
                  have HKn := hide (HKa.out.writeN (8 * r) (List.replicate 128 (cc : Int)) 1 (by omega))
                  clear hd hg
                  go_wp2
                  go_loopw [22, 17] (fun i mt wr' => ∃ (j m : Nat) (vs : List Value), j ≤ 1 ∧ i = .int .i64 (j : Int) ∧ mt = .int .i64 (m : Int) ∧ Hid (m = S.ws.length + j) ∧ Dt w.heap.size w wr' p q O6 (S.op2.adds (8 * r) (List.replicate 128 (cc : Int)) 1) lb vs ((S.op2.adds (8 * r) (List.replicate 128 (cc : Int)) j).lt (kp bs)) (8 * M)) (fun i _ _ => 1 - (intOf i).toNat)
                  case atStart => exact ⟨0, m, vs, by omega, rfl, rfl, HMl.out, by rw [DS.adds_zero]; exact HDt6.out⟩
                  case round =>
                    clear HDt6 HDt5 HDt
                    obtain ⟨j, mm, vs, hj, rfl, rfl, hm, hd⟩ := hrel
                    have HMe := hm
                    have HDt := hide hd
                    clear hd hm
                    have hmm : mm ≤ 1000 := by rw [HMe.out]; have := HKa.out.ws; omega
                    by_cases hj8 : j < 1
                    · have HLs : Hid (((S.op2.adds (8 * r) (List.replicate 128 (cc : Int)) j).lt (kp bs)).length = 8 * M) := by rw [Hid, DS.lt_len]; exact HKa.out.ls
                      have g1 : IntKind.i64.wrap (8 * (r : Int)) = 8 * (r : Int) := by rw [IntKind.wrap_i64]; omega
                      have g2 : IntKind.i64.wrap (8 * (r : Int) + (j : Int)) = 8 * (r : Int) + (j : Int) := by rw [IntKind.wrap_i64]; omega
                      have g3 : (8 * (r : Int) + (j : Int)).toNat = 8 * r + j := by omega
                      have g4 : 8 * (r : Int) + (j : Int) < 8 * (M : Int) := by omega
                      have g5 : (0 : Int) ≤ 8 * (r : Int) + (j : Int) := by omega
                      have g6 : IntKind.i64.wrap (128 * (j : Int)) = 128 * (j : Int) := by rw [IntKind.wrap_i64]; omega
                      have g7 : decide (128 * (j : Int) < 128) = true := by simp; omega
                      have hmw : IntKind.i64.wrap ((mm : Int) + 1) = (mm : Int) + 1 := by rw [IntKind.wrap_i64]; omega
                      have HStep : Hid ((S.op2.adds (8 * r) (List.replicate 128 (cc : Int)) (j + 1)).lt (kp bs) = if kp bs mm then (((S.op2.adds (8 * r) (List.replicate 128 (cc : Int)) j).lt (kp bs))).set (8 * r + j) (List.replicate 128 (cc : Int)) else ((S.op2.adds (8 * r) (List.replicate 128 (cc : Int)) j).lt (kp bs))) := by rw [Hid, DS.adds_succ, DS.lt_add, DS.adds_len, HMe.out, show j = 0 by omega, sec_one]; rfl
                      by_cases hkb : mm < bs.length
                      · have hkd : decide (mm < bs.length) = true := by simp [hkb]
                        obtain ⟨b0, of0, rfl, hcell⟩ := brow_at' (HBr.out wr HDt.out.f.below) hkb
                        by_cases hkp : kp bs mm = true
                        · rw [hkp] at hcell
                          go_wp2_with fail
                          refine (filled_at 128 128 (cc : Int) wr rfl (by omega)).mono ?_
                          rintro e w7 ⟨rfl, hrow, hlt7, hb⟩
                          have HR7 := hide hrow
                          have HNo7 := hide HDt.out.no
                          have hbl7 := HDt.out.t.lt
                          have HDt7 := hide (HDt.out.on hb)
                          obtain ⟨v0, cv⟩ := HDt7.out.c1 (8 * r + j) (by rw [HLs.out]; omega)
                          have fv := HDt7.out.f1 (8 * r + j)
                          have HDn := hide (HDt7.out.put (8 * r + j) wr.heap.size (List.replicate 128 (cc : Int)) (8 * M) (by rw [HLs.out]; omega) (fun i hi => .inr hi) (by omega) HNo7.out hlt7 HR7.out)
                          rw [if_pos hkp] at HStep
                          rw [← HStep.out] at HDn
                          clear hrow hb
                          go_wp2
                          go_roundw
                          case rel => exact ⟨j + 1, mm + 1, _, by omega, by go_num, by go_num, (by rw [Hid, HMe.out]; omega), HDn.out⟩
                          case measure => simp [intOf]; omega
                        · have hkp : kp bs mm = false := by simpa using hkp
                          rw [hkp] at hcell
                          rw [if_neg (by rw [hkp]; decide)] at HStep
                          rw [← HStep.out] at HDt
                          go_wp2
                          go_roundw
                          case rel => exact ⟨j + 1, mm + 1, _, by omega, by go_num, by go_num, (by rw [Hid, HMe.out]; omega), HDt.out⟩
                          case measure => simp [intOf]; omega
                      · have hkd : decide (mm < bs.length) = false := by simp; omega
                        have hkp : kp bs mm = false := kp_out' bs mm (by omega)
                        rw [if_neg (by rw [hkp]; decide)] at HStep
                        rw [← HStep.out] at HDt
                        go_wp2
                        go_roundw
                        case rel => exact ⟨j + 1, mm + 1, _, by omega, by go_num, by go_num, (by rw [Hid, HMe.out]; omega), HDt.out⟩
                        case measure => simp [intOf]; omega
                    · have e : j = 1 := by omega
                      have g6 : IntKind.i64.wrap (128 * (j : Int)) = 128 * (j : Int) := by rw [IntKind.wrap_i64]; omega
                      have g7 : decide (128 * (j : Int) < 128) = false := by simp; omega
                      rw [e] at HDt HMe
                      clear e
                      go_wp2
                      go_roundw
                      case rel => exact ⟨k + 1, vs, mm, _, O6, by omega, by go_num, rfl, (by rw [Hid, DS.adds_len]; exact HMe.out), HDt.out, HKn.out⟩
                      case measure => simp [intOf]; omega
                · have e13 : (cc : Int) % 2 = 0 := by omega
                  have e14 : Int.tmod (cc : Int) 2 = 0 := by rw [Int.tmod_eq_emod_of_nonneg (by omega)]; exact e13
                  go_wp2_with fail
                  refine (filled_at 1024 1024 (cc : Int) wr rfl (by omega)).mono ?_
                  rintro e w5 ⟨rfl, hrow, hlt5, hb⟩
                  have HR5 := hide hrow
                  have HNo := hide HDt.out.no
                  have HDt5 := hide (HDt.out.on hb)
                  clear hrow hb c0
                  go_wp2_with fail
                  refine (write_ok p q O S r (r : Int) wr.heap.size 1024 (cc : Int) 8 w5 HDt5.out.d rfl (by omega) HNo.out HR5.out hlt5 (by rw [HKa.out.ls]; omega) (by rw [HKa.out.ls]; omega) (by omega) (by have := HKa.out.ws; omega) (by have := HKa.out.n2; omega) HKa.out.er2).mono ?_
                  rintro e w6 ⟨rfl, O6, hd, hg⟩
                  have HDt6 := hide (HDt5.out.go hd hg)
                  have HKn := hide (HKa.out.writeN (8 * r) (List.replicate 1024 (cc : Int)) 8 (by omega))
                  clear hd hg
                  go_wp2
                  go_loopw [22, 17] (fun i mt wr' => ∃ (j m : Nat) (vs : List Value), j ≤ 8 ∧ i = .int .i64 (j : Int) ∧ mt = .int .i64 (m : Int) ∧ Hid (m = S.ws.length + j) ∧ Dt w.heap.size w wr' p q O6 (S.op2.adds (8 * r) (List.replicate 1024 (cc : Int)) 8) lb vs ((S.op2.adds (8 * r) (List.replicate 1024 (cc : Int)) j).lt (kp bs)) (8 * M)) (fun i _ _ => 8 - (intOf i).toNat)
                  case atStart => exact ⟨0, m, vs, by omega, rfl, rfl, HMl.out, by rw [DS.adds_zero]; exact HDt6.out⟩
                  case round =>
                    clear HDt6 HDt5 HDt
                    obtain ⟨j, mm, vs, hj, rfl, rfl, hm, hd⟩ := hrel
                    have HMe := hm
                    have HDt := hide hd
                    clear hd hm
                    have hmm : mm ≤ 1000 := by rw [HMe.out]; have := HKa.out.ws; omega
                    by_cases hj8 : j < 8
                    · have HLs : Hid (((S.op2.adds (8 * r) (List.replicate 1024 (cc : Int)) j).lt (kp bs)).length = 8 * M) := by rw [Hid, DS.lt_len]; exact HKa.out.ls
                      have g1 : IntKind.i64.wrap (8 * (r : Int)) = 8 * (r : Int) := by rw [IntKind.wrap_i64]; omega
                      have g2 : IntKind.i64.wrap (8 * (r : Int) + (j : Int)) = 8 * (r : Int) + (j : Int) := by rw [IntKind.wrap_i64]; omega
                      have g3 : (8 * (r : Int) + (j : Int)).toNat = 8 * r + j := by omega
                      have g4 : 8 * (r : Int) + (j : Int) < 8 * (M : Int) := by omega
                      have g5 : (0 : Int) ≤ 8 * (r : Int) + (j : Int) := by omega
                      have g6 : IntKind.i64.wrap (128 * (j : Int)) = 128 * (j : Int) := by rw [IntKind.wrap_i64]; omega
                      have g7 : decide (128 * (j : Int) < 1024) = true := by simp; omega
                      have hmw : IntKind.i64.wrap ((mm : Int) + 1) = (mm : Int) + 1 := by rw [IntKind.wrap_i64]; omega
                      have HStep : Hid ((S.op2.adds (8 * r) (List.replicate 1024 (cc : Int)) (j + 1)).lt (kp bs) = if kp bs mm then (((S.op2.adds (8 * r) (List.replicate 1024 (cc : Int)) j).lt (kp bs))).set (8 * r + j) (List.replicate 128 (cc : Int)) else ((S.op2.adds (8 * r) (List.replicate 1024 (cc : Int)) j).lt (kp bs))) := by rw [Hid, DS.adds_succ, DS.lt_add, DS.adds_len, HMe.out, sec_rep _ j hj8]; rfl
                      by_cases hkb : mm < bs.length
                      · have hkd : decide (mm < bs.length) = true := by simp [hkb]
                        obtain ⟨b0, of0, rfl, hcell⟩ := brow_at' (HBr.out wr HDt.out.f.below) hkb
                        by_cases hkp : kp bs mm = true
                        · rw [hkp] at hcell
                          go_wp2_with fail
                          refine (filled_at 128 128 (cc : Int) wr rfl (by omega)).mono ?_
                          rintro e w7 ⟨rfl, hrow, hlt7, hb⟩
                          have HR7 := hide hrow
                          have HNo7 := hide HDt.out.no
                          have hbl7 := HDt.out.t.lt
                          have HDt7 := hide (HDt.out.on hb)
                          obtain ⟨v0, cv⟩ := HDt7.out.c1 (8 * r + j) (by rw [HLs.out]; omega)
                          have fv := HDt7.out.f1 (8 * r + j)
                          have HDn := hide (HDt7.out.put (8 * r + j) wr.heap.size (List.replicate 128 (cc : Int)) (8 * M) (by rw [HLs.out]; omega) (fun i hi => .inr hi) (by omega) HNo7.out hlt7 HR7.out)
                          rw [if_pos hkp] at HStep
                          rw [← HStep.out] at HDn
                          clear hrow hb
                          go_wp2
                          go_roundw
                          case rel => exact ⟨j + 1, mm + 1, _, by omega, by go_num, by go_num, (by rw [Hid, HMe.out]; omega), HDn.out⟩
                          case measure => simp [intOf]; omega
                        · have hkp : kp bs mm = false := by simpa using hkp
                          rw [hkp] at hcell
                          rw [if_neg (by rw [hkp]; decide)] at HStep
                          rw [← HStep.out] at HDt
                          go_wp2
                          go_roundw
                          case rel => exact ⟨j + 1, mm + 1, _, by omega, by go_num, by go_num, (by rw [Hid, HMe.out]; omega), HDt.out⟩
                          case measure => simp [intOf]; omega
                      · have hkd : decide (mm < bs.length) = false := by simp; omega
                        have hkp : kp bs mm = false := kp_out' bs mm (by omega)
                        rw [if_neg (by rw [hkp]; decide)] at HStep
                        rw [← HStep.out] at HDt
                        go_wp2
                        go_roundw
                        case rel => exact ⟨j + 1, mm + 1, _, by omega, by go_num, by go_num, (by rw [Hid, HMe.out]; omega), HDt.out⟩
                        case measure => simp [intOf]; omega
                    · have e : j = 8 := by omega
                      have g6 : IntKind.i64.wrap (128 * (j : Int)) = 128 * (j : Int) := by rw [IntKind.wrap_i64]; omega
                      have g7 : decide (128 * (j : Int) < 1024) = false := by simp; omega
                      rw [e] at HDt HMe
                      clear e
                      go_wp2
                      go_roundw
                      case rel => exact ⟨k + 1, vs, mm, _, O6, by omega, by go_num, rfl, (by rw [Hid, DS.adds_len]; exact HMe.out), HDt.out, HKn.out⟩
                      case measure => simp [intOf]; omega
              · by_cases hk2 : k < ys.length
                · have hd1 : decide (k < ys.length) = true := by simp; omega
                  have hd2 : decide ((k : Int) < 100) = false := by simp; omega
                  go_wp2_with fail
                  have HBk := hide (HBr.out wr HDt.out.f.below)
                  refine (cut_any p q O S ka kc bs wr HDt.out.d HBk.out (fun h0 ad e ho => by have h1 := HLt.out h0 ad e; have h2 := HDt.out.f.own _ ho; omega) (fun h0 ad e => Nat.lt_of_lt_of_le (HLt.out h0 ad e) HDt.out.f.size) hbl).mono ?_
                  rintro e w5 ⟨rfl, O5, hd, hg⟩
                  have HDt5 := hide (HDt.out.go hd hg)
                  clear hd hg HBk
                  go_wp2_with fail
                  refine (image_any p q O5 (S.cut bs) w5 HDt5.out.d).mono ?_
                  rintro e w6 ⟨v6, rfl, hown, hnew, hb⟩
                  have HDt6 := hide (HDt5.out.on hb)
                  have HG := hide (DkAt.good' HDt5.out.d)
                  have HLL : Hid ((S.lt (kp bs)).length = 8 * M) := by rw [Hid, DS.lt_len]; exact HKa.out.ls
                  have HL8 : Hid (∀ s ∈ S.lt (kp bs), s.length = 128) := fun s hs => (HG.out.ls s hs).1
                  have hown' : Own w6 v6 (S.lt (kp bs)).flatten := hown
                  have HPe := hide (pending_any p q O5 (S.cut bs) w6 HDt6.out.d)
                  rw [show (S.cut bs).ws.map (·.1) = [] from rfl] at HPe
                  clear HDt HDt5 HMl
                  generalize S.lt (kp bs) = LL at HDt6 HLL HL8 hown'
                  have hfl := flat_tlen LL HL8.out LL.length (Nat.le_refl _)
                  rw [List.take_length, HLL.out] at hfl
                  have HFl := hide hfl
                  obtain ⟨ga, n6, c6, rfl, hn6⟩ := own_some hown' (by omega)
                  have hc6 := own_cap' hown'
                  have hm6 := own_capm' hown'
                  rw [hfl] at hn6
                  have HO6 := hide hown'
                  clear hown hown' hnew hb hfl
                  have e15 : (n6 : Int) = 1024 * (M : Int) := by omega
                  have hw10 : IntKind.i64.wrap (1024 * (M : Int)) = 1024 * (M : Int) := by rw [IntKind.wrap_i64]; omega
                  have HN6 := hide hn6
                  clear hn6
                  go_wp2_with fail
                  refine HPe.out.mono ?_
                  rintro e w7 ⟨v7, rfl, hown, hnew, hb⟩
                  obtain ⟨a7, c7, rfl, -⟩ := hown.row
                  have HDt7 := hide (HDt6.out.on hb)
                  have HO7 := hide (HO6.out.on hb)
                  clear hown hnew hb HDt6 HO6 HPe
                  go_wp2
                  go_loopw [24] (fun i wr' => ∃ k : Nat, k ≤ 8 * M ∧ i = .int .i64 (k : Int) ∧ Own wr' (.slice (some ⟨ga, 0, none⟩) n6 c6) LL.flatten ∧ Dt w.heap.size w wr' p q O5 (S.cut bs) lb vs LL (8 * M)) (fun i _ => 8 * M - (intOf i).toNat)
                  case atStart => exact ⟨0, by omega, rfl, HO7.out, HDt7.out⟩
                  case round =>
                    clear HDt7 HO7
                    obtain ⟨k6, hk6, rfl, hown, hd⟩ := hrel
                    have HO := hide hown
                    have HDt := hide hd
                    clear hown hd
                    by_cases hlt6 : k6 < 8 * M
                    · have hn6 := HN6.out
                      obtain ⟨b, hv, hbne, -, hbs, hrow⟩ := HDt.out.t.row k6 hlt6
                      have HRb := hide hrow
                      have HRi : Hid (Row wr (some ⟨ga, 128 * k6, none⟩) (LL.getD k6 [])) := row_seg (own_row HO.out) LL HL8.out k6 (by rw [HLL.out]; exact hlt6)
                      have HLg : Hid ((LL.getD k6 []).length = 128) := HL8.out _ (getD_mem _ _ _ (by rw [HLL.out]; exact hlt6))
                      have HCb : Hid (∀ W, Below wr.heap.size wr W → W.cell? ⟨lb, k6, none⟩ = some (.slice (some ⟨b, 0, none⟩) 128 128)) := fun W hb => by rw [hb.cell (p := ⟨lb, k6, none⟩) HDt.out.t.lt, cell_of_row wr lb k6 _ 63 (0, 0) HDt.out.t.blk]; simpa using hv
                      clear hv hrow
                      have c0 := HCb.out wr.drew (Below.refl _ _).drew
                      have hx1 : IntKind.i64.wrap (128 * (k6 : Int)) = 128 * (k6 : Int) := by rw [IntKind.wrap_i64]; omega
                      have hx2 : IntKind.i64.wrap (128 * (k6 : Int) + 128) = 128 * (k6 : Int) + 128 := by rw [IntKind.wrap_i64]; omega
                      have hA1 : (0 : Int) ≤ 128 * (k6 : Int) := by omega
                      have hA2 : 128 * (k6 : Int) ≤ 128 * (k6 : Int) + 128 := by omega
                      have hA3 : 128 * (k6 : Int) + 128 ≤ (c6 : Int) := by omega
                      have hA4 : (0 : Int) ≤ 128 * (k6 : Int) + 128 := by omega
                      have hA5 : ¬ (c6 = (128 * (k6 : Int)).toNat) := by omega
                      have hnb : decide (k6 < 8 * M) = true := by simp [hlt6]
                      have HSm : Hid (∀ W, Below wr.heap.size wr W → Calls Try.prog 21 #[.slice (some ⟨ga, (128 * (k6 : Int)).toNat, none⟩) ((128 * (k6 : Int) + 128).toNat - (128 * (k6 : Int)).toNat) (c6 - (128 * (k6 : Int)).toNat), .slice (some ⟨b, 0, none⟩) 128 128] W fun e w' => e = .returned (.bool true) ∧ Below W.heap.size W w') := fun W hb => by
                        rw [show (128 * (k6 : Int)).toNat = 128 * k6 by omega, show (128 * (k6 : Int) + 128).toNat - 128 * k6 = 128 by omega]
                        have := sameb_any (some ⟨ga, 128 * k6, none⟩) (some ⟨b, 0, none⟩) 128 128 (c6 - 128 * k6) 128 _ _ W HLg.out HLg.out (by omega) (by omega) (HRi.out.below hb) (HRb.out.below hb)
                        rwa [sameB_self] at this
                      clear hn6
                      go_wp2
                      go_region_held3 (fun W => W.cell? ⟨lb, k6, none⟩ = some (.slice (some ⟨b, 0, none⟩) 128 128)) (assumption) ((first | (go_at_call 21; refine (HSm.out _ (Below.refl _ _).drew).mono ?_; intro r' w9 hh; obtain ⟨rfl, hb⟩ := hh; have HBw : Hid (Below wr.heap.size wr w9) := (Below.refl wr.heap.size wr).drew.trans hb; clear hb c0; have c0 := HCb.out w9 HBw.out)))
                      go_wp2
                      go_roundw
                      case rel => exact ⟨k6 + 1, by omega, by go_num, HO.out.on HBw.out, HDt.out.on HBw.out⟩
                      case measure => simp [intOf]; omega
                    · have hnb : decide (k6 < 8 * M) = false := by simp; omega
                      go_wp2
                      go_ret
                      exact ⟨rfl, HDt.out.f.below⟩
                · have hd1 : decide (k < ys.length) = false := by simp; omega
                  go_wp2_with fail
                  have HBk := hide (HBr.out wr HDt.out.f.below)
                  refine (cut_any p q O S ka kc bs wr HDt.out.d HBk.out (fun h0 ad e ho => by have h1 := HLt.out h0 ad e; have h2 := HDt.out.f.own _ ho; omega) (fun h0 ad e => Nat.lt_of_lt_of_le (HLt.out h0 ad e) HDt.out.f.size) hbl).mono ?_
                  rintro e w5 ⟨rfl, O5, hd, hg⟩
                  have HDt5 := hide (HDt.out.go hd hg)
                  clear hd hg HBk
                  go_wp2_with fail
                  refine (image_any p q O5 (S.cut bs) w5 HDt5.out.d).mono ?_
                  rintro e w6 ⟨v6, rfl, hown, hnew, hb⟩
                  have HDt6 := hide (HDt5.out.on hb)
                  have HG := hide (DkAt.good' HDt5.out.d)
                  have HLL : Hid ((S.lt (kp bs)).length = 8 * M) := by rw [Hid, DS.lt_len]; exact HKa.out.ls
                  have HL8 : Hid (∀ s ∈ S.lt (kp bs), s.length = 128) := fun s hs => (HG.out.ls s hs).1
                  have hown' : Own w6 v6 (S.lt (kp bs)).flatten := hown
                  have HPe := hide (pending_any p q O5 (S.cut bs) w6 HDt6.out.d)
                  rw [show (S.cut bs).ws.map (·.1) = [] from rfl] at HPe
                  clear HDt HDt5 HMl
                  generalize S.lt (kp bs) = LL at HDt6 HLL HL8 hown'
                  have hfl := flat_tlen LL HL8.out LL.length (Nat.le_refl _)
                  rw [List.take_length, HLL.out] at hfl
                  have HFl := hide hfl
                  obtain ⟨ga, n6, c6, rfl, hn6⟩ := own_some hown' (by omega)
                  have hc6 := own_cap' hown'
                  have hm6 := own_capm' hown'
                  rw [hfl] at hn6
                  have HO6 := hide hown'
                  clear hown hown' hnew hb hfl
                  have e15 : (n6 : Int) = 1024 * (M : Int) := by omega
                  have hw10 : IntKind.i64.wrap (1024 * (M : Int)) = 1024 * (M : Int) := by rw [IntKind.wrap_i64]; omega
                  have HN6 := hide hn6
                  clear hn6
                  go_wp2_with fail
                  refine HPe.out.mono ?_
                  rintro e w7 ⟨v7, rfl, hown, hnew, hb⟩
                  obtain ⟨a7, c7, rfl, -⟩ := hown.row
                  have HDt7 := hide (HDt6.out.on hb)
                  have HO7 := hide (HO6.out.on hb)
                  clear hown hnew hb HDt6 HO6 HPe
                  go_wp2
                  go_loopw [24] (fun i wr' => ∃ k : Nat, k ≤ 8 * M ∧ i = .int .i64 (k : Int) ∧ Own wr' (.slice (some ⟨ga, 0, none⟩) n6 c6) LL.flatten ∧ Dt w.heap.size w wr' p q O5 (S.cut bs) lb vs LL (8 * M)) (fun i _ => 8 * M - (intOf i).toNat)
                  case atStart => exact ⟨0, by omega, rfl, HO7.out, HDt7.out⟩
                  case round =>
                    clear HDt7 HO7
                    obtain ⟨k6, hk6, rfl, hown, hd⟩ := hrel
                    have HO := hide hown
                    have HDt := hide hd
                    clear hown hd
                    by_cases hlt6 : k6 < 8 * M
                    · have hn6 := HN6.out
                      obtain ⟨b, hv, hbne, -, hbs, hrow⟩ := HDt.out.t.row k6 hlt6
                      have HRb := hide hrow
                      have HRi : Hid (Row wr (some ⟨ga, 128 * k6, none⟩) (LL.getD k6 [])) := row_seg (own_row HO.out) LL HL8.out k6 (by rw [HLL.out]; exact hlt6)
                      have HLg : Hid ((LL.getD k6 []).length = 128) := HL8.out _ (getD_mem _ _ _ (by rw [HLL.out]; exact hlt6))
                      have HCb : Hid (∀ W, Below wr.heap.size wr W → W.cell? ⟨lb, k6, none⟩ = some (.slice (some ⟨b, 0, none⟩) 128 128)) := fun W hb => by rw [hb.cell (p := ⟨lb, k6, none⟩) HDt.out.t.lt, cell_of_row wr lb k6 _ 63 (0, 0) HDt.out.t.blk]; simpa using hv
                      clear hv hrow
                      have c0 := HCb.out wr.drew (Below.refl _ _).drew
                      have hx1 : IntKind.i64.wrap (128 * (k6 : Int)) = 128 * (k6 : Int) := by rw [IntKind.wrap_i64]; omega
                      have hx2 : IntKind.i64.wrap (128 * (k6 : Int) + 128) = 128 * (k6 : Int) + 128 := by rw [IntKind.wrap_i64]; omega
                      have hA1 : (0 : Int) ≤ 128 * (k6 : Int) := by omega
                      have hA2 : 128 * (k6 : Int) ≤ 128 * (k6 : Int) + 128 := by omega
                      have hA3 : 128 * (k6 : Int) + 128 ≤ (c6 : Int) := by omega
                      have hA4 : (0 : Int) ≤ 128 * (k6 : Int) + 128 := by omega
                      have hA5 : ¬ (c6 = (128 * (k6 : Int)).toNat) := by omega
                      have hnb : decide (k6 < 8 * M) = true := by simp [hlt6]
                      have HSm : Hid (∀ W, Below wr.heap.size wr W → Calls Try.prog 21 #[.slice (some ⟨ga, (128 * (k6 : Int)).toNat, none⟩) ((128 * (k6 : Int) + 128).toNat - (128 * (k6 : Int)).toNat) (c6 - (128 * (k6 : Int)).toNat), .slice (some ⟨b, 0, none⟩) 128 128] W fun e w' => e = .returned (.bool true) ∧ Below W.heap.size W w') := fun W hb => by
                        rw [show (128 * (k6 : Int)).toNat = 128 * k6 by omega, show (128 * (k6 : Int) + 128).toNat - 128 * k6 = 128 by omega]
                        have := sameb_any (some ⟨ga, 128 * k6, none⟩) (some ⟨b, 0, none⟩) 128 128 (c6 - 128 * k6) 128 _ _ W HLg.out HLg.out (by omega) (by omega) (HRi.out.below hb) (HRb.out.below hb)
                        rwa [sameB_self] at this
                      clear hn6
                      go_wp2
                      go_region_held3 (fun W => W.cell? ⟨lb, k6, none⟩ = some (.slice (some ⟨b, 0, none⟩) 128 128)) (assumption) ((first | (go_at_call 21; refine (HSm.out _ (Below.refl _ _).drew).mono ?_; intro r' w9 hh; obtain ⟨rfl, hb⟩ := hh; have HBw : Hid (Below wr.heap.size wr w9) := (Below.refl wr.heap.size wr).drew.trans hb; clear hb c0; have c0 := HCb.out w9 HBw.out)))
                      go_wp2
                      go_roundw
                      case rel => exact ⟨k6 + 1, by omega, by go_num, HO.out.on HBw.out, HDt.out.on HBw.out⟩
                      case measure => simp [intOf]; omega
                    · have hnb : decide (k6 < 8 * M) = false := by simp; omega
                      go_wp2
                      go_ret
                      exact ⟨rfl, HDt.out.f.below⟩
set_option maxHeartbeats 1600000 in
set_option maxRecDepth 100000 in
theorem lifted (os : Os) (started : os.Started) (H : Type) (enc : TypeId × Value → H) :
    ReturnsInHanded {} Try.checked os 5 .any (Rows.diskKeepsSpec.pre6 enc Try.prog Try.f5 Rows.diskKeepsRow.domain false) (Rows.diskKeepsSpec.post enc Try.prog Try.f5 false true false false) := by
  refine returnsInHanded_of_change (C := Try.checked) own started (by kernel_rfl) Try.func5
    (ChangeSpec.witness6 (enc := enc) (C := Try.checked) false ⟨#[], #[.int .u8 0, .slice none 0 0, .slice none 0 0, .slice none 0 0], []⟩ 8 (by kernel_rfl) (by kernel_rfl) (by kernel_rfl) (by kernel_rfl)) ?_
  intro W base args ds gs before hval0 hW hcnd _
  have hval : ∀ (j : Nat) t v, Try.f5.params[j]? = some t → args[j]? = some v → Value.okWide Try.prog W .any base t v := hval0
  have hW' := hW
  obtain ⟨p, q, hA0, hV, rfl, hfz, hnd⟩ := hW
  have hA : DataW.TrodAll enc Try.prog W 0 (fun _ => true) true Try.f5.params.toList args.toList ds p := hA0
  rw [Try.params5] at hA hval
  obtain ⟨v0, vs0, d0, ds0, p0, q0, hargs, rfl, rfl, h0, r0⟩ := trodAll_cons hA
  obtain ⟨v1, vs1, d1, ds1, p1, q1, rfl, rfl, rfl, h1, r1⟩ := trodAll_cons r0
  obtain ⟨v2, vs2, d2, ds2, p2, q2, rfl, rfl, rfl, h2, r2⟩ := trodAll_cons r1
  obtain ⟨v3, vs3, d3, ds3, p3, q3, rfl, rfl, rfl, h3, r3⟩ := trodAll_cons r2
  obtain ⟨rfl, rfl, rfl⟩ := trodAll_nil r3
  obtain rfl : args = #[v0, v1, v2, v3] := by cases args; simp_all
  obtain ⟨rfl, rfl⟩ := trodVars_none hV
  obtain ⟨a0, rfl, rfl, rfl, w0⟩ := open_int Try.underlying5 (hval 0 5 v0 rfl rfl) h0
  obtain ⟨a1, len1, cap1, rfl⟩ := okWide_slice Try.underlying71 (hval 1 71 v1 rfl rfl)
  have k1 := h1
  have lt1 : ∀ x ∈ p1, x.block < W.heap.size := by obtain ⟨m, hm⟩ := k1; exact DataW.trod_lt m _ _ _ hm
  obtain ⟨z1, w1⟩ : ∃ zs, IsRow .u16 W a1 len1 cap1 zs := by
    obtain ⟨fuel, hf⟩ := h1
    rcases open_ints Try.underlying71 Try.underlying25 (by kernel_rfl) hf with ⟨hcs, _⟩ | ⟨x, l, c, zs, hcs, _, hl, hm, hz, _, hcell, hwz⟩
    · simp [Value.cells] at hcs
      obtain ⟨rfl, rfl, rfl⟩ := hcs
      exact ⟨[], .inl ⟨rfl, rfl, rfl, rfl⟩⟩
    · simp [Value.cells] at hcs
      obtain ⟨rfl, rfl, rfl⟩ := hcs
      exact ⟨zs, .inr ⟨_, rfl, hl, hm, by simpa using hz, hcell, hwz⟩⟩
  obtain ⟨hrow1, hbd1, hlen1, hm1⟩ := isrow16 w1
  obtain ⟨a2, len2, cap2, rfl⟩ := okWide_slice Try.underlying71 (hval 2 71 v2 rfl rfl)
  have k2 := h2
  have lt2 : ∀ x ∈ p2, x.block < W.heap.size := by obtain ⟨m, hm⟩ := k2; exact DataW.trod_lt m _ _ _ hm
  obtain ⟨z2, w2⟩ : ∃ zs, IsRow .u16 W a2 len2 cap2 zs := by
    obtain ⟨fuel, hf⟩ := h2
    rcases open_ints Try.underlying71 Try.underlying25 (by kernel_rfl) hf with ⟨hcs, _⟩ | ⟨x, l, c, zs, hcs, _, hl, hm, hz, _, hcell, hwz⟩
    · simp [Value.cells] at hcs
      obtain ⟨rfl, rfl, rfl⟩ := hcs
      exact ⟨[], .inl ⟨rfl, rfl, rfl, rfl⟩⟩
    · simp [Value.cells] at hcs
      obtain ⟨rfl, rfl, rfl⟩ := hcs
      exact ⟨zs, .inr ⟨_, rfl, hl, hm, by simpa using hz, hcell, hwz⟩⟩
  obtain ⟨hrow2, hbd2, hlen2, hm2⟩ := isrow16 w2
  obtain ⟨a3, len3, cap3, rfl⟩ := okWide_slice Try.underlying72 (hval 3 72 v3 rfl rfl)
  have k3 := h3
  have lt3 : ∀ x ∈ p3, x.block < W.heap.size := by obtain ⟨m, hm⟩ := k3; exact DataW.trod_lt m _ _ _ hm
  obtain ⟨da3, dc3, dd3, e3, m3, n3⟩ : ∃ da dc, ∃ ds : List Bool, Value.slice a3 len3 cap3 = .slice da ds.length dc ∧ BRow W da ds ∧ ds.length ≤ 9223372036854775807 := by
    obtain ⟨fuel, hf⟩ := h3
    exact read_bools fuel _ _ hf
  cases e3
  clear hA0 hval0
  have b0 := bounds_u8 w0
  have hwk := walk a0.toNat a1 a2 cap1 cap2 ((z1.take len1).map Int.toNat) ((z2.take len2).map Int.toNat) a3 cap3 dd3 W (by omega) hrow1 hbd1 (by rw [hlen1]; exact hm1) hrow2 hbd2 (by rw [hlen2]; exact hm2) m3 n3
  rw [hlen1, hlen2, Int.toNat_of_nonneg b0.1] at hwk
  refine hwk.mono fun e W' ⟨he, bel⟩ => ?_
  subst he
  exact ⟨_, rfl, _, _, _, [], _, [], hW', trodAll_mk1 (shut_bool Try.underlying4 _), (trodAll_cons_mk (shut_int Try.underlying5 w0) (trodAll_cons_mk (Below.trod laidOut (by kernel_rfl) (of_decide_eq_true (by kernel_rfl)) k1 bel lt1) (trodAll_cons_mk (Below.trod laidOut (by kernel_rfl) (of_decide_eq_true (by kernel_rfl)) k2 bel lt2) (trodAll_cons_mk (Below.trod laidOut (by kernel_rfl) (of_decide_eq_true (by kernel_rfl)) k3 bel lt3) trodAll_mk0)))), rfl, bel.frame _, fun h => by cases h⟩

theorem over : Rows.diskKeepsRow.holds Try.pinned (OpenSpec.ofChange Rows.diskKeepsSpec) :=
  OpenClaim.holds_of_wide 5 Try.f5 rfl rfl rfl rfl rfl rfl rfl ⟨rfl, rfl, rfl, rfl, rfl⟩ rfl rfl rfl rfl rfl (by kernel_rfl) Try.func5 (by kernel_rfl)
    (of_decide_eq_true (by kernel_rfl)) (by unfold Func.isWrapper; first | (rw [if_pos (by decide +kernel)]; kernel_rfl) | (rw [if_neg (by decide +kernel)]; exact ⟨rfl, rfl⟩))
    (fun os started H enc _ => lifted os started H enc)

end Go.Proofs.Ytgbnlcpmpkbmkaa.Keeps
namespace Go.Proofs.Ytgbnlcpmpkbmkaa
theorem diskKeeps_holds : Rows.DiskKeepsSaid := Keeps.over
#print axioms diskKeeps_holds
end Go.Proofs.Ytgbnlcpmpkbmkaa
