/- The document's own Decode. -/
import Derived.Test.YtejdlcahcimflaaNR
namespace Go.Proofs.Ytejdlcahcimflaa
open Go.RowKit Go.Maps
set_option linter.unusedVariables false
variable {w w' : World}
theorem drop_at {x : Nat} {ts : List Nat} {zs : List Int} (h : zs = le4 x ++ ts.flatMap le4) {k : Nat} (hk : k < ts.length) : zs.drop (4 + 4 * k) = le4 (ts.getD k 0) ++ (ts.drop (k + 1)).flatMap le4 := by
  have h1 : ∀ (k : Nat) (ts : List Nat), k ≤ ts.length → (ts.flatMap le4).drop (4 * k) = (ts.drop k).flatMap le4 := by
    intro k
    induction k with
    | zero => intro ts _; simp
    | succ k ih =>
      intro ts hts
      cases ts with
      | nil => simp at hts
      | cons t ts =>
        rw [List.flatMap_cons, show 4 * (k + 1) = 4 + 4 * k by omega, ← List.drop_drop, List.drop_left' (le4_len t), ih ts (by simpa using hts)]
        rfl
  rw [h, ← List.drop_drop, List.drop_left' (le4_len x), h1 k ts (by omega), drop_flat hk]
set_option maxHeartbeats 3200000 in
set_option maxRecDepth 1000000 in
theorem rdecode_len (w : World) (a : Option Addr) (n c : Nat) (hn : n ≤ 1000000) (h : ¬ (4 ≤ n ∧ n ≤ 1008 ∧ n % 4 = 0)) :
    Calls Try.prog 10 #[.slice a n c] w fun e w' => e = .returned (.tuple #[.int .u32 0, .slice none 0 0, .int .u16 110]) ∧ w' = w := by
  by_cases h1 : 4 ≤ n
  · have q1 : ¬ (n : Int) < 4 := by omega
    by_cases h2 : n % 4 = 0
    · have q3 : ((n : Int) % 4 != 0) = false := by rw [bne_eq_false_iff_eq]; omega
      have q2 : (1008 : Int) < (n : Int) := by omega
      clear h
      go_enter Try.func10, Try.ntmps10
      go_wp2
      go_ret3
      exact ⟨rfl, rfl⟩
    · have q3 : ((n : Int) % 4 != 0) = true := by rw [bne_iff_ne]; omega
      clear h
      go_enter Try.func10, Try.ntmps10
      go_wp2
      go_ret3
      exact ⟨rfl, rfl⟩
  · have q1 : (n : Int) < 4 := by omega
    clear h
    go_enter Try.func10, Try.ntmps10
    go_wp2
    go_ret3
    exact ⟨rfl, rfl⟩
set_option maxHeartbeats 3200000 in
set_option maxRecDepth 1000000 in
theorem rdecode_any (w : World) (a : Option Addr) (n c x : Nat) (zs : List Int) (ts : List Nat) (hx : x ≤ 4294967295) (hz : W32 ts) (hm : ts.length ≤ 251) (hn : n = 4 + 4 * ts.length) (hl : zs.length = n) (hr : Row w a zs) (hzs : zs = le4 x ++ ts.flatMap le4) (E : Nat) (X : Nat) (T : List Nat)
    (hgood : (rise ts && ts.all okp) = true ∧ (x = 0 ∨ okp x = true) → E = 0 ∧ X = x ∧ T = ts) (hbad : ¬ ((rise ts && ts.all okp) = true ∧ (x = 0 ∨ okp x = true)) → E = 110 ∧ X = 0 ∧ T = []) :
    Calls Try.prog 10 #[.slice a n c] w fun e w' => ∃ v, e = .returned (.tuple #[.int .u32 (X : Int), v, .int .u16 (E : Int)]) ∧ OwnW w' v T ∧ (∀ k, v.ownBlock = some k → w.heap.size ≤ k) ∧ Below w.heap.size w w' := by
  obtain ⟨m, hmm⟩ : ∃ m, m = ts.length := ⟨_, rfl⟩
  have hnb : n ≤ 1008 := by omega
  have q0 : ¬ (n : Int) < 4 := by omega
  have q1 : ((n : Int) % 4 != 0) = false := by rw [bne_eq_false_iff_eq]; omega
  have q2 : ¬ (1008 : Int) < (n : Int) := by omega
  have hd0 : zs.drop 0 = le4 x ++ ts.flatMap le4 := by rw [List.drop_zero]; exact hzs
  have HG0 : Hid (∀ W, Below w.heap.size w W → Calls Try.prog 27 #[.slice a n c, .int .i64 0] W fun e w' => e = .returned (.int .u32 (x : Int)) ∧ Same W w') := fun W hW => rget_row a n c 0 x zs _ hx (by omega) (by omega) (hr.below hW) hl hd0
  have HGk : Hid (∀ k, k < m → ∀ W, Below w.heap.size w W → Calls Try.prog 27 #[.slice a n c, .int .i64 ((4 + 4 * k : Nat) : Int)] W fun e w' => e = .returned (.int .u32 ((ts.getD k 0 : Nat) : Int)) ∧ Same W w') := fun k hk W hW =>
    rget_row a n c (4 + 4 * k) (ts.getD k 0) zs _ (hz.at k) (by omega) (by omega) (hr.below hW) hl (drop_at hzs (by omega))
  obtain ⟨i0, hi, hz0, hz1, hz2⟩ := info_parts infoU32
  have HMm := hide hmm
  have HN := hide hn
  have HZ := hide hz
  have HGo := hide hgood
  have HBa := hide hbad
  rw [← hmm] at hm
  have HWr := hide (fun W => rwrong_any W x hx)
  clear hr hz hn hmm hgood hbad hd0 hzs hl
  go_enter Try.func10, Try.ntmps10
  go_wp2_with (go_at_call 27; refine (HG0.out _ (Below.refl _ _)).mono ?_; rintro e w1 ⟨rfl, hs1⟩; have HS1 := hide hs1; clear hs1)
  have HB1 : Hid (Below w.heap.size w w1) := HS1.out.below
  go_loopw [7, 6] (fun i u wr => ∃ (k : Nat) (v : Value), k ≤ m ∧ i = .int .i64 ((4 + 4 * k : Nat) : Int) ∧ u = v ∧ OwnW wr v (ts.take k) ∧ (∀ b, v.ownBlock = some b → w.heap.size ≤ b) ∧ Below w.heap.size w wr) (fun i _ _ => 2000 - (intOf i).toNat)
  case atStart => exact ⟨0, _, Nat.zero_le _, rfl, rfl, World.ownsRow_nil _ _ _ _, fun b hb => by simp [Value.ownBlock] at hb, HB1.out⟩
  case round =>
    obtain ⟨k, v, hk, rfl, rfl, hown, hlow, hbel⟩ := hrel
    have HOw := hide hown
    have HLo := hide hlow
    have HBe := hide hbel
    have hnn := HN.out
    have hmm := HMm.out
    have hlen : (ts.take k).length = k := by rw [List.length_take]; omega
    obtain ⟨a2, c2, rfl, hc2, hcm2, hrw2, -⟩ := hown.shape
    have HRw2 := hide hrw2
    clear hown hlow hbel hrw2
    by_cases hlt : k < m
    · have hkl : k < ts.length := by omega
      have HGn := hide (HGk.out k hlt wr HBe.out)
      have HTk : Hid (ts.take (k + 1) = ts.take k ++ [ts.getD k 0]) := by rw [Hid, List.take_succ_eq_append_getElem hkl, List.getD_eq_getElem?_getD, List.getElem?_eq_getElem hkl]; rfl
      rw [hlen] at HOw HLo hc2 ⊢
      have hIn : ((4 + 4 * k : Nat) : Int) < (n : Int) := by omega
      have hI4 : ((4 + 4 * k : Nat) : Int) + 4 = ((4 + 4 * (k + 1) : Nat) : Int) := by omega
      have HI4 := hide hI4
      have hIb : 4 + 4 * k ≤ 2000 := by omega
      have HLen := hide hlen
      clear hlen hI4 hnn hmm hkl
      generalize ts.getD k 0 = y at *
      generalize ts.take k = ys at *
      generalize hI : 4 + 4 * k = I at *
      have HI := hide hI
      clear hI
      go_wp2_with (first
        | (go_at_call 27; refine HGn.out.mono ?_; rintro e w3 ⟨rfl, hs3⟩; have HS3 := hide hs3; have HO3 := hide (HOw.out.same hs3); clear hs3)
        | (at_builtin; refine wpList_append_own_at _ (by rfl) (.tmp 32) (.tmp 36) 22 (by rfl) 0 32 i0 (.int .u32 0) 1 4 Try.underlying22 hi hz0 hz1 hz2 rfl (by omega) (.slice a2 k c2) ys.length (ys.map fun (z : Nat) => Value.int .u32 (z : Int)) (by rfl) (World.ownsRow.alloc HO3.out _) ⟨w3.heap.size, 0, none⟩ 1 1 [.int .u32 (y : Int)] (by rfl) (by rfl) (cell_one_new _ _ _) (fun u hu => by rw [List.mem_singleton.1 hu]; rfl) (by have := HLen.out; unfold maxLen; omega) (by have := HLen.out; omega) (Nat.zero_le _) ?_; intro v4 w4 h1 h2 h3 h4; have J1 := hide h1; have J2 := hide h2; have J4 := hide h4; clear h1 h2 h3 h4))
      have hb3 : Below w.heap.size w w3 := HBe.out.trans (HS3.out.below.mono HBe.out.size)
      go_roundw
      case rel =>
        refine ⟨k + 1, v4, by omega, by rw [← HI4.out], rfl, ?_, fun j hj => ?_, ?_⟩
        · have := J1.out
          rw [HTk.out]
          unfold OwnW
          rw [List.length_append, List.map_append, List.length_singleton]
          exact this
        · rcases J4.out with e | e
          · rw [e] at hj; exact HLo.out j hj
          · rw [e] at hj; cases hj; have := hb3.size; simp; omega
        · exact hb3.trans ((Mv.below (((Mv.refl (fun j => (Value.slice a2 k c2).ownBlock = some j) w3).alloc _).grown J2.out (fun j hj => .inl hj)) hb3.size (fun j hj => HLo.out j hj)))
      case measure => simp [intOf]; omega
    · obtain rfl : k = m := by omega
      have hIn : ¬ ((4 + 4 * k : Nat) : Int) < (n : Int) := by omega
      have htk : ts.take k = ts := List.take_of_length_le (by omega)
      rw [htk] at HOw HRw2
      rw [hlen] at hc2 HLo ⊢
      have hlk : ts.length = k := hmm.symm
      rw [htk] at hlen
      have HOk : Hid (OwnW wr (.slice a2 k c2) ts) := by rw [← hlk]; rw [hlk]; have := HOw.out; rw [hlen] at this; exact this
      have HRs := hide (rrises_any wr a2 k c2 ts hlk (by omega) HRw2.out HZ.out)
      clear htk hlen hmm hnn
      by_cases h1 : (rise ts && ts.all okp) = true
      · rw [h1] at HRs
        by_cases hx0 : x = 0
        · obtain ⟨rfl, rfl, rfl⟩ := HGo.out ⟨h1, .inl hx0⟩
          have hxn : ((X : Int) != 0) = false := by rw [bne_eq_false_iff_eq]; omega
          clear h1
          have HX0 := hide hx0
          clear hx0
          go_wp2_with (first
            | (go_at_call 22; refine HRs.out.mono ?_; rintro e w5 ⟨rfl, hs5⟩; have HS5 := hide hs5; clear hs5)
            | (go_at_call 23; refine (HWr.out _).mono ?_; rintro e w6 ⟨rfl, hw6⟩; rw [hw6]; clear hw6))
          go_ret3
          exact ⟨_, rfl, HOk.out.same HS5.out, HLo.out, HBe.out.trans (HS5.out.below.mono HBe.out.size)⟩
        · have hxn : ((x : Int) != 0) = true := by rw [bne_iff_ne]; omega
          by_cases hx1 : okp x = true
          · obtain ⟨rfl, rfl, rfl⟩ := HGo.out ⟨h1, .inr hx1⟩
            rw [hx1] at HWr
            clear h1 hx1 hx0
            go_wp2_with (first
              | (go_at_call 22; refine HRs.out.mono ?_; rintro e w5 ⟨rfl, hs5⟩; have HS5 := hide hs5; clear hs5)
              | (go_at_call 23; refine (HWr.out _).mono ?_; rintro e w6 ⟨rfl, hw6⟩; rw [hw6]; clear hw6))
            go_ret3
            exact ⟨_, rfl, HOk.out.same HS5.out, HLo.out, HBe.out.trans (HS5.out.below.mono HBe.out.size)⟩
          · obtain ⟨rfl, rfl, rfl⟩ := HBa.out (fun h => h.2.elim hx0 hx1)
            rw [bool_false hx1] at HWr
            clear h1 hx1 hx0
            go_wp2_with (first
              | (go_at_call 22; refine HRs.out.mono ?_; rintro e w5 ⟨rfl, hs5⟩; have HS5 := hide hs5; clear hs5)
              | (go_at_call 23; refine (HWr.out _).mono ?_; rintro e w6 ⟨rfl, hw6⟩; rw [hw6]; clear hw6))
            go_ret3
            exact ⟨_, rfl, World.ownsRow_nil _ _ _ _, fun k hk => by simp [Value.ownBlock] at hk, HBe.out.trans (HS5.out.below.mono HBe.out.size)⟩
      · obtain ⟨rfl, rfl, rfl⟩ := HBa.out (fun h => h1 h.1)
        rw [bool_false h1] at HRs
        clear h1
        go_wp2_with (first
          | (go_at_call 22; refine HRs.out.mono ?_; rintro e w5 ⟨rfl, hs5⟩; have HS5 := hide hs5; clear hs5)
          | (go_at_call 23; refine (HWr.out _).mono ?_; rintro e w6 ⟨rfl, hw6⟩; rw [hw6]; clear hw6))
        go_ret3
        exact ⟨_, rfl, World.ownsRow_nil _ _ _ _, fun k hk => by simp [Value.ownBlock] at hk, HBe.out.trans (HS5.out.below.mono HBe.out.size)⟩
theorem rdecode_all (w : World) (a : Option Addr) (n c : Nat) (zs : List Int) (hl : zs.length = n) (hn : n ≤ 1000000) (hc : n ≤ c) (hr : Row w a zs) (hb : Byts zs) : Calls Try.prog 10 #[.slice a n c] w (DecOut w n zs) := by
  by_cases hlen : 4 ≤ n ∧ n ≤ 1008 ∧ n % 4 = 0
  · obtain ⟨m, hm⟩ : ∃ m, n = 4 * (m + 1) := ⟨n / 4 - 1, by omega⟩
    obtain ⟨e1, e2, e3, e4⟩ := wds_head (m := m) hb (by omega)
    have hgd : dgood n zs ↔ ((rise (wds zs).tail && (wds zs).tail.all okp) = true ∧ ((wds zs).headD 0 = 0 ∨ okp ((wds zs).headD 0) = true)) := ⟨fun h => ⟨h.2.2.2.1, h.2.2.2.2⟩, fun h => ⟨hlen.1, hlen.2.1, hlen.2.2, h.1, h.2⟩⟩
    refine (rdecode_any w a n c _ zs _ e3 e4 (by omega) (by omega) hl hr e1 (decE n zs) (decX n zs) (decL n zs) (fun h => ?_) (fun h => ?_)).mono ?_
    · have hg := hgd.2 h
      unfold decE decX decL
      rw [if_pos hg, if_pos hg, if_pos hg]
      exact ⟨rfl, rfl, rfl⟩
    · have hg : ¬ dgood n zs := fun hg => h (hgd.1 hg)
      unfold decE decX decL
      rw [if_neg hg, if_neg hg, if_neg hg]
      exact ⟨rfl, rfl, rfl⟩
    · rintro e w' ⟨v, rfl, h1, h2, h3⟩
      exact ⟨⟨v, rfl, h1, h2⟩, h3⟩
  · have hg : ¬ dgood n zs := fun h => hlen ⟨h.1, h.2.1, h.2.2.1⟩
    have hX : decX n zs = 0 := by unfold decX; rw [if_neg hg]
    have hL : decL n zs = [] := by unfold decL; rw [if_neg hg]
    have hE : decE n zs = 110 := by unfold decE; rw [if_neg hg]
    refine (rdecode_len w a n c hn hlen).mono ?_
    rintro e w' ⟨rfl, rfl⟩
    exact ⟨⟨_, by rw [hX, hE]; rfl, by rw [hL]; exact World.ownsRow_nil _ _ _ _, fun k hk => by simp [Value.ownBlock] at hk⟩, Below.refl _ _⟩
end Go.Proofs.Ytejdlcahcimflaa
