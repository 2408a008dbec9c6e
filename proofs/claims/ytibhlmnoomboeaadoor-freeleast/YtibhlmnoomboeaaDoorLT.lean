/- FreeLeast: what is taken was there, is the least of those that may be taken, and is there no more. -/
import Derived.Test.YtibhlmnoomboeaaDoorKN
import Derived.Test.YtibhlmnoomboeaaDoorAC
import Derived.Test.YtibhlmnoomboeaaDoorTZ
import Derived.Deep.RegionHeld3
namespace Go.Proofs.YtibhlmnoomboeaaDoor
open Go.RowKit Go.Maps
set_option linter.unusedVariables false
/-- how many may be taken. -/
def cnt (G : Int) (M : List Pg) : Nat := M.countP (fun x => decide (x.2 ≤ G))
theorem cnt_le (G : Int) (M : List Pg) : cnt G M ≤ M.length := List.countP_le_length
theorem cnt_perm {G : Int} {M M' : List Pg} (h : M.Perm M') : cnt G M = cnt G M' := h.countP_eq _
theorem cnt_cons {G : Int} {x : Pg} {M : List Pg} (h : x.2 ≤ G) : cnt G (x :: M) = cnt G M + 1 := by
  unfold cnt
  rw [List.countP_cons, if_pos (decide_eq_true h)]
theorem cnt_pos {G : Int} {M : List Pg} (h : 0 < cnt G M) : ∃ x ∈ M, x.2 ≤ G := by
  obtain ⟨x, h1, h2⟩ := List.countP_pos_iff.1 h
  exact ⟨x, h1, of_decide_eq_true h2⟩
theorem cnt_zero {G : Int} {M : List Pg} (h : cnt G M = 0) : ∀ x ∈ M, G < x.2 := fun x hx => by
  have := List.countP_eq_zero.1 h x hx
  simpa using this
theorem Rw.of_block {w w' : World} {a : Option Addr} {zs : List Nat} (h : Rw w a zs) (hs : w.heap.size ≤ w'.heap.size) (hb : ∀ ad, a = some ad → w'.heap[ad.block]? = w.heap[ad.block]?) : Rw w' a zs := by
  rcases h with h | ⟨b, off, rfl, hlt, hc⟩
  · exact .inl h
  · exact .inr ⟨b, off, rfl, by omega, fun i hi => (World.cell?_of_block (w := w) (a := ⟨b, off + i, none⟩) (hb ⟨b, off, none⟩ rfl)).trans (hc i hi)⟩
set_option maxHeartbeats 6400000 in
set_option maxRecDepth 1000000 in
theorem least_walk (w : World) (ht : Tb w) (a : Option Addr) (n c : Nat) (xs : List Ac) (hx : Acs w a n c xs) (G : Int) (hG : 0 ≤ G ∧ G ≤ 18446744073709551615) : Calls Tryd.prog 3 #[.slice a n c, .int .u64 G] w fun e w' => e = .returned (.bool true) ∧ Below w.heap.size w w' := by
  have HX := hide hx
  have HT := hide ht
  have HK := hide (fun W => known_any W)
  have hmx := hx.max
  clear hx ht
  by_cases h3 : 300 < n
  · have h3' : (300 : Int) < (n : Int) := by omega
    go_enter Tryd.func3, Tryd.ntmps3
    go_wp2
    go_ret
    exact ⟨rfl, Below.refl _ _⟩
  · have h3' : ¬ (300 : Int) < (n : Int) := by omega
    go_enter Tryd.func3, Tryd.ntmps3
    go_wp2_with (first
      | (go_at_call 5; refine (new_fl _).mono ?_; rintro e w1 ⟨l, rfl, f1⟩; have F1 := hide f1; clear f1)
      | (go_at_call 6; refine (HK.out _).mono ?_; rintro e w2 ⟨rfl, b2⟩; have F2 := hide (F1.out.on b2); clear b2))
    go_loopw [6] (fun i wr => ∃ (k : Nat) (M : List Pg), k ≤ n ∧ i = .int .i64 k ∧ M.length ≤ k ∧ Fl w wr l M) (fun i _ => n - (intOf i).toNat)
    case atStart => exact ⟨0, [], Nat.zero_le _, rfl, by simp, F2.out⟩
    case round =>
      obtain ⟨k, M, hk, rfl, hml, hfl⟩ := hrel
      have HFl := hide hfl
      clear hfl
      by_cases hlt : k < n
      · obtain ⟨x, b, off, hxk, rfl, hbl, hat, hok⟩ := HX.out.at hlt
        have HC : Hid (∀ W, Below w.heap.size w W → W.cell? ⟨b, off + k * 3 + 1, none⟩ = some (.int .u32 (x.p : Int)) ∧ W.cell? ⟨b, off + k * 3 + 2, none⟩ = some (.int .u64 x.g)) := fun W hW => ⟨(hW.cell (p := ⟨b, off + k * 3 + 1, none⟩) hbl).trans hat.c1, (hW.cell (p := ⟨b, off + k * 3 + 2, none⟩) hbl).trans hat.c2⟩
        obtain ⟨e1, e2⟩ := HC.out wr HFl.out.bel
        have hp := hok.p
        have HA := hide (fun W (hW : Same wr W) => add_fl (HFl.out.on hW.below) x.p hp x.g (by omega))
        clear hat hok hxk
        obtain ⟨K, P, g⟩ := x
        simp only [] at e1 e2 hp HA HC
        obtain ⟨M1, hM1, hr1⟩ : ∃ M1, M1 = (if adds M P then ((P : Int), g) :: M else M) ∧ M1.length ≤ k + 1 := ⟨_, rfl, by split; (simp only [List.length_cons]; omega); omega⟩
        rw [← hM1] at HA
        generalize (if adds M P then (0 : Int) else 110) = r at HA
        clear hM1
        go_wp2
        go_region_held3 (fun W => W.cell? ⟨b, off + k * 3 + 1, none⟩ = some (.int .u32 (P : Int)) ∧ W.cell? ⟨b, off + k * 3 + 2, none⟩ = some (.int .u64 g)) ((refine ⟨?_, ?_⟩ <;> assumption)) ((first | (go_at_call 7; refine (HA.out _ (Same.refl _).drew).mono ?_; rintro e w3 ⟨rfl, f3⟩; have F3 := hide f3; obtain ⟨q1, q2⟩ := HC.out w3 f3.bel; clear f3)))
        go_wp2
        go_roundw
        case rel => exact ⟨k + 1, M1, by omega, by go_num, hr1, F3.out⟩
        case measure => simp [intOf]; omega
      · obtain rfl : k = n := by omega
        have HMy := hide (may_fl HFl.out (by omega) G)
        have hcl := cnt_le G M
        obtain ⟨N0, hN0⟩ : ∃ N0, N0 = cnt G M := ⟨_, rfl⟩
        have hN1 : M.countP (fun x => decide (x.2 ≤ G)) = N0 := hN0.symm
        rw [hN1] at HMy
        rw [← hN0] at hcl
        have HN0 := hide hN0
        clear hN0 hN1
        go_wp2_with (go_at_call 8; refine HMy.out.mono ?_; rintro e w4 ⟨rfl, f4⟩; have F4 := hide f4; clear f4)
        go_loopw [9, 8] (fun i u wr => ∃ (j : Nat) (M : List Pg) (O : Nat → Prop) (t : Nat), i = .int .i64 j ∧ u = .int .u32 t ∧ t ≤ 16383 ∧ M.length ≤ 300 ∧ cnt G M + j = N0 ∧ (∀ x ∈ M, x.2 ≤ G → (t : Int) < x.1) ∧ LsAt wr l M O ∧ (∀ k, O k → w.heap.size ≤ k) ∧ Below w.heap.size w wr) (fun i _ _ => N0 - (intOf i).toNat)
        case atStart =>
          obtain ⟨O, f1, f2, f3⟩ := F4.out
          exact ⟨0, M, O, 0, rfl, rfl, by omega, by omega, by rw [HN0.out]; rfl, fun x hx _ => by have := (f1.rg x hx).1; omega, f1, f3, f2⟩
        case round =>
          obtain ⟨j, M5, O, t, rfl, rfl, ht1, hml5, hcn, hgt, hls, hol, hbe⟩ := hrel
          have HGt := hide hgt
          have HLs := hide hls
          have HOl := hide hol
          have HBe := hide hbe
          have HCn := hide hcn
          clear hgt hls hol hbe hcn
          by_cases hlt2 : j < N0
          · obtain ⟨x0, hx0, hx1⟩ := cnt_pos (G := G) (M := M5) (by have := HCn.out; omega)
            have HA1 := hide (all_any HLs.out (HT.out.below HBe.out) (by omega))
            have HTk := hide (fun W (hW : Below wr.heap.size wr W) => take_some (HLs.out.below hW) G ⟨x0, hx0, hx1⟩ (by omega))
            have hc9 : (j : Int) < (N0 : Int) := by omega
            have M1 : True := trivial
            have HQ : Hid (∀ p q : Nat, p + 1 = q → ((p : Int) != (q : Int) - 1) = false) := fun p q h => by rw [bne_eq_false_iff_eq]; omega
            have HNx : Hid (∀ (x : Pg) (M' : List Pg), M5.Perm (x :: M') → x.2 ≤ G → ∃ N : Nat, x.1 = (N : Int) ∧ 2 ≤ N ∧ N ≤ 16383 ∧ t < N) := fun x M' hp hg => by
              have := HLs.out.rg x (hp.mem_iff.2 (List.mem_cons_self ..))
              have h9 := HGt.out x (hp.mem_iff.2 (List.mem_cons_self ..)) hg
              exact ⟨x.1.toNat, by omega, by omega, by omega, by omega⟩
            have HBA : Hid (∀ (W W' : World) (O' : Nat → Prop), Below wr.heap.size wr W → Go1 O W O' W' → Below w.heap.size w W') := fun W W' O' hW hg => by
              have hb := HBe.out.trans (hW.mono HBe.out.size)
              exact hb.trans (hg.mv.below hb.size HOl.out)
            clear hx0 hx1
            go_wp2_with (first
              | (clear M1; go_at_call 9; refine HA1.out.mono ?_; rintro e w5 ⟨v5, Z5, rfl, h1, h2, h3, h4⟩; obtain ⟨a5, c5, rfl, hc5, hm5, hr5, hb5⟩ := h1.shape; have H2 := hide h2; have H3 := hide h3; have H4 := hide h4; have HR5 := hide hr5; have HB5 := hide hb5; clear h1 h2 h3 h4 hr5 hb5)
              | (go_at_call 10; refine (HTk.out _ H4.out).mono ?_; rintro e w6 ⟨x6, M6, rfl, h1, h2, h3, O6, h4, h5⟩; obtain ⟨N6, hN6, hN7, hN8, hN9⟩ := HNx.out x6 M6 h1 h2; rw [hN6]; have hn1 : ¬ (N6 : Int) ≤ (t : Int) := (by omega); have hn2 : ¬ N6 ≤ t := (by omega); have hn3 : decide ((N6 : Int) ≤ (t : Int)) = false := decide_eq_false hn1; have hn4 : decide (N6 ≤ t) = false := decide_eq_false hn2; have J1 := hide h1; have J2 := hide h2; have J3 := hide h3; have J4 := hide h4; have J5 := hide h5; have hm6 : M6.length + 1 = M5.length := h1.length_eq.symm; have HA2 := hide (all_any h4 (HT.out.below (HBA.out _ _ _ H4.out h5)) (by omega)); clear h1 h2 h3 h4 h5)
              | (go_at_call 9; refine HA2.out.mono ?_; rintro e w7 ⟨v7, Z7, rfl, h1, h2, h3, h4⟩; obtain ⟨a7, c7, rfl, hc7, hm7, hr7, hb7⟩ := h1.shape; have K2 := hide h2; have K3 := hide h3; have K4 := hide h4; have hl5 := H2.out.len; have hl7 := h2.len; have hq1 : ((Z7.length : Int) != (Z5.length : Int) - 1) = false := HQ.out _ _ (by omega); have KR7 := hide hr7; clear h1 h2 h3 h4 hr7 hb7))
            have hx6 : x6 ∈ M5 := J1.out.mem_iff.2 (List.mem_cons_self ..)
            have HL5 := hide hl5
            have HL7 := hide hl7
            have HIn : Hid (N6 ∈ Z5) := (H2.out.mem N6).2 (List.mem_map.2 ⟨x6, hx6, hN6⟩)
            have HOut : Hid (N6 ∉ Z7) := fun h => by
              have h1 := (K2.out.mem N6).1 h
              have hnd := (J1.out.map (·.1)).nodup_iff.1 HLs.out.nd
              rw [List.map_cons, List.nodup_cons, hN6] at hnd
              exact hnd.1 h1
            have HR6 : Hid (Rw w7 a5 Z5) := (HR5.out.of_block J5.out.mv.size (fun ad had => by
              have hob := (HB5.out ad.block).1 ⟨ad, had, rfl⟩
              have h1 := H3.out _ hob
              refine J5.out.mv.block ad.block ?_ (fun ho => by have := HLs.out.lt ho; omega)
              rcases HR5.out with h0 | ⟨b, off, e, hlt, _⟩
              · rw [h0] at HIn; exact absurd HIn.out (by simp)
              · rw [e] at had; cases had; exact hlt)).below K4.out
            have HB7 := hide ((HBA.out _ _ _ H4.out J5.out).trans (K4.out.mono (HBA.out _ _ _ H4.out J5.out).size))
            clear hl5 hl7 hq1 hn1 hn2 hn3 hn4
            generalize hZ5 : M5.length = L5 at *
            generalize hZ7 : M6.length = L7 at *
            have HZ5 := hide hZ5
            have HZ7 := hide hZ7
            clear hZ5 hZ7
            go_loopw [15, 14] (fun i f w8 => ∃ (q : Nat) (fb : Bool), q ≤ L5 ∧ i = .int .i64 q ∧ f = .bool fb ∧ (fb = true ↔ N6 ∈ Z5.take q) ∧ Same w7 w8) (fun i _ _ => L5 - (intOf i).toNat)
            case atStart => exact ⟨0, false, Nat.zero_le _, rfl, rfl, by simp, Same.refl _⟩
            case round =>
              obtain ⟨q, fb, hq, rfl, rfl, hfb, hsm⟩ := hrel
              have HFb := hide hfb
              have HSm := hide hsm
              clear hfb hsm
              by_cases hqt : q < L5
              · have hqz : q < Z5.length := by have := HL5.out; have := HZ5.out; omega
                have hqi : (q : Int) < (L5 : Int) := by omega
                have htk : Z5.take (q + 1) = Z5.take q ++ [Z5.getD q 0] := by rw [List.take_succ_eq_append_getElem hqz, List.getD_eq_getElem?_getD, List.getElem?_eq_getElem hqz]; rfl
                have HTk2 := hide htk
                clear htk
                cases fb with
                | true =>
                  go_wp2
                  go_roundw
                  case rel => exact ⟨q + 1, true, by omega, by go_num, rfl, by rw [HTk2.out, List.mem_append]; exact ⟨fun _ => .inl (HFb.out.1 rfl), fun _ => rfl⟩, HSm.out⟩
                  case measure => simp [intOf]; omega
                | false =>
                  rcases HR6.out.below HSm.out.below with h0 | ⟨b8, o8, rfl, _, hc8⟩
                  · subst h0; simp at hqz
                  have g8 := hc8 q hqz
                  clear hc8
                  generalize Z5.getD q 0 = z8 at *
                  go_wp2
                  go_roundw
                  case rel =>
                    refine ⟨q + 1, ((z8 : Int) == (N6 : Int)), by omega, by go_num, rfl, ?_, HSm.out⟩
                    rw [HTk2.out, List.mem_append, List.mem_singleton, beq_iff_eq]
                    constructor
                    · intro h; right; omega
                    · rintro (h | h)
                      · exact absurd (HFb.out.2 h) (by simp)
                      · omega
                  case measure => simp [intOf]; omega
              · obtain rfl : q = L5 := by omega
                have hfbt : fb = true := HFb.out.2 (by rw [List.take_of_length_le (by have := HL5.out; have := HZ5.out; omega)]; exact HIn.out)
                subst hfbt
                have hqi : ¬ ((q : Int) < (q : Int)) := by omega
                go_wp2
                go_loopw [16] (fun i w9 => ∃ (r : Nat), r ≤ L7 ∧ i = .int .i64 r ∧ Same w7 w9) (fun i _ => L7 - (intOf i).toNat)
                case atStart => exact ⟨0, Nat.zero_le _, rfl, HSm.out⟩
                case round =>
                  obtain ⟨r, hr, rfl, hsm9⟩ := hrel
                  have HS9 := hide hsm9
                  clear hsm9
                  by_cases hrt : r < L7
                  · have hrz : r < Z7.length := by have := HL7.out; have := HZ7.out; omega
                    have hri : (r : Int) < (L7 : Int) := by omega
                    rcases KR7.out.below HS9.out.below with h0 | ⟨b9, o9, rfl, _, hc9'⟩
                    · subst h0; simp at hrz
                    have g9 := hc9' r hrz
                    have hne9 : Z7.getD r 0 ≠ N6 := fun e => HOut.out (by rw [← e, List.getD_eq_getElem?_getD, List.getElem?_eq_getElem hrz]; exact List.getElem_mem hrz)
                    clear hc9'
                    generalize Z7.getD r 0 = z9 at *
                    have hbe9 : ((z9 : Int) == (N6 : Int)) = false := by rw [beq_eq_false_iff_ne]; omega
                    go_wp2
                    go_roundw
                    case rel => exact ⟨r + 1, by omega, by go_num, HS9.out⟩
                    case measure => simp [intOf]; omega
                  · obtain rfl : r = L7 := by omega
                    have hri : ¬ ((r : Int) < (r : Int)) := by omega
                    go_wp2
                    go_roundw
                    case rel =>
                      refine ⟨j + 1, M6, O6, N6, by go_num, rfl, hN8, by have := HZ7.out; have := HZ5.out; omega, ?_, fun y hy hg => ?_, (J4.out.below K4.out).same HS9.out, fun k hk => ?_, HB7.out.trans (HS9.out.below.mono HB7.out.size)⟩
                      · have h1 := cnt_perm (G := G) J1.out
                        rw [cnt_cons J2.out] at h1
                        have := HCn.out
                        omega
                      · have hy5 : y ∈ M5 := J1.out.mem_iff.2 (List.mem_cons_of_mem _ hy)
                        have h1 := J3.out y hy5 hg
                        have hnd := (J1.out.map (·.1)).nodup_iff.1 HLs.out.nd
                        rw [List.map_cons, List.nodup_cons] at hnd
                        have h2 : x6.1 ≠ y.1 := fun e => hnd.1 (by rw [e]; exact List.mem_map.2 ⟨y, hy, rfl⟩)
                        omega
                      · have hb5 := HBe.out.trans (H4.out.mono HBe.out.size)
                        exact (J5.out.own k hk).elim (HOl.out k) (fun hl => Nat.le_trans hb5.size hl)
                    case measure => simp [intOf]; omega
          · have hc9 : ¬ (j : Int) < (N0 : Int) := by omega
            have hz0 : cnt G M5 = 0 := by have := HCn.out; omega
            have HTk := hide (take_none HLs.out G (cnt_zero hz0) (by omega))
            have HMy2 := hide (fun W O' (hW : LsAt W l M5 O') => may_any hW (by omega) G)
            have hz1 : M5.countP (fun x => decide (x.2 ≤ G)) = 0 := hz0
            rw [hz1] at HMy2
            clear hz0 hz1
            go_wp2_with (first
              | (go_at_call 10; refine HTk.out.mono ?_; rintro e w5 ⟨rfl, O5, h1, h2⟩; have J1 := hide h1; have J2 := hide h2; clear h1 h2)
              | (go_at_call 8; refine (HMy2.out _ _ J1.out).mono ?_; rintro e w6 ⟨rfl, h6⟩; have J6 := hide h6; clear h6))
            go_ret
            have hb := HBe.out.trans (J2.out.mv.below HBe.out.size HOl.out)
            exact ⟨rfl, hb.trans (J6.out.mono hb.size)⟩
end Go.Proofs.YtibhlmnoomboeaaDoor
