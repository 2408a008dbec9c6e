/- FreeHeld: what a generation let go is given to nobody as long as an elder one is needed. -/
import Derived.Test.YtoealofdkbomkaaKN
import Derived.Test.YtoealofdkbomkaaAC
import Derived.Deep.RegionHeld3
namespace Go.Proofs.Ytoealofdkbomkaa
open Go.RowKit Go.Maps
set_option linter.unusedVariables false
/-- how many are held by a generation that is needed. -/
def hld (G : Int) (M : List Pg) : Nat := M.countP (fun x => decide (G < x.2))
theorem hld_le (G : Int) (M : List Pg) : hld G M ≤ M.length := List.countP_le_length
theorem hld_cons (G : Int) (x : Pg) (M : List Pg) : hld G (x :: M) = hld G M + if G < x.2 then 1 else 0 := by
  unfold hld
  rw [List.countP_cons]
  by_cases h : G < x.2
  · rw [if_pos h, if_pos (decide_eq_true h)]
  · rw [if_neg h, if_neg (by simpa using h)]
theorem hld_perm {G : Int} {M M' : List Pg} (h : M.Perm M') : hld G M = hld G M' := h.countP_eq _
theorem hld_all {G : Int} {M : List Pg} (h : hld G M = M.length) : ∀ x ∈ M, G < x.2 := fun x hx => by
  have := List.countP_eq_length.1 h x hx
  simpa using this
theorem hld_lt {G : Int} {M : List Pg} (h : hld G M < M.length) : ∃ x ∈ M, x.2 ≤ G := by
  refine Classical.byContradiction fun hn => ?_
  have : hld G M = M.length := List.countP_eq_length.2 fun x hx => decide_eq_true (Int.not_le.1 fun hc => hn ⟨x, hx, hc⟩)
  omega
set_option maxHeartbeats 3200000 in
set_option maxRecDepth 1000000 in
theorem held_walk (w : World) (a : Option Addr) (n c : Nat) (xs : List Ac) (hx : Acs w a n c xs) (G : Int) (hG : 0 ≤ G ∧ G ≤ 18446744073709551615) : Calls Try.prog 3 #[.slice a n c, .int .u64 G] w fun e w' => e = .returned (.bool true) ∧ Below w.heap.size w w' := by
  have HX := hide hx
  have HK := hide (fun W => known_any W)
  have hmx := hx.max
  clear hx
  by_cases h3 : 300 < n
  · have h3' : (300 : Int) < (n : Int) := by omega
    go_enter Try.func3, Try.ntmps3
    go_wp2_with (go_at_call 4; refine (HK.out _).mono ?_; rintro e w1 ⟨rfl, b1⟩; have B1 := hide b1; clear b1)
    go_ret
    exact ⟨rfl, B1.out⟩
  · have h3' : ¬ (300 : Int) < (n : Int) := by omega
    go_enter Try.func3, Try.ntmps3
    go_wp2_with (first
      | (go_at_call 4; refine (HK.out _).mono ?_; rintro e w1 ⟨rfl, b1⟩; have B1 := hide b1; clear b1)
      | (go_at_call 5; refine (new_fl _).mono ?_; rintro e w2 ⟨l, rfl, f2⟩; have F2 := hide f2; clear f2))
    go_loopw [8, 6, 7] (fun i h m wr => ∃ (k : Nat) (M : List Pg) (t : Int), k ≤ n ∧ i = .int .i64 k ∧ h = .int .i64 (hld G M : Nat) ∧ m = .int .u64 t ∧ 0 ≤ t ∧ t ≤ 18446744073709551615 ∧ (∀ x ∈ M, x.2 ≤ t) ∧ M.length ≤ k ∧ Fl w1 wr l M) (fun i _ _ _ => n - (intOf i).toNat)
    case atStart => exact ⟨0, [], 0, Nat.zero_le _, rfl, rfl, rfl, by omega, by omega, by simp, by simp, F2.out⟩
    case round =>
      obtain ⟨k, M, t, hk, rfl, rfl, rfl, ht0, ht1, hall, hml, hfl⟩ := hrel
      have HFl := hide hfl
      have HAll := hide hall
      have hhl := hld_le G M
      clear hfl hall
      by_cases hlt : k < n
      · obtain ⟨x, b, off, hxk, rfl, hbl, hat, hok⟩ := (HX.out.below B1.out).at hlt
        have HC : Hid (∀ W, Below w1.heap.size w1 W → W.cell? ⟨b, off + k * 3 + 1, none⟩ = some (.int .u32 (x.p : Int)) ∧ W.cell? ⟨b, off + k * 3 + 2, none⟩ = some (.int .u64 x.g)) := fun W hW => ⟨(hW.cell (p := ⟨b, off + k * 3 + 1, none⟩) hbl).trans hat.c1, (hW.cell (p := ⟨b, off + k * 3 + 2, none⟩) hbl).trans hat.c2⟩
        obtain ⟨e1, e2⟩ := HC.out wr HFl.out.bel
        have hp := hok.p
        have hg := hok.g
        have HA := hide (fun W (hW : Same wr W) => add_fl (HFl.out.on hW.below) x.p hp x.g (by omega))
        clear hat hok hxk
        obtain ⟨K, P, g⟩ := x
        simp only [] at e1 e2 hp hg HA HC
        by_cases had : adds M P = true
        · rw [had] at HA
          simp only [if_true] at HA
          clear had
          by_cases hgt : G < g
          · by_cases hbig : t ≤ g
            · have hgd : decide (G < g) = true := decide_eq_true hgt
              have HN : Hid (hld G (((P : Int), g) :: M) = hld G M + 1) := by rw [Hid, hld_cons, if_pos hgt]
              have hbm : max t g = g := by omega
              have HGt := hide hgt
              have HBg := hide hbig
              go_wp2
              go_region_held3 (fun W => W.cell? ⟨b, off + k * 3 + 1, none⟩ = some (.int .u32 (P : Int)) ∧ W.cell? ⟨b, off + k * 3 + 2, none⟩ = some (.int .u64 g)) ((refine ⟨?_, ?_⟩ <;> assumption)) ((first | (go_at_call 6; refine (HA.out _ (Same.refl _).drew).mono ?_; rintro e w3 ⟨rfl, f3⟩; have F3 := hide f3; obtain ⟨q1, q2⟩ := HC.out w3 f3.bel; clear f3)))
              go_wp2
              go_roundw
              case rel => exact ⟨k + 1, ((P : Int), g) :: M, g, by omega, by go_num, by rw [HN.out]; go_num, by go_num, by omega, by omega, fun x hx => by rcases List.mem_cons.1 hx with rfl | hx; exact (show g ≤ g by omega); exact Int.le_trans (HAll.out x hx) (by omega), by simp only [List.length_cons]; omega, F3.out⟩
              case measure => simp [intOf]; omega
            · have hgd : decide (G < g) = true := decide_eq_true hgt
              have HN : Hid (hld G (((P : Int), g) :: M) = hld G M + 1) := by rw [Hid, hld_cons, if_pos hgt]
              have hbm : max t g = t := by omega
              have HGt := hide hgt
              have HBg := hide hbig
              go_wp2
              go_region_held3 (fun W => W.cell? ⟨b, off + k * 3 + 1, none⟩ = some (.int .u32 (P : Int)) ∧ W.cell? ⟨b, off + k * 3 + 2, none⟩ = some (.int .u64 g)) ((refine ⟨?_, ?_⟩ <;> assumption)) ((first | (go_at_call 6; refine (HA.out _ (Same.refl _).drew).mono ?_; rintro e w3 ⟨rfl, f3⟩; have F3 := hide f3; obtain ⟨q1, q2⟩ := HC.out w3 f3.bel; clear f3)))
              go_wp2
              go_roundw
              case rel => exact ⟨k + 1, ((P : Int), g) :: M, t, by omega, by go_num, by rw [HN.out]; go_num, by go_num, by omega, by omega, fun x hx => by rcases List.mem_cons.1 hx with rfl | hx; exact (show g ≤ t by omega); exact Int.le_trans (HAll.out x hx) (by omega), by simp only [List.length_cons]; omega, F3.out⟩
              case measure => simp [intOf]; omega
          · by_cases hbig : t ≤ g
            · have hgd : decide (G < g) = false := decide_eq_false hgt
              have HN : Hid (hld G (((P : Int), g) :: M) = hld G M) := by rw [Hid, hld_cons, if_neg hgt]; rfl
              have hbm : max t g = g := by omega
              have HGt := hide hgt
              have HBg := hide hbig
              go_wp2
              go_region_held3 (fun W => W.cell? ⟨b, off + k * 3 + 1, none⟩ = some (.int .u32 (P : Int)) ∧ W.cell? ⟨b, off + k * 3 + 2, none⟩ = some (.int .u64 g)) ((refine ⟨?_, ?_⟩ <;> assumption)) ((first | (go_at_call 6; refine (HA.out _ (Same.refl _).drew).mono ?_; rintro e w3 ⟨rfl, f3⟩; have F3 := hide f3; obtain ⟨q1, q2⟩ := HC.out w3 f3.bel; clear f3)))
              go_wp2
              go_roundw
              case rel => exact ⟨k + 1, ((P : Int), g) :: M, g, by omega, by go_num, by rw [HN.out], by go_num, by omega, by omega, fun x hx => by rcases List.mem_cons.1 hx with rfl | hx; exact (show g ≤ g by omega); exact Int.le_trans (HAll.out x hx) (by omega), by simp only [List.length_cons]; omega, F3.out⟩
              case measure => simp [intOf]; omega
            · have hgd : decide (G < g) = false := decide_eq_false hgt
              have HN : Hid (hld G (((P : Int), g) :: M) = hld G M) := by rw [Hid, hld_cons, if_neg hgt]; rfl
              have hbm : max t g = t := by omega
              have HGt := hide hgt
              have HBg := hide hbig
              go_wp2
              go_region_held3 (fun W => W.cell? ⟨b, off + k * 3 + 1, none⟩ = some (.int .u32 (P : Int)) ∧ W.cell? ⟨b, off + k * 3 + 2, none⟩ = some (.int .u64 g)) ((refine ⟨?_, ?_⟩ <;> assumption)) ((first | (go_at_call 6; refine (HA.out _ (Same.refl _).drew).mono ?_; rintro e w3 ⟨rfl, f3⟩; have F3 := hide f3; obtain ⟨q1, q2⟩ := HC.out w3 f3.bel; clear f3)))
              go_wp2
              go_roundw
              case rel => exact ⟨k + 1, ((P : Int), g) :: M, t, by omega, by go_num, by rw [HN.out], by go_num, by omega, by omega, fun x hx => by rcases List.mem_cons.1 hx with rfl | hx; exact (show g ≤ t by omega); exact Int.le_trans (HAll.out x hx) (by omega), by simp only [List.length_cons]; omega, F3.out⟩
              case measure => simp [intOf]; omega
        · have had' := bool_false had
          rw [had'] at HA
          simp only [Bool.false_eq_true, if_false] at HA
          clear had had'
          go_wp2
          go_region_held3 (fun W => W.cell? ⟨b, off + k * 3 + 1, none⟩ = some (.int .u32 (P : Int)) ∧ W.cell? ⟨b, off + k * 3 + 2, none⟩ = some (.int .u64 g)) ((refine ⟨?_, ?_⟩ <;> assumption)) ((first | (go_at_call 6; refine (HA.out _ (Same.refl _).drew).mono ?_; rintro e w3 ⟨rfl, f3⟩; have F3 := hide f3; obtain ⟨q1, q2⟩ := HC.out w3 f3.bel; clear f3)))
          go_wp2
          go_roundw
          case rel => exact ⟨k + 1, M, t, by omega, by go_num, rfl, rfl, ht0, ht1, HAll.out, by omega, F3.out⟩
          case measure => simp [intOf]; omega
      · obtain rfl : k = n := by omega
        have HLn := hide (len_fl HFl.out (by omega))
        have hL : ∃ L, L = M.length := ⟨_, rfl⟩
        obtain ⟨L, hL⟩ := hL
        have hh : ∃ h, h = hld G M := ⟨_, rfl⟩
        obtain ⟨h, hh⟩ := hh
        rw [← hL] at HLn hml hhl
        rw [← hh] at hhl ⊢
        have HLL := hide hL
        have HHH := hide hh
        clear hL hh
        go_wp2_with (go_at_call 7; refine HLn.out.mono ?_; rintro e w4 ⟨rfl, f4⟩; have F4 := hide f4; clear f4)
        go_loopw [10] (fun i wr => ∃ (j : Nat) (M' : List Pg), i = .int .i64 j ∧ j + h ≤ L ∧ M'.length + j = L ∧ hld G M' = h ∧ (∀ x ∈ M', x.2 ≤ t) ∧ Fl w1 wr l M') (fun i _ => L - (intOf i).toNat)
        case atStart => exact ⟨0, M, rfl, by omega, by have := HLL.out; omega, HHH.out.symm, HAll.out, F4.out⟩
        case round =>
          obtain ⟨j, M', rfl, hj, hl2, hh2, hall2, hfl2⟩ := hrel
          have HF2 := hide hfl2
          have HA2 := hide hall2
          have HH2 := hide hh2
          clear hfl2 hall2 hh2
          by_cases hlt2 : j + h < L
          · have hc : (j : Int) < (L : Int) - (h : Int) := by omega
            have HT := hide (take_fl_some HF2.out G (hld_lt (by have := HH2.out; omega)) (by omega))
            go_wp2_with (go_at_call 8; refine HT.out.mono ?_; rintro e w5 ⟨x5, M5, rfl, p5, g5, l5, f5⟩; have P5 := hide p5; have G5 := hide g5; have F5 := hide f5; clear p5 g5 l5 f5)
            go_roundw
            case rel =>
              have e1 := P5.out.length_eq
              have e2 := hld_perm (G := G) P5.out
              rw [hld_cons, if_neg (Int.not_lt.2 G5.out)] at e2
              simp only [List.length_cons] at e1
              have := HH2.out
              exact ⟨j + 1, M5, by go_num, by omega, by omega, by omega, fun x hx => HA2.out x (P5.out.mem_iff.2 (List.mem_cons_of_mem _ hx)), F5.out⟩
            case measure => simp [intOf]; omega
          · have hc : ¬ (j : Int) < (L : Int) - (h : Int) := by omega
            have hfin : M'.length = h := by omega
            have HT := hide (take_fl_none HF2.out G (hld_all (by rw [HH2.out, hfin])) (by omega))
            have hcnt : M'.countP (fun x => decide (x.2 ≤ t)) = h := by rw [← hfin]; exact List.countP_eq_length.2 fun x hx => decide_eq_true (HA2.out x hx)
            have HLn2 := hide (fun W (hW : Fl w1 W l M') => len_fl hW (by omega))
            have HMy := hide (fun W (hW : Fl w1 W l M') => may_fl hW (by omega) t)
            rw [hfin] at HLn2
            rw [hcnt] at HMy
            clear hcnt
            have hbq : ((h : Int) == (h : Int)) = true := by simp
            have HFn := hide hfin
            clear hfin
            go_wp2_with (first
              | (go_at_call 8; refine HT.out.mono ?_; rintro e w5 ⟨rfl, f5⟩; have F5 := hide f5; clear f5)
              | (go_at_call 7; refine (HLn2.out _ F5.out).mono ?_; rintro e w6 ⟨rfl, f6⟩; have F6 := hide f6; clear f6)
              | (go_at_call 9; refine (HMy.out _ F6.out).mono ?_; rintro e w7 ⟨rfl, f7⟩; have F7 := hide f7; clear f7))
            go_ret
            exact ⟨rfl, B1.out.trans (F7.out.bel.mono B1.out.size)⟩
end Go.Proofs.Ytoealofdkbomkaa
