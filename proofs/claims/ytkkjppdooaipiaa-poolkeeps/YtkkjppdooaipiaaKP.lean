/- The Go function PoolKeeps answers true for every number and every list of bytes, and leaves them as they were. No condition. -/
import Derived.Test.YtkkjppdooaipiaaPR1
namespace Go.Proofs.Ytkkjppdooaipiaa.Keeps
open Go.RowKit Go.Maps
set_option linter.unusedVariables false

theorem fresh_one {w W : World} {OO : Nat → Prop} {a : Option Addr} {n cap : Nat} {x : Int} (h : Fresh w W OO (.slice a n cap) [x]) : ∃ b off, a = some ⟨b, off, none⟩ ∧ n = 1 ∧ 1 ≤ cap ∧ W.cell? ⟨b, off, none⟩ = some (.int .u8 x) := by
  obtain ⟨a', c', e, h1, h2, h3, h4, _⟩ := h.1.shape
  cases e
  rcases h4 with h4 | ⟨b, off, rfl, hlt, hc⟩
  · cases h4
  · exact ⟨b, off, rfl, rfl, h1, by have := hc 0 (by simp); simpa using this⟩
theorem Fd_base {w w1 w2 : World} {O : Nat → Prop} (hb : Below w.heap.size w w1) (hf : Fd w1.heap.size w1 w2 O) : Fd w.heap.size w w2 O :=
  ⟨hb.trans (hf.below.mono hb.size), Nat.le_trans hb.size hf.size, fun k hk => Nat.le_trans hb.size (hf.own k hk)⟩
theorem pcounts_at {w : World} {p d q most : Nat} {S : DS} {A : List Pge} {OO : Nat → Prop} (N : Int) (hN : S.n1 = N) (h : Pl w p d q S most A OO) : Calls Try.prog 16 #[.pointer (some ⟨d, 0, none⟩)] w fun ed w' => ∃ b c, ed = .returned (.agg #[.int .i64 N, .int .i64 b, .int .i64 c]) ∧ Below w.heap.size w w' := by
  subst hN
  refine (pcounts h).mono ?_
  rintro ed w' ⟨rfl, hb⟩
  exact ⟨_, _, rfl, hb⟩
theorem range_snoc {s j : Nat} (h : s ≤ j) : List.range' s (j + 1 - s) = List.range' s (j - s) ++ [j] := by
  rw [show j + 1 - s = j - s + 1 by omega, List.range'_1_concat]
  congr 2
  omega
theorem row_cell {w : World} {a : Option Addr} {zs : List Int} (h : Row w a zs) {k : Nat} (hk : k < zs.length) : ∃ b off, a = some ⟨b, off, none⟩ ∧ w.cell? ⟨b, off + k, none⟩ = some (.int .u8 (zs.getD k 0)) := by
  rcases h with h | ⟨b, off, rfl, hlt, hc⟩
  · rw [h] at hk; simp at hk
  · exact ⟨b, off, rfl, hc k hk⟩
/-- the row at a place. -/
theorem us_cell {w : World} {u : Value} {us : List Nat} {ua : Option Addr} {n uc : Nat} (h : OwnU w u us) (hu : u = .slice ua n uc) {k y : Nat} (hy : us[k]? = some y) : ∃ g, ua = some ⟨g, 0, none⟩ ∧ w.cell? ⟨g, k, none⟩ = some (.int .u32 (y : Int)) := by
  obtain ⟨a, c, e, hc⟩ := h.shape
  rw [hu] at e
  cases e
  exact hc k y hy
set_option maxHeartbeats 12800000 in
set_option maxRecDepth 1000000 in
theorem walk (mo : Nat) (hmo : mo ≤ 255) (a : Option Addr) (n c : Nat) (zs : List Int) (w : World) (hl : zs.length = n) (hn9 : n ≤ 9223372036854775807) (hr : Row w a zs) (h8 : Byts zs) :
    Calls Try.prog 4 #[.int .u8 (mo : Int), .slice a n c] w fun e w' => e = .returned (.bool true) ∧ Below w.heap.size w w' := by
  have HRw := hide hr
  have H8 := hide h8
  have HLl := hide hl
  have hfc := fieldC
  obtain ⟨i0, hi, hz0, hz1, hz2⟩ := info_parts Try.info33
  clear hr h8 hl
  by_cases h200 : n ≤ 200
  · have d1 : ¬ (200 : Int) < (n : Int) := by omega
    obtain ⟨most, hmost⟩ : ∃ m, m = mo % 6 + 1 := ⟨_, rfl⟩
    have hm1 : 1 ≤ most := by omega
    have hm6 : most ≤ 6 := by omega
    have hmi : (mo : Int) % 6 + 1 = (most : Int) := by omega
    clear hmost
    go_enter Try.func4, Try.ntmps4
    go_wp2_with (go_at_call 6; refine (known_any _).mono ?_; rintro e w1 ⟨rfl, hb1⟩; have HB1 := hide hb1; clear hb1)
    refine (new_at 12 12 w1 rfl (by omega) (by omega)).mono ?_
    rintro ed w2 ⟨O, d, q, rfl, hd, hf⟩
    have HF2 := hide (Fd_base HB1.out hf)
    have HD2 := hide hd
    clear hd hf hmi
    go_wp2_with fail
    refine (pnew_any most (most : Int) rfl w2 HD2.out hm1 (by omega)).mono ?_
    rintro ed w3 ⟨p, OO3, rfl, hp3, hg3⟩
    have HF3 := hide (HF2.out.go hg3)
    have HP3 : Hid (Pl w3 p d q (Si 0) most (Ai most 0) OO3) := hp3
    clear hp3 hg3
    go_wp2_with fail
    go_loopw [10] (fun i wr => ∃ (k : Nat) (OO : Nat → Prop), k ≤ 12 ∧ i = .int .i64 (k : Int) ∧ Pl wr p d q (Si k) most (Ai most k) OO ∧ Fd w.heap.size w wr OO) (fun i _ => 12 - (intOf i).toNat)
    case atStart => exact ⟨0, OO3, by omega, rfl, HP3.out, HF3.out⟩
    case round =>
      obtain ⟨k, OO, hk, rfl, hp, hf⟩ := hrel
      have HP := hide hp
      have HF := hide hf
      clear hp hf
      by_cases hlt : k < 12
      · go_wp2_with fail
        refine (kwrite k (k : Int) rfl (k : Int) (by omega) _ HP.out (Si_calm k) (by omega) (by omega) hlt).mono ?_
        rintro ed w4 ⟨rfl, OO4, hp4, hg4⟩
        have HP4 : Hid (Pl w4 p d q (Si (k + 1)) most (Ai most (k + 1)) OO4) := hp4
        have HF4 := hide (HF.out.go hg4)
        clear hp4 hg4
        go_wp2
        go_roundw
        case rel => exact ⟨k + 1, OO4, by omega, by go_num, HP4.out, HF4.out⟩
        case measure => simp [intOf]; omega
      · have HK12 : Hid (k = 12) := by rw [Hid]; omega
        have HP12 : Hid (Pl wr p d q (Si 12) most (Ai most 12) OO) := by have := HP.out; rwa [HK12.out] at this
        have HK0 : Hid (Ks w.heap.size w wr p d q (Si 12) most (Ai most 12) OO (.slice none 0 0) (List.range' (12 - most) (12 - most - (12 - most)))) := by
          rw [Hid, Nat.sub_self]
          exact ⟨HP12.out, OwnU.nil _, fun k hk => by simp [Value.ownBlock] at hk, fun k hk => by simp [Value.ownBlock] at hk, HF.out⟩
        have hsub : IntKind.i64.wrap (12 - (most : Int)) = 12 - (most : Int) := by rw [IntKind.wrap_i64] <;> omega
        go_wp2
        go_loopw [11, 12] (fun u i wr => ∃ (j : Nat) (OO : Nat → Prop), 12 - most ≤ j ∧ j ≤ 12 ∧ i = .int .i64 (j : Int) ∧ Ks w.heap.size w wr p d q (Si 12) most (Ai most 12) OO u (List.range' (12 - most) (j - (12 - most)))) (fun _ i _ => 12 - (intOf i).toNat)
        case atStart => exact ⟨12 - most, OO, by omega, by omega, by congr 1; omega, HK0.out⟩
        case round =>
          obtain ⟨j, OO1, hj1, hj2, rfl, hks⟩ := hrel
          have HK := hide hks
          clear hks
          by_cases hlt : j < 12
          · have HK3 := hide (HK.out.on (below_alloc wr (.cells #[.int .u32 (j : Int)] 33)))
            have HO3 : Hid ((wr.alloc (.cells #[.int .u32 (j : Int)] 33)).ownsRow 0 33 1 u11 (List.range' (12 - most) (j - (12 - most))).length (uv (List.range' (12 - most) (j - (12 - most))))) := HK3.out.us
            obtain ⟨hNc, hOne⟩ := one_new wr (j : Int)
            have HNc := hide hNc
            have HOne := hide hOne
            have HB1' : Hid ((List.range' (12 - most) (j - (12 - most))).length + 1 ≤ maxLen) := by rw [Hid, List.length_range']; unfold maxLen; omega
            have HB2' : Hid (((List.range' (12 - most) (j - (12 - most))).length + 1) * 4 ≤ 140737488355328) := by rw [Hid, List.length_range']; omega
            have HRs := hide (range_snoc hj1)
            clear hNc hOne
            go_wp2_with (at_builtin; refine wpList_append_at (by rfl) (.tmp 76) (.tmp 79) 46 33 (by rfl) 0 i0 (.int .u32 0) 1 4 Try.underlying46 hi hz0 hz1 hz2 rfl (by omega) u11 _ _ (by rfl) HO3.out ⟨wr.heap.size, 0, none⟩ 1 1 [.int .u32 (j : Int)] (by rfl) rfl HNc.out HOne.out HB1'.out HB2'.out (Nat.zero_le _) ?_; intro v' w4 ho4 hg4 hl4; have HO4 := hide ho4; have HG4 := hide hg4; have HL4 := hide hl4; clear ho4 hg4 hl4)
            go_roundw
            case rel => exact ⟨j + 1, OO1, by omega, by omega, by go_num, by rw [HRs.out]; exact HK3.out.grown HG4.out (OwnU.snoc HO4.out) HL4.out⟩
            case measure => simp [intOf]; omega
          · have HJ12 : Hid (j = 12) := by rw [Hid]; omega
            have HK1 : Hid (Ks w.heap.size w wr p d q (Si 12) most (Ai most 12) OO1 u11 (List.range' (12 - most) most)) := by
              have := HK.out
              rwa [HJ12.out, show 12 - (12 - most) = most by omega] at this
            clear HK
            go_wp2
            go_loopw [11, 13] (fun u i wr => ∃ (k : Nat) (S : DS) (A : List Pge) (us : List Nat) (OO : Nat → Prop), k ≤ n ∧ i = .int .i64 (k : Int) ∧ Ks w.heap.size w wr p d q S most A OO u us ∧ Kp S A us most (12 + k)) (fun _ i _ => n - (intOf i).toNat)
            case atStart => exact ⟨0, _, _, _, _, Nat.zero_le _, rfl, HK1.out, Kp.start most hm1 hm6⟩
            case round =>
              obtain ⟨k, S, A, us, OO, hk, rfl, hks, hkp⟩ := hrel
              have HK := hide hks
              have HKp := hide hkp
              clear hks hkp
              by_cases hlt : k < n
              · obtain ⟨b, off, rfl, hcz⟩ := row_cell (HRw.out.below HK.out.fd.below) (show k < zs.length by rw [HLl.out]; exact hlt)
                obtain ⟨z0, z1⟩ := H8.out.at k
                generalize zs.getD k 0 = z at hcz z0 z1
                obtain ⟨x, hx12, hzx⟩ : ∃ x : Nat, x < 12 ∧ z % 12 = (x : Int) := ⟨(z % 12).toNat, by omega, by omega⟩
                obtain ⟨ua, uc, hua, -⟩ := HK.out.us.shape
                rw [HKp.out.len] at hua
                subst hua
                go_wp2
                clear hcz
                go_loop [15, 16] (fun at' k' => ∃ j : Nat, j ≤ most ∧ k' = .int .i64 (j : Int) ∧ ((at' = .int .i64 (-1) ∧ x ∉ us.take j) ∨ ∃ i : Nat, i < j ∧ at' = .int .i64 (i : Int) ∧ us[i]? = some x)) (fun _ k' => most - (intOf k').toNat)
                case atStart => exact ⟨0, Nat.zero_le _, rfl, .inl ⟨rfl, by simp⟩⟩
                case round =>
                  obtain ⟨j, hj, rfl, hat⟩ := hrel
                  have HAt := hide hat
                  clear hat
                  by_cases hjl : j < most
                  · obtain ⟨y, hy⟩ : ∃ y, us[j]? = some y := ⟨_, List.getElem?_eq_getElem (by rw [HKp.out.len]; exact hjl)⟩
                    obtain ⟨g, rfl, hcy⟩ := us_cell HK.out.us rfl hy
                    have hy12 := HKp.out.lt y (List.mem_of_getElem? hy)
                    have HY := hide hy
                    clear hy
                    by_cases hyx : y = x
                    · have e1 : ((y : Int) == (x : Int)) = true := by simp [hyx]
                      have HYX := hide hyx
                      clear hyx
                      go_wp2
                      go_round
                      case rel => exact ⟨j + 1, by omega, by go_num, .inr ⟨j, by omega, rfl, by rw [← HYX.out]; exact HY.out⟩⟩
                      case measure => simp [intOf]; omega
                    · have e0 : ¬ (y : Int) = (x : Int) := by omega
                      have e1 : ((y : Int) == (x : Int)) = false := by simpa using e0
                      have HYX := hide hyx
                      clear hyx
                      go_wp2
                      go_round
                      case rel =>
                        refine ⟨j + 1, by omega, by go_num, ?_⟩
                        rcases HAt.out with ⟨h1, h2⟩ | ⟨i, h1, h2, h3⟩
                        · refine .inl ⟨h1, ?_⟩
                          rw [take_at' HY.out]
                          simp only [List.mem_append, List.mem_singleton, not_or]
                          exact ⟨h2, fun e => HYX.out e.symm⟩
                        · exact .inr ⟨i, by omega, h2, h3⟩
                      case measure => simp [intOf]; omega
                  · have HJM : Hid (j = most) := by rw [Hid]; omega
                    rcases HAt.out with ⟨rfl, h2⟩ | ⟨i, h1, rfl, h3⟩
                    · rw [HJM.out, List.take_of_length_le (by rw [HKp.out.len]; exact Nat.le_refl _)] at h2
                      have HX := hide h2
                      clear h2 HAt
                      go_wp2_with fail
                      obtain ⟨N, HN⟩ : ∃ N, Hid (N = S.n1) := ⟨_, rfl⟩
                      refine (pcounts_at N HN.out.symm HK.out.pl).mono ?_
                      rintro ed w5 ⟨cb, cd, rfl, hb5⟩
                      have HK5 := hide (HK.out.on hb5)
                      clear hb5
                      go_wp2_with fail
                      refine (cread_disk x 1 (x : Int) rfl [(x : Int)] (HKp.out.not HX.out) HK5.out.pl HKp.out.calm (by omega) (by omega) hx12 (HKp.out.opn hx12)).mono ?_
                      rintro ed w6 ⟨v6, OO6, rfl, hf6, hp6, hg6⟩
                      obtain ⟨S6, A6, us6, HKp6, HK6, HN6, HNs⟩ : ∃ S6 A6 us6, Hid (Kp S6 A6 us6 most (12 + (k + 1))) ∧ Hid (Ks w.heap.size w w6 p d q S6 most A6 OO6 (.slice ua most uc) us) ∧ Hid (S6.n1 = N + 1) ∧ Hid (us6 = nx us x most ++ [x]) :=
                        ⟨_, _, _, hide ((HKp.out.disk hm1 HX.out hx12).mono (by omega)), hide (HK5.out.go hp6 hg6), by rw [Hid, HN.out]; rfl, by rw [Hid, ← HKp.out.len, nx_all, if_neg HX.out]⟩
                      obtain ⟨M, HM6, eM⟩ : ∃ M, Hid (S6.n1 = M) ∧ M = N + 1 := ⟨N + 1, HN6, rfl⟩
                      have e1 : ¬ M = N := by omega
                      have e2 : (M == N) = false := by simpa using e1
                      clear eM
                      obtain ⟨a6, n6, c6, rfl, -⟩ := hf6.1.shape2
                      obtain ⟨b6, o6, rfl, rfl, hc6, hcell6⟩ := fresh_one (x := (x : Int)) hf6
                      clear hf6 hp6 hg6
                      go_wp2_with fail
                      refine (pcounts_at M HM6.out HK6.out.pl).mono ?_
                      rintro ed w7 ⟨cb7, cd7, rfl, hb7⟩
                      have HK7 := hide (HK6.out.on hb7)
                      clear hb7 hcell6
                      go_wp2
                      go_loopw [21, 22] (fun nv k' wr => ∃ j : Nat, j ≤ most ∧ k' = .int .i64 (j : Int) ∧ K2 w.heap.size w wr p d q S6 most A6 OO6 (.slice ua most uc) us nv (nx us x j)) (fun _ k' _ => most - (intOf k').toNat)
                      case atStart => exact ⟨0, Nat.zero_le _, rfl, by rw [nx_zero]; exact K2.start HK7.out⟩
                      case round =>
                        obtain ⟨j, hj, rfl, hk2⟩ := hrel
                        have HK2 := hide hk2
                        clear hk2
                        by_cases hjl : j < most
                        · obtain ⟨y, hy⟩ : ∃ y, us[j]? = some y := ⟨_, List.getElem?_eq_getElem (by rw [HKp.out.len]; exact hjl)⟩
                          obtain ⟨g, rfl, hcy⟩ := us_cell HK2.out.ks.us rfl hy
                          have hy12 := HKp.out.lt y (List.mem_of_getElem? hy)
                          have HY := hide hy
                          have HK3 := hide (HK2.out.on (below_alloc wr (.cells #[.int .u32 (y : Int)] 33)))
                          have HO3 : Hid ((wr.alloc (.cells #[.int .u32 (y : Int)] 33)).ownsRow 0 33 1 u21 (nx us x j).length (uv (nx us x j))) := HK3.out.ns
                          obtain ⟨hNc, hOne⟩ := one_new wr (y : Int)
                          have HNc := hide hNc
                          have HOne := hide hOne
                          have HB1' : Hid ((nx us x j).length + 1 ≤ maxLen) := by have := nx_len us x j; rw [Hid]; unfold maxLen; omega
                          have HB2' : Hid (((nx us x j).length + 1) * 4 ≤ 140737488355328) := by have := nx_len us x j; rw [Hid]; omega
                          clear hy hNc hOne
                          by_cases hji : j = 0
                          · subst hji
                            have HNx := hide (nx_first HX.out)
                            go_wp2
                            go_roundw
                            case rel => exact ⟨0 + 1, by omega, by go_num, by rw [HNx.out]; exact HK2.out⟩
                            case measure => simp [intOf]; omega
                          · have HNx := hide (nx_keep_out HX.out (by omega) HY.out)
                            have f2 : (0 : Int) < (j : Int) := by omega
                            have f3 : 0 < j := by omega
                            have f4 : decide (0 < j) = true := by simpa using f3
                            go_wp2_with (at_builtin; refine wpList_append_at (by rfl) (.tmp 158) (.tmp 163) 46 33 (by rfl) 0 i0 (.int .u32 0) 1 4 Try.underlying46 hi hz0 hz1 hz2 rfl (by omega) u21 _ _ (by rfl) HO3.out ⟨wr.heap.size, 0, none⟩ 1 1 [.int .u32 (y : Int)] (by rfl) rfl HNc.out HOne.out HB1'.out HB2'.out (Nat.zero_le _) ?_; intro v' w8 ho8 hg8 hl8; have HO8 := hide ho8; have HG8 := hide hg8; have HL8 := hide hl8; clear ho8 hg8 hl8)
                            go_roundw
                            case rel => exact ⟨j + 1, by omega, by go_num, by rw [HNx.out]; exact HK3.out.grown HG8.out (OwnU.snoc HO8.out) HL8.out⟩
                            case measure => simp [intOf]; omega
                        · have HJ2 : Hid (j = most) := by rw [Hid]; omega
                          rw [HJ2.out] at HK2
                          have HK3 := hide (HK2.out.swap.on (below_alloc wr (.cells #[.int .u32 (x : Int)] 33)))
                          have HO3 : Hid ((wr.alloc (.cells #[.int .u32 (x : Int)] 33)).ownsRow 0 33 1 u21 (nx us x most).length (uv (nx us x most))) := HK3.out.us
                          obtain ⟨hNc, hOne⟩ := one_new wr (x : Int)
                          have HNc := hide hNc
                          have HOne := hide hOne
                          have HB1' : Hid ((nx us x most).length + 1 ≤ maxLen) := by have := nx_len us x most; rw [Hid]; unfold maxLen; omega
                          have HB2' : Hid (((nx us x most).length + 1) * 4 ≤ 140737488355328) := by have := nx_len us x most; rw [Hid]; omega
                          clear hNc hOne
                          go_wp2_with (at_builtin; refine wpList_append_at (by rfl) (.tmp 165) (.tmp 167) 46 33 (by rfl) 0 i0 (.int .u32 0) 1 4 Try.underlying46 hi hz0 hz1 hz2 rfl (by omega) u21 _ _ (by rfl) HO3.out ⟨wr.heap.size, 0, none⟩ 1 1 [.int .u32 (x : Int)] (by rfl) rfl HNc.out HOne.out HB1'.out HB2'.out (Nat.zero_le _) ?_; intro v' w9 ho9 hg9 hl9; have HK9 : Hid (Ks w.heap.size w w9 p d q S6 most A6 OO6 v' us6) := (by rw [Hid, HNs.out]; exact HK3.out.grown hg9 (OwnU.snoc ho9) hl9); clear ho9 hg9 hl9; obtain ⟨va, vc, hva, -⟩ := HK9.out.us.shape; rw [HKp6.out.len] at hva; subst hva)
                          refine (plen_at most (most : Int) rfl HK9.out.pl (by rw [HKp6.out.all, List.length_map]; exact HKp6.out.len)).mono ?_
                          rintro ed w10 ⟨rfl, hb10⟩
                          have HK10 := hide (HK9.out.on hb10)
                          clear hb10
                          go_wp2
                          go_loopw [23] (fun i' wr => ∃ l : Nat, l ≤ most ∧ i' = .int .i64 (l : Int) ∧ Ks w.heap.size w wr p d q S6 most A6 OO6 (.slice va most vc) us6) (fun i' _ => most - (intOf i').toNat)
                          case atStart => exact ⟨0, Nat.zero_le _, rfl, HK10.out⟩
                          case round =>
                            obtain ⟨l, hl, rfl, hkl⟩ := hrel
                            have HKl := hide hkl
                            clear hkl
                            by_cases hlj : l < most
                            · obtain ⟨y, hy⟩ : ∃ y, us6[l]? = some y := ⟨_, List.getElem?_eq_getElem (by rw [HKp6.out.len]; exact hlj)⟩
                              obtain ⟨g, rfl, hcy⟩ := us_cell HKl.out.us rfl hy
                              have hy12 := HKp6.out.lt y (List.mem_of_getElem? hy)
                              have HHas := hide (phas_at y (y : Int) rfl (by omega) HKl.out.pl true (by rw [HKp6.out.all, mk_n]; exact decide_eq_true (List.mem_of_getElem? hy)))
                              clear hy
                              go_wp2_with fail
                              refine HHas.out.mono ?_
                              rintro ed w11 ⟨rfl, hb11⟩
                              have HK11 := hide (HKl.out.on hb11)
                              clear hb11
                              go_wp2
                              go_roundw
                              case rel => exact ⟨l + 1, by omega, by go_num, HK11.out⟩
                              case measure => simp [intOf]; omega
                            · have hlm : l = most := by omega
                              clear hlm
                              go_wp2
                              go_roundw
                              case rel => exact ⟨k + 1, _, _, _, _, by omega, by go_num, HKl.out, HKp6.out⟩
                              case measure => simp [intOf]; omega
                    · have HX : Hid (x ∈ us) := List.mem_of_getElem? h3
                      have HI := hide h3
                      clear h3 HAt
                      go_wp2_with fail
                      obtain ⟨N, HN⟩ : ∃ N, Hid (N = S.n1) := ⟨_, rfl⟩
                      refine (pcounts_at N HN.out.symm HK.out.pl).mono ?_
                      rintro ed w5 ⟨cb, cd, rfl, hb5⟩
                      have HK5 := hide (HK.out.on hb5)
                      clear hb5
                      go_wp2_with fail
                      refine (cread_hand x (x : Int) rfl (mkp x) (HKp.out.there HX.out) rfl HK5.out.pl HKp.out.calm hx12).mono ?_
                      rintro ed w6 ⟨v6, OO6, rfl, hf6, hp6, hg6⟩
                      obtain ⟨S6, A6, us6, HKp6, HK6, HN6, HNs⟩ : ∃ S6 A6 us6, Hid (Kp S6 A6 us6 most (12 + (k + 1))) ∧ Hid (Ks w.heap.size w w6 p d q S6 most A6 OO6 (.slice ua most uc) us) ∧ Hid (S6.n1 = N) ∧ Hid (us6 = nx us x most ++ [x]) :=
                        ⟨_, _, _, hide ((HKp.out.hand HX.out).mono (by omega)), hide (HK5.out.go hp6 hg6), hide HN.out.symm, by rw [Hid, ← HKp.out.len, nx_all, if_pos HX.out]⟩
                      obtain ⟨M, HM6, eM⟩ : ∃ M, Hid (S6.n1 = M) ∧ M = N := ⟨N, HN6, rfl⟩
                      subst eM
                      obtain ⟨a6, n6, c6, rfl, -⟩ := hf6.1.shape2
                      obtain ⟨b6, o6, rfl, rfl, hc6, hcell6⟩ := fresh_one (x := (x : Int)) hf6
                      clear hf6 hp6 hg6
                      go_wp2_with fail
                      refine (pcounts_at M HM6.out HK6.out.pl).mono ?_
                      rintro ed w7 ⟨cb7, cd7, rfl, hb7⟩
                      have HK7 := hide (HK6.out.on hb7)
                      clear hb7 hcell6
                      go_wp2
                      go_loopw [21, 22] (fun nv k' wr => ∃ j : Nat, j ≤ most ∧ k' = .int .i64 (j : Int) ∧ K2 w.heap.size w wr p d q S6 most A6 OO6 (.slice ua most uc) us nv (nx us x j)) (fun _ k' _ => most - (intOf k').toNat)
                      case atStart => exact ⟨0, Nat.zero_le _, rfl, by rw [nx_zero]; exact K2.start HK7.out⟩
                      case round =>
                        obtain ⟨j, hj, rfl, hk2⟩ := hrel
                        have HK2 := hide hk2
                        clear hk2
                        by_cases hjl : j < most
                        · obtain ⟨y, hy⟩ : ∃ y, us[j]? = some y := ⟨_, List.getElem?_eq_getElem (by rw [HKp.out.len]; exact hjl)⟩
                          obtain ⟨g, rfl, hcy⟩ := us_cell HK2.out.ks.us rfl hy
                          have hy12 := HKp.out.lt y (List.mem_of_getElem? hy)
                          have HY := hide hy
                          have HK3 := hide (HK2.out.on (below_alloc wr (.cells #[.int .u32 (y : Int)] 33)))
                          have HO3 : Hid ((wr.alloc (.cells #[.int .u32 (y : Int)] 33)).ownsRow 0 33 1 u21 (nx us x j).length (uv (nx us x j))) := HK3.out.ns
                          obtain ⟨hNc, hOne⟩ := one_new wr (y : Int)
                          have HNc := hide hNc
                          have HOne := hide hOne
                          have HB1' : Hid ((nx us x j).length + 1 ≤ maxLen) := by have := nx_len us x j; rw [Hid]; unfold maxLen; omega
                          have HB2' : Hid (((nx us x j).length + 1) * 4 ≤ 140737488355328) := by have := nx_len us x j; rw [Hid]; omega
                          clear hy hNc hOne
                          by_cases hji : j = i
                          · subst hji
                            have HNx := hide (nx_skip_in HX.out HI.out)
                            go_wp2
                            go_roundw
                            case rel => exact ⟨j + 1, by omega, by go_num, by rw [HNx.out]; exact HK2.out⟩
                            case measure => simp [intOf]; omega
                          · have HNx := hide (nx_keep_in HX.out HY.out (fun e => hji (nodup_at HKp.out.nd (e ▸ HY.out) HI.out)))
                            have f0 : ¬ (j : Int) = (i : Int) := by omega
                            have f1 : ((j : Int) == (i : Int)) = false := by simpa using f0
                            go_wp2_with (at_builtin; refine wpList_append_at (by rfl) (.tmp 158) (.tmp 163) 46 33 (by rfl) 0 i0 (.int .u32 0) 1 4 Try.underlying46 hi hz0 hz1 hz2 rfl (by omega) u21 _ _ (by rfl) HO3.out ⟨wr.heap.size, 0, none⟩ 1 1 [.int .u32 (y : Int)] (by rfl) rfl HNc.out HOne.out HB1'.out HB2'.out (Nat.zero_le _) ?_; intro v' w8 ho8 hg8 hl8; have HO8 := hide ho8; have HG8 := hide hg8; have HL8 := hide hl8; clear ho8 hg8 hl8)
                            go_roundw
                            case rel => exact ⟨j + 1, by omega, by go_num, by rw [HNx.out]; exact HK3.out.grown HG8.out (OwnU.snoc HO8.out) HL8.out⟩
                            case measure => simp [intOf]; omega
                        · have HJ2 : Hid (j = most) := by rw [Hid]; omega
                          rw [HJ2.out] at HK2
                          have HK3 := hide (HK2.out.swap.on (below_alloc wr (.cells #[.int .u32 (x : Int)] 33)))
                          have HO3 : Hid ((wr.alloc (.cells #[.int .u32 (x : Int)] 33)).ownsRow 0 33 1 u21 (nx us x most).length (uv (nx us x most))) := HK3.out.us
                          obtain ⟨hNc, hOne⟩ := one_new wr (x : Int)
                          have HNc := hide hNc
                          have HOne := hide hOne
                          have HB1' : Hid ((nx us x most).length + 1 ≤ maxLen) := by have := nx_len us x most; rw [Hid]; unfold maxLen; omega
                          have HB2' : Hid (((nx us x most).length + 1) * 4 ≤ 140737488355328) := by have := nx_len us x most; rw [Hid]; omega
                          clear hNc hOne
                          go_wp2_with (at_builtin; refine wpList_append_at (by rfl) (.tmp 165) (.tmp 167) 46 33 (by rfl) 0 i0 (.int .u32 0) 1 4 Try.underlying46 hi hz0 hz1 hz2 rfl (by omega) u21 _ _ (by rfl) HO3.out ⟨wr.heap.size, 0, none⟩ 1 1 [.int .u32 (x : Int)] (by rfl) rfl HNc.out HOne.out HB1'.out HB2'.out (Nat.zero_le _) ?_; intro v' w9 ho9 hg9 hl9; have HK9 : Hid (Ks w.heap.size w w9 p d q S6 most A6 OO6 v' us6) := (by rw [Hid, HNs.out]; exact HK3.out.grown hg9 (OwnU.snoc ho9) hl9); clear ho9 hg9 hl9; obtain ⟨va, vc, hva, -⟩ := HK9.out.us.shape; rw [HKp6.out.len] at hva; subst hva)
                          refine (plen_at most (most : Int) rfl HK9.out.pl (by rw [HKp6.out.all, List.length_map]; exact HKp6.out.len)).mono ?_
                          rintro ed w10 ⟨rfl, hb10⟩
                          have HK10 := hide (HK9.out.on hb10)
                          clear hb10
                          go_wp2
                          go_loopw [23] (fun i' wr => ∃ l : Nat, l ≤ most ∧ i' = .int .i64 (l : Int) ∧ Ks w.heap.size w wr p d q S6 most A6 OO6 (.slice va most vc) us6) (fun i' _ => most - (intOf i').toNat)
                          case atStart => exact ⟨0, Nat.zero_le _, rfl, HK10.out⟩
                          case round =>
                            obtain ⟨l, hl, rfl, hkl⟩ := hrel
                            have HKl := hide hkl
                            clear hkl
                            by_cases hlj : l < most
                            · obtain ⟨y, hy⟩ : ∃ y, us6[l]? = some y := ⟨_, List.getElem?_eq_getElem (by rw [HKp6.out.len]; exact hlj)⟩
                              obtain ⟨g, rfl, hcy⟩ := us_cell HKl.out.us rfl hy
                              have hy12 := HKp6.out.lt y (List.mem_of_getElem? hy)
                              have HHas := hide (phas_at y (y : Int) rfl (by omega) HKl.out.pl true (by rw [HKp6.out.all, mk_n]; exact decide_eq_true (List.mem_of_getElem? hy)))
                              clear hy
                              go_wp2_with fail
                              refine HHas.out.mono ?_
                              rintro ed w11 ⟨rfl, hb11⟩
                              have HK11 := hide (HKl.out.on hb11)
                              clear hb11
                              go_wp2
                              go_roundw
                              case rel => exact ⟨l + 1, by omega, by go_num, HK11.out⟩
                              case measure => simp [intOf]; omega
                            · have hlm : l = most := by omega
                              clear hlm
                              go_wp2
                              go_roundw
                              case rel => exact ⟨k + 1, _, _, _, _, by omega, by go_num, HKl.out, HKp6.out⟩
                              case measure => simp [intOf]; omega
              · obtain rfl : k = n := by omega
                go_wp2
                go_ret
                exact ⟨rfl, HK.out.fd.below⟩
  · have d1 : (200 : Int) < (n : Int) := by omega
    go_enter Try.func4, Try.ntmps4
    go_wp2_with (go_at_call 6; refine (known_any _).mono ?_; rintro e w1 ⟨rfl, hb1⟩; have HB1 := hide hb1; clear hb1)
    go_ret
    exact ⟨rfl, HB1.out⟩
end Go.Proofs.Ytkkjppdooaipiaa.Keeps
