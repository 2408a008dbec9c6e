/- A disk's pages as they are told: what a write, a sync and a cut make of them. -/
import Derived.Test.YtlmofgfkclfgeaaGreatDT
import Derived.Test.YtlmofgfkclfgeaaGreatPE
import Derived.Defers
import Derived.Recover
namespace Go.Proofs.YtlmofgfkclfgeaaGreat
open Go.RowKit Go.Maps
set_option linter.unusedVariables false

theorem newest_same {S S' : DS} (h1 : S'.ls = S.ls) (h2 : S'.ws = S.ws) (n : Nat) : newest S' n = newest S n := by unfold newest; rw [h1, h2]
theorem newest_add (S : DS) (n : Nat) (ys : List Int) (m : Nat) : newest (S.add n ys) m = if n = m then ys else newest S m := by
  unfold newest DS.add
  simp only
  rw [lastAt_snoc]
  by_cases h : n = m
  · simp [h]
  · simp only [h, if_false]
    cases hl : lastAt S.ws m with
    | none => rfl
    | some i =>
      have := (lastAt_some hl).1
      simp [List.getD_eq_getElem?_getD, List.getElem?_append_left this]
theorem newest_adds (S : DS) (b : Nat) (zs : List Int) : ∀ k n, newest (S.adds b zs k) n = if b ≤ n ∧ n < b + k then sec zs (n - b) else newest S n
  | 0, n => by rw [DS.adds_zero, if_neg (by omega)]
  | k + 1, n => by
    rw [DS.adds_succ, newest_add, newest_adds S b zs k n]
    by_cases h : b + k = n
    · subst h
      rw [if_pos rfl, if_pos (by omega), Nat.add_sub_cancel_left]
    · rw [if_neg h]
      by_cases h2 : b ≤ n ∧ n < b + k
      · rw [if_pos h2, if_pos (by omega)]
      · rw [if_neg h2, if_neg (by omega)]
theorem rd_congr {S S' : DS} (b k : Nat) (h : ∀ i, i < k → newest S' (b + i) = newest S (b + i)) : rd S' b k = rd S b k := by
  unfold rd
  congr 1
  apply List.map_congr_left
  intro i hi
  exact h i (List.mem_range.1 hi)
theorem secs (zs : List Int) : ∀ k, ((List.range k).map (sec zs)).flatten = zs.take (k * 128)
  | 0 => by simp
  | k + 1 => by
    rw [List.range_succ, List.map_append, List.flatten_append, secs zs k]
    simp only [List.map_cons, List.map_nil, List.flatten_cons, List.flatten_nil, List.append_nil]
    rw [Nat.add_mul, Nat.one_mul, List.take_add]
    rfl
theorem rd_adds_same (S : DS) (pg : Nat) (zs : List Int) (h : zs.length = 1024) : rd (S.adds (8 * pg) zs 8) (8 * pg) 8 = zs := by
  have e : rd (S.adds (8 * pg) zs 8) (8 * pg) 8 = ((List.range 8).map (sec zs)).flatten := by
    unfold rd
    congr 1
    apply List.map_congr_left
    intro i hi
    have hi := List.mem_range.1 hi
    rw [newest_adds, if_pos (by omega), Nat.add_sub_cancel_left]
  rw [e, secs, List.take_of_length_le (by omega)]
theorem rd_adds_other (S : DS) (pg pg' : Nat) (zs : List Int) (h : pg ≠ pg') : rd (S.adds (8 * pg) zs 8) (8 * pg') 8 = rd S (8 * pg') 8 :=
  rd_congr _ _ fun i hi => by rw [newest_adds, if_neg (by omega)]
theorem rd_same {S S' : DS} (h1 : S'.ls = S.ls) (h2 : S'.ws = S.ws) (b k : Nat) : rd S' b k = rd S b k := rd_congr _ _ fun i _ => newest_same h1 h2 _
theorem settled_left' (ls : List (List Int)) (ws vs : List (Nat × List Int)) (f : Nat → Bool) : ∀ k, k ≤ ws.length → settled ls (ws ++ vs) f k = settled ls ws f k
  | 0, _ => rfl
  | k + 1, hk => by
    rw [settled, settled, settled_left' ls ws vs f k (by omega)]
    have e : (ws ++ vs).getD k (0, []) = ws.getD k (0, []) := by simp [List.getD_eq_getElem?_getD, List.getElem?_append_left (show k < ws.length by omega)]
    rw [e]
theorem settled_newest (ls : List (List Int)) : ∀ (k : Nat) (S : DS), S.ls = ls → S.ws.length = k → ∀ n, n < ls.length → (settled ls S.ws yes k).getD n [] = newest S n
  | 0, S, hls, hk, n, hn => by
    have e : S.ws = [] := List.eq_nil_of_length_eq_zero hk
    simp [settled, newest, e, lastAt, hls]
  | k + 1, S, hls, hk, n, hn => by
    obtain ⟨ws, x, e⟩ : ∃ ws x, S.ws = ws ++ [x] := by
      rcases List.eq_nil_or_concat S.ws with e | ⟨ws, x, e⟩
      · rw [e] at hk; simp at hk
      · exact ⟨ws, x, by rw [e, List.concat_eq_append]⟩
    have hk' : ws.length = k := by rw [e] at hk; simpa using hk
    have hS : newest S n = newest ({ S with ws := ws } |>.add x.1 x.2) n := newest_same (S' := S) (S := { S with ws := ws } |>.add x.1 x.2) rfl e n
    rw [hS, newest_add, e, settled, settled_left' ls ws [x] yes k (by omega), if_pos (show yes k = true from rfl)]
    have e2 : (ws ++ [x]).getD k (0, []) = x := by rw [← hk']; simp
    have ih := settled_newest ls k { S with ws := ws } hls hk' n hn
    simp only at ih
    rw [e2]
    by_cases h : x.1 = n
    · rw [if_pos h, h]
      simp [List.getD_eq_getElem?_getD, settled_len, hn]
    · rw [if_neg h, ← ih]
      simp [List.getD_eq_getElem?_getD, h]
theorem newest_set {S : DS} (n : Nat) (hn : n < S.ls.length) : newest (S.set yes) n = newest S n := by
  rw [← settled_newest S.ls S.ws.length S rfl rfl n hn]
  simp [newest, DS.set, lastAt]
theorem rd_set {S : DS} (b k : Nat) (h : b + k ≤ S.ls.length) : rd (S.set yes) b k = rd S b k := rd_congr _ _ fun i hi => newest_set _ (by omega)
theorem rd_cut {S : DS} (b k : Nat) (bs : List Bool) (h : S.ws = []) : rd (S.cut bs) b k = rd S b k := rd_congr _ _ fun i hi => by
  refine newest_same ?_ ?_ _
  · show settled S.ls S.ws _ S.ws.length = S.ls
    rw [h]; rfl
  · rw [h]; rfl
theorem new_newest (n i : Nat) (h : i < n) : newest (DS.new n) i = List.replicate 128 0 := by
  simp [newest, DS.new, lastAt, h, List.getD_eq_getElem?_getD]
theorem new_rd (n b k : Nat) (h : b + k ≤ n) : rd (DS.new n) b k = List.replicate (k * 128) 0 := by
  induction k with
  | zero => simp [rd]
  | succ k ih => rw [rd_succ, ih (by omega), new_newest n (b + k) (by omega), List.replicate_append_replicate, Nat.add_mul, Nat.one_mul]
theorem rd_byts {S : DS} (h : S.Good) (b : Nat) : ∀ k, b + k ≤ S.ls.length → Byts (rd S b k)
  | 0, _ => by intro c hc; simp [rd] at hc
  | k + 1, hk => by
    rw [rd_succ]
    refine (rd_byts h b k (by omega)).append ?_
    unfold newest
    cases hl : lastAt S.ws (b + k) with
    | none =>
      simp only
      rw [List.getD_eq_getElem?_getD, List.getElem?_eq_getElem (by omega)]
      exact (h.ls _ (List.getElem_mem _)).2
    | some i =>
      obtain ⟨h1, x, h2, h3⟩ := lastAt_some hl
      simp only
      rw [List.getD_eq_getElem?_getD, h2]
      exact (h.ws x (List.mem_of_getElem? h2)).2.2
end Go.Proofs.YtlmofgfkclfgeaaGreat
/- The content of a page. -/
namespace Go.Proofs.YtlmofgfkclfgeaaGreat
open Go.RowKit
set_option linter.unusedVariables false

theorem made_grown {w w1 w2 : World} {v : Value} {ys : List Int} {r : Option Nat} (hg : w.grownBy w1 r) (h : Made w1 v ys w2) : (∀ k, v.ownBlock = some k → w.heap.size ≤ k) ∧ w.grownBy w2 r :=
  ⟨fun k hk => Nat.le_trans hg.size (h.2.1 k hk), grown_trans hg (grown_below h.2.2)⟩
theorem own_grown {w w' : World} {v : Value} {ys : List Int} {p : Nat} (h : Own w v ys) (hg : w.grownBy w' (some p)) (hp : v.ownBlock ≠ some p) : Own w' v ys :=
  h.of_block fun k hk => hg.block k (h.lt hk) (fun e => hp (by rw [hk, e]))
/-- what reading a page comes to. -/
def ContOut (O : Option (Nat × List Int)) (p : Nat) (w : World) (e : Ending) (w' : World) : Prop :=
  (∀ kind pl, O = some (kind, pl) → ∃ v, e = .returned (.agg #[.int .u8 (kind : Int), v]) ∧ Own w' v pl ∧ (∀ k, v.ownBlock = some k → w.heap.size ≤ k)) ∧ (O = none → e = .panicked flt) ∧ w.grownBy w' (some p)
theorem ContOut.no {O : Option (Nat × List Int)} {p : Nat} {w w' : World} (h : O = none) (hg : w.grownBy w' (some p)) : ContOut O p w (.panicked flt) w' :=
  ⟨fun k pl e => by rw [h] at e; contradiction, fun _ => rfl, hg⟩
theorem small8 {x : List Int} {n : Nat} (h : Byts x) (hl : x.length = n) : Crc.leV x < 256 ^ n := by rw [← hl]; exact Crc.leV_lt x h

set_option maxHeartbeats 1600000 in
set_option maxRecDepth 1000000 in
theorem content_any (p number : Nat) (zs : List Int) (w : World) (h : Rdr w p zs) (hn : number < 4294967296) :
    Calls Tryz.prog 91 #[.pointer (some ⟨p, 0, none⟩), .int .u32 (number : Int)] w fun e w' => ContOut (Pg.opn number zs) p w e w' := by
  have h8 := h.byts
  have hpw := h.lt
  have HA : Hid (w.grownBy (w.alloc (.cells #[.int .u8 0, .slice none 0 0] 232)) (some p)) := hide (grown_below (below_alloc _ _))
  have HQ : Hid ((w.alloc (.cells #[.int .u8 0, .slice none 0 0] 232)).heap[w.heap.size]? = some (.cells #[.int .u8 0, .slice none 0 0] 232 (0, 0))) := hide (heap_alloc_new w _)
  have HS : Hid (w.heap.size < (w.alloc (.cells #[.int .u8 0, .slice none 0 0] 232)).heap.size) := by rw [Hid]; simp
  have HU := hide (unseal_gen p 1024 zs _ (h.below (below_alloc w (.cells #[.int .u8 0, .slice none 0 0] 232))) (by omega) (by omega))
  by_cases hrt : Pg.Rt 1024 zs
  · obtain ⟨x1, x2, x3, x4, x5, x6, R, hcut, l1, l2, l3, l4, l5, l6, lR⟩ := Pg.cut6 (zs.take 1020) (by rw [List.length_take, hrt.1]; rfl)
    have hb := h8.take 1020
    rw [hcut] at hb
    have bx : ∀ l : List Int, (∀ c ∈ l, c ∈ x1 ++ (x2 ++ (x3 ++ (x4 ++ (x5 ++ (x6 ++ R)))))) → Byts l := fun l hl c hc => hb c (hl c hc)
    have b1 := bx x1 (fun c hc => by simp [hc])
    have b2 := bx x2 (fun c hc => by simp [hc])
    have b3 := bx x3 (fun c hc => by simp [hc])
    have b4 := bx x4 (fun c hc => by simp [hc])
    have b5 := bx x5 (fun c hc => by simp [hc])
    have b6 := bx x6 (fun c hc => by simp [hc])
    have bR := bx R (fun c hc => by simp [hc])
    obtain ⟨HY, HN⟩ := Pg.opn_cut h8 hrt hcut l1 l2 l3 l4 l5 l6 lR hn
    have v2 := small8 b2 l2
    have v4 := small8 b4 l4
    have v5 := small8 b5 l5
    have p4 : (256 : Nat) ^ 4 = 4294967296 := by decide
    have p2 : (256 : Nat) ^ 2 = 65536 := by decide
    have p1 : (256 : Nat) ^ 1 = 256 := by decide
    rw [p1] at v2
    rw [p4] at v4
    rw [p2] at v5
    rw [hcut] at HU
    have HRt := hide hrt
    generalize hO : Pg.opn number zs = O at *
    have HY := hide HY
    have HN := hide HN
    have N2 : Hid (∀ W, Rdr W p (x2 ++ (x3 ++ (x4 ++ (x5 ++ (x6 ++ R))))) → _) := hide fun W h => num_ok p 1 x2 _ W l2 (by omega) h b2
    have N4 : Hid (∀ W, Rdr W p (x4 ++ (x5 ++ (x6 ++ R))) → _) := hide fun W h => num_ok p 4 x4 _ W l4 (by omega) h b4
    have N5 : Hid (∀ W, Rdr W p (x5 ++ (x6 ++ R)) → _) := hide fun W h => num_ok p 2 x5 _ W l5 (by omega) h b5
    have M1 : Hid (∀ W, Rdr W p (x1 ++ (x2 ++ (x3 ++ (x4 ++ (x5 ++ (x6 ++ R)))))) → _) := hide fun W h => mark_gen p [67, 80] x1 _ W h l1 (by simp) (by unfold Byts; decide) b1
    have Z3 : Hid (∀ W, Rdr W p (x3 ++ (x4 ++ (x5 ++ (x6 ++ R)))) → _) := hide fun W h => nil_gen p 1 x3 _ W h l3 (by omega) b3
    have Z6 : Hid (∀ W, Rdr W p (x6 ++ R) → _) := hide fun W h => nil_gen p 2 x6 _ W h l6 (by omega) b6
    have BR := hide bR
    have LR := hide lR
    clear hO h8 h hrt hcut l1 l2 l3 l4 l5 l6 lR hb bx b1 b2 b3 b4 b5 b6 bR p1 p2 p4
    generalize Crc.leV x2 = K at *
    generalize Crc.leV x4 = V at *
    generalize Crc.leV x5 = L at *
    go_enter Tryz.func91, Tryz.ntmps91
    go_wp2_with fail
    refine HU.out.mono ?_
    rintro e w1 ⟨⟨hy, -⟩, hg1⟩
    obtain ⟨rfl, hr1⟩ := hy HRt.out
    have HG1 := hide hg1
    have HR1 := hide hr1
    clear hg1 hr1 hy HU
    go_wp2_with fail
    refine (M1.out _ HR1.out).mono ?_
    rintro e w2 ⟨⟨hy, hno⟩, hr2, hg2⟩
    have HG2 := hide (grown_trans HG1.out hg2)
    have HR2 := hide hr2
    clear hg2 hr2
    by_cases c1 : x1 = [67, 80]
    rotate_left
    · have HO := hide (HN.out fun h => c1 h.1)
      obtain rfl := hno c1
      exact ⟨rfl, ContOut.no HO.out (grown_trans HA.out HG2.out)⟩
    obtain rfl := hy c1
    have C1 := hide c1
    clear c1 hy hno M1
    go_wp2_with fail
    refine (N2.out _ HR2.out).mono ?_
    rintro e w3 ⟨rfl, hr3, hg3⟩
    have HG3 := hide (grown_trans HG2.out hg3)
    have HR3 := hide hr3
    clear hg3 hr3 N2
    by_cases c2 : 1 ≤ K ∧ K ≤ 4
    rotate_left
    · have HO := hide (HN.out fun h => c2 ⟨h.2.1, h.2.2.1⟩)
      go_wp2_with fail
      refine (kind_no K _ c2).mono ?_
      rintro e w' ⟨rfl, rfl⟩
      go_wp2_with fail
      refine (must_no _ _ rfl _).mono ?_
      rintro e w' ⟨rfl, rfl⟩
      exact ⟨rfl, ContOut.no HO.out (grown_trans HA.out HG3.out)⟩
    have C2 := hide c2
    clear c2
    go_wp2_with fail
    refine (kind_yes K _ C2.out.1 C2.out.2).mono ?_
    rintro e w' ⟨rfl, rfl⟩
    go_wp2_with fail
    refine (must_yes _ _ rfl _).mono ?_
    rintro e w3 ⟨rfl, rfl⟩
    go_wp2_with fail
    refine (Z3.out _ HR3.out).mono ?_
    rintro e w4 ⟨⟨hy, hno⟩, hr4, hg4⟩
    have HG4 := hide (grown_trans HG3.out hg4)
    clear hg4 Z3
    by_cases c3 : x3 = [0]
    rotate_left
    · have HO := hide (HN.out fun h => c3 h.2.2.2.1)
      obtain rfl := hno c3
      exact ⟨rfl, ContOut.no HO.out (grown_trans HA.out HG4.out)⟩
    obtain rfl := hy c3
    have HR4 := hide (hr4 c3)
    have C3 := hide c3
    clear c3 hy hno hr4
    go_wp2_with fail
    refine (N4.out _ HR4.out).mono ?_
    rintro e w5 ⟨rfl, hr5, hg5⟩
    have HG5 := hide (grown_trans HG4.out hg5)
    have HR5 := hide hr5
    clear hg5 hr5 N4
    by_cases c4 : V = number
    rotate_left
    · have HO := hide (HN.out fun h => c4 h.2.2.2.2.1)
      have hne : ((V : Int) == (number : Int)) = false := by simp; omega
      clear c4
      go_wp2_with fail
      refine (must_no _ _ rfl _).mono ?_
      rintro e w' ⟨rfl, rfl⟩
      exact ⟨rfl, ContOut.no HO.out (grown_trans HA.out HG5.out)⟩
    subst c4
    go_wp2_with fail
    refine (must_yes _ _ (by simp) _).mono ?_
    rintro e w5 ⟨rfl, rfl⟩
    go_wp2_with fail
    refine (N5.out _ HR5.out).mono ?_
    rintro e w6 ⟨rfl, hr6, hg6⟩
    have HG6 := hide (grown_trans HG5.out hg6)
    have HR6 := hide hr6
    clear hg6 hr6 N5
    go_wp2_with fail
    refine (Z6.out _ HR6.out).mono ?_
    rintro e w7 ⟨⟨hy, hno⟩, hr7, hg7⟩
    have HG7 := hide (grown_trans HG6.out hg7)
    clear hg7 Z6
    by_cases c6 : x6 = [0, 0]
    rotate_left
    · have HO := hide (HN.out fun h => c6 h.2.2.2.2.2.1)
      obtain rfl := hno c6
      exact ⟨rfl, ContOut.no HO.out (grown_trans HA.out HG7.out)⟩
    obtain rfl := hy c6
    have HR7 := hide (hr7 c6)
    have C6 := hide c6
    clear c6 hy hno hr7
    by_cases c5 : L ≤ 1008
    rotate_left
    · have HO := hide (HN.out fun h => c5 h.2.2.2.2.2.2.1)
      go_wp2_with fail
      refine (take_no p L R _ (by rw [LR.out]; omega) (by omega) HR7.out).mono ?_
      rintro e w' ⟨rfl, hg8⟩
      exact ⟨rfl, ContOut.no HO.out (grown_trans HA.out (grown_trans HG7.out hg8))⟩
    have eR : R.take L ++ R.drop L = R := List.take_append_drop _ _
    have lT : (R.take L).length = L := by rw [List.length_take, LR.out]; omega
    have lD : (R.drop L).length = 1008 - L := by rw [List.length_drop, LR.out]
    have BT := hide (BR.out.take L)
    have BD := hide (BR.out.drop L)
    have HR7' : Hid (Rdr w7 p (R.take L ++ R.drop L)) := by rw [eR]; exact HR7
    clear HR7
    generalize R.take L = T at *
    generalize R.drop L = D at *
    have LT := hide lT
    have LD := hide lD
    clear eR lT lD BR LR
    go_wp2_with fail
    refine (take_ok p L T D _ LT.out HR7'.out).mono ?_
    rintro e w8 ⟨a8, c8, rfl, hk8, hc8, hn8, hrow8, hr8, hg8⟩
    have HR8 := hide hr8
    have HG8 := hide (grown_trans HG7.out hg8)
    have HCl := hide (clone_any a8 L c8 T w8 LT.out hn8 hrow8.row (by omega))
    clear hn8 hrow8 hr8 hg8
    go_wp2_with fail
    refine HCl.out.mono ?_
    rintro e w9 ⟨v9, rfl, hm9⟩
    obtain ⟨hnew, hg9⟩ := made_grown (grown_trans HA.out HG8.out) hm9
    have HR9 := hide (HR8.out.below hm9.2.2)
    have HNq : Hid (∀ k, v9.ownBlock = some k → k ≠ w.heap.size) := by
      intro k hk
      have h1 := hm9.2.1 k hk
      have h2 := HG8.out.size
      have h3 := HS.out
      omega
    have HM9 := hide hm9.1
    have HNew := hide hnew
    have HG9 := hide hg9
    have HG9' := hide (grown_trans HG8.out (grown_below hm9.2.2))
    obtain ⟨a9, n9, c9, rfl, -⟩ := hm9.1.shape2
    obtain ⟨q9, d9, k9, f9⟩ := HR9.out.cells
    rw [LD.out] at k9
    clear hm9 hnew hg9 HCl
    have HZ := hide (nil_gen p (1008 - L) D [] w9 (by rw [List.append_nil]; exact HR9.out) LD.out (by omega) BD.out)
    go_wp2_with fail
    refine HZ.out.mono ?_
    rintro e w10 ⟨⟨hy, hno⟩, -, hg10⟩
    have HG10 := hide (grown_trans HG9.out hg10)
    have HG10' := hide (grown_trans HG9'.out hg10)
    by_cases c7 : D = List.replicate (1008 - L) 0
    rotate_left
    · have HO := hide (HN.out fun h => c7 h.2.2.2.2.2.2.2)
      obtain rfl := hno c7
      exact ⟨rfl, ContOut.no HO.out HG10.out⟩
    obtain rfl := hy c7
    have HO := hide (HY.out C1.out C2.out.1 C2.out.2 C3.out trivial C6.out c5 c7)
    have HOw : Hid (Own w10 (.slice a9 n9 c9) T) := hide (own_grown HM9.out hg10 (fun e => by have := HNew.out p e; omega))
    have hqp : some w.heap.size ≠ some p := by
      intro e
      have e2 : w.heap.size = p := by simpa using e
      omega
    have hq : w10.heap[w.heap.size]? = some (.cells #[.int .u8 0, .slice none 0 0] 232 (0, 0)) := (HG10'.out.block w.heap.size HS.out hqp).trans HQ.out
    obtain ⟨q0, q1, f0⟩ := cells_two hq
    have f1 : w10.frozen? ⟨w.heap.size, 1, none⟩ = false := by simp [World.frozen?, hq]
    have HQ2 : Hid (w10.heap[w.heap.size]? = some (.cells #[.int .u8 0, .slice none 0 0] 232 (0, 0))) := hide hq
    have HQP := hide hqp
    clear hq hqp
    clear hy hno c7 hg10
    go_wp2
    have hA : (w10.setCell ⟨w.heap.size, 0, none⟩ (.int .u8 (K : Int))).heap[w.heap.size]? = some (.cells #[.int .u8 (K : Int), .slice none 0 0] 232 (0, 0)) := by
      rw [heap_setCell_same w10 w.heap.size 0 _ 232 _ HQ2.out]; rfl
    obtain ⟨q0', -, -⟩ := cells_two hA
    have hB2 : ((w10.setCell ⟨w.heap.size, 0, none⟩ (.int .u8 (K : Int))).setCell ⟨w.heap.size, 1, none⟩ (.slice a9 n9 c9)).heap[w.heap.size]? = some (.cells #[.int .u8 (K : Int), .slice a9 n9 c9] 232 (0, 0)) := by
      rw [heap_setCell_same _ w.heap.size 1 _ 232 _ hA]; rfl
    obtain ⟨-, q1', -⟩ := cells_two hB2
    refine bodyPost_ret (v := .agg #[.int .u8 (K : Int), .slice a9 n9 c9]) ?_ rfl ?_
    · simp [results, Tryz.results91, go_sem, q0', q1']
    · refine ⟨fun kind pl h => ?_, fun h => ?_, ?_⟩
      · rw [HO.out] at h
        cases h
        refine ⟨_, rfl, HOw.out.of_block fun k hk => ?_, HNew.out⟩
        have hne := HNq.out k hk
        rw [Below.heap_setCell _ _ _ _ hne, Below.heap_setCell _ _ _ _ hne]
      · rw [HO.out] at h
        cases h
      · refine ⟨HG10.out.os, HG10.out.tape, HG10.out.output, by have := HG10.out.size; simpa [World.setCell] using this, fun k hk hne => ?_⟩
        rw [Below.heap_setCell _ _ _ _ (show k ≠ w.heap.size by omega), Below.heap_setCell _ _ _ _ (show k ≠ w.heap.size by omega)]
        exact HG10.out.block k hk hne
  · have HO := hide (Pg.opn_wrong (number := number) h8 hrt)
    have HRt := hide hrt
    clear h8 hrt h
    generalize Pg.opn number zs = O at *
    go_enter Tryz.func91, Tryz.ntmps91
    go_wp2_with fail
    refine HU.out.mono ?_
    rintro e w1 ⟨⟨-, hno⟩, hg1⟩
    obtain rfl := hno HRt.out
    exact ⟨rfl, ContOut.no HO.out (grown_trans HA.out hg1)⟩
end Go.Proofs.YtlmofgfkclfgeaaGreat
/- The reader's face: what it gives up with is taken for the answer. -/
namespace Go.Proofs.YtlmofgfkclfgeaaGreat
open Go.RowKit
set_option linter.unusedVariables false

theorem ta_yes170 (v : Value) (w : World) : (Instr.typeAssert (.iface 243 v) 20 243 true).run Tryz.prog w = .ok (.tuple #[v, .bool true]) w := by
  simp [Instr.typeAssert, run_underlying Tryz.underlying243]

set_option maxHeartbeats 800000 in
theorem catch_panic (p : Addr) (x : Int) (older : List PanicEntry) (w : World) (hc : w.cell? p = some (.int .u16 x)) (hz : w.frozen? p = false) :
    CallsD Tryz.prog 95 #[.pointer (some p)] (.panicking ({ v := .iface 243 (.agg #[]), recovered := false } :: older)) w fun e u' w' =>
      e = .returned (.tuple #[]) ∧ u' = .panicking ({ v := .iface 243 (.agg #[]), recovered := true } :: older) ∧ w' = (w.alloc (.cells #[] 243)).setCell p (.int .u16 80) := by
  have hta := ta_yes170
  have hlt : p.block < w.heap.size := World.block_lt_of_cell? w _ hc
  have hc' : (w.alloc (.cells #[] 243)).cell? p = some (.int .u16 x) := ((below_alloc w _).cell hlt).trans hc
  have hz' : (w.alloc (.cells #[] 243)).frozen? p = false := ((below_alloc w _).frozen hlt).trans hz
  refine callsD_of_wpS Tryz.func95 rfl fun c₀ cs hu => ?_
  apply wpS_seq
  apply wpS_region
  simp [wpOpsS, go_sem, recoverD, hu, Tryz.ntmps95, Exit.thenS]
  have htm : (#[Value.pointer (some p)] ++ ((Array.replicate 14 undef).setIfInBounds 3 (Value.iface 243 (Value.agg #[]))).setIfInBounds 0 (Value.iface 243 (Value.agg #[]))) = #[.pointer (some p), .iface 243 (.agg #[]), undef, undef, .iface 243 (.agg #[]), undef, undef, undef, undef, undef, undef, undef, undef, undef, undef] := rfl
  rw [htm]
  refine wpS_of_wp ?_
  go_wp2
  cases c₀
  simp_all [bodyPostS, results, Tryz.results95]

set_option maxHeartbeats 800000 in
theorem catch_idle (p : Addr) (w : World) :
    CallsD Tryz.prog 95 #[.pointer (some p)] .returning w fun e u' w' => e = .returned (.tuple #[]) ∧ u' = .returning ∧ w' = w := by
  refine callsD_of_wpS Tryz.func95 rfl fun c₀ cs hu => ?_
  apply wpS_seq
  apply wpS_region
  simp [wpOpsS, go_sem, recoverD, hu, Tryz.ntmps95, Exit.thenS]
  have htm : (#[Value.pointer (some p)] ++ ((Array.replicate 14 undef).setIfInBounds 3 Value.nilIface).setIfInBounds 0 Value.nilIface) = #[.pointer (some p), .nilIface, undef, undef, .nilIface, undef, undef, undef, undef, undef, undef, undef, undef, undef, undef] := rfl
  rw [htm]
  refine wpS_of_wp ?_
  go_wp2
  cases c₀
  simp_all [bodyPostS, results, Tryz.results95]
end Go.Proofs.YtlmofgfkclfgeaaGreat
