/- FreeBack: a list that is written and read again, page by page, and added anew, may give all its pages, rising. -/
import Derived.Test.YtibhlmnoomboeaaDoorKN
import Derived.Test.YtibhlmnoomboeaaDoorAC
import Derived.Test.YtibhlmnoomboeaaDoorSW
import Derived.Deep.RegionHeld3
namespace Go.Proofs.YtibhlmnoomboeaaDoor
open Go.RowKit Go.Maps
set_option linter.unusedVariables false
theorem Told.okp {Z : List Nat} {M : List Pg} (h : Told Z M) (hr : ∀ x ∈ M, 2 ≤ x.1 ∧ x.1 ≤ 16383) : ∀ n ∈ Z, 2 ≤ n ∧ n ≤ 16383 := fun n hn => by
  obtain ⟨x, hx, e⟩ := List.mem_map.1 ((h.mem n).1 hn)
  have := hr x hx
  omega
theorem rise_of {Z : List Nat} (h : Z.Pairwise (· < ·)) : rise Z = true := by
  rw [rise_at]
  intro i h0 h1
  have := List.pairwise_iff_getElem.1 h (i - 1) i (by omega) h1 (by omega)
  rw [List.getD_eq_getElem?_getD, List.getElem?_eq_getElem (by omega), List.getD_eq_getElem?_getD, List.getElem?_eq_getElem h1]
  exact this
theorem okp_of {Z : List Nat} (h : ∀ n ∈ Z, 2 ≤ n ∧ n ≤ 16383) : Z.all okp = true := by
  rw [List.all_eq_true]
  intro n hn
  have := h n hn
  unfold okp
  rw [decide_eq_true this.1, decide_eq_true this.2]; rfl
/-- the part of a list that stands on a page. -/
theorem part_ok {Z : List Nat} (h : Z.Pairwise (· < ·)) (h2 : ∀ n ∈ Z, 2 ≤ n ∧ n ≤ 16383) (j : Nat) : (rise ((Z.drop j).take 251) && ((Z.drop j).take 251).all okp) = true := by
  rw [rise_of (((h.drop).take)), okp_of (fun n hn => h2 n (List.mem_of_mem_drop (List.mem_of_mem_take hn)))]; rfl
/-- pages of generation nought. -/
def zg (X : List Nat) : List Pg := X.map fun (n : Nat) => ((n : Int), (0 : Int))
theorem zg_mem {X : List Nat} {x : Pg} : x ∈ zg X ↔ ∃ n ∈ X, x = ((n : Int), (0 : Int)) := by
  unfold zg
  rw [List.mem_map]
  constructor
  · rintro ⟨n, h, rfl⟩; exact ⟨n, h, rfl⟩
  · rintro ⟨n, h, rfl⟩; exact ⟨n, h, rfl⟩
theorem zg_fst {X : List Nat} {n : Nat} : (n : Int) ∈ (zg X).map (·.1) ↔ n ∈ X := by
  rw [List.mem_map]
  constructor
  · rintro ⟨x, hx, e⟩
    obtain ⟨m, hm, rfl⟩ := zg_mem.1 hx
    have e' : (m : Int) = (n : Int) := e
    have : m = n := by omega
    rw [← this]; exact hm
  · intro h
    exact ⟨_, zg_mem.2 ⟨n, h, rfl⟩, rfl⟩
theorem take_at {w : World} {l : Nat} {M : List Pg} {O : Nat → Prop} (h : LsAt w l M O) (G : Int) (x0 : Pg) (M0 : List Pg) (hp : M.Perm (x0 :: M0)) (hg : x0.2 ≤ G) (hl : ∀ y ∈ M, y.2 ≤ G → x0.1 ≤ y.1) (hf : M.length ≤ 900000) : Calls Tryd.prog 10 #[.pointer (some ⟨l, 0, none⟩), .int .u64 G] w fun e w' => e = .returned (.tuple #[.int .u32 x0.1, .bool true]) ∧ ∃ O', LsAt w' l M0 O' ∧ Go1 O w O' w' := by
  have hx0 : x0 ∈ M := hp.mem_iff.2 (List.mem_cons_self ..)
  refine (take_some h G ⟨x0, hx0, hg⟩ hf).mono ?_
  rintro e w' ⟨x, M', rfl, h4, h5, h6, O', h7, h8⟩
  have hx : x ∈ M := h4.mem_iff.2 (List.mem_cons_self ..)
  have e1 : x = x0 := nodup_eq h.nd hx hx0 (Int.le_antisymm (h6 x0 hx0 hg) (hl x hx h5))
  subst e1
  exact ⟨rfl, O', h7.perm ((h4.symm.trans hp).cons_inv), h8⟩
theorem pairwise_take_lt {Z : List Nat} (h : Z.Pairwise (· < ·)) {m : Nat} (hm : m < Z.length) : Z.getD m 0 ∉ Z.take m := fun hx => by
  obtain ⟨i, hi, e⟩ := List.getElem_of_mem hx
  rw [List.length_take] at hi
  rw [List.getElem_take, List.getD_eq_getElem?_getD, List.getElem?_eq_getElem hm] at e
  have := List.pairwise_iff_getElem.1 h i m (by omega) hm (by omega)
  simp only [Option.getD_some] at e
  omega
theorem drop_least {Z : List Nat} (h : Z.Pairwise (· < ·)) {s : Nat} (hs : s < Z.length) : ∀ y ∈ zg (Z.drop s), ((Z.getD s 0 : Nat) : Int) ≤ y.1 := fun y hy => by
  obtain ⟨n, hn, rfl⟩ := zg_mem.1 hy
  obtain ⟨i, hi, e⟩ := List.getElem_of_mem hn
  rw [List.length_drop] at hi
  rw [List.getElem_drop] at e
  rw [List.getD_eq_getElem?_getD, List.getElem?_eq_getElem hs]
  simp only [Option.getD_some]
  by_cases h0 : i = 0
  · subst h0; subst e; exact Int.le_refl _
  · have := List.pairwise_iff_getElem.1 h s (s + i) hs (by omega) (by omega)
    omega
theorem zg_drop {Z : List Nat} {s : Nat} (hs : s < Z.length) : zg (Z.drop s) = (((Z.getD s 0 : Nat) : Int), (0 : Int)) :: zg (Z.drop (s + 1)) := by
  unfold zg
  rw [List.drop_eq_getElem_cons hs, List.map_cons, List.getD_eq_getElem?_getD, List.getElem?_eq_getElem hs]; rfl
theorem zg_take {Z : List Nat} {s : Nat} (hs : s < Z.length) : (((Z.getD s 0 : Nat) : Int), (0 : Int)) :: zg (Z.take s) = zg ([Z.getD s 0] ++ Z.take s) := rfl
theorem zg_snoc {Z : List Nat} {s : Nat} (hs : s < Z.length) : ((((Z.getD s 0 : Nat) : Int), (0 : Int)) :: zg (Z.take s)).Perm (zg (Z.take (s + 1))) := by
  rw [List.take_succ_eq_append_getElem hs, List.getD_eq_getElem?_getD, List.getElem?_eq_getElem hs]
  unfold zg
  rw [List.map_append]
  exact (List.perm_append_comm (l₁ := [_])).trans (List.Perm.refl _)
set_option maxHeartbeats 6400000 in
set_option maxRecDepth 1000000 in
theorem back_walk (w : World) (ht : Tb w) (a : Option Addr) (n c : Nat) (xs : List Ac) (hx : Acs w a n c xs) (f : Nat) (hf : f ≤ 65535) : Calls Tryd.prog 4 #[.slice a n c, .int .u16 (f : Int)] w fun e w' => e = .returned (.bool true) ∧ Below w.heap.size w w' := by
  have HX := hide hx
  have HT := hide ht
  have HK := hide (fun W => known_any W)
  have hmx := hx.max
  clear hx ht
  by_cases h3 : 300 < n
  · have h3' : (300 : Int) < (n : Int) := by omega
    go_enter Tryd.func4, Tryd.ntmps4
    go_wp2_with (go_at_call 6; refine (HK.out _).mono ?_; rintro e w1 ⟨rfl, b1⟩; have B1 := hide b1; clear b1)
    go_ret
    exact ⟨rfl, B1.out⟩
  · have h3' : ¬ (300 : Int) < (n : Int) := by omega
    go_enter Tryd.func4, Tryd.ntmps4
    go_wp2_with (first
      | (go_at_call 6; refine (HK.out _).mono ?_; rintro e w1 ⟨rfl, b1⟩; have B1 := hide b1; clear b1)
      | (go_at_call 5; refine (new_fl _).mono ?_; rintro e w2 ⟨l, rfl, f2⟩; have F2 := hide f2; clear f2))
    go_loopw [6] (fun i wr => ∃ (k : Nat) (M : List Pg), k ≤ n ∧ i = .int .i64 k ∧ M.length ≤ k ∧ Fl w1 wr l M) (fun i _ => n - (intOf i).toNat)
    case atStart => exact ⟨0, [], Nat.zero_le _, rfl, by simp, F2.out⟩
    case round =>
      obtain ⟨k, M, hk, rfl, hml, hfl⟩ := hrel
      have HFl := hide hfl
      clear hfl
      by_cases hlt : k < n
      · obtain ⟨x, b, off, hxk, rfl, hbl, hat, hok⟩ := (HX.out.below B1.out).at hlt
        have HC : Hid (∀ W, Below w1.heap.size w1 W → W.cell? ⟨b, off + k * 3 + 1, none⟩ = some (.int .u32 (x.p : Int)) ∧ W.cell? ⟨b, off + k * 3 + 2, none⟩ = some (.int .u64 x.g)) := fun W hW => ⟨(hW.cell (p := ⟨b, off + k * 3 + 1, none⟩) hbl).trans hat.c1, (hW.cell (p := ⟨b, off + k * 3 + 2, none⟩) hbl).trans hat.c2⟩
        obtain ⟨e1, e2⟩ := HC.out wr HFl.out.bel
        have hp := hok.p
        have HA := hide (fun W (hW : Same wr W) => add_fl (HFl.out.on hW.below) x.p hp x.g (by omega))
        clear hat hok hxk
        obtain ⟨K, P, g⟩ := x
        simp only [] at e1 e2 hp HA HC
        obtain ⟨M1, hM1, hr1⟩ : ∃ M1, M1 = (if adds M P then ((P : Int), g) :: M else M) ∧ M1.length ≤ k + 1 := ⟨_, rfl, by split; (simp only [List.length_cons]; omega); omega⟩
        rw [← hM1] at HA
        generalize (if adds M P then (0 : Int) else 110) = r at HA
        clear hM1
        go_wp2
        go_region_held3 (fun W => W.cell? ⟨b, off + k * 3 + 1, none⟩ = some (.int .u32 (P : Int)) ∧ W.cell? ⟨b, off + k * 3 + 2, none⟩ = some (.int .u64 g)) ((refine ⟨?_, ?_⟩ <;> assumption)) ((first | (go_at_call 7; refine (HA.out _ (Same.refl _).drew).mono ?_; rintro e w3 ⟨rfl, f3⟩; have F3 := hide f3; obtain ⟨q1, q2⟩ := HC.out w3 f3.bel; clear f3)))
        go_wp2
        go_roundw
        case rel => exact ⟨k + 1, M1, by omega, by go_num, hr1, F3.out⟩
        case measure => simp [intOf]; omega
      · obtain rfl : k = n := by omega
        have HAl : Hid (Calls Tryd.prog 9 #[.pointer (some ⟨l, 0, none⟩)] wr fun e w' => ∃ v Z, e = .returned v ∧ OwnW w' v Z ∧ Told Z M ∧ (∀ n ∈ Z, 2 ≤ n ∧ n ≤ 16383) ∧ Below wr.heap.size wr w') := by
          have hfl := HFl.out
          obtain ⟨O, o1, o2, o3⟩ := hfl
          refine (all_any o1 (HT.out.below (B1.out.trans (o2.mono B1.out.size))) (by omega)).mono ?_
          rintro e w' ⟨v, Z, rfl, g1, g2, g3, g4⟩
          exact ⟨v, Z, rfl, g1, g2, g2.okp o1.rg, g4⟩
        go_wp2_with (go_at_call 9; refine HAl.out.mono ?_; rintro e w5 ⟨v5, Z, rfl, g1, g2, g3, g4⟩; obtain ⟨a5, c5, rfl, hc5, hm5, hr5, -⟩ := g1.shape; have HR5 := hide hr5; have HTo := hide g2; have HOk := hide g3; have hzl := g2.len; have B5 := hide (HFl.out.bel.trans (g4.mono HFl.out.bel.size)); clear g1 g2 g3 g4 hr5)
        obtain ⟨i0, hi, hz0, hz1, hz2⟩ := info_parts infoU32
        generalize hML : M.length = L at *
        have HML := hide hML
        have HZL := hide hzl
        clear hML hzl
        obtain ⟨d, hd⟩ : ∃ d, d = (L + 250) / 251 := ⟨_, rfl⟩
        have HD := hide hd
        have hdb : d ≤ 10 := by omega
        have HNd := hide (fun W => need_any W L (by omega))
        rw [← hd] at HNd
        clear hd
        go_loopw [9, 8] (fun i u wr => ∃ (q : Nat) (v : Value) (ats : List Nat), q ≤ d ∧ i = .int .i64 q ∧ u = v ∧ OwnW wr v ats ∧ Hid (ats.length = q) ∧ (∀ z ∈ ats, 2 ≤ z ∧ z ≤ 16383) ∧ (∀ k, v.ownBlock = some k → w5.heap.size ≤ k) ∧ Below w5.heap.size w5 wr) (fun i _ _ => d - (intOf i).toNat)
        case atStart => exact ⟨0, _, [], Nat.zero_le _, rfl, rfl, World.ownsRow_nil _ _ _ _, hide rfl, by simp, fun k hk => by simp [Value.ownBlock] at hk, Below.refl _ _⟩
        case round =>
          obtain ⟨q, v, ats, hq, rfl, rfl, hown, hal, hao, hlow, hbel⟩ := hrel
          have HOw := hide hown
          have HLo := hide hlow
          have HBe := hide hbel
          have HAo := hide hao
          clear hown hao hlow hbel
          by_cases hqt : q < d
          · have hqi : (q : Int) < (d : Int) := by omega
            obtain ⟨a2, c2, rfl, -⟩ := HOw.out.shape
            have hal' : ats.length ≤ 20 := by have := hal.out; omega
            have HPL := hide hal'
            clear hal'
            go_wp2_with (first
              | (go_at_call 11; refine (HNd.out _).mono ?_; rintro e w6 ⟨rfl, hw6⟩; rw [hw6]; clear hw6)
              | (at_builtin; refine wpList_append_own_at _ (by rfl) (.tmp 60) (.tmp 68) 34 (by rfl) 0 30 i0 (.int .u32 0) 1 4 Tryd.underlying34 hi hz0 hz1 hz2 rfl (by omega) (.slice a2 ats.length c2) ats.length (ats.map fun (z : Nat) => Value.int .u32 (z : Int)) (by rfl) (World.ownsRow.alloc HOw.out _) ⟨wr.heap.size, 0, none⟩ 1 1 [.int .u32 (2 + ((f : Int) + (q : Int)) % 16000)] (by rfl) (by rfl) (cell_one_new _ _ _) (fun u hu => by rw [List.mem_singleton.1 hu]; rfl) (by have := HPL.out; unfold maxLen; omega) (by have := HPL.out; omega) (Nat.zero_le _) ?_; intro v4 w7 h1 h2 h3 h4; have H1 := hide h1; have H2 := hide h2; have H4 := hide h4; clear h1 h2 h3 h4))
            go_roundw
            case rel =>
              refine ⟨q + 1, v4, ats ++ [2 + (f + q) % 16000], by omega, by go_num, rfl, ?_, hide (by rw [List.length_append, List.length_singleton, hal.out]), fun z hz => ?_, fun j hj => ?_, ?_⟩
              · have := H1.out
                unfold OwnW
                rw [List.length_append, List.map_append, List.length_singleton]
                rw [show (2 + ((f : Int) + (q : Int)) % 16000) = ((2 + (f + q) % 16000 : Nat) : Int) by omega] at this
                exact this
              · rcases List.mem_append.1 hz with hz | hz
                · exact HAo.out z hz
                · rw [List.mem_singleton.1 hz]; omega
              · rcases H4.out with e | e
                · rw [e] at hj; exact HLo.out j hj
                · rw [e] at hj; cases hj; have := HBe.out.size; simp; omega
              · exact HBe.out.trans ((Mv.below (((Mv.refl (fun k => (Value.slice a2 ats.length c2).ownBlock = some k) wr).alloc _).grown H2.out (fun k hk => .inl hk)) HBe.out.size (fun k hk => HLo.out k hk)))
            case measure => simp [intOf]; omega
          · obtain rfl : q = d := by omega
            have hqi : ¬ ((q : Int) < (q : Int)) := by omega
            obtain ⟨a2, c2, rfl, hc2, hm2, hrw2, -⟩ := HOw.out.shape
            have HRw2 := hide hrw2
            have hal' : ats.length ≤ 20 := by have := hal.out; omega
            have HEn := hide (encode_ok wr a5 a2 L c5 ats.length c2 Z ats (by have := HZL.out; have := HML.out; omega) (by omega) (by have := HZL.out; have := HML.out; omega) (HR5.out.below HBe.out) (fun z hz => by have := HOk.out z hz; omega) rfl (by omega) hrw2 (fun z hz => by have := HAo.out z hz; omega) (by rw [rise_of HTo.out.sorted, okp_of HOk.out]; rfl) (okp_of HAo.out) (.inl (by have := hal.out; have := HD.out; omega)))
            clear hrw2
            generalize hA1 : ats.length = A1 at *
            have HA1 := hide hA1
            clear hA1
            have hbA : ((A1 : Int) != (A1 : Int)) = false := by simp
            go_wp2_with (first
              | (go_at_call 11; refine (HNd.out _).mono ?_; rintro e w6 ⟨rfl, hw6⟩; rw [hw6]; clear hw6)
              | (go_at_call 12; refine HEn.out.mono ?_; rintro e w7 ⟨g, vs, rfl, e1, e2, e3, e4⟩; have E1 := hide e1; have E2 := hide e2; have E3 := hide e3; have B7 := hide (HBe.out.trans (e4.mono HBe.out.size)); have E4 := hide e4; clear e1 e2 e3 e4)
              | (go_at_call 5; refine (new_fl _).mono ?_; rintro e w8 ⟨y, rfl, f8⟩; have F8 := hide f8; clear f8))
            go_loopw [13] (fun i wr => ∃ (t : Nat) (M3 : List Pg), t ≤ A1 ∧ i = .int .i64 t ∧ M3.Perm (zg (Z.take (251 * t))) ∧ Fl w7 wr y M3) (fun i _ => A1 - (intOf i).toNat)
            case atStart => exact ⟨0, [], Nat.zero_le _, rfl, by simp [zg], F8.out⟩
            case round =>
              obtain ⟨t, M3, htA, rfl, hp3, hf3⟩ := hrel
              have HP3 := hide hp3
              have HF3 := hide hf3
              clear hp3 hf3
              have hZ1 : Z.length = L := by have := HZL.out; have := HML.out; omega
              have HZ1 := hide hZ1
              clear hZ1
              by_cases htt : t < A1
              · have hti : (t : Int) < (A1 : Int) := by omega
                obtain ⟨a9, c9, e9, hcc9, hmm9, -, hr9, -⟩ := (E3.out.own t htt).shape
                have hcell : wr.cell? ⟨g, t, none⟩ = some (.slice a9 (pay Z ats t).length c9) := by
                  have hb := (HF3.out.bel.block g (lt_of_block E3.out.blk)).trans E3.out.blk
                  rw [cell_of_row wr g t _ _ _ hb, List.getElem?_toArray]
                  rw [List.getD_eq_getElem?_getD, List.getElem?_eq_getElem (by have := E1.out; omega)] at e9
                  rw [List.getElem?_eq_getElem (by have := E1.out; omega)]
                  exact congrArg some e9
                obtain ⟨x9, hx9, hxo⟩ : ∃ x9, x9 = (if t + 1 < ats.length then ats.getD (t + 1) 0 else 0) ∧ (x9 = 0 ∨ okp x9 = true) := ⟨_, rfl, by
                  split
                  · rename_i hlt9
                    right
                    exact all_at.1 (okp_of HAo.out) (t + 1) hlt9
                  · left; rfl⟩
                obtain ⟨z9, hz9⟩ : ∃ z9, z9 = (Z.drop (251 * t)).take 251 := ⟨_, rfl⟩
                have hpay : pay Z ats t = le4 x9 ++ z9.flatMap le4 := by rw [pay, ← hx9, ← hz9]
                have hzl9 : z9.length = min 251 (L - 251 * t) := by rw [hz9, List.length_take, List.length_drop, HZ1.out]
                have hx9b : x9 ≤ 4294967295 := by rcases hxo with h | h; (omega); (unfold okp at h; simp only [Bool.and_eq_true, decide_eq_true_eq] at h; omega)
                rw [hpay, List.length_append, le4_len, flat4_len] at hcell hcc9
                rw [hpay] at hr9
                have HDe := hide (decode_ok wr a9 (4 + 4 * z9.length) c9 x9 z9 hx9b (fun z hz => by rw [hz9] at hz; have := HOk.out z (List.mem_of_mem_drop (List.mem_of_mem_take hz)); omega) (by omega) rfl hcc9 (hr9.below HF3.out.bel) (by rw [hz9]; exact part_ok HTo.out.sorted HOk.out _) hxo)
                have HZ9 := hide hz9
                have HZL9 := hide hzl9
                clear hz9 hzl9 hx9 hxo hpay hr9 hcc9 e9
                generalize hN9 : 4 + 4 * z9.length = N9 at *
                clear hN9
                go_wp2_with (go_at_call 13; refine HDe.out.mono ?_; rintro e w9 ⟨v9, rfl, d1, d2, d3⟩; obtain ⟨b9, k9, rfl, hk9, hkm9, hrw9, hbk9⟩ := d1.shape; have D1 := hide d1; have D2 := hide d2; have D3 := hide d3; have DR9 := hide hrw9; have DB9 := hide hbk9; clear d1 d2 d3 hrw9 hbk9)
                have hO : ∃ O, Bs w7 w9 y M3 O (.slice b9 z9.length k9) z9 := by
                  obtain ⟨O, o1, o2, o3⟩ := HF3.out
                  exact ⟨O, o1.below D3.out, D1.out, fun k hk ho => by have := D2.out k hk; have := o1.lt ho; omega, o3, fun k hk => Nat.le_trans o2.size (D2.out k hk), o2.trans (D3.out.mono o2.size)⟩
                generalize hP9 : z9.length = P9 at *
                have HP9 := hide hP9
                clear hP9
                have hP9b : P9 ≤ 251 := by have := HZL9.out; omega
                go_loopw [17] (fun i wr4 => ∃ (s : Nat) (M4 : List Pg) (O : Nat → Prop), s ≤ P9 ∧ i = .int .i64 s ∧ M4.Perm (zg (Z.take (251 * t + s))) ∧ Bs w7 wr4 y M4 O (.slice b9 P9 k9) z9) (fun i _ => P9 - (intOf i).toNat)
                case atStart =>
                  obtain ⟨O, hO⟩ := hO
                  exact ⟨0, M3, O, Nat.zero_le _, rfl, HP3.out, hO⟩
                case round =>
                  obtain ⟨s, M4, O, hsP, rfl, hp4, hbs⟩ := hrel
                  have HP4 := hide hp4
                  have HBs := hide hbs
                  clear hp4 hbs
                  have hM4 : M4.length ≤ 300 := by
                    have := HP4.out.length_eq
                    have h9 : (zg (Z.take (251 * t + s))).length ≤ Z.length := by unfold zg; rw [List.length_map, List.length_take]; omega
                    have := HZ1.out
                    omega
                  by_cases hst : s < P9
                  · have hsz : s < z9.length := by have := HP9.out; omega
                    have hsi : (s : Int) < (P9 : Int) := by omega
                    have hZs : 251 * t + s < Z.length := by have := HZL9.out; have := HZ1.out; have := HP9.out; omega
                    have hpz : z9.getD s 0 = Z.getD (251 * t + s) 0 := by
                      rw [HZ9.out]
                      simp only [List.getD_eq_getElem?_getD]
                      rw [List.getElem?_take_of_lt (by have := HZL9.out; have := HP9.out; omega), List.getElem?_drop]
                    have hpm : Z.getD (251 * t + s) 0 ∈ Z := by rw [List.getD_eq_getElem?_getD, List.getElem?_eq_getElem hZs]; exact List.getElem_mem hZs
                    have hpo := HOk.out _ hpm
                    have hpn : ((Z.getD (251 * t + s) 0 : Nat) : Int) ∉ M4.map (·.1) := fun h9 => pairwise_take_lt HTo.out.sorted hZs (zg_fst.1 ((HP4.out.map _).mem_iff.1 h9))
                    have hsn := zg_snoc hZs
                    obtain ⟨a', c', e', -, -, hrw', -⟩ := HBs.out.row.shape
                    have ha' : a' = b9 := by injection e' with e1 e2 e3; exact e1.symm
                    subst ha'
                    rcases hrw' with h0 | ⟨bb, oo, rfl, hbbl, hcc⟩
                    · rw [h0] at hsz; simp at hsz
                    have g9 := hcc s hsz
                    rw [hpz] at g9
                    have HAd := hide (add_ok HBs.out.ls (Z.getD (251 * t + s) 0) hpo 0 hpn (by omega))
                    have HSn := hide hsn
                    clear hcc hpz hpm hpn hsn e' hO
                    generalize Z.getD (251 * t + s) 0 = p9 at *
                    go_wp2_with (go_at_call 7; refine HAd.out.mono ?_; rintro e w10 ⟨rfl, O10, m1, m2⟩; have HBs10 := hide (HBs.out.turn m1 m2); clear m1 m2)
                    go_roundw
                    case rel => exact ⟨s + 1, _, O10, by omega, by go_num, (List.Perm.cons _ HP4.out).trans HSn.out, HBs10.out⟩
                    case measure => simp [intOf]; omega
                  · obtain rfl : s = P9 := by omega
                    have hsi : ¬ ((s : Int) < (s : Int)) := by omega
                    go_wp2
                    go_roundw
                    case rel =>
                      refine ⟨t + 1, M4, by omega, by go_num, ?_, O, HBs.out.ls, HBs.out.bel, HBs.out.ol⟩
                      have h1 := HZL9.out
                      have h2 := HP9.out
                      have h3 := HZ1.out
                      have e9 : Z.take (251 * (t + 1)) = Z.take (251 * t + s) := by
                        by_cases h5 : 251 ≤ L - 251 * t
                        · congr 1; omega
                        · rw [List.take_of_length_le (by omega), List.take_of_length_le (by omega)]
                      rw [e9]; exact HP4.out
                    case measure => simp [intOf]; omega
              · obtain rfl : t = A1 := by omega
                have hti : ¬ ((t : Int) < (t : Int)) := by omega
                have HPz : Hid (M3.Perm (zg Z)) := by
                  have h1 := HP3.out
                  rw [List.take_of_length_le (by have := HZ1.out; have := hal.out; have := HA1.out; have := HD.out; omega)] at h1
                  exact h1
                have hO : ∃ O, Bs w7 wr y (zg (Z.drop 0)) O (.slice none 0 0) (Z.take 0) := by
                  obtain ⟨O, o1, o2, o3⟩ := HF3.out
                  exact ⟨O, o1.perm HPz.out, World.ownsRow_nil _ _ _ _, fun k hk => by simp [Value.ownBlock] at hk, o3, fun k hk => by simp [Value.ownBlock] at hk, o2⟩
                go_wp2
                go_loopw [19, 18] (fun i u wr => ∃ (s : Nat) (v : Value) (O : Nat → Prop), s ≤ L ∧ i = .int .i64 s ∧ u = v ∧ Bs w7 wr y (zg (Z.drop s)) O v (Z.take s)) (fun i _ _ => L - (intOf i).toNat)
                case atStart =>
                  obtain ⟨O, hO⟩ := hO
                  exact ⟨0, _, O, Nat.zero_le _, rfl, rfl, hO⟩
                case round =>
                  obtain ⟨s, v, O, hsL, rfl, rfl, hbs⟩ := hrel
                  have HBs := hide hbs
                  clear hbs
                  by_cases hst : s < L
                  · have hsi : (s : Int) < (L : Int) := by omega
                    have hZs : s < Z.length := by have := HZ1.out; omega
                    have hdr := zg_drop hZs
                    have HTk := hide (take_at HBs.out.ls 0 (((Z.getD s 0 : Nat) : Int), (0 : Int)) (zg (Z.drop (s + 1))) (by rw [hdr]) (Int.le_refl _) (fun y9 hy9 _ => drop_least HTo.out.sorted hZs y9 hy9) (by unfold zg; rw [List.length_map, List.length_drop]; have := HZ1.out; omega))
                    have HTn : Hid (Z.take (s + 1) = Z.take s ++ [Z.getD s 0]) := by rw [Hid, List.take_succ_eq_append_getElem hZs, List.getD_eq_getElem?_getD, List.getElem?_eq_getElem hZs]; rfl
                    have hpl : (Z.take s).length ≤ 300 := by rw [List.length_take]; omega
                    have HPL := hide hpl
                    clear hdr hpl hO
                    generalize Z.getD s 0 = p9 at *
                    generalize hM9 : zg (Z.drop (s + 1)) = M9 at *
                    have HM9 := hide hM9
                    clear hM9
                    generalize zg (Z.drop s) = M8 at *
                    generalize Z.take s = pre at *
                    obtain ⟨a3, c3, rfl, -⟩ := HBs.out.row.shape
                    go_wp2_with (first
                      | (go_at_call 10; refine HTk.out.mono ?_; rintro e w10 ⟨rfl, O10, m1, m2⟩; have HB10 := hide (HBs.out.turn m1 m2); clear m1 m2)
                      | (at_builtin; refine wpList_append_own_at _ (by rfl) (.tmp 131) (.tmp 133) 34 (by rfl) 0 30 i0 (.int .u32 0) 1 4 Tryd.underlying34 hi hz0 hz1 hz2 rfl (by omega) (.slice a3 pre.length c3) pre.length (pre.map fun (z : Nat) => Value.int .u32 (z : Int)) (by rfl) (World.ownsRow.alloc HB10.out.row _) ⟨w10.heap.size, 0, none⟩ 1 1 [.int .u32 (p9 : Int)] (by rfl) (by rfl) (cell_one_new _ _ _) (fun u hu => by rw [List.mem_singleton.1 hu]; rfl) (by have := HPL.out; unfold maxLen; omega) (by have := HPL.out; omega) (Nat.zero_le _) ?_; intro v4 w11 h1 h2 h3 h4; have J1 := hide h1; have J2 := hide h2; have J4 := hide h4; clear h1 h2 h3 h4))
                    go_roundw
                    case rel =>
                      refine ⟨s + 1, v4, O10, by omega, by go_num, rfl, ?_⟩
                      rw [HTn.out, HM9.out]
                      refine HB10.out.grow ?_ J2.out J4.out
                      have := J1.out
                      unfold OwnW
                      rw [List.length_append, List.map_append, List.length_singleton]
                      exact this
                    case measure => simp [intOf]; omega
                  · obtain rfl : s = L := by omega
                    have hsi : ¬ ((s : Int) < (s : Int)) := by omega
                    have HLn := hide (len_any HBs.out.ls (by unfold zg; rw [List.length_map, List.length_drop]; have := HZ1.out; omega))
                    have hl0 : (zg (Z.drop s)).length = 0 := by unfold zg; rw [List.length_map, List.length_drop]; have := HZ1.out; omega
                    rw [hl0] at HLn
                    have htk : Z.take s = Z := List.take_of_length_le (by have := HZ1.out; omega)
                    have hrow9 := HBs.out.row
                    rw [htk] at hrow9
                    obtain ⟨a3, c3, rfl, -, -, hrw3, -⟩ := hrow9.shape
                    have HSw := hide (fun W (hW : Same wr W) => samew_eq W a3 a5 s c3 c5 Z HZ1.out (by omega) (hrw3.below hW.below) ((HR5.out.below (B7.out.trans (HBs.out.bel.mono B7.out.size))).below hW.below))
                    rw [HZ1.out]
                    have HBz := hide (B1.out.trans ((B5.out.trans ((B7.out.trans (HBs.out.bel.mono B7.out.size)).mono B5.out.size)).mono B1.out.size))
                    clear hl0 htk hrow9 hrw3 hO
                    go_wp2_with (first
                      | (go_at_call 14; refine HLn.out.mono ?_; rintro e w10 ⟨rfl, hs10⟩; have HS10 := hide hs10; clear hs10)
                      | (go_at_call 15; refine (HSw.out _ HS10.out).mono ?_; rintro e w11 ⟨rfl, hs11⟩; have HS11 := hide (HS10.out.trans hs11); clear hs11))
                    go_ret
                    exact ⟨rfl, HBz.out.trans (HS11.out.below.mono HBz.out.size)⟩
end Go.Proofs.YtibhlmnoomboeaaDoor
