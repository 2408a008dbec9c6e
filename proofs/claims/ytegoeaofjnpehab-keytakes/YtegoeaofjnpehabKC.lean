/- The reader of keys: the first value of some bytes. -/
import Derived.Test.YtegoeaofjnpehabXC
namespace Go.Proofs.Ytegoeaofjnpehab
open Go.RowKit
set_option linter.unusedVariables false

theorem FL.er_list : ∀ l : FL, l.er.list = l.list.map (fun x => (x.1, x.2.er))
  | .nil => rfl
  | .cons s v r => by simp [FL.er, FL.list, FL.er_list r]
theorem fitE_er (v : T) : fitE v.er = fitE v := by
  cases v with
  | mk k bo n t ya yc y la lc l fa fc f =>
    have h1 : l.er.list.length = l.list.length := by rw [TL.er_list, List.length_map]
    have h2 : f.er.list.length = f.list.length := by rw [FL.er_list, List.length_map]
    have h3 : f.er.names = f.names := by simp [FL.names, FL.er_list]
    simp only [T.er, fitE, h1, h2, h3]
mutual
theorem T.flat_er : ∀ (v : T) (d : Int), v.er.flat d = (v.flat d).map (fun z => (z.1, z.2.er))
  | .mk k bo n t ya yc y la lc l fa fc f, d => by
    simp only [T.er, T.flat, List.map_cons, List.map_append, TL.flat_er l, FL.flat_er f]
theorem TL.flat_er : ∀ (v : TL) (d : Int), v.er.flat d = (v.flat d).map (fun z => (z.1, z.2.er))
  | .nil, d => rfl
  | .cons u r, d => by simp only [TL.er, TL.flat, List.map_append, T.flat_er u, TL.flat_er r]
theorem FL.flat_er : ∀ (v : FL) (d : Int), v.er.flat d = (v.flat d).map (fun z => (z.1, z.2.er))
  | .nil, d => rfl
  | .cons s u r, d => by simp only [FL.er, FL.flat, List.map_append, T.flat_er u, FL.flat_er r]
end
theorem firstE_er (l : List (Int × T)) : firstE fitE (l.map (fun z => (z.1, z.2.er))) = firstE fitE l := by
  induction l with
  | nil => rfl
  | cons x r ih => simp only [List.map_cons, firstE, fitE_er, ih]
theorem ckE_er (v : T) : ckE v.er = ckE v := by
  have h1 : ((v.flat 1).map (fun z => (z.1, z.2.er))).any (fun x => decide (8 < x.1)) = (v.flat 1).any (fun x => decide (8 < x.1)) := by rw [List.any_map]; rfl
  simp only [ckE, chk, T.flat_er, firstE_er, List.length_map, h1]
mutual
theorem T.wt_er : ∀ v : T, v.er.wt = v.wt
  | .mk k bo n t ya yc y la lc l fa fc f => by simp only [T.er, T.wt, TL.wt_er l, FL.wt_er f]
theorem TL.wt_er : ∀ l : TL, l.er.wt = l.wt
  | .nil => rfl
  | .cons v r => by simp only [TL.er, TL.wt, T.wt_er v, TL.wt_er r]
theorem FL.wt_er : ∀ l : FL, l.er.wt = l.wt
  | .nil => rfl
  | .cons s v r => by simp only [FL.er, FL.wt, T.wt_er v, FL.wt_er r]
end
theorem ck_of_er {v c : T} (h : v.er = c.er) : ckE v = ckE c := by rw [← ckE_er v, h, ckE_er]
theorem wt_of_er {v c : T} (h : v.er = c.er) : v.wt = c.wt := by rw [← T.wt_er v, h, T.wt_er]
set_option maxHeartbeats 3200000 in
set_option maxRecDepth 1000000 in
theorem first_all (d : Bool) (m : Int) (a : Option Addr) (cap : Nat) (bs rest : List Int) (c : T) (w : World) (hrow : Row w a bs) (hby : Byts bs) (hsm : bs.length ≤ 1000000) (hm : 0 ≤ m ∧ m ≤ 255) (hE : bs.map (tn m) = c.enc ++ rest) (hg : c.gk) (hck : ckE c = 0) (hwt : c.wt ≤ 20000) (hsz : c.sz ≤ 512)
    (HT : Hid (∀ W, Calls Try.prog 23 #[.bool d] W fun e w' => e = .returned (.func (.func 36) #[] #[.pointer (some ⟨W.heap.size, 0, none⟩)]) ∧ w' = W.alloc (.cells #[.int .u8 m] 5))) :
    Calls Try.prog 18 #[.slice a bs.length cap, .bool d] w fun e w' => ∃ V, e = .returned (.tuple #[V, .int .i64 (c.enc.length : Int), .bool true]) ∧ Below w.heap.size w w' ∧ Stays w w' V c := by
  obtain ⟨hd1, hd2, hd3, hd4⟩ := gk_head c hg
  have hE0 : (bs.drop 0).map (tn m) = c.enc.headD 0 :: (c.enc.tail ++ rest) := by rw [List.drop_zero, hE, ← List.cons_append, ← hd1]
  obtain ⟨h0, hmk, hE1⟩ := head_at _ _ _ _ _ hE0
  have hne : bs ≠ [] := fun e => by subst e; simp at h0
  have HV : Hid (∀ W p q, Rdr W p a cap bs 1 0 q m → Calls Try.prog 31 #[.pointer (some ⟨p, 0, none⟩), .int .u8 (c.enc.headD 0)] W fun e W' => Val p a cap bs 1 0 q m c W e W') := fun W p q hr => value_all p a cap bs q m c.sz c (Nat.le_refl _) hg W 1 0 rest hr (by omega) hne hE1
  have hlen : 1 + c.enc.tail.length = c.enc.length := by
    have := congrArg List.length hd1
    simp only [List.length_cons] at this
    omega
  have HB0 := hide (Box7.new w (.int .u8 0) (.bool false) (.int .i64 0) (.string ⟨#[]⟩) (.slice none 0 0) (.slice none 0 0) (.slice none 0 0))
  clear hE hE0 hE1 hd1 hg
  generalize c.enc.headD 0 = mark at *
  go_enter Try.func18, Try.ntmps18
  go_wp2_with fail
  refine (HT.out _).mono ?_
  rintro e W1 ⟨rfl, rfl⟩
  have HF1 := hide ((((Fr.refl w).alloc (.cells #[.int .u8 0, .bool false, .int .i64 0, .string ⟨#[]⟩, .slice none 0 0, .slice none 0 0, .slice none 0 0] 32)).alloc (.cells #[.int .u8 m] 5)).alloc (.cells #[.slice a bs.length cap, .int .i64 0, .int .i64 0, .func (.func 36) #[] #[.pointer (some ⟨w.heap.size + 1, 0, none⟩)]] 62))
  have HR1 := hide (Rdr.start w (.cells #[.int .u8 0, .bool false, .int .i64 0, .string ⟨#[]⟩, .slice none 0 0, .slice none 0 0, .slice none 0 0] 32) m a cap bs hrow hby hsm hm h0)
  have HB1 := hide ((HB0.out.below (below_alloc _ (.cells #[.int .u8 m] 5))).below (below_alloc _ (.cells #[.slice a bs.length cap, .int .i64 0, .int .i64 0, .func (.func 36) #[] #[.pointer (some ⟨w.heap.size + 1, 0, none⟩)]] 62)))
  have HMk := hide hmk
  clear hmk hrow HB0
  go_wp2_with fail
  generalize ((w.alloc (.cells #[.int .u8 0, .bool false, .int .i64 0, .string ⟨#[]⟩, .slice none 0 0, .slice none 0 0, .slice none 0 0] 32)).alloc (.cells #[.int .u8 m] 5)).alloc (.cells #[.slice a bs.length cap, .int .i64 0, .int .i64 0, .func (.func 36) #[] #[.pointer (some ⟨w.heap.size + 1, 0, none⟩)]] 62) = X1 at HF1 HR1 HB1 ⊢
  generalize hB : w.heap.size = B at *
  have HBB := hide hB
  clear hB
  refine (next_in (B + 1 + 1) a cap bs 0 0 (B + 1) m X1 HR1.out h0).mono ?_
  rintro e W2 ⟨rfl, hrd, hg⟩
  have HR2 := hide hrd
  have HF2 := hide (HF1.out.grown hg (fun k e => by cases e; omega))
  have HB2 := hide (HB1.out.grown hg (by omega))
  clear hrd hg HB1 HF1 HR1
  rw [HMk.out]
  go_wp2_with fail
  refine (HV.out W2 (B + 1 + 1) (B + 1) HR2.out).mono ?_
  rintro e W3 ⟨V, rfl, hrd, hg, hst⟩
  rw [hlen] at hrd
  have HSt := hide hst
  obtain ⟨v0, hv0, -⟩ := hst W3 (Nat.le_refl _) (fun _ _ _ => rfl)
  have HR3 := hide hrd
  have HF3 := hide (HF2.out.grown hg (fun k e => by cases e; omega))
  have HB3 := hide (HB2.out.grown hg (by omega))
  have hsB : B < W2.heap.size := HB2.out.lt
  clear hrd hg hst HB2 HF2 HR2
  cases v0 with
  | mk vk vbo vn vt vya vyc vy vla vlc vl vfa vfc vf =>
  simp only [T.val] at hv0
  subst hv0
  have HR4 := hide (HR3.out.below (below_alloc W3 (.cells #[.int .u8 vk, .bool vbo, .int .i64 vn, .string vt, .slice vya vy.length vyc, .slice vla vl.list.length vlc, .slice vfa vf.list.length vfc] 32)))
  have HF4 := hide (HF3.out.alloc (.cells #[.int .u8 vk, .bool vbo, .int .i64 vn, .string vt, .slice vya vy.length vyc, .slice vla vl.list.length vlc, .slice vfa vf.list.length vfc] 32))
  have HB4 := hide (HB3.out.below (below_alloc W3 (.cells #[.int .u8 vk, .bool vbo, .int .i64 vn, .string vt, .slice vya vy.length vyc, .slice vla vl.list.length vlc, .slice vfa vf.list.length vfc] 32)))
  have HC4 := hide (Box7.new W3 (.int .u8 vk) (.bool vbo) (.int .i64 vn) (.string vt) (.slice vya vy.length vyc) (.slice vla vl.list.length vlc) (.slice vfa vf.list.length vfc))
  have H34 := hide (below_alloc W3 (.cells #[.int .u8 vk, .bool vbo, .int .i64 vn, .string vt, .slice vya vy.length vyc, .slice vla vl.list.length vlc, .slice vfa vf.list.length vfc] 32))
  have hb1 := HB3.out.lt
  have hb2 := HR3.out.lt
  go_wp2_with fail
  generalize hX4 : W3.alloc (.cells #[.int .u8 vk, .bool vbo, .int .i64 vn, .string vt, .slice vya vy.length vyc, .slice vla vl.list.length vlc, .slice vfa vf.list.length vfc] 32) = X4 at HR4 HF4 HB4 HC4 H34 ⊢
  obtain ⟨x, hx1, hx2, hx3⟩ := HSt.out X4 H34.out.size (fun k _ h => H34.out.block k h)
  have HCk := hide (check_all X4.heap.size x X4 hx2 (Nat.le_refl _) (tame_of x (by rw [wt_of_er hx3]; exact hwt)))
  rw [ck_of_er hx3, hck, hx1] at HCk
  refine HCk.out.mono ?_
  rintro e W5 ⟨rfl, hb⟩
  have HR5 := hide (HR4.out.below hb)
  have HF5 := hide (HF4.out.on hb)
  have HB5 := hide (HB4.out.below hb)
  have HC5 := hide (HC4.out.below hb)
  have H35 : Hid (Below W3.heap.size W3 W5) := H34.out.trans (hb.mono H34.out.size)
  clear hb HR4 HF4 HB4 HC4 HR3 HF3 HB3 hx1 hx2 hx3 HCk hX4
  generalize hW3 : W3.heap.size = c3 at HC5
  obtain ⟨j0, j1, j2, j3, j4, j5, j6⟩ := HC5.out.cells
  obtain ⟨l0, l1, l2, l3, l4, l5, l6⟩ := HB5.out.cells
  have fr := HB5.out.free
  have r1 := HR5.out.c1
  go_wp2
  go_region
  have HBz := hide ((HB5.out.set7 (.int .u8 vk) (.bool vbo) (.int .i64 vn) (.string vt) (.slice vya vy.length vyc) (.slice vla vl.list.length vlc) (.slice vfa vf.list.length vfc)).below (Below.refl _ _).drew)
  have HGz := hide (grown_trans (grown_set7 W5 B (.int .u8 vk) (.bool vbo) (.int .i64 vn) (.string vt) (.slice vya vy.length vyc) (.slice vla vl.list.length vlc) (.slice vfa vf.list.length vfc)) (grown_below (Below.refl _ _).drew))
  have HFz := hide ((HF5.out.grown (grown_set7 W5 B (.int .u8 vk) (.bool vbo) (.int .i64 vn) (.string vt) (.slice vya vy.length vyc) (.slice vla vl.list.length vlc) (.slice vfa vf.list.length vfc)) (fun x e => by cases e; exact Nat.le_refl _)).drew)
  generalize (((((((W5.setCell ⟨B, 0, none⟩ (.int .u8 vk)).setCell ⟨B, 1, none⟩ (.bool vbo)).setCell ⟨B, 2, none⟩ (.int .i64 vn)).setCell ⟨B, 3, none⟩ (.string vt)).setCell ⟨B, 4, none⟩ (.slice vya vy.length vyc)).setCell ⟨B, 5, none⟩ (.slice vla vl.list.length vlc)).setCell ⟨B, 6, none⟩ (.slice vfa vf.list.length vfc)).drew = Z at HBz HGz HFz ⊢
  obtain ⟨z0, z1, z2, z3, z4, z5, z6⟩ := HBz.out.cells
  clear j0 j1 j2 j3 j4 j5 j6 l0 l1 l2 l3 l4 l5 l6 fr r1
  go_wp2
  refine bodyPost_ret (v := .tuple #[.agg #[.int .u8 vk, .bool vbo, .int .i64 vn, .string vt, .slice vya vy.length vyc, .slice vla vl.list.length vlc, .slice vfa vf.list.length vfc], .int .i64 (c.enc.length : Int), .bool true]) ?_ rfl ?_
  · simp [results, Try.results18, go_sem, z0, z1, z2, z3, z4, z5, z6]
  · refine ⟨_, rfl, by rw [HBB.out]; exact HFz.out.below, fun W hs ha => HSt.out W ?_ (fun k k1 k2 => ?_)⟩
    · have s1 := HGz.out.size
      have s2 := H35.out.size
      omega
    · have s1 := HGz.out.size
      have s2 := H35.out.size
      have hB := HBB.out
      rw [ha k (by omega) (by omega), HGz.out.block k (by omega) (fun e => by simp at e; omega), H35.out.block k k2]
end Go.Proofs.Ytegoeaofjnpehab
/- The reader of keys where the bytes are no value's: the next byte, a number, what a text has. -/
namespace Go.Proofs.Ytegoeaofjnpehab
open Go.RowKit
set_option linter.unusedVariables false

set_option maxHeartbeats 1600000 in
set_option maxRecDepth 1000000 in
theorem next_end (p : Nat) (a : Option Addr) (cap : Nat) (bs : List Int) (i n q : Nat) (m : Int) (w : World) (hr : Rdr w p a cap bs i n q m) (hi : i = bs.length) :
    Calls Try.prog 30 #[.pointer (some ⟨p, 0, none⟩)] w fun e w' => e = .returned (.tuple #[.int .u8 0, .bool false]) ∧ Rdr w' p a cap bs i n q m ∧ w.grownBy w' (some p) := by
  have k0 := hr.c0
  have k1 := hr.c1
  have HR := hide hr
  clear hr
  have hd : ((i : Int) == (bs.length : Int)) = true := by simp; omega
  go_enter Try.func30, Try.ntmps30
  go_wp2
  go_quiet (fail)
  go_wp2
  go_ret2
  exact ⟨rfl, HR.out.below (below_drewN (Below.refl _ _) _), grown_below (below_drewN (Below.refl _ _) _)⟩
/-- a number that is cut off. -/
theorem jb_inj : ∀ (k : Nat) (l u : List Int), l.length = k → u.length = k → Byts l → Byts u → jb l = jb u → l = u
  | 0, l, u, h1, h2, _, _, _ => by rw [List.eq_nil_of_length_eq_zero h1, List.eq_nil_of_length_eq_zero h2]
  | k + 1, l, u, h1, h2, b1, b2, e => by
    rcases List.eq_nil_or_concat l with rfl | ⟨l', x, rfl⟩
    · simp at h1
    rcases List.eq_nil_or_concat u with rfl | ⟨u', y, rfl⟩
    · simp at h2
    simp only [List.concat_eq_append] at h1 h2 b1 b2 e ⊢
    rw [jb_snoc, jb_snoc] at e
    have hx := b1 x (by simp)
    have hy := b2 y (by simp)
    have e1 : jb l' = jb u' := by omega
    have e2 : x = y := by omega
    have h := jb_inj k l' u' (by simpa using h1) (by simpa using h2) (fun c hc => b1 c (by simp [hc])) (fun c hc => b2 c (by simp [hc])) e1
    rw [h, e2]
theorem num_of (zs : List Int) (h8 : zs.length = 8) (hb : Byts zs) : ∃ n : Int, (-9223372036854775808 ≤ n ∧ n ≤ 9223372036854775807) ∧ nbs (nX n) 8 = zs := by
  have hl := jb_lt zs hb
  rw [h8] at hl
  have hl2 : jb zs < 18446744073709551616 := hl
  have hr : -9223372036854775808 ≤ ((jb zs : Nat) : Int) - 9223372036854775808 ∧ ((jb zs : Nat) : Int) - 9223372036854775808 ≤ 9223372036854775807 := by omega
  refine ⟨_, hr, ?_⟩
  have h1 := nX_is _ hr
  have h2 := jb_nbs (nX (((jb zs : Nat) : Int) - 9223372036854775808)) (by rw [h1]; omega)
  refine jb_inj 8 _ _ (nbs_len _ _) h8 (nbs_byts _ _) hb ?_
  rw [h2, h1]
  omega
set_option maxHeartbeats 1600000 in
set_option maxRecDepth 1000000 in
theorem number_no (p : Nat) (a : Option Addr) (cap : Nat) (bs : List Int) (i n q : Nat) (m : Int) (w : World) (hr : Rdr w p a cap bs i n q m) (hi : bs.length < i + 8) :
    Calls Try.prog 42 #[.pointer (some ⟨p, 0, none⟩)] w fun e w' => e = .returned (.tuple #[.int .i64 0, .bool false]) ∧ w.grownBy w' (some p) := by
  have HR := hide hr
  clear hr
  go_enter Try.func42, Try.ntmps42
  go_wp2
  go_loopw [4, 7] (fun x s wr => ∃ k : Nat, k ≤ 7 ∧ s = .int .i64 (k : Int) ∧ x = .int .u64 ((jb (((bs.drop i).take k).map (tn m)) : Nat) : Int) ∧ Rdr wr p a cap bs (i + k) n q m ∧ w.grownBy wr (some p)) (fun _ s _ => 8 - (intOf s).toNat)
  case atStart => exact ⟨0, by omega, rfl, by simp [jb], HR.out, grown_refl _ _⟩
  case round =>
    obtain ⟨k, hk, rfl, rfl, hrd, hg⟩ := hrel
    have hle := hrd.le
    have HRd := hide hrd
    have HG := hide hg
    clear hrd hg
    by_cases hlt : i + k < bs.length
    · have HS := hide (take_snoc' bs i k (by omega))
      have hby := tn_bd m (bs.getD (i + k) 0) (HRd.out.byts.at (i + k)) HRd.out.md
      have hjb := jb_lt (((bs.drop i).take k).map (tn m)) (fun c hc => by
        obtain ⟨x, hx, rfl⟩ := List.mem_map.1 hc
        exact tn_bd m x (HRd.out.byts x (List.mem_of_mem_drop (List.mem_of_mem_take hx))) HRd.out.md)
      have hjl : (((bs.drop i).take k).map (tn m)).length ≤ 7 := by simp; omega
      have HJ : Hid (jb (((bs.drop i).take k).map (tn m)) < 256 ^ 7) := Nat.lt_of_lt_of_le hjb (Nat.pow_le_pow_right (by omega) hjl)
      have HSt : Hid (jb (((bs.drop i).take (k + 1)).map (tn m)) = jb (((bs.drop i).take k).map (tn m)) * 256 + (tn m (bs.getD (i + k) 0)).toNat) := by
        rw [HS.out, map_snoc, jb_snoc]
        rfl
      have HOr := hide (or_join _ (tn m (bs.getD (i + k) 0)) HJ.out hby)
      rw [← HSt.out] at HOr
      clear hjb hjl HJ HS
      have hk8 : (k : Int) < 8 := by omega
      go_wp2_with fail
      refine (next_in p a cap bs (i + k) n q m wr HRd.out (by omega)).mono ?_
      rintro e W1 ⟨rfl, hrd1, hg1⟩
      have HR1 := hide hrd1
      have HG1 := hide (grown_trans HG.out hg1)
      clear hrd1 hg1 HG
      generalize tn m (bs.getD (i + k) 0) = c at *
      generalize jb (((bs.drop i).take k).map (tn m)) = A at *
      go_wp2
      go_roundw
      case rel => exact ⟨k + 1, by omega, by go_num, by rw [← HOr.out], HR1.out, HG1.out⟩
      case measure => simp [intOf]; omega
    · have hk8 : (k : Int) < 8 := by omega
      generalize jb (((bs.drop i).take k).map (tn m)) = A at *
      have hpe : i + k = bs.length := by omega
      have HN := hide (next_end p a cap bs (i + k) n q m wr HRd.out hpe)
      clear hpe hle hlt
      go_wp2_with fail
      refine HN.out.mono ?_
      rintro e W1 ⟨rfl, hrd1, hg1⟩
      have HG1 := hide (grown_trans HG.out hg1)
      clear hrd1 hg1 HG
      go_wp2
      go_ret2
      exact ⟨rfl, HG1.out⟩
end Go.Proofs.Ytegoeaofjnpehab
/- The reader of keys: what a text has, where nothing ends it. -/
namespace Go.Proofs.Ytegoeaofjnpehab
open Go.RowKit
set_option linter.unusedVariables false

theorem tail_at (bs : List Int) (m : Int) (i : Nat) (h : i < bs.length) : (bs.drop i).map (tn m) = tn m (bs.getD i 0) :: (bs.drop (i + 1)).map (tn m) := by
  rw [List.drop_eq_getElem_cons h, List.map_cons, List.getD_eq_getElem?_getD, List.getElem?_eq_getElem h]; rfl
set_option maxHeartbeats 3200000 in
set_option maxRecDepth 1000000 in
theorem content_no (p : Nat) (a : Option Addr) (cap : Nat) (bs : List Int) (i n q : Nat) (m : Int) (w : World) (hr : Rdr w p a cap bs i n q m) (hp : Low w.heap.size p q a) (hH : ∀ ys rest, Byts ys → ys.length ≤ 4000 → (bs.drop i).map (tn m) ≠ esc ys ++ 0 :: 1 :: rest) :
    Calls Try.prog 43 #[.pointer (some ⟨p, 0, none⟩)] w fun e w' => e = .returned (.tuple #[.slice none 0 0, .bool false]) ∧ w.grownBy w' (some p) := by
  obtain ⟨i0, hi, hz0, hz1, hz2⟩ := info_parts Try.info5
  have HLo := hide hp
  have HR := hide hr
  have HH := hide hH
  clear hr hp hH
  generalize hB : w.heap.size = B at *
  have HBB := hide hB
  clear hB
  go_enter Try.func43, Try.ntmps43
  go_wp2
  go_loopw [4] (fun o wr => ∃ ys : List Int, ys.length ≤ 4001 ∧ Byts ys ∧ OwnB B wr o ys ∧ Rdr wr p a cap bs (i + (esc ys).length) n q m ∧ Hid ((bs.drop i).map (tn m) = esc ys ++ (bs.drop (i + (esc ys).length)).map (tn m)) ∧ w.grownBy wr (some p)) (fun o _ => 4002 - lenV o)
  case atStart => exact ⟨[], by simp, by intro c hc; simp at hc, ⟨Own.nil _, fun k h => by simp [Value.ownBlock] at h⟩, by simpa [esc] using HR.out, by simp [esc, Hid], grown_refl _ _⟩
  case round =>
    obtain ⟨ys, hk, hyb, hown, hrd, hdr, hg⟩ := hrel
    obtain ⟨a1, n1, c1, rfl, HN1⟩ := hown.own.shape2
    have hn1 : n1 = ys.length := HN1.out
    subst hn1
    have HO := hide hown
    have HRd := hide hrd
    have HG := hide hg
    have HDr := hdr
    have HYb := hide hyb
    have hle := hrd.le
    clear hown hrd hg hdr HR HN1 hyb
    by_cases h4 : ys.length ≤ 4000
    · have hdl : decide ((ys.length : Int) ≤ 4000) = true := by simp; omega
      by_cases hlt : i + (esc ys).length < bs.length
      · have HAt := hide (tail_at bs m _ hlt)
        have hby := tn_bd m (bs.getD (i + (esc ys).length) 0) (HRd.out.byts.at _) HRd.out.md
        have HNx := hide (next_in p a cap bs _ n q m wr HRd.out hlt)
        by_cases hc0 : tn m (bs.getD (i + (esc ys).length) 0) = 0
        · rw [hc0] at HAt HNx
          clear hby hc0
          go_wp2_with fail
          refine HNx.out.mono ?_
          rintro e W1 ⟨rfl, hrd1, hg1⟩
          have HR1 := hide hrd1
          have HG1 := hide (grown_trans HG.out hg1)
          have HO1 := hide (HO.out.grown hg1 HLo.out.p)
          have hle1 := hrd1.le
          clear hrd1 hg1 HG HO HNx
          by_cases hlt2 : i + (esc ys).length + 1 < bs.length
          · have HAt2 := hide (tail_at bs m _ hlt2)
            have hby2 := tn_bd m (bs.getD (i + (esc ys).length + 1) 0) (HR1.out.byts.at _) HR1.out.md
            have HNx2 := hide (next_in p a cap bs _ n q m W1 HR1.out hlt2)
            have hne1 : tn m (bs.getD (i + (esc ys).length + 1) 0) ≠ 1 := fun e1 => by
              have h1 := HDr.out
              rw [HAt.out, HAt2.out, e1] at h1
              exact HH.out ys _ HYb.out h4 h1
            by_cases h255 : tn m (bs.getD (i + (esc ys).length + 1) 0) = 255
            · rw [h255] at HAt2 HNx2
              clear hby2 hne1 h255
              go_wp2_with fail
              refine HNx2.out.mono ?_
              rintro e W2 ⟨rfl, hrd2, hg2⟩
              have HR2 := hide hrd2
              have HG2 := hide (grown_trans HG1.out hg2)
              have HO2 := hide (HO1.out.grown hg2 HLo.out.p)
              clear hrd2 hg2 HG1 HO1 HR1 HNx2
              go_wp2_with (at_builtin; refine wpList_append_src (by rfl) (.tmp 38) (.tmp 40) 22 22 (by rfl) i0 Try.underlying22 hi hz0 hz1 hz2 (.slice a1 ys.length c1) ys (by rfl) (HO2.out.own.alloc _) (.slice (some ⟨W2.heap.size, 0, none⟩) 1 1) 1 [0] (by rfl) (src_one _ _) (by omega) ?_; intro v' w1 hown1 hg1 hf1; obtain ⟨a3, n3, c3, rfl, HN3⟩ := hown1.shape2; have HGa := hide hg1; have HFa := hide hf1; have HOa := hide hown1; clear hown1 hg1 hf1)
              have HCl := hide (app_close HBB.out HLo.out HR2.out HG2.out HO2.out HOa.out HGa.out HFa.out)
              have hes : esc (ys ++ [0]) = esc ys ++ [0, 255] := by rw [esc_snoc]; rfl
              have hlen : i + (esc (ys ++ [0])).length = i + (esc ys).length + 1 + 1 := by rw [hes]; simp; omega
              have hn3 : n3 = ys.length + 1 := by rw [HN3.out]; simp
              go_roundw
              case rel => exact ⟨ys ++ [0], by simp; omega, fun c hc => by
                  rcases List.mem_append.1 hc with h | h
                  · exact HYb.out c h
                  · simp at h; omega, HCl.out.1, by rw [hlen]; exact HCl.out.2.1, by rw [Hid, hlen, hes, HDr.out, HAt.out, HAt2.out]; simp, HCl.out.2.2⟩
              case measure => simp [lenV]; omega
            · have e1 : (tn m (bs.getD (i + (esc ys).length + 1) 0) == 1) = false := by simpa using hne1
              have e2 : (tn m (bs.getD (i + (esc ys).length + 1) 0) != 255) = true := by simpa using h255
              generalize tn m (bs.getD (i + (esc ys).length + 1) 0) = sg at *
              clear hne1 h255 hby2
              go_wp2_with fail
              refine HNx2.out.mono ?_
              rintro e W2 ⟨rfl, hrd2, hg2⟩
              have HG2 := hide (grown_trans HG1.out hg2)
              clear hrd2 hg2 HG1 HO1 HR1 HNx2
              go_wp2
              go_ret2
              exact ⟨rfl, HG2.out⟩
          · have HNx2 := hide (next_end p a cap bs _ n q m W1 HR1.out (by omega))
            clear hlt2
            go_wp2_with fail
            refine HNx2.out.mono ?_
            rintro e W2 ⟨rfl, hrd2, hg2⟩
            have HG2 := hide (grown_trans HG1.out hg2)
            clear hrd2 hg2 HG1 HO1 HR1 HNx2
            go_wp2
            go_ret2
            exact ⟨rfl, HG2.out⟩
        · have hcb : (tn m (bs.getD (i + (esc ys).length) 0) == 0) = false := by simp only [beq_eq_false_iff_ne]; exact hc0
          have HBy := hide hby
          have HC0 := hide hc0
          generalize tn m (bs.getD (i + (esc ys).length) 0) = c at *
          clear hby hc0
          go_wp2_with fail
          refine HNx.out.mono ?_
          rintro e W1 ⟨rfl, hrd1, hg1⟩
          have HR1 := hide hrd1
          have HG1 := hide (grown_trans HG.out hg1)
          have HO1 := hide (HO.out.grown hg1 HLo.out.p)
          clear hrd1 hg1 HG HO HNx
          go_wp2_with (at_builtin; refine wpList_append_src (by rfl) (.tmp 38) (.tmp 40) 22 22 (by rfl) i0 Try.underlying22 hi hz0 hz1 hz2 (.slice a1 ys.length c1) ys (by rfl) (HO1.out.own.alloc _) (.slice (some ⟨W1.heap.size, 0, none⟩) 1 1) 1 [c] (by rfl) (src_one _ _) (by omega) ?_; intro v' w1 hown1 hg1 hf1; obtain ⟨a3, n3, c3, rfl, HN3⟩ := hown1.shape2; have HGa := hide hg1; have HFa := hide hf1; have HOa := hide hown1; clear hown1 hg1 hf1)
          have HCl := hide (app_close HBB.out HLo.out HR1.out HG1.out HO1.out HOa.out HGa.out HFa.out)
          have hes : esc (ys ++ [c]) = esc ys ++ [c] := by rw [esc_snoc, if_neg HC0.out]
          have hlen : i + (esc (ys ++ [c])).length = i + (esc ys).length + 1 := by rw [hes]; simp; omega
          have hn3 : n3 = ys.length + 1 := by rw [HN3.out]; simp
          go_roundw
          case rel => exact ⟨ys ++ [c], by simp; omega, fun x hc => by
              rcases List.mem_append.1 hc with h | h
              · exact HYb.out x h
              · simp at h; rw [h]; exact HBy.out, HCl.out.1, by rw [hlen]; exact HCl.out.2.1, by rw [Hid, hlen, hes, HDr.out, HAt.out]; simp, HCl.out.2.2⟩
          case measure => simp [lenV]; omega
      · have HNx := hide (next_end p a cap bs _ n q m wr HRd.out (by omega))
        clear hlt
        go_wp2_with fail
        refine HNx.out.mono ?_
        rintro e W1 ⟨rfl, hrd1, hg1⟩
        have HG1 := hide (grown_trans HG.out hg1)
        clear hrd1 hg1 HG HO HNx
        go_wp2
        go_ret2
        exact ⟨rfl, HG1.out⟩
    · have hdl : decide ((ys.length : Int) ≤ 4000) = false := by simp; omega
      go_wp2
      go_ret2
      exact ⟨rfl, HG.out⟩
end Go.Proofs.Ytegoeaofjnpehab
/- The reader of keys: a value, where the bytes are none's. -/
namespace Go.Proofs.Ytegoeaofjnpehab
open Go.RowKit
set_option linter.unusedVariables false

/-- a value that was not read. -/
def NoV (p : Nat) (w : World) (e : Ending) (w' : World) : Prop := ∃ k : Int, e = .returned (.tuple #[.agg #[.int .u8 k, .bool false, .int .i64 0, .string ⟨#[]⟩, .slice none 0 0, .slice none 0 0, .slice none 0 0], .bool false]) ∧ w.grownBy w' (some p)
set_option maxHeartbeats 3200000 in
set_option maxRecDepth 1000000 in
theorem value_many (p : Nat) (a : Option Addr) (cap : Nat) (bs : List Int) (i n q : Nat) (m mk : Int) (w : World) (hr : Rdr w p a cap bs i n q m) (hn : ¬ n < 512) (hn2 : n < 1000000) :
    Calls Try.prog 31 #[.pointer (some ⟨p, 0, none⟩), .int .u8 mk] w fun e w' => NoV p w e w' := by
  have hpb := hr.lt
  have hpne : w.heap.size ≠ p := by omega
  have k2 := hr.c2
  have f2 := hr.f 2
  have HRy := hide (hr.setParts (n + 1) (by omega))
  have HGy := hide (grown_setCell w p 2 (.int .i64 ((n + 1 : Nat) : Int)))
  have k3 := HRy.out.c2
  rw [show ((n + 1 : Nat) : Int) = (n : Int) + 1 by omega] at k3 HRy HGy
  clear hr
  have hd : (512 : Int) < (n : Int) + 1 := by omega
  go_enter Try.func31, Try.ntmps31
  go_wp2
  refine bodyPost_ret (v := .tuple #[.agg #[.int .u8 0, .bool false, .int .i64 0, .string ⟨#[]⟩, .slice none 0 0, .slice none 0 0, .slice none 0 0], .bool false]) ?_ rfl ?_
  · simp [results, Try.results31, go_sem]
  · exact ⟨0, rfl, grown_trans HGy.out (grown_below (below_alloc _ _))⟩
set_option maxHeartbeats 3200000 in
set_option maxRecDepth 1000000 in
theorem value_mark (p : Nat) (a : Option Addr) (cap : Nat) (bs : List Int) (i n q : Nat) (m mk : Int) (w : World) (hr : Rdr w p a cap bs i n q m) (hn : n < 512) (h1 : mk ≠ 16) (h2 : mk ≠ 32) (h3 : mk ≠ 33) (h4 : mk ≠ 48) (h5 : mk ≠ 64) (h6 : mk ≠ 80) (h7 : mk ≠ 96) :
    Calls Try.prog 31 #[.pointer (some ⟨p, 0, none⟩), .int .u8 mk] w fun e w' => NoV p w e w' := by
  have hpb := hr.lt
  have hpne : w.heap.size ≠ p := by omega
  have k2 := hr.c2
  have f2 := hr.f 2
  have HRy := hide (hr.setParts (n + 1) (by omega))
  have HGy := hide (grown_setCell w p 2 (.int .i64 ((n + 1 : Nat) : Int)))
  have k3 := HRy.out.c2
  rw [show ((n + 1 : Nat) : Int) = (n : Int) + 1 by omega] at k3 HRy HGy
  clear hr
  have d1 : (mk == 16) = false := by simpa using h1
  have d2 : (mk == 32) = false := by simpa using h2
  have d3 : (mk == 33) = false := by simpa using h3
  have d4 : (mk == 48) = false := by simpa using h4
  have d5 : (mk == 64) = false := by simpa using h5
  have d6 : (mk == 80) = false := by simpa using h6
  have d7 : (mk == 96) = false := by simpa using h7
  clear h1 h2 h3 h4 h5 h6 h7
  go_enter Try.func31, Try.ntmps31
  go_wp2
  refine bodyPost_ret (v := .tuple #[.agg #[.int .u8 0, .bool false, .int .i64 0, .string ⟨#[]⟩, .slice none 0 0, .slice none 0 0, .slice none 0 0], .bool false]) ?_ rfl ?_
  · simp [results, Try.results31, go_sem]
  · exact ⟨0, rfl, grown_trans HGy.out (grown_below (below_alloc _ _))⟩
set_option maxHeartbeats 3200000 in
set_option maxRecDepth 1000000 in
theorem value_nonum (p : Nat) (a : Option Addr) (cap : Nat) (bs : List Int) (i n q : Nat) (m : Int) (w : World) (hr : Rdr w p a cap bs i n q m) (hlo : Low w.heap.size p q a) (hn : n < 512) (hE : bs.length < i + 8) :
    Calls Try.prog 31 #[.pointer (some ⟨p, 0, none⟩), .int .u8 48] w fun e w' => NoV p w e w' := by
  have hpb := hr.lt
  have hpne : w.heap.size ≠ p := by omega
  have k2 := hr.c2
  have f2 := hr.f 2
  have HRy := hide (hr.setParts (n + 1) (by omega))
  have HGy := hide (grown_setCell w p 2 (.int .i64 ((n + 1 : Nat) : Int)))
  have k3 := HRy.out.c2
  rw [show ((n + 1 : Nat) : Int) = (n : Int) + 1 by omega] at k3 HRy HGy
  have HSz : Hid ((w.setCell ⟨p, 2, none⟩ (.int .i64 ((n : Int) + 1))).heap.size = w.heap.size) := by simp [World.setCell, Hid]
  have HB1 := hide (Box7.new (w.setCell ⟨p, 2, none⟩ (.int .i64 ((n : Int) + 1))) (.int .u8 0) (.bool false) (.int .i64 0) (.string ⟨#[]⟩) (.slice none 0 0) (.slice none 0 0) (.slice none 0 0))
  rw [HSz.out] at HB1
  have HR1 := hide (HRy.out.below (below_alloc _ (.cells #[.int .u8 0, .bool false, .int .i64 0, .string ⟨#[]⟩, .slice none 0 0, .slice none 0 0, .slice none 0 0] 32)))
  have HG1 : Hid (w.grownBy ((w.setCell ⟨p, 2, none⟩ (.int .i64 ((n : Int) + 1))).alloc (.cells #[.int .u8 0, .bool false, .int .i64 0, .string ⟨#[]⟩, .slice none 0 0, .slice none 0 0, .slice none 0 0] 32)) (some p)) := grown_trans HGy.out (grown_below (below_alloc _ _))
  have HS1 : Hid (((w.setCell ⟨p, 2, none⟩ (.int .i64 ((n : Int) + 1))).alloc (.cells #[.int .u8 0, .bool false, .int .i64 0, .string ⟨#[]⟩, .slice none 0 0, .slice none 0 0, .slice none 0 0] 32)).heap.size = w.heap.size + 1) := by simp [World.setCell, Hid]
  have HLo1 : Hid (Low ((w.setCell ⟨p, 2, none⟩ (.int .i64 ((n : Int) + 1))).alloc (.cells #[.int .u8 0, .bool false, .int .i64 0, .string ⟨#[]⟩, .slice none 0 0, .slice none 0 0, .slice none 0 0] 32)).heap.size p q a) := by rw [HS1.out]; exact ⟨by have := hlo.p; omega, by have := hlo.q; omega, fun ad e => by have := hlo.a ad e; omega⟩
  have HE := hide hE
  clear hr hlo
  go_enter Try.func31, Try.ntmps31
  go_wp2_with fail
  clear k2 f2 k3
  generalize (w.setCell ⟨p, 2, none⟩ (.int .i64 ((n : Int) + 1))).alloc (.cells #[.int .u8 0, .bool false, .int .i64 0, .string ⟨#[]⟩, .slice none 0 0, .slice none 0 0, .slice none 0 0] 32) = X1 at HR1 HG1 HS1 HB1 HLo1 ⊢
  refine (number_no p a cap bs i (n + 1) q m X1 HR1.out HE.out).mono ?_
  rintro e W1 ⟨rfl, hg⟩
  have HG2 := hide (grown_trans HG1.out hg)
  have HB2 := hide (HB1.out.grown hg hpne)
  skip
  obtain ⟨j0, j1, j2, j3, j4, j5, j6⟩ := HB2.out.cells
  have fr := HB2.out.free
  clear hg
  go_wp2
  have HBz := hide (HB2.out.set7 (.int .u8 3) (.bool false) (.int .i64 0) (.string ⟨#[]⟩) (.slice none 0 0) (.slice none 0 0) (.slice none 0 0))
  have HGz := hide (grown_set7 W1 w.heap.size (.int .u8 3) (.bool false) (.int .i64 0) (.string ⟨#[]⟩) (.slice none 0 0) (.slice none 0 0) (.slice none 0 0))
  refine bodyPost_ret (v := .tuple #[.agg #[.int .u8 3, .bool false, .int .i64 0, .string ⟨#[]⟩, .slice none 0 0, .slice none 0 0, .slice none 0 0], .bool false]) ?_ rfl ?_
  · obtain ⟨z0, z1, z2, z3, z4, z5, z6⟩ := HBz.out.cells
    skip
    simp [results, Try.results31, go_sem, z0, z1, z2, z3, z4, z5, z6]
  · exact ⟨3, rfl, grown_new HG2.out HGz.out (fun k e => by cases e; exact Nat.le_refl _)⟩
set_option maxHeartbeats 3200000 in
set_option maxRecDepth 1000000 in
theorem value_notext (p : Nat) (a : Option Addr) (cap : Nat) (bs : List Int) (i n q : Nat) (m : Int) (w : World) (hr : Rdr w p a cap bs i n q m) (hlo : Low w.heap.size p q a) (hn : n < 512) (hH : ∀ ys rest, Byts ys → ys.length ≤ 4000 → (bs.drop i).map (tn m) ≠ esc ys ++ 0 :: 1 :: rest) :
    Calls Try.prog 31 #[.pointer (some ⟨p, 0, none⟩), .int .u8 64] w fun e w' => NoV p w e w' := by
  have hpb := hr.lt
  have hpne : w.heap.size ≠ p := by omega
  have k2 := hr.c2
  have f2 := hr.f 2
  have HRy := hide (hr.setParts (n + 1) (by omega))
  have HGy := hide (grown_setCell w p 2 (.int .i64 ((n + 1 : Nat) : Int)))
  have k3 := HRy.out.c2
  rw [show ((n + 1 : Nat) : Int) = (n : Int) + 1 by omega] at k3 HRy HGy
  have HSz : Hid ((w.setCell ⟨p, 2, none⟩ (.int .i64 ((n : Int) + 1))).heap.size = w.heap.size) := by simp [World.setCell, Hid]
  have HB1 := hide (Box7.new (w.setCell ⟨p, 2, none⟩ (.int .i64 ((n : Int) + 1))) (.int .u8 0) (.bool false) (.int .i64 0) (.string ⟨#[]⟩) (.slice none 0 0) (.slice none 0 0) (.slice none 0 0))
  rw [HSz.out] at HB1
  have HR1 := hide (HRy.out.below (below_alloc _ (.cells #[.int .u8 0, .bool false, .int .i64 0, .string ⟨#[]⟩, .slice none 0 0, .slice none 0 0, .slice none 0 0] 32)))
  have HG1 : Hid (w.grownBy ((w.setCell ⟨p, 2, none⟩ (.int .i64 ((n : Int) + 1))).alloc (.cells #[.int .u8 0, .bool false, .int .i64 0, .string ⟨#[]⟩, .slice none 0 0, .slice none 0 0, .slice none 0 0] 32)) (some p)) := grown_trans HGy.out (grown_below (below_alloc _ _))
  have HS1 : Hid (((w.setCell ⟨p, 2, none⟩ (.int .i64 ((n : Int) + 1))).alloc (.cells #[.int .u8 0, .bool false, .int .i64 0, .string ⟨#[]⟩, .slice none 0 0, .slice none 0 0, .slice none 0 0] 32)).heap.size = w.heap.size + 1) := by simp [World.setCell, Hid]
  have HLo1 : Hid (Low ((w.setCell ⟨p, 2, none⟩ (.int .i64 ((n : Int) + 1))).alloc (.cells #[.int .u8 0, .bool false, .int .i64 0, .string ⟨#[]⟩, .slice none 0 0, .slice none 0 0, .slice none 0 0] 32)).heap.size p q a) := by rw [HS1.out]; exact ⟨by have := hlo.p; omega, by have := hlo.q; omega, fun ad e => by have := hlo.a ad e; omega⟩
  have HE := hide hH
  clear hr hlo
  go_enter Try.func31, Try.ntmps31
  go_wp2_with fail
  clear k2 f2 k3
  generalize (w.setCell ⟨p, 2, none⟩ (.int .i64 ((n : Int) + 1))).alloc (.cells #[.int .u8 0, .bool false, .int .i64 0, .string ⟨#[]⟩, .slice none 0 0, .slice none 0 0, .slice none 0 0] 32) = X1 at HR1 HG1 HS1 HB1 HLo1 ⊢
  refine (content_no p a cap bs i (n + 1) q m X1 HR1.out HLo1.out HE.out).mono ?_
  rintro e W1 ⟨rfl, hg⟩
  have HG2 := hide (grown_trans HG1.out hg)
  have HB2 := hide (HB1.out.grown hg hpne)
  have hcv := run_text W1 none 0 0 [] rfl (fun _ => ⟨rfl, rfl⟩) (.inl rfl) (fun c hc => by simp at hc)
  obtain ⟨j0, j1, j2, j3, j4, j5, j6⟩ := HB2.out.cells
  have fr := HB2.out.free
  clear hg
  go_wp2
  have HBz := hide (HB2.out.set7 (.int .u8 4) (.bool false) (.int .i64 0) (.string (bk [])) (.slice none 0 0) (.slice none 0 0) (.slice none 0 0))
  have HGz := hide (grown_set7 W1 w.heap.size (.int .u8 4) (.bool false) (.int .i64 0) (.string (bk [])) (.slice none 0 0) (.slice none 0 0) (.slice none 0 0))
  refine bodyPost_ret (v := .tuple #[.agg #[.int .u8 4, .bool false, .int .i64 0, .string ⟨#[]⟩, .slice none 0 0, .slice none 0 0, .slice none 0 0], .bool false]) ?_ rfl ?_
  · obtain ⟨z0, z1, z2, z3, z4, z5, z6⟩ := HBz.out.cells
    simp only [show bk [] = (⟨#[]⟩ : ByteArray) from rfl] at z0 z1 z2 z3 z4 z5 z6 ⊢
    simp [results, Try.results31, go_sem, z0, z1, z2, z3, z4, z5, z6]
  · exact ⟨4, rfl, grown_new HG2.out HGz.out (fun k e => by cases e; exact Nat.le_refl _)⟩
set_option maxHeartbeats 3200000 in
set_option maxRecDepth 1000000 in
theorem value_nobytes (p : Nat) (a : Option Addr) (cap : Nat) (bs : List Int) (i n q : Nat) (m : Int) (w : World) (hr : Rdr w p a cap bs i n q m) (hlo : Low w.heap.size p q a) (hn : n < 512) (hH : ∀ ys rest, Byts ys → ys.length ≤ 4000 → (bs.drop i).map (tn m) ≠ esc ys ++ 0 :: 1 :: rest) :
    Calls Try.prog 31 #[.pointer (some ⟨p, 0, none⟩), .int .u8 80] w fun e w' => NoV p w e w' := by
  have hpb := hr.lt
  have hpne : w.heap.size ≠ p := by omega
  have k2 := hr.c2
  have f2 := hr.f 2
  have HRy := hide (hr.setParts (n + 1) (by omega))
  have HGy := hide (grown_setCell w p 2 (.int .i64 ((n + 1 : Nat) : Int)))
  have k3 := HRy.out.c2
  rw [show ((n + 1 : Nat) : Int) = (n : Int) + 1 by omega] at k3 HRy HGy
  have HSz : Hid ((w.setCell ⟨p, 2, none⟩ (.int .i64 ((n : Int) + 1))).heap.size = w.heap.size) := by simp [World.setCell, Hid]
  have HB1 := hide (Box7.new (w.setCell ⟨p, 2, none⟩ (.int .i64 ((n : Int) + 1))) (.int .u8 0) (.bool false) (.int .i64 0) (.string ⟨#[]⟩) (.slice none 0 0) (.slice none 0 0) (.slice none 0 0))
  rw [HSz.out] at HB1
  have HR1 := hide (HRy.out.below (below_alloc _ (.cells #[.int .u8 0, .bool false, .int .i64 0, .string ⟨#[]⟩, .slice none 0 0, .slice none 0 0, .slice none 0 0] 32)))
  have HG1 : Hid (w.grownBy ((w.setCell ⟨p, 2, none⟩ (.int .i64 ((n : Int) + 1))).alloc (.cells #[.int .u8 0, .bool false, .int .i64 0, .string ⟨#[]⟩, .slice none 0 0, .slice none 0 0, .slice none 0 0] 32)) (some p)) := grown_trans HGy.out (grown_below (below_alloc _ _))
  have HS1 : Hid (((w.setCell ⟨p, 2, none⟩ (.int .i64 ((n : Int) + 1))).alloc (.cells #[.int .u8 0, .bool false, .int .i64 0, .string ⟨#[]⟩, .slice none 0 0, .slice none 0 0, .slice none 0 0] 32)).heap.size = w.heap.size + 1) := by simp [World.setCell, Hid]
  have HLo1 : Hid (Low ((w.setCell ⟨p, 2, none⟩ (.int .i64 ((n : Int) + 1))).alloc (.cells #[.int .u8 0, .bool false, .int .i64 0, .string ⟨#[]⟩, .slice none 0 0, .slice none 0 0, .slice none 0 0] 32)).heap.size p q a) := by rw [HS1.out]; exact ⟨by have := hlo.p; omega, by have := hlo.q; omega, fun ad e => by have := hlo.a ad e; omega⟩
  have HE := hide hH
  clear hr hlo
  go_enter Try.func31, Try.ntmps31
  go_wp2_with fail
  clear k2 f2 k3
  generalize (w.setCell ⟨p, 2, none⟩ (.int .i64 ((n : Int) + 1))).alloc (.cells #[.int .u8 0, .bool false, .int .i64 0, .string ⟨#[]⟩, .slice none 0 0, .slice none 0 0, .slice none 0 0] 32) = X1 at HR1 HG1 HS1 HB1 HLo1 ⊢
  refine (content_no p a cap bs i (n + 1) q m X1 HR1.out HLo1.out HE.out).mono ?_
  rintro e W1 ⟨rfl, hg⟩
  have HG2 := hide (grown_trans HG1.out hg)
  have HB2 := hide (HB1.out.grown hg hpne)
  skip
  obtain ⟨j0, j1, j2, j3, j4, j5, j6⟩ := HB2.out.cells
  have fr := HB2.out.free
  clear hg
  go_wp2
  have HBz := hide (HB2.out.set7 (.int .u8 5) (.bool false) (.int .i64 0) (.string ⟨#[]⟩) (.slice none 0 0) (.slice none 0 0) (.slice none 0 0))
  have HGz := hide (grown_set7 W1 w.heap.size (.int .u8 5) (.bool false) (.int .i64 0) (.string ⟨#[]⟩) (.slice none 0 0) (.slice none 0 0) (.slice none 0 0))
  refine bodyPost_ret (v := .tuple #[.agg #[.int .u8 5, .bool false, .int .i64 0, .string ⟨#[]⟩, .slice none 0 0, .slice none 0 0, .slice none 0 0], .bool false]) ?_ rfl ?_
  · obtain ⟨z0, z1, z2, z3, z4, z5, z6⟩ := HBz.out.cells
    skip
    simp [results, Try.results31, go_sem, z0, z1, z2, z3, z4, z5, z6]
  · exact ⟨5, rfl, grown_new HG2.out HGz.out (fun k e => by cases e; exact Nat.le_refl _)⟩
set_option maxHeartbeats 3200000 in
set_option maxRecDepth 1000000 in
theorem value_nolist (p : Nat) (a : Option Addr) (cap : Nat) (bs : List Int) (i n q : Nat) (m : Int) (w : World) (hr : Rdr w p a cap bs i n q m) (hlo : Low w.heap.size p q a) (hn : n < 512) (hL : ∀ W : World, Rdr W p a cap bs i (n + 1) q m → Low W.heap.size p q a → Calls Try.prog 44 #[.pointer (some ⟨p, 0, none⟩)] W fun e w' => e = .returned (.tuple #[.slice none 0 0, .bool false]) ∧ W.grownBy w' (some p)) :
    Calls Try.prog 31 #[.pointer (some ⟨p, 0, none⟩), .int .u8 96] w fun e w' => NoV p w e w' := by
  have hpb := hr.lt
  have hpne : w.heap.size ≠ p := by omega
  have k2 := hr.c2
  have f2 := hr.f 2
  have HRy := hide (hr.setParts (n + 1) (by omega))
  have HGy := hide (grown_setCell w p 2 (.int .i64 ((n + 1 : Nat) : Int)))
  have k3 := HRy.out.c2
  rw [show ((n + 1 : Nat) : Int) = (n : Int) + 1 by omega] at k3 HRy HGy
  have HSz : Hid ((w.setCell ⟨p, 2, none⟩ (.int .i64 ((n : Int) + 1))).heap.size = w.heap.size) := by simp [World.setCell, Hid]
  have HB1 := hide (Box7.new (w.setCell ⟨p, 2, none⟩ (.int .i64 ((n : Int) + 1))) (.int .u8 0) (.bool false) (.int .i64 0) (.string ⟨#[]⟩) (.slice none 0 0) (.slice none 0 0) (.slice none 0 0))
  rw [HSz.out] at HB1
  have HR1 := hide (HRy.out.below (below_alloc _ (.cells #[.int .u8 0, .bool false, .int .i64 0, .string ⟨#[]⟩, .slice none 0 0, .slice none 0 0, .slice none 0 0] 32)))
  have HG1 : Hid (w.grownBy ((w.setCell ⟨p, 2, none⟩ (.int .i64 ((n : Int) + 1))).alloc (.cells #[.int .u8 0, .bool false, .int .i64 0, .string ⟨#[]⟩, .slice none 0 0, .slice none 0 0, .slice none 0 0] 32)) (some p)) := grown_trans HGy.out (grown_below (below_alloc _ _))
  have HS1 : Hid (((w.setCell ⟨p, 2, none⟩ (.int .i64 ((n : Int) + 1))).alloc (.cells #[.int .u8 0, .bool false, .int .i64 0, .string ⟨#[]⟩, .slice none 0 0, .slice none 0 0, .slice none 0 0] 32)).heap.size = w.heap.size + 1) := by simp [World.setCell, Hid]
  have HLo1 : Hid (Low ((w.setCell ⟨p, 2, none⟩ (.int .i64 ((n : Int) + 1))).alloc (.cells #[.int .u8 0, .bool false, .int .i64 0, .string ⟨#[]⟩, .slice none 0 0, .slice none 0 0, .slice none 0 0] 32)).heap.size p q a) := by rw [HS1.out]; exact ⟨by have := hlo.p; omega, by have := hlo.q; omega, fun ad e => by have := hlo.a ad e; omega⟩
  have HE := hide hL
  clear hr hlo
  go_enter Try.func31, Try.ntmps31
  go_wp2_with fail
  clear k2 f2 k3
  generalize (w.setCell ⟨p, 2, none⟩ (.int .i64 ((n : Int) + 1))).alloc (.cells #[.int .u8 0, .bool false, .int .i64 0, .string ⟨#[]⟩, .slice none 0 0, .slice none 0 0, .slice none 0 0] 32) = X1 at HR1 HG1 HS1 HB1 HLo1 ⊢
  refine (HE.out X1 HR1.out HLo1.out).mono ?_
  rintro e W1 ⟨rfl, hg⟩
  have HG2 := hide (grown_trans HG1.out hg)
  have HB2 := hide (HB1.out.grown hg hpne)
  skip
  obtain ⟨j0, j1, j2, j3, j4, j5, j6⟩ := HB2.out.cells
  have fr := HB2.out.free
  clear hg
  go_wp2
  have HBz := hide (HB2.out.set7 (.int .u8 6) (.bool false) (.int .i64 0) (.string ⟨#[]⟩) (.slice none 0 0) (.slice none 0 0) (.slice none 0 0))
  have HGz := hide (grown_set7 W1 w.heap.size (.int .u8 6) (.bool false) (.int .i64 0) (.string ⟨#[]⟩) (.slice none 0 0) (.slice none 0 0) (.slice none 0 0))
  refine bodyPost_ret (v := .tuple #[.agg #[.int .u8 6, .bool false, .int .i64 0, .string ⟨#[]⟩, .slice none 0 0, .slice none 0 0, .slice none 0 0], .bool false]) ?_ rfl ?_
  · obtain ⟨z0, z1, z2, z3, z4, z5, z6⟩ := HBz.out.cells
    skip
    simp [results, Try.results31, go_sem, z0, z1, z2, z3, z4, z5, z6]
  · exact ⟨6, rfl, grown_new HG2.out HGz.out (fun k e => by cases e; exact Nat.le_refl _)⟩
end Go.Proofs.Ytegoeaofjnpehab
