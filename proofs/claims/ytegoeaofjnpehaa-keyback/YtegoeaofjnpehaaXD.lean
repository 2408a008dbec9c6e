/- The reader of keys: the first value of some bytes. -/
import Derived.Test.YtegoeaofjnpehaaXC
namespace Go.Proofs.Ytegoeaofjnpehaa
open Go.RowKit
set_option linter.unusedVariables false

theorem FL.er_list : ∀ l : FL, l.er.list = l.list.map (fun x => (x.1, x.2.er))
  | .nil => rfl
  | .cons s v r => by simp [FL.er, FL.list, FL.er_list r]
theorem fitE_er (v : T) : fitE v.er = fitE v := by
  cases v with
  | mk k bo n t ya yc y la lc l fa fc f =>
    have h1 : l.er.list.length = l.list.length := by rw [TL.er_list, List.length_map]
    have h2 : f.er.list.length = f.list.length := by rw [FL.er_list, List.length_map]
    have h3 : f.er.names = f.names := by simp [FL.names, FL.er_list]
    simp only [T.er, fitE, h1, h2, h3]
mutual
theorem T.flat_er : ∀ (v : T) (d : Int), v.er.flat d = (v.flat d).map (fun z => (z.1, z.2.er))
  | .mk k bo n t ya yc y la lc l fa fc f, d => by
    simp only [T.er, T.flat, List.map_cons, List.map_append, TL.flat_er l, FL.flat_er f]
theorem TL.flat_er : ∀ (v : TL) (d : Int), v.er.flat d = (v.flat d).map (fun z => (z.1, z.2.er))
  | .nil, d => rfl
  | .cons u r, d => by simp only [TL.er, TL.flat, List.map_append, T.flat_er u, TL.flat_er r]
theorem FL.flat_er : ∀ (v : FL) (d : Int), v.er.flat d = (v.flat d).map (fun z => (z.1, z.2.er))
  | .nil, d => rfl
  | .cons s u r, d => by simp only [FL.er, FL.flat, List.map_append, T.flat_er u, FL.flat_er r]
end
theorem firstE_er (l : List (Int × T)) : firstE fitE (l.map (fun z => (z.1, z.2.er))) = firstE fitE l := by
  induction l with
  | nil => rfl
  | cons x r ih => simp only [List.map_cons, firstE, fitE_er, ih]
theorem ckE_er (v : T) : ckE v.er = ckE v := by
  have h1 : ((v.flat 1).map (fun z => (z.1, z.2.er))).any (fun x => decide (8 < x.1)) = (v.flat 1).any (fun x => decide (8 < x.1)) := by rw [List.any_map]; rfl
  simp only [ckE, chk, T.flat_er, firstE_er, List.length_map, h1]
mutual
theorem T.wt_er : ∀ v : T, v.er.wt = v.wt
  | .mk k bo n t ya yc y la lc l fa fc f => by simp only [T.er, T.wt, TL.wt_er l, FL.wt_er f]
theorem TL.wt_er : ∀ l : TL, l.er.wt = l.wt
  | .nil => rfl
  | .cons v r => by simp only [TL.er, TL.wt, T.wt_er v, TL.wt_er r]
theorem FL.wt_er : ∀ l : FL, l.er.wt = l.wt
  | .nil => rfl
  | .cons s v r => by simp only [FL.er, FL.wt, T.wt_er v, FL.wt_er r]
end
theorem ck_of_er {v c : T} (h : v.er = c.er) : ckE v = ckE c := by rw [← ckE_er v, h, ckE_er]
theorem wt_of_er {v c : T} (h : v.er = c.er) : v.wt = c.wt := by rw [← T.wt_er v, h, T.wt_er]
set_option maxHeartbeats 3200000 in
set_option maxRecDepth 1000000 in
theorem first_all (d : Bool) (m : Int) (a : Option Addr) (cap : Nat) (bs rest : List Int) (c : T) (w : World) (hrow : Row w a bs) (hby : Byts bs) (hsm : bs.length ≤ 1000000) (hm : 0 ≤ m ∧ m ≤ 255) (hE : bs.map (tn m) = c.enc ++ rest) (hg : c.gk) (hck : ckE c = 0) (hwt : c.wt ≤ 20000) (hsz : c.sz ≤ 512)
    (HT : Hid (∀ W, Calls Try.prog 25 #[.bool d] W fun e w' => e = .returned (.func (.func 36) #[] #[.pointer (some ⟨W.heap.size, 0, none⟩)]) ∧ w' = W.alloc (.cells #[.int .u8 m] 5))) :
    Calls Try.prog 22 #[.slice a bs.length cap, .bool d] w fun e w' => ∃ V, e = .returned (.tuple #[V, .int .i64 (c.enc.length : Int), .bool true]) ∧ Below w.heap.size w w' ∧ Stays w w' V c := by
  obtain ⟨hd1, hd2, hd3, hd4⟩ := gk_head c hg
  have hE0 : (bs.drop 0).map (tn m) = c.enc.headD 0 :: (c.enc.tail ++ rest) := by rw [List.drop_zero, hE, ← List.cons_append, ← hd1]
  obtain ⟨h0, hmk, hE1⟩ := head_at _ _ _ _ _ hE0
  have hne : bs ≠ [] := fun e => by subst e; simp at h0
  have HV : Hid (∀ W p q, Rdr W p a cap bs 1 0 q m → Calls Try.prog 32 #[.pointer (some ⟨p, 0, none⟩), .int .u8 (c.enc.headD 0)] W fun e W' => Val p a cap bs 1 0 q m c W e W') := fun W p q hr => value_all p a cap bs q m c.sz c (Nat.le_refl _) hg W 1 0 rest hr (by omega) hne hE1
  have hlen : 1 + c.enc.tail.length = c.enc.length := by
    have := congrArg List.length hd1
    simp only [List.length_cons] at this
    omega
  have HB0 := hide (Box7.new w (.int .u8 0) (.bool false) (.int .i64 0) (.string ⟨#[]⟩) (.slice none 0 0) (.slice none 0 0) (.slice none 0 0))
  clear hE hE0 hE1 hd1 hg
  generalize c.enc.headD 0 = mark at *
  go_enter Try.func22, Try.ntmps22
  go_wp2_with fail
  refine (HT.out _).mono ?_
  rintro e W1 ⟨rfl, rfl⟩
  have HF1 := hide ((((Fr.refl w).alloc (.cells #[.int .u8 0, .bool false, .int .i64 0, .string ⟨#[]⟩, .slice none 0 0, .slice none 0 0, .slice none 0 0] 41)).alloc (.cells #[.int .u8 m] 5)).alloc (.cells #[.slice a bs.length cap, .int .i64 0, .int .i64 0, .func (.func 36) #[] #[.pointer (some ⟨w.heap.size + 1, 0, none⟩)]] 67))
  have HR1 := hide (Rdr.start w (.cells #[.int .u8 0, .bool false, .int .i64 0, .string ⟨#[]⟩, .slice none 0 0, .slice none 0 0, .slice none 0 0] 41) m a cap bs hrow hby hsm hm h0)
  have HB1 := hide ((HB0.out.below (below_alloc _ (.cells #[.int .u8 m] 5))).below (below_alloc _ (.cells #[.slice a bs.length cap, .int .i64 0, .int .i64 0, .func (.func 36) #[] #[.pointer (some ⟨w.heap.size + 1, 0, none⟩)]] 67)))
  have HMk := hide hmk
  clear hmk hrow HB0
  go_wp2_with fail
  generalize ((w.alloc (.cells #[.int .u8 0, .bool false, .int .i64 0, .string ⟨#[]⟩, .slice none 0 0, .slice none 0 0, .slice none 0 0] 41)).alloc (.cells #[.int .u8 m] 5)).alloc (.cells #[.slice a bs.length cap, .int .i64 0, .int .i64 0, .func (.func 36) #[] #[.pointer (some ⟨w.heap.size + 1, 0, none⟩)]] 67) = X1 at HF1 HR1 HB1 ⊢
  generalize hB : w.heap.size = B at *
  have HBB := hide hB
  clear hB
  refine (next_in (B + 1 + 1) a cap bs 0 0 (B + 1) m X1 HR1.out h0).mono ?_
  rintro e W2 ⟨rfl, hrd, hg⟩
  have HR2 := hide hrd
  have HF2 := hide (HF1.out.grown hg (fun k e => by cases e; omega))
  have HB2 := hide (HB1.out.grown hg (by omega))
  clear hrd hg HB1 HF1 HR1
  rw [HMk.out]
  go_wp2_with fail
  refine (HV.out W2 (B + 1 + 1) (B + 1) HR2.out).mono ?_
  rintro e W3 ⟨V, rfl, hrd, hg, hst⟩
  rw [hlen] at hrd
  have HSt := hide hst
  obtain ⟨v0, hv0, -⟩ := hst W3 (Nat.le_refl _) (fun _ _ _ => rfl)
  have HR3 := hide hrd
  have HF3 := hide (HF2.out.grown hg (fun k e => by cases e; omega))
  have HB3 := hide (HB2.out.grown hg (by omega))
  have hsB : B < W2.heap.size := HB2.out.lt
  clear hrd hg hst HB2 HF2 HR2
  cases v0 with
  | mk vk vbo vn vt vya vyc vy vla vlc vl vfa vfc vf =>
  simp only [T.val] at hv0
  subst hv0
  have HR4 := hide (HR3.out.below (below_alloc W3 (.cells #[.int .u8 vk, .bool vbo, .int .i64 vn, .string vt, .slice vya vy.length vyc, .slice vla vl.list.length vlc, .slice vfa vf.list.length vfc] 41)))
  have HF4 := hide (HF3.out.alloc (.cells #[.int .u8 vk, .bool vbo, .int .i64 vn, .string vt, .slice vya vy.length vyc, .slice vla vl.list.length vlc, .slice vfa vf.list.length vfc] 41))
  have HB4 := hide (HB3.out.below (below_alloc W3 (.cells #[.int .u8 vk, .bool vbo, .int .i64 vn, .string vt, .slice vya vy.length vyc, .slice vla vl.list.length vlc, .slice vfa vf.list.length vfc] 41)))
  have HC4 := hide (Box7.new W3 (.int .u8 vk) (.bool vbo) (.int .i64 vn) (.string vt) (.slice vya vy.length vyc) (.slice vla vl.list.length vlc) (.slice vfa vf.list.length vfc))
  have H34 := hide (below_alloc W3 (.cells #[.int .u8 vk, .bool vbo, .int .i64 vn, .string vt, .slice vya vy.length vyc, .slice vla vl.list.length vlc, .slice vfa vf.list.length vfc] 41))
  have hb1 := HB3.out.lt
  have hb2 := HR3.out.lt
  go_wp2_with fail
  generalize hX4 : W3.alloc (.cells #[.int .u8 vk, .bool vbo, .int .i64 vn, .string vt, .slice vya vy.length vyc, .slice vla vl.list.length vlc, .slice vfa vf.list.length vfc] 41) = X4 at HR4 HF4 HB4 HC4 H34 ⊢
  obtain ⟨x, hx1, hx2, hx3⟩ := HSt.out X4 H34.out.size (fun k _ h => H34.out.block k h)
  have HCk := hide (check_all X4.heap.size x X4 hx2 (Nat.le_refl _) (tame_of x (by rw [wt_of_er hx3]; exact hwt)))
  rw [ck_of_er hx3, hck, hx1] at HCk
  refine HCk.out.mono ?_
  rintro e W5 ⟨rfl, hb⟩
  have HR5 := hide (HR4.out.below hb)
  have HF5 := hide (HF4.out.on hb)
  have HB5 := hide (HB4.out.below hb)
  have HC5 := hide (HC4.out.below hb)
  have H35 : Hid (Below W3.heap.size W3 W5) := H34.out.trans (hb.mono H34.out.size)
  clear hb HR4 HF4 HB4 HC4 HR3 HF3 HB3 hx1 hx2 hx3 HCk hX4
  generalize hW3 : W3.heap.size = c3 at HC5
  obtain ⟨j0, j1, j2, j3, j4, j5, j6⟩ := HC5.out.cells
  obtain ⟨l0, l1, l2, l3, l4, l5, l6⟩ := HB5.out.cells
  have fr := HB5.out.free
  have r1 := HR5.out.c1
  go_wp2
  go_region
  have HBz := hide ((HB5.out.set7 (.int .u8 vk) (.bool vbo) (.int .i64 vn) (.string vt) (.slice vya vy.length vyc) (.slice vla vl.list.length vlc) (.slice vfa vf.list.length vfc)).below (Below.refl _ _).drew)
  have HGz := hide (grown_trans (grown_set7 W5 B (.int .u8 vk) (.bool vbo) (.int .i64 vn) (.string vt) (.slice vya vy.length vyc) (.slice vla vl.list.length vlc) (.slice vfa vf.list.length vfc)) (grown_below (Below.refl _ _).drew))
  have HFz := hide ((HF5.out.grown (grown_set7 W5 B (.int .u8 vk) (.bool vbo) (.int .i64 vn) (.string vt) (.slice vya vy.length vyc) (.slice vla vl.list.length vlc) (.slice vfa vf.list.length vfc)) (fun x e => by cases e; exact Nat.le_refl _)).drew)
  generalize (((((((W5.setCell ⟨B, 0, none⟩ (.int .u8 vk)).setCell ⟨B, 1, none⟩ (.bool vbo)).setCell ⟨B, 2, none⟩ (.int .i64 vn)).setCell ⟨B, 3, none⟩ (.string vt)).setCell ⟨B, 4, none⟩ (.slice vya vy.length vyc)).setCell ⟨B, 5, none⟩ (.slice vla vl.list.length vlc)).setCell ⟨B, 6, none⟩ (.slice vfa vf.list.length vfc)).drew = Z at HBz HGz HFz ⊢
  obtain ⟨z0, z1, z2, z3, z4, z5, z6⟩ := HBz.out.cells
  clear j0 j1 j2 j3 j4 j5 j6 l0 l1 l2 l3 l4 l5 l6 fr r1
  go_wp2
  refine bodyPost_ret (v := .tuple #[.agg #[.int .u8 vk, .bool vbo, .int .i64 vn, .string vt, .slice vya vy.length vyc, .slice vla vl.list.length vlc, .slice vfa vf.list.length vfc], .int .i64 (c.enc.length : Int), .bool true]) ?_ rfl ?_
  · simp [results, Try.results22, go_sem, z0, z1, z2, z3, z4, z5, z6]
  · refine ⟨_, rfl, by rw [HBB.out]; exact HFz.out.below, fun W hs ha => HSt.out W ?_ (fun k k1 k2 => ?_)⟩
    · have s1 := HGz.out.size
      have s2 := H35.out.size
      omega
    · have s1 := HGz.out.size
      have s2 := H35.out.size
      have hB := HBB.out
      rw [ha k (by omega) (by omega), HGz.out.block k (by omega) (fun e => by simp at e; omega), H35.out.block k k2]
end Go.Proofs.Ytegoeaofjnpehaa
