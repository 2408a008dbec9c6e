/- Decode of a tuple's bytes. -/
import Derived.Test.YtegoeaofjnpehaaXE
namespace Go.Proofs.Ytegoeaofjnpehaa
open Go.RowKit
set_option linter.unusedVariables false

theorem tupB_drop (ds : List Bool) (ts : List T) : ∀ (i j : Nat), (tupB ds i ts).drop (tupB ds i (ts.take j)).length = tupB ds (i + j) (ts.drop j) := by
  induction ts with
  | nil => intro i j; simp [tupB]
  | cons v r ih =>
    intro i j
    cases j with
    | zero => simp [tupB]
    | succ j =>
      simp only [List.take_succ_cons, tupB, List.length_append, List.drop_succ_cons]
      rw [← List.drop_drop, List.drop_left, ih, show i + 1 + j = i + (j + 1) by omega]
theorem tupB_byts (ds : List Bool) (ts : List T) (h : ∀ c ∈ ts, Byts c.enc) : ∀ i, Byts (tupB ds i ts) := by
  induction ts with
  | nil => intro i c hc; simp [tupB] at hc
  | cons v r ih =>
    intro i c hc
    simp only [tupB, List.mem_append, List.mem_map] at hc
    rcases hc with ⟨x, hx, rfl⟩ | hc
    · refine tn_bd _ _ (h v (by simp) x ?_) (by unfold mk; split <;> omega)
      unfold outp at hx
      split at hx
      · exact hx
      · simp at hx
    · exact ih (fun c hc => h c (by simp [hc])) (i + 1) c hc
theorem stays_wide {w W1 W2 Z : World} {V : Value} {c : T} (h : Stays W1 W2 V c) (h1 : w.heap.size ≤ W1.heap.size) (h2 : W2.heap.size ≤ Z.heap.size) (ha : ∀ k, W1.heap.size ≤ k → k < W2.heap.size → Z.heap[k]? = W2.heap[k]?) : Stays w Z V c := fun W hs hw =>
  h W (by omega) (fun k k1 k2 => (hw k (by omega) (by omega)).trans (ha k k1 k2))
/-- one value of the tuple's bytes, where they stand. -/
theorem tup_at (ds : List Bool) (ts : List T) (j : Nat) (c : T) (hc : ts[j]? = some c) (ho : oneE c = 0) (hby : Byts c.enc) : ((tupB ds 0 ts).drop (tupB ds 0 (ts.take j)).length).map (tn (mk (ds.getD j false))) = c.enc ++ (tupB ds (j + 1) (ts.drop (j + 1))).map (tn (mk (ds.getD j false))) := by
  rw [tupB_drop, Nat.zero_add]
  obtain ⟨h1, rfl⟩ := List.getElem?_eq_some_iff.1 hc
  rw [List.drop_eq_getElem_cons h1]
  simp only [tupB, List.map_append]
  rw [show outp ts[j] = ts[j].enc by simp [outp, ho], map_tn_tn _ _ hby]
theorem tup_next (ds : List Bool) (ts : List T) (j : Nat) (c : T) (hc : ts[j]? = some c) (ho : oneE c = 0) : (tupB ds 0 (ts.take (j + 1))).length = (tupB ds 0 (ts.take j)).length + c.enc.length := by
  rw [take_next ts j c hc, tupB_snoc]
  simp [outp, ho]
theorem tupB_app (ds : List Bool) (u v : List T) : ∀ i, tupB ds i (u ++ v) = tupB ds i u ++ tupB ds (i + u.length) v := by
  induction u with
  | nil => intro i; simp [tupB]
  | cons x r ih =>
    intro i
    simp only [List.cons_append, tupB, ih, List.append_assoc, List.length_cons]
    rw [show i + 1 + r.length = i + (r.length + 1) by omega]
theorem tup_le (ds : List Bool) (ts : List T) (j : Nat) : (tupB ds 0 (ts.take j)).length ≤ (tupB ds 0 ts).length := by
  conv => rhs; rw [← List.take_append_drop j ts]
  rw [tupB_app, List.length_append]
  omega
set_option maxHeartbeats 3200000 in
set_option maxRecDepth 1000000 in
theorem decode_tup (n₀ b o cap : Nat) (bs : List Int) (ts : List T) (da : Option Addr) (dc : Nat) (ds : List Bool) (w : World) (hrow : Row w (some ⟨b, o, none⟩) bs) (hcap : bs.length ≤ cap) (hd : Bl n₀ w da ds) (hdl : ds.length ≤ 9223372036854775807) (hn : n₀ ≤ w.heap.size) (hbs : bs = tupB ds 0 ts) (hts : ∀ c ∈ ts, oneE c = 0 ∧ c.gk ∧ c.wt ≤ 20000 ∧ c.sz ≤ 512 ∧ Byts c.enc) (hl : ts.length ≤ 4) :
    Calls Try.prog 11 #[.slice (some ⟨b, o, none⟩) bs.length cap, .slice da ds.length dc] w fun e w' => ∃ v xs, e = .returned (.tuple #[v, .int .u16 0, .int .i64 0]) ∧ w'.ownsRow w.heap.size 41 7 v ts.length xs ∧ Below w.heap.size w w' ∧ StaysL w.heap.size w' v xs ts := by
  obtain ⟨i0, hi, hz0, hz1, hz2⟩ := info_parts Try.info41
  have hlen : bs.length ≤ 640 := by rw [hbs]; have := tupB_len ds ts 0; omega
  have HBy : Hid (Byts bs) := by rw [hbs]; exact tupB_byts ds ts (fun c hc => (hts c hc).2.2.2.2) 0
  have HRw := hide hrow
  have HF0 := hide (Fr.refl w)
  have HD := hide hd
  have HTs := hide hts
  have HBs := hide hbs
  clear hrow hd hts hbs
  generalize hB : w.heap.size = B at *
  have HBB := hide hB
  clear hB
  go_enter Try.func11, Try.ntmps11
  go_wp2
  go_loopw [7, 8] (fun l s wr => ∃ (j p : Nat) (cs : List Value), s = .int .i64 (p : Int) ∧ Hid (p = (tupB ds 0 (ts.take j)).length) ∧ j ≤ ts.length ∧ p ≤ bs.length ∧ wr.ownsRow B 41 7 l j cs ∧ Fr B w wr ∧ StaysL B wr l cs (ts.take j)) (fun _ s _ => bs.length - (intOf s).toNat)
  case atStart => exact ⟨0, 0, [], rfl, hide (by simp [tupB]), by omega, by omega, World.ownsRow_nil w B 41 7, HF0.out, fun W _ _ => ⟨[], rfl, by simp, rfl⟩⟩
  case round =>
    obtain ⟨j, p, cs, rfl, HP, hj, hpb, hown, hfr, hst⟩ := hrel
    have HF := hide hfr
    have HDr : Hid (Bl n₀ wr da ds) := hide (HD.out.on (hfr.below.mono hn))
    have HRr : Hid (Row wr (some ⟨b, o, none⟩) bs) := by have h := HRw.out; exact h.below (by rw [HBB.out]; exact hfr.below)
    obtain ⟨a1, c1, rfl⟩ := ownsRow_shape hown
    have HO := hide hown
    have HSt := hide hst
    clear hfr hown hst
    by_cases hlt : j < ts.length
    · obtain ⟨c, hc⟩ : ∃ c, ts[j]? = some c := ⟨_, List.getElem?_eq_getElem hlt⟩
      obtain ⟨ho, hgk, hwt, hsz, hbe⟩ := HTs.out c (List.mem_of_getElem? hc)
      have hE : (bs.drop p).map (tn (mk (ds.getD j false))) = c.enc ++ (tupB ds (j + 1) (ts.drop (j + 1))).map (tn (mk (ds.getD j false))) := by rw [HBs.out, HP.out]; exact tup_at ds ts j c hc ho hbe
      have hen : 1 ≤ c.enc.length := by obtain ⟨h1, -⟩ := gk_head c hgk; rw [h1]; simp
      have hpc : p + c.enc.length ≤ bs.length := by
        have := congrArg List.length hE
        simp only [List.length_map, List.length_drop, List.length_append] at this
        omega
      have HN : Hid (p + c.enc.length = (tupB ds 0 (ts.take (j + 1))).length) := by rw [HP.out]; exact (tup_next ds ts j c hc ho).symm
      have HTk := hide (take_next ts j c hc)
      have HFi : Hid (∀ W, Below wr.heap.size wr W → Calls Try.prog 22 #[.slice (some ⟨b, o + p, none⟩) (bs.length - p) (cap - p), .bool (ds.getD j false)] W fun e w' => ∃ V, e = .returned (.tuple #[V, .int .i64 (c.enc.length : Int), .bool true]) ∧ Below W.heap.size W w' ∧ Stays W w' V c) := by
        intro W hb
        have h := first_all (ds.getD j false) (mk (ds.getD j false)) (some ⟨b, o + p, none⟩) (cap - p) (bs.drop p) _ c W ((HRr.out.drop p).below hb) (HBy.out.drop p) (by rw [List.length_drop]; omega) (by unfold mk; split <;> omega) hE hgk (by unfold oneE at ho; split at ho <;> omega) hwt hsz (hide (fun W => turning_any _ W))
        rw [List.length_drop] at h
        exact h
      have HFa : Hid (∀ W, Below wr.heap.size wr W → Calls Try.prog 19 #[.slice da ds.length dc, .int .i64 (j : Int)] W fun e w' => e = .returned (.bool (ds.getD j false)) ∧ w' = W) := fun W hb => falls_any n₀ da dc j ds W (HDr.out.on (hb.mono (by have := HF.out.size; omega))) hdl
      clear hE ho hgk hwt hsz hbe HTs hc
      generalize ds.getD j false = d at *
      generalize c.enc.length = cn at *
      have t1 : decide ((p : Int) < (bs.length : Int)) = true := by simp; omega
      have t2 : ((j : Int) == 4) = false := by simp; omega
      have hcp : ¬ (cap = p) := by omega
      have HBn := hide ((Box7.new wr (.int .u8 0) (.bool false) (.int .i64 0) (.string ⟨#[]⟩) (.slice none 0 0) (.slice none 0 0) (.slice none 0 0)).below (Below.refl _ _).drew)
      have HWn := hide (((Fr.refl wr).alloc (.cells #[.int .u8 0, .bool false, .int .i64 0, .string ⟨#[]⟩, .slice none 0 0, .slice none 0 0, .slice none 0 0] 41)).drew)
      have HWd := hide (Fr.refl wr).drew
      have hbB : b < B := by
        rcases HRw.out with h | ⟨b', o', e, h, -⟩
        · rw [h] at hpc; simp at hpc; omega
        · cases e; rw [← HBB.out]; exact h
      go_wp2
      go_region_law (first | (go_simp; go_at_call 19; refine (HFa.out _ (by first | exact (Below.refl _ _).drew | exact (below_alloc _ _).drew | exact ((Below.refl _ _).drew.alloc (Nat.le_refl _) _))).mono ?_; intro r' V1 hh; obtain ⟨rfl, rfl⟩ := hh) | (go_simp; go_at_call 22; refine (HFi.out _ (by first | exact (Below.refl _ _).drew | exact (below_alloc _ _).drew | exact ((Below.refl _ _).drew.alloc (Nat.le_refl _) _))).mono ?_; intro r' V2 hh; obtain ⟨V, rfl, hb2, hs2⟩ := hh; obtain ⟨⟨vk, vbo, vn, vt, vya, vyc, vy, vla, vlc, vl, vfa, vfc, vf⟩, hv0, -⟩ := hs2 V2 (Nat.le_refl _) (fun _ _ _ => rfl); have HV0 := hide hv0; simp only [T.val] at hv0; subst hv0; obtain ⟨hcv, hfv⟩ := bcell hb2; have HB2 := hide hb2; have HS2 := hide hs2; clear hb2 hs2))
      all_goals clear hcv hfv
      all_goals first
        | (have HBz := hide ((HBn.out.below HB2.out).set7 (.int .u8 vk) (.bool vbo) (.int .i64 vn) (.string vt) (.slice vya vy.length vyc) (.slice vla vl.list.length vlc) (.slice vfa vf.list.length vfc))
           have HWz := hide ((HWn.out.on HB2.out).grown (grown_set7 V2 wr.heap.size (.int .u8 vk) (.bool vbo) (.int .i64 vn) (.string vt) (.slice vya vy.length vyc) (.slice vla vl.list.length vlc) (.slice vfa vf.list.length vfc)) (fun x e => by cases e; exact Nat.le_refl _))
           have HSz := hide (stays_wide HS2.out (w := wr) (by show _ ≤ (wr.alloc (.cells #[.int .u8 0, .bool false, .int .i64 0, .string ⟨#[]⟩, .slice none 0 0, .slice none 0 0, .slice none 0 0] 41)).heap.size; simp) (grown_set7 V2 wr.heap.size (.int .u8 vk) (.bool vbo) (.int .i64 vn) (.string vt) (.slice vya vy.length vyc) (.slice vla vl.list.length vlc) (.slice vfa vf.list.length vfc)).size (fun k h1 h2 => (grown_set7 V2 wr.heap.size (.int .u8 vk) (.bool vbo) (.int .i64 vn) (.string vt) (.slice vya vy.length vyc) (.slice vla vl.list.length vlc) (.slice vfa vf.list.length vfc)).block k h2 (fun e => by cases e; have h3 : (wr.alloc (.cells #[.int .u8 0, .bool false, .int .i64 0, .string ⟨#[]⟩, .slice none 0 0, .slice none 0 0, .slice none 0 0] 41)).heap.size ≤ wr.heap.size := h1; simp at h3; omega)))
           generalize ((((((V2.setCell ⟨wr.heap.size, 0, none⟩ (.int .u8 vk)).setCell ⟨wr.heap.size, 1, none⟩ (.bool vbo)).setCell ⟨wr.heap.size, 2, none⟩ (.int .i64 vn)).setCell ⟨wr.heap.size, 3, none⟩ (.string vt)).setCell ⟨wr.heap.size, 4, none⟩ (.slice vya vy.length vyc)).setCell ⟨wr.heap.size, 5, none⟩ (.slice vla vl.list.length vlc)).setCell ⟨wr.heap.size, 6, none⟩ (.slice vfa vf.list.length vfc) = Z at HBz HWz HSz ⊢
           generalize hbx : wr.heap.size = bx at HBz ⊢
           clear hbx)
        | (have HBz := hide (Box7.new V2 (.int .u8 vk) (.bool vbo) (.int .i64 vn) (.string vt) (.slice vya vy.length vyc) (.slice vla vl.list.length vlc) (.slice vfa vf.list.length vfc))
           have HWz := hide ((HWd.out.on HB2.out).alloc (.cells #[.int .u8 vk, .bool vbo, .int .i64 vn, .string vt, .slice vya vy.length vyc, .slice vla vl.list.length vlc, .slice vfa vf.list.length vfc] 41))
           have HSz := hide (stays_wide HS2.out (w := wr) (Nat.le_refl _) (below_alloc V2 (.cells #[.int .u8 vk, .bool vbo, .int .i64 vn, .string vt, .slice vya vy.length vyc, .slice vla vl.list.length vlc, .slice vfa vf.list.length vfc] 41)).size (fun k h1 h2 => (below_alloc V2 (.cells #[.int .u8 vk, .bool vbo, .int .i64 vn, .string vt, .slice vya vy.length vyc, .slice vla vl.list.length vlc, .slice vfa vf.list.length vfc] 41)).block k h2))
           generalize V2.alloc (.cells #[.int .u8 vk, .bool vbo, .int .i64 vn, .string vt, .slice vya vy.length vyc, .slice vla vl.list.length vlc, .slice vfa vf.list.length vfc] 41) = Z at HBz HWz HSz ⊢
           generalize V2.heap.size = bx at HBz ⊢)
      all_goals
        clear HBn HWn HWd HB2 HS2
        obtain ⟨z0, z1, z2, z3, z4, z5, z6⟩ := HBz.out.cells
        have HNw := hide (news7 Z (.int .u8 vk) (.bool vbo) (.int .i64 vn) (.string vt) (.slice vya vy.length vyc) (.slice vla vl.list.length vlc) (.slice vfa vf.list.length vfc))
        have HOz := hide (owns_below (owns_below HO.out HWz.out.below) (below_alloc Z (.cells #[.int .u8 vk, .bool vbo, .int .i64 vn, .string vt, .slice vya vy.length vyc, .slice vla vl.list.length vlc, .slice vfa vf.list.length vfc] 41)))
        have HFz := hide (HF.out.on HWz.out.below)
        go_wp2_with (at_builtin; refine wpList_append_own_at _ (by rfl) (.tmp 35) (.tmp 37) 22 (by rfl) B 41 i0 _ 7 104 Try.underlying22 hi hz0 hz1 hz2 (by rfl) (by omega) (.slice a1 j c1) j cs (by rfl) HOz.out ⟨Z.heap.size, 0, none⟩ 1 1 [.int .u8 vk, .bool vbo, .int .i64 vn, .string vt, .slice vya vy.length vyc, .slice vla vl.list.length vlc, .slice vfa vf.list.length vfc] (by rfl) (by rfl) HNw.out (by intro u hu; simp at hu; rcases hu with rfl | rfl | rfl | rfl | rfl | rfl | rfl <;> rfl) (by unfold maxLen; omega) (by omega) (by have := HFz.out.size; simp; omega) ?_; intro v' W5 hown5 hg5 _ hat5; have HO5 := hide hown5; have HG5 := hide hg5; have HA5 := hide hat5; clear hown5 hg5 hat5)
        obtain ⟨a5, c5, rfl⟩ := ownsRow_shape HO5.out
        have hss := staysL_step (j := j) (w := w) HSt.out HF.out.size hbB (own_ne HO.out) (grown_refl _ _) (grown_below HWz.out.below) HSz.out (below_alloc Z (.cells #[.int .u8 vk, .bool vbo, .int .i64 vn, .string vt, .slice vya vy.length vyc, .slice vla vl.list.length vlc, .slice vfa vf.list.length vfc] 41)) HG5.out HA5.out HV0.out
        rw [← HTk.out] at hss
        exact ⟨⟨j + 1, p + cn, _, by rw [Int.natCast_add], HN, by omega, hpc, HO5.out, (HFz.out.alloc (.cells #[.int .u8 vk, .bool vbo, .int .i64 vn, .string vt, .slice vya vy.length vyc, .slice vla vl.list.length vlc, .slice vfa vf.list.length vfc] 41)).grown HG5.out (fun k e => (own_ne HOz.out k e).1), hss⟩, by simp only [intOf]; omega⟩
    · obtain rfl : j = ts.length := by omega
      have htk : ts.take ts.length = ts := List.take_length
      have hp2 := HP.out
      rw [htk, ← HBs.out] at hp2
      rw [htk] at HSt
      subst hp2
      clear HP htk
      have t1 : decide ((bs.length : Int) < (bs.length : Int)) = false := by simp
      go_wp2
      go_ret3
      exact ⟨_, _, rfl, HO.out, HF.out.below, HSt.out⟩
end Go.Proofs.Ytegoeaofjnpehaa
