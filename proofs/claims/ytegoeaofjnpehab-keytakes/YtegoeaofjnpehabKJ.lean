/- The reader of keys: Decode of any bytes. -/
import Derived.Test.YtegoeaofjnpehabXF
import Derived.Test.YtegoeaofjnpehabXA
import Derived.Laws.AppendOwnNone
import Derived.Test.YtegoeaofjnpehabVN
namespace Go.Proofs.Ytegoeaofjnpehab
open Go.RowKit
set_option linter.unusedVariables false

/-- a value that a key may begin with. -/
def FineG (c : T) : Prop := c.gk ∧ ckE c = 0 ∧ c.sz ≤ 512 ∧ Byts c.enc
/-- the bytes of a tuple's values, however many. -/
def tupG (ds : List Bool) : Nat → List T → List Int
  | _, [] => []
  | i, v :: r => v.enc.map (tn (mk (ds.getD i false))) ++ tupG ds (i + 1) r
theorem tupG_snoc (ds : List Bool) (l : List T) (c : T) : ∀ i, tupG ds i (l ++ [c]) = tupG ds i l ++ c.enc.map (tn (mk (ds.getD (i + l.length) false))) := by
  induction l with
  | nil => intro i; simp [tupG]
  | cons x r ih =>
    intro i
    simp only [List.cons_append, tupG, ih, List.append_assoc, List.length_cons]
    rw [show i + 1 + r.length = i + (r.length + 1) by omega]
theorem mk_bd (d : Bool) : 0 ≤ mk d ∧ mk d ≤ 255 := by unfold mk; split <;> omega
set_option maxHeartbeats 1600000 in
set_option maxRecDepth 1000000 in
theorem next_empty (p : Nat) (a : Option Addr) (cap : Nat) (f : Value) (w : World) (hb : w.heap[p]? = some (.cells #[.slice a 0 cap, .int .i64 0, .int .i64 0, f] 62 (0, 0))) :
    Calls Try.prog 30 #[.pointer (some ⟨p, 0, none⟩)] w fun e w' => e = .returned (.tuple #[.int .u8 0, .bool false]) ∧ Below w.heap.size w w' := by
  have k0 : w.cell? ⟨p, 0, none⟩ = some (.slice a 0 cap) := by simp [World.cell?, hb]
  have k1 : w.cell? ⟨p, 1, none⟩ = some (.int .i64 0) := by simp [World.cell?, hb]
  clear hb
  go_enter Try.func30, Try.ntmps30
  go_wp2
  go_quiet (fail)
  go_wp2
  go_ret2
  exact ⟨rfl, below_drewN (Below.refl _ _) _⟩
def zeroV : Value := .agg #[.int .u8 0, .bool false, .int .i64 0, .string ⟨#[]⟩, .slice none 0 0, .slice none 0 0, .slice none 0 0]
set_option maxHeartbeats 1600000 in
set_option maxRecDepth 1000000 in
theorem first_empty (d : Bool) (a : Option Addr) (cap : Nat) (w : World) :
    Calls Try.prog 18 #[.slice a 0 cap, .bool d] w fun e w' => e = .returned (.tuple #[.agg #[.int .u8 0, .bool false, .int .i64 0, .string ⟨#[]⟩, .slice none 0 0, .slice none 0 0, .slice none 0 0], .int .i64 0, .bool false]) ∧ Below w.heap.size w w' := by
  have HT := hide (turning_any d)
  have HB0 := hide (Box7.new w (.int .u8 0) (.bool false) (.int .i64 0) (.string ⟨#[]⟩) (.slice none 0 0) (.slice none 0 0) (.slice none 0 0))
  have HF1 := hide ((((Fr.refl w).alloc (.cells #[.int .u8 0, .bool false, .int .i64 0, .string ⟨#[]⟩, .slice none 0 0, .slice none 0 0, .slice none 0 0] 32)).alloc (.cells #[.int .u8 (mk d)] 5)).alloc (.cells #[.slice a 0 cap, .int .i64 0, .int .i64 0, .func (.func 36) #[] #[.pointer (some ⟨w.heap.size + 1, 0, none⟩)]] 62))
  have HP1 : Hid (((((w.alloc (.cells #[.int .u8 0, .bool false, .int .i64 0, .string ⟨#[]⟩, .slice none 0 0, .slice none 0 0, .slice none 0 0] 32)).alloc (.cells #[.int .u8 (mk d)] 5)).alloc (.cells #[.slice a 0 cap, .int .i64 0, .int .i64 0, .func (.func 36) #[] #[.pointer (some ⟨w.heap.size + 1, 0, none⟩)]] 62))).heap[w.heap.size + 1 + 1]? = some (.cells #[.slice a 0 cap, .int .i64 0, .int .i64 0, .func (.func 36) #[] #[.pointer (some ⟨w.heap.size + 1, 0, none⟩)]] 62 (0, 0))) := by
    have := World.alloc_heap_new ((w.alloc (.cells #[.int .u8 0, .bool false, .int .i64 0, .string ⟨#[]⟩, .slice none 0 0, .slice none 0 0, .slice none 0 0] 32)).alloc (.cells #[.int .u8 (mk d)] 5)) (.cells #[.slice a 0 cap, .int .i64 0, .int .i64 0, .func (.func 36) #[] #[.pointer (some ⟨w.heap.size + 1, 0, none⟩)]] 62)
    simp only [World.size_alloc] at this
    exact this
  have HB1 := hide ((HB0.out.below (below_alloc _ (.cells #[.int .u8 (mk d)] 5))).below (below_alloc _ (.cells #[.slice a 0 cap, .int .i64 0, .int .i64 0, .func (.func 36) #[] #[.pointer (some ⟨w.heap.size + 1, 0, none⟩)]] 62)))
  clear HB0
  go_enter Try.func18, Try.ntmps18
  go_wp2_with fail
  refine (HT.out _).mono ?_
  rintro e W1 ⟨rfl, rfl⟩
  go_wp2_with fail
  generalize ((w.alloc (.cells #[.int .u8 0, .bool false, .int .i64 0, .string ⟨#[]⟩, .slice none 0 0, .slice none 0 0, .slice none 0 0] 32)).alloc (.cells #[.int .u8 (mk d)] 5)).alloc (.cells #[.slice a 0 cap, .int .i64 0, .int .i64 0, .func (.func 36) #[] #[.pointer (some ⟨w.heap.size + 1, 0, none⟩)]] 62) = X1 at HF1 HP1 HB1 ⊢
  refine (next_empty (w.heap.size + 1 + 1) a cap _ X1 HP1.out).mono ?_
  rintro e W2 ⟨rfl, hb⟩
  have HF2 := hide (HF1.out.on hb)
  have HB2 := hide (HB1.out.below hb)
  clear hb
  obtain ⟨l0, l1, l2, l3, l4, l5, l6⟩ := HB2.out.cells
  have fr := HB2.out.free
  go_wp2
  have HBz := hide (HB2.out.set7 (.int .u8 0) (.bool false) (.int .i64 0) (.string ⟨#[]⟩) (.slice none 0 0) (.slice none 0 0) (.slice none 0 0))
  have HFz := hide (HF2.out.grown (grown_set7 W2 w.heap.size (.int .u8 0) (.bool false) (.int .i64 0) (.string ⟨#[]⟩) (.slice none 0 0) (.slice none 0 0) (.slice none 0 0)) (fun x e => by cases e; exact Nat.le_refl _))
  obtain ⟨z0, z1, z2, z3, z4, z5, z6⟩ := HBz.out.cells
  clear l0 l1 l2 l3 l4 l5 l6 fr
  refine bodyPost_ret (v := .tuple #[.agg #[.int .u8 0, .bool false, .int .i64 0, .string ⟨#[]⟩, .slice none 0 0, .slice none 0 0, .slice none 0 0], .int .i64 0, .bool false]) ?_ rfl ?_
  · simp [results, Try.results18, go_sem, z0, z1, z2, z3, z4, z5, z6]
  · exact ⟨rfl, HFz.out.below⟩
theorem first_none (d : Bool) (a : Option Addr) (cap : Nat) (bs : List Int) (w : World) (hrow : Row w a bs) (hby : Byts bs) (hsm : bs.length ≤ 20000) (h0 : 0 < bs.length) (hH : ¬ ∃ c rest, FineG c ∧ bs.map (tn (mk d)) = c.enc ++ rest) :
    Calls Try.prog 18 #[.slice a bs.length cap, .bool d] w fun e w' => e = .returned (.tuple #[.agg #[.int .u8 0, .bool false, .int .i64 0, .string ⟨#[]⟩, .slice none 0 0, .slice none 0 0, .slice none 0 0], .int .i64 0, .bool false]) ∧ Below w.heap.size w w' := by
  by_cases hb : Beg 0 (bs.map (tn (mk d)))
  · obtain ⟨c, rest, hg, hs, e⟩ := hb
    have hce : Byts c.enc := fun x hx => by
      have : x ∈ bs.map (tn (mk d)) := by rw [e]; exact List.mem_append_left _ hx
      obtain ⟨y, hy, rfl⟩ := List.mem_map.1 this
      exact tn_bd _ y (hby y hy) (mk_bd d)
    have hl := T.wt_enc c hg
    have hel := congrArg List.length e
    rw [List.length_map, List.length_append] at hel
    exact first_bad d (mk d) a cap bs rest c w hrow hby (by omega) (mk_bd d) e hg (fun hck => hH ⟨c, rest, ⟨hg, hck, by omega, hce⟩, e⟩) (by omega) (by omega) (hide (fun W => turning_any d W))
  · exact first_noval d (mk d) a cap bs w hrow hby (by omega) (mk_bd d) h0 hb (hide (fun W => turning_any d W))
theorem first_some (d : Bool) (a : Option Addr) (cap : Nat) (bs rest : List Int) (c : T) (w : World) (hrow : Row w a bs) (hby : Byts bs) (hsm : bs.length ≤ 20000) (hc : FineG c) (e : bs.map (tn (mk d)) = c.enc ++ rest) :
    Calls Try.prog 18 #[.slice a bs.length cap, .bool d] w fun e w' => ∃ V, e = .returned (.tuple #[V, .int .i64 (c.enc.length : Int), .bool true]) ∧ Below w.heap.size w w' ∧ Stays w w' V c := by
  have hl := T.wt_enc c hc.1
  have hel := congrArg List.length e
  rw [List.length_map, List.length_append] at hel
  exact first_all d (mk d) a cap bs rest c w hrow hby (by omega) (mk_bd d) e hc.1 hc.2.1 (by omega) hc.2.2.1 (hide (fun W => turning_any d W))
/-- what Decode tells. -/
def DecP (ds : List Bool) (bs : List Int) (B : Nat) (w : World) (e : Ending) (w' : World) : Prop :=
  (∃ v xs ts, e = .returned (.tuple #[v, .int .u16 0, .int .i64 0]) ∧ ts.length ≤ 4 ∧ (∀ c ∈ ts, FineG c) ∧ bs = tupG ds 0 ts ∧ w'.ownsRow B 32 7 v ts.length xs ∧ Below B w w' ∧ StaysL B w' v xs ts) ∨ (∃ at' : Int, e = .returned (.tuple #[.slice none 0 0, .int .u16 40, .int .i64 at']) ∧ Below B w w')
set_option maxHeartbeats 6400000 in
set_option maxRecDepth 1000000 in
theorem decode_any (n₀ b o cap : Nat) (bs : List Int) (da : Option Addr) (dc : Nat) (ds : List Bool) (w : World) (hrow : Row w (some ⟨b, o, none⟩) bs) (hb0 : b < w.heap.size) (hby : Byts bs) (hlen : bs.length ≤ 20000) (hcap : bs.length ≤ cap) (hd : Bl n₀ w da ds) (hdl : ds.length ≤ 9223372036854775807) (hn : n₀ ≤ w.heap.size) :
    Calls Try.prog 6 #[.slice (some ⟨b, o, none⟩) bs.length cap, .slice da ds.length dc] w fun e w' => DecP ds bs w.heap.size w e w' := by
  obtain ⟨i0, hi, hz0, hz1, hz2⟩ := info_parts Try.info41
  have HBy := hide hby
  have HRw := hide hrow
  have HF0 := hide (Fr.refl w)
  have HD := hide hd
  clear hrow hd hby
  generalize hB : w.heap.size = B at *
  have HBB := hide hB
  clear hB
  have hbB : b < B := hb0
  go_enter Try.func6, Try.ntmps6
  go_wp2
  go_loopw [7, 8] (fun l s wr => ∃ (us : List T) (p : Nat) (cs : List Value), s = .int .i64 (p : Int) ∧ Hid (bs = tupG ds 0 us ++ bs.drop p) ∧ us.length ≤ 4 ∧ p ≤ bs.length ∧ Hid (∀ c ∈ us, FineG c) ∧ wr.ownsRow B 32 7 l us.length cs ∧ Fr B w wr ∧ StaysL B wr l cs us) (fun _ s _ => bs.length - (intOf s).toNat)
  case atStart => exact ⟨[], 0, [], rfl, by simp [Hid, tupG], by simp, by omega, by intro c hc; simp at hc, World.ownsRow_nil w B 32 7, HF0.out, fun W _ _ => ⟨[], rfl, by simp, rfl⟩⟩
  case round =>
    obtain ⟨us, p, cs, rfl, HP, hj, hpb, HG, hown, hfr, hst⟩ := hrel
    have HF := hide hfr
    have HDr : Hid (Bl n₀ wr da ds) := hide (HD.out.on (hfr.below.mono hn))
    have HRr : Hid (Row wr (some ⟨b, o, none⟩) bs) := by have h := HRw.out; exact h.below (by rw [HBB.out]; exact hfr.below)
    obtain ⟨j, HJ⟩ : ∃ j, Hid (j = us.length) := ⟨_, rfl⟩
    rw [← HJ.out] at hj hown
    obtain ⟨a1, c1, rfl⟩ := ownsRow_shape hown
    have HO := hide hown
    have HSt := hide hst
    clear hfr hown hst
    by_cases hlt : p < bs.length
    · have t1 : decide ((p : Int) < (bs.length : Int)) = true := by simp; omega
      by_cases hj4 : j = 4
      · have t2 : ((j : Int) == 4) = true := by simp; omega
        clear hj4
        go_wp2
        go_ret3
        exact .inr ⟨_, rfl, HF.out.below⟩
      have t2 : ((j : Int) == 4) = false := by simp; omega
      have HFa : Hid (∀ W, Below wr.heap.size wr W → Calls Try.prog 19 #[.slice da ds.length dc, .int .i64 (j : Int)] W fun e w' => e = .returned (.bool (ds.getD j false)) ∧ w' = W) := fun W hb => falls_any n₀ da dc j ds W (HDr.out.on (hb.mono (by have := HF.out.size; omega))) hdl
      by_cases hex : ∃ c rest, FineG c ∧ (bs.drop p).map (tn (mk (ds.getD j false))) = c.enc ++ rest
      · obtain ⟨c, rest, hcg, hE⟩ := hex
        have HFi : Hid (∀ W, Below wr.heap.size wr W → Calls Try.prog 18 #[.slice (some ⟨b, o + p, none⟩) (bs.length - p) (cap - p), .bool (ds.getD j false)] W fun e w' => ∃ V, e = .returned (.tuple #[V, .int .i64 (c.enc.length : Int), .bool true]) ∧ Below W.heap.size W w' ∧ Stays W w' V c) := by
          intro W hb
          have h := first_some (ds.getD j false) (some ⟨b, o + p, none⟩) (cap - p) (bs.drop p) rest c W ((HRr.out.drop p).below hb) (HBy.out.drop p) (by rw [List.length_drop]; omega) hcg hE
          rw [List.length_drop] at h
          exact h
        have hen : 1 ≤ c.enc.length := by obtain ⟨h1, -⟩ := gk_head c hcg.1; rw [h1]; simp
        have hpc : p + c.enc.length ≤ bs.length := by
          have := congrArg List.length hE
          simp only [List.length_map, List.length_drop, List.length_append] at this
          omega
        have HN : Hid (bs = tupG ds 0 (us ++ [c]) ++ bs.drop (p + c.enc.length)) := by
          have h1 := congrArg (List.map (tn (mk (ds.getD j false)))) hE
          rw [map_tn_tn _ _ (HBy.out.drop p), List.map_append] at h1
          have h2 : bs.drop (p + c.enc.length) = rest.map (tn (mk (ds.getD j false))) := by
            rw [← List.drop_drop, h1]
            have : c.enc.length = (c.enc.map (tn (mk (ds.getD j false)))).length := by simp
            rw [this, List.drop_left]
          rw [Hid, h2, tupG_snoc, Nat.zero_add, ← HJ.out, List.append_assoc, ← h1]
          exact HP.out
        have HCg := hide hcg
        clear hE hcg HP
        generalize ds.getD j false = d at *
        generalize c.enc.length = cn at *
        have hcp : ¬ (cap = p) := by omega
        have HBn := hide ((Box7.new wr (.int .u8 0) (.bool false) (.int .i64 0) (.string ⟨#[]⟩) (.slice none 0 0) (.slice none 0 0) (.slice none 0 0)).below (Below.refl _ _).drew)
        have HWn := hide (((Fr.refl wr).alloc (.cells #[.int .u8 0, .bool false, .int .i64 0, .string ⟨#[]⟩, .slice none 0 0, .slice none 0 0, .slice none 0 0] 32)).drew)
        have HWd := hide (Fr.refl wr).drew
        go_wp2
        go_region_law (first | (go_simp; go_at_call 19; refine (HFa.out _ (by first | exact (Below.refl _ _).drew | exact (below_alloc _ _).drew | exact ((Below.refl _ _).drew.alloc (Nat.le_refl _) _))).mono ?_; intro r' V1 hh; obtain ⟨rfl, rfl⟩ := hh) | (go_simp; go_at_call 18; refine (HFi.out _ (by first | exact (Below.refl _ _).drew | exact (below_alloc _ _).drew | exact ((Below.refl _ _).drew.alloc (Nat.le_refl _) _))).mono ?_; intro r' V2 hh; obtain ⟨V, rfl, hb2, hs2⟩ := hh; obtain ⟨⟨vk, vbo, vn, vt, vya, vyc, vy, vla, vlc, vl, vfa, vfc, vf⟩, hv0, -⟩ := hs2 V2 (Nat.le_refl _) (fun _ _ _ => rfl); have HV0 := hide hv0; simp only [T.val] at hv0; subst hv0; obtain ⟨hcv, hfv⟩ := bcell hb2; have HB2 := hide hb2; have HS2 := hide hs2; clear hb2 hs2))
        all_goals clear hcv hfv
        all_goals first
          | (have HBz := hide ((HBn.out.below HB2.out).set7 (.int .u8 vk) (.bool vbo) (.int .i64 vn) (.string vt) (.slice vya vy.length vyc) (.slice vla vl.list.length vlc) (.slice vfa vf.list.length vfc))
             have HWz := hide ((HWn.out.on HB2.out).grown (grown_set7 V2 wr.heap.size (.int .u8 vk) (.bool vbo) (.int .i64 vn) (.string vt) (.slice vya vy.length vyc) (.slice vla vl.list.length vlc) (.slice vfa vf.list.length vfc)) (fun x e => by cases e; exact Nat.le_refl _))
             have HSz := hide (stays_wide HS2.out (w := wr) (by show _ ≤ (wr.alloc (.cells #[.int .u8 0, .bool false, .int .i64 0, .string ⟨#[]⟩, .slice none 0 0, .slice none 0 0, .slice none 0 0] 32)).heap.size; simp) (grown_set7 V2 wr.heap.size (.int .u8 vk) (.bool vbo) (.int .i64 vn) (.string vt) (.slice vya vy.length vyc) (.slice vla vl.list.length vlc) (.slice vfa vf.list.length vfc)).size (fun k h1 h2 => (grown_set7 V2 wr.heap.size (.int .u8 vk) (.bool vbo) (.int .i64 vn) (.string vt) (.slice vya vy.length vyc) (.slice vla vl.list.length vlc) (.slice vfa vf.list.length vfc)).block k h2 (fun e => by cases e; have h3 : (wr.alloc (.cells #[.int .u8 0, .bool false, .int .i64 0, .string ⟨#[]⟩, .slice none 0 0, .slice none 0 0, .slice none 0 0] 32)).heap.size ≤ wr.heap.size := h1; simp at h3; omega)))
             generalize ((((((V2.setCell ⟨wr.heap.size, 0, none⟩ (.int .u8 vk)).setCell ⟨wr.heap.size, 1, none⟩ (.bool vbo)).setCell ⟨wr.heap.size, 2, none⟩ (.int .i64 vn)).setCell ⟨wr.heap.size, 3, none⟩ (.string vt)).setCell ⟨wr.heap.size, 4, none⟩ (.slice vya vy.length vyc)).setCell ⟨wr.heap.size, 5, none⟩ (.slice vla vl.list.length vlc)).setCell ⟨wr.heap.size, 6, none⟩ (.slice vfa vf.list.length vfc) = Z at HBz HWz HSz ⊢
             generalize hbx : wr.heap.size = bx at HBz ⊢
             clear hbx)
          | (have HBz := hide (Box7.new V2 (.int .u8 vk) (.bool vbo) (.int .i64 vn) (.string vt) (.slice vya vy.length vyc) (.slice vla vl.list.length vlc) (.slice vfa vf.list.length vfc))
             have HWz := hide ((HWd.out.on HB2.out).alloc (.cells #[.int .u8 vk, .bool vbo, .int .i64 vn, .string vt, .slice vya vy.length vyc, .slice vla vl.list.length vlc, .slice vfa vf.list.length vfc] 32))
             have HSz := hide (stays_wide HS2.out (w := wr) (Nat.le_refl _) (below_alloc V2 (.cells #[.int .u8 vk, .bool vbo, .int .i64 vn, .string vt, .slice vya vy.length vyc, .slice vla vl.list.length vlc, .slice vfa vf.list.length vfc] 32)).size (fun k h1 h2 => (below_alloc V2 (.cells #[.int .u8 vk, .bool vbo, .int .i64 vn, .string vt, .slice vya vy.length vyc, .slice vla vl.list.length vlc, .slice vfa vf.list.length vfc] 32)).block k h2))
             generalize V2.alloc (.cells #[.int .u8 vk, .bool vbo, .int .i64 vn, .string vt, .slice vya vy.length vyc, .slice vla vl.list.length vlc, .slice vfa vf.list.length vfc] 32) = Z at HBz HWz HSz ⊢
             generalize V2.heap.size = bx at HBz ⊢)
        all_goals
          clear HBn HWn HWd HB2 HS2
          obtain ⟨z0, z1, z2, z3, z4, z5, z6⟩ := HBz.out.cells
          have HNw := hide (news7 Z (.int .u8 vk) (.bool vbo) (.int .i64 vn) (.string vt) (.slice vya vy.length vyc) (.slice vla vl.list.length vlc) (.slice vfa vf.list.length vfc))
          have HOz := hide (owns_below (owns_below HO.out HWz.out.below) (below_alloc Z (.cells #[.int .u8 vk, .bool vbo, .int .i64 vn, .string vt, .slice vya vy.length vyc, .slice vla vl.list.length vlc, .slice vfa vf.list.length vfc] 32)))
          have HFz := hide (HF.out.on HWz.out.below)
          go_wp2_with (at_builtin; refine wpList_append_own_at _ (by rfl) (.tmp 35) (.tmp 37) 24 (by rfl) B 32 i0 _ 7 104 Try.underlying24 hi hz0 hz1 hz2 (by rfl) (by omega) (.slice a1 j c1) j cs (by rfl) HOz.out ⟨Z.heap.size, 0, none⟩ 1 1 [.int .u8 vk, .bool vbo, .int .i64 vn, .string vt, .slice vya vy.length vyc, .slice vla vl.list.length vlc, .slice vfa vf.list.length vfc] (by rfl) (by rfl) HNw.out (by intro u hu; simp at hu; rcases hu with rfl | rfl | rfl | rfl | rfl | rfl | rfl <;> rfl) (by unfold maxLen; omega) (by omega) (by have := HFz.out.size; simp; omega) ?_; intro v' W5 hown5 hg5 _ hat5; have HO5 := hide hown5; have HG5 := hide hg5; have HA5 := hide hat5; clear hown5 hg5 hat5)
          obtain ⟨a5, c5, rfl⟩ := ownsRow_shape HO5.out
          have hss := staysL_step (j := j) (w := w) HSt.out HF.out.size hbB (own_ne HO.out) (grown_refl _ _) (grown_below HWz.out.below) HSz.out (below_alloc Z (.cells #[.int .u8 vk, .bool vbo, .int .i64 vn, .string vt, .slice vya vy.length vyc, .slice vla vl.list.length vlc, .slice vfa vf.list.length vfc] 32)) HG5.out HA5.out HV0.out
          exact ⟨⟨us ++ [c], p + cn, _, by rw [Int.natCast_add], HN, by rw [List.length_append, ← HJ.out]; simp; omega, hpc, fun x hx => by
              rcases List.mem_append.1 hx with h | h
              · exact HG.out x h
              · simp at h; rw [h]; exact HCg.out, by rw [List.length_append, ← HJ.out]; exact HO5.out, (HFz.out.alloc (.cells #[.int .u8 vk, .bool vbo, .int .i64 vn, .string vt, .slice vya vy.length vyc, .slice vla vl.list.length vlc, .slice vfa vf.list.length vfc] 32)).grown HG5.out (fun k e => (own_ne HOz.out k e).1), hss⟩, by simp only [intOf]; omega⟩
      · have HFi : Hid (∀ W, Below wr.heap.size wr W → Calls Try.prog 18 #[.slice (some ⟨b, o + p, none⟩) (bs.length - p) (cap - p), .bool (ds.getD j false)] W fun e w' => e = .returned (.tuple #[.agg #[.int .u8 0, .bool false, .int .i64 0, .string ⟨#[]⟩, .slice none 0 0, .slice none 0 0, .slice none 0 0], .int .i64 0, .bool false]) ∧ Below W.heap.size W w') := by
          intro W hb
          have h := first_none (ds.getD j false) (some ⟨b, o + p, none⟩) (cap - p) (bs.drop p) W ((HRr.out.drop p).below hb) (HBy.out.drop p) (by rw [List.length_drop]; omega) (by rw [List.length_drop]; omega) hex
          rw [List.length_drop] at h
          exact h
        clear hex HP
        generalize ds.getD j false = d at *
        have hcp : ¬ (cap = p) := by omega
        have HBn := hide ((Box7.new wr (.int .u8 0) (.bool false) (.int .i64 0) (.string ⟨#[]⟩) (.slice none 0 0) (.slice none 0 0) (.slice none 0 0)).below (Below.refl _ _).drew)
        have HWn := hide (((Fr.refl wr).alloc (.cells #[.int .u8 0, .bool false, .int .i64 0, .string ⟨#[]⟩, .slice none 0 0, .slice none 0 0, .slice none 0 0] 32)).drew)
        have HWd := hide (Fr.refl wr).drew
        go_wp2
        go_region_law (first | (go_simp; go_at_call 19; refine (HFa.out _ (by first | exact (Below.refl _ _).drew | exact (below_alloc _ _).drew | exact ((Below.refl _ _).drew.alloc (Nat.le_refl _) _))).mono ?_; intro r' V1 hh; obtain ⟨rfl, rfl⟩ := hh) | (go_simp; go_at_call 18; refine (HFi.out _ (by first | exact (Below.refl _ _).drew | exact (below_alloc _ _).drew | exact ((Below.refl _ _).drew.alloc (Nat.le_refl _) _))).mono ?_; intro r' V2 hh; obtain ⟨rfl, hb2⟩ := hh; obtain ⟨hcv, hfv⟩ := bcell hb2; have HB2 := hide hb2; clear hb2))
        all_goals clear hcv hfv
        all_goals first
          | (have HWz := hide ((HWn.out.on HB2.out).grown (grown_set7 V2 wr.heap.size (.int .u8 0) (.bool false) (.int .i64 0) (.string ⟨#[]⟩) (.slice none 0 0) (.slice none 0 0) (.slice none 0 0)) (fun x e => by cases e; exact Nat.le_refl _))
             generalize ((((((V2.setCell ⟨wr.heap.size, 0, none⟩ (.int .u8 0)).setCell ⟨wr.heap.size, 1, none⟩ (.bool false)).setCell ⟨wr.heap.size, 2, none⟩ (.int .i64 0)).setCell ⟨wr.heap.size, 3, none⟩ (.string ⟨#[]⟩)).setCell ⟨wr.heap.size, 4, none⟩ (.slice none 0 0)).setCell ⟨wr.heap.size, 5, none⟩ (.slice none 0 0)).setCell ⟨wr.heap.size, 6, none⟩ (.slice none 0 0) = Z at HWz ⊢)
          | (have HWz := hide ((HWd.out.on HB2.out).alloc (.cells #[.int .u8 0, .bool false, .int .i64 0, .string ⟨#[]⟩, .slice none 0 0, .slice none 0 0, .slice none 0 0] 32))
             generalize V2.alloc (.cells #[.int .u8 0, .bool false, .int .i64 0, .string ⟨#[]⟩, .slice none 0 0, .slice none 0 0, .slice none 0 0] 32) = Z at HWz ⊢)
        all_goals
          have HFz := hide (HF.out.on HWz.out.below)
          clear HBn HWn HWd HB2 HWz
          go_wp2
          go_ret3
          exact .inr ⟨_, rfl, HFz.out.below⟩
    · have hpe : p = bs.length := by omega
      subst hpe
      have t1 : decide ((bs.length : Int) < (bs.length : Int)) = false := by simp
      have hbe : bs = tupG ds 0 us := by have h := HP.out; rw [List.drop_length, List.append_nil] at h; exact h
      have HBe := hide hbe
      clear HP hbe
      go_wp2
      go_ret3
      exact .inl ⟨_, _, us, rfl, by have := HJ.out; omega, HG.out, HBe.out, by rw [← HJ.out]; exact HO.out, HF.out.below, HSt.out⟩
end Go.Proofs.Ytegoeaofjnpehab
/- Whether two values are more than is looked at. -/
namespace Go.Proofs.Ytegoeaofjnpehab
open Go.RowKit
set_option linter.unusedVariables false

theorem RowN.wider {n₀ n₁ : Nat} {W : World} {a : Option Addr} {zs : List Int} (h : n₀ ≤ n₁) (k : RowN n₀ W a zs) : RowN n₁ W a zs := by
  rcases k with k | ⟨b, o, rfl, hlt, hc⟩
  · exact .inl k
  · exact .inr ⟨b, o, rfl, by omega, hc⟩
mutual
theorem T.Mem.wider {n₀ n₁ : Nat} {W : World} (h : n₀ ≤ n₁) : ∀ {v : T}, v.Mem n₀ W → v.Mem n₁ W
  | .mk k bo n t ya yc y la lc l fa fc f, ⟨h1, h2, h3, h4, h5, h6, h7, h8, h9, h10⟩ => ⟨h1.wider h, h2, h3, h4, TL.Mem.wider h h5, h6, h7, FL.Mem.wider h h8, h9, h10⟩
theorem TL.Mem.wider {n₀ n₁ : Nat} {W : World} (h : n₀ ≤ n₁) {a : Option Addr} : ∀ {i : Nat} {l : TL}, l.Mem n₀ W a i → l.Mem n₁ W a i
  | _, .nil, _ => trivial
  | i, .cons v r, ⟨⟨b, o, h1, h2, h3⟩, h4, h5⟩ => ⟨⟨b, o, h1, Nat.lt_of_lt_of_le h2 h, h3⟩, T.Mem.wider h h4, TL.Mem.wider h h5⟩
theorem FL.Mem.wider {n₀ n₁ : Nat} {W : World} (h : n₀ ≤ n₁) {a : Option Addr} : ∀ {i : Nat} {l : FL}, l.Mem n₀ W a i → l.Mem n₁ W a i
  | _, .nil, _ => trivial
  | i, .cons s v r, ⟨⟨b, o, h1, h2, h6, h3⟩, h4, h5⟩ => ⟨⟨b, o, h1, Nat.lt_of_lt_of_le h2 h, h6, h3⟩, T.Mem.wider h h4, FL.Mem.wider h h5⟩
end
set_option maxHeartbeats 3200000 in
set_option maxRecDepth 1000000 in
theorem much_gen (n₀ : Nat) (la : Option Addr) (lc : Nat) (l : TL) (w : World) (hm : l.Mem n₀ w la 0) (hs : l.Szd) (hlen : l.list.length ≤ 9223372036854775807) (hn : n₀ ≤ w.heap.size) :
    Calls Try.prog 14 #[.slice la l.list.length lc] w fun e w' => (∃ β, e = .returned (.bool β) ∧ (β = false → l.list.length + l.wt ≤ 20000)) ∧ Below w.heap.size w w' := by
  have HM := hide hm
  have HSz := hide hs
  clear hm hs
  go_enter Try.func14, Try.ntmps14
  go_wp2
  go_loopw [3, 4] (fun s i wr => ∃ (r : Int) (j : Nat), s = .int .i64 r ∧ i = .int .i64 (j : Int) ∧ j ≤ l.list.length ∧ 0 ≤ r ∧ r ≤ 9223372036854775807 ∧ (r ≤ 20000 → r = (l.list.length : Int) + (sumL (l.list.take j) : Int)) ∧ Fr w.heap.size w wr) (fun s i _ => l.list.length - (intOf i).toNat)
  case atStart => exact ⟨_, 0, rfl, rfl, by omega, by omega, by omega, fun _ => by simp [sumL], Fr.refl w⟩
  case round =>
    obtain ⟨r, j, rfl, rfl, hj, hr0, hr1, hre, hfr⟩ := hrel
    have HRe := hide hre
    have HFr := hide hfr
    clear hre hfr
    by_cases hlt : j < l.list.length
    · by_cases hr2 : r ≤ 20000
      · obtain ⟨c, hc⟩ : ∃ c, l.list[j]? = some c := ⟨_, List.getElem?_eq_getElem hlt⟩
        have HTk := hide (take_next l.list j c hc)
        have hmem : c ∈ l.list := List.mem_of_getElem? hc
        have HMw := hide (HM.out.on (HFr.out.below.mono hn))
        have HMc := hide (TL.Mem.at l 0 HMw.out j c hc).2
        have hns : n₀ ≤ wr.heap.size := by have := HFr.out.size; omega
        have HIc := hide (fun W x => weight_gen n₀ c.sz c (Nat.le_refl _) (TL.Szd.at l HSz.out c hmem) W x)
        have HCw : Hid (((sumL (l.list.take (j + 1)) : Nat) : Int) = (sumL (l.list.take j) : Int) + (c.wt : Int)) := by rw [Hid, HTk.out, sumL_snoc]; simp
        clear hmem
        simp only [Wt] at HIc
        generalize c.wt = cw at *
        cases c with
        | mk ck cbo cn ct cya cyc cy cla clc cl cfa cfc cf =>
        obtain ⟨b', o', rfl, hb', c0, c1, c2, c3, c4, c5, c6⟩ := HMw.out.cells hc
        clear hc
        simp only [T.val] at HIc
        go_wp2_with fail
        refine (HIc.out wr r HMc.out hns (by omega)).mono ?_
        rintro e V ⟨⟨⟨r3, rfl, hq0, hq1, hq2⟩, hb3⟩, -⟩
        have HF3 := hide (HFr.out.on hb3)
        have HQ2 := hide hq2
        clear hb3 hq2 c0 c1 c2 c3 c4 c5 c6
        go_wp2
        go_roundw
        case rel => exact ⟨r3, j + 1, by go_num, by go_num, by omega, hq0, by omega, (fun h => by have h1 := HQ2.out h; have h2 := HRe.out hr2; have h3 := HCw.out; omega), HF3.out⟩
        case measure => simp [intOf]; omega
      · have hd : decide ((20000 : Int) < r) = true := by simp; omega
        go_wp2
        go_ret
        exact ⟨.inr rfl, HFr.out.below⟩
    · have hjl : l.list.take j = l.list := List.take_of_length_le (by omega)
      rw [hjl, ← TL.wt_is] at HRe
      clear hjl
      by_cases hr2 : r ≤ 20000
      · have hd : decide ((20000 : Int) < r) = false := by simp; omega
        go_wp2
        go_ret
        exact ⟨⟨false, by simp, fun _ => by have := HRe.out hr2; omega⟩, HFr.out.below⟩
      · have hd : decide ((20000 : Int) < r) = true := by simp; omega
        go_wp2
        go_ret
        exact ⟨.inr rfl, HFr.out.below⟩
end Go.Proofs.Ytegoeaofjnpehab
/- Lists of values: one behind the other, the first of them; an append of values to a row of the call's own. -/
namespace Go.Proofs.Ytegoeaofjnpehab
open Go.RowKit
set_option linter.unusedVariables false

def TL.app : TL → TL → TL
  | .nil, m => m
  | .cons v r, m => .cons v (r.app m)
theorem TL.app_list : ∀ (l m : TL), (l.app m).list = l.list ++ m.list
  | .nil, m => rfl
  | .cons v r, m => by simp only [TL.app, TL.list, TL.app_list r m, List.cons_append]
def TL.first : Nat → TL → TL
  | 0, _ => .nil
  | _, .nil => .nil
  | k + 1, .cons v r => .cons v (r.first k)
theorem TL.first_list : ∀ (k : Nat) (l : TL), (l.first k).list = l.list.take k
  | 0, l => by simp [TL.first, TL.list]
  | k + 1, .nil => by simp [TL.first, TL.list]
  | k + 1, .cons v r => by simp only [TL.first, TL.list, TL.first_list k r, List.take_succ_cons]
theorem TL.first_mem {n₀ : Nat} {W : World} {a : Option Addr} : ∀ (k : Nat) (l : TL) (i : Nat), l.Mem n₀ W a i → (l.first k).Mem n₀ W a i
  | 0, l, i, _ => trivial
  | k + 1, .nil, i, _ => trivial
  | k + 1, .cons v r, i, ⟨h1, h2, h3⟩ => ⟨h1, h2, TL.first_mem k r (i + 1) h3⟩
/-- all cells of a list. -/
def TL.cells : TL → List Value
  | .nil => []
  | .cons v r => v.cells ++ r.cells
theorem TL.cells_len : ∀ l : TL, l.cells.length = l.list.length * 7
  | .nil => rfl
  | .cons v r => by simp only [TL.cells, TL.list, List.length_append, List.length_cons, T.cells_len, TL.cells_len r]; omega
theorem TL.app_cells : ∀ (l m : TL), (l.app m).cells = l.cells ++ m.cells
  | .nil, m => rfl
  | .cons v r, m => by simp only [TL.app, TL.cells, TL.app_cells r m, List.append_assoc]
theorem TL.one : ∀ (l : TL), ∀ u ∈ l.cells, u.oneCell' = true
  | .nil, u, h => by simp [TL.cells] at h
  | .cons v r, u, h => by
    simp only [TL.cells, List.mem_append] at h
    rcases h with h | h
    · cases v
      simp only [T.cells, List.mem_cons, List.not_mem_nil, or_false] at h
      rcases h with rfl | rfl | rfl | rfl | rfl | rfl | rfl <;> rfl
    · exact TL.one r u h
theorem TL.news {n₀ : Nat} {W : World} {b o : Nat} : ∀ (l : TL) (i : Nat), l.Mem n₀ W (some ⟨b, o, none⟩) i → ∀ j u, l.cells[j]? = some u → W.cell? ⟨b, o + i * 7 + j, none⟩ = some u
  | .nil, i, _, j, u, h => by simp [TL.cells] at h
  | .cons v r, i, ⟨⟨b', o', e, _, h1⟩, _, h3⟩, j, u, h => by
    cases e
    simp only [TL.cells] at h
    by_cases hj : j < 7
    · rw [List.getElem?_append_left (by rw [T.cells_len]; exact hj)] at h
      exact h1 j u h
    · rw [List.getElem?_append_right (by rw [T.cells_len]; omega), T.cells_len] at h
      have := TL.news r (i + 1) h3 (j - 7) u h
      rwa [show o + (i + 1) * 7 + (j - 7) = o + i * 7 + j by omega] at this
theorem TL.mem_of {N g : Nat} {W : World} (hg : g < N) : ∀ (l : TL) (i : Nat), (∀ j u, l.cells[j]? = some u → W.cell? ⟨g, 0 + i * 7 + j, none⟩ = some u) → (∀ c ∈ l.list, c.Mem N W) → l.Mem N W (some ⟨g, 0, none⟩) i
  | .nil, i, _, _ => trivial
  | .cons v r, i, h, hc => by
    refine ⟨⟨g, 0, rfl, hg, fun j u hu => h j u ?_⟩, hc v (by simp [TL.list]), TL.mem_of hg r (i + 1) (fun j u hu => ?_) (fun c h => hc c (by simp [TL.list, h]))⟩
    · simp only [TL.cells]
      rw [List.getElem?_append_left (List.getElem?_eq_some_iff.1 hu).1]
      exact hu
    · have := h (j + 7) u (by simp only [TL.cells]; rw [List.getElem?_append_right (by rw [T.cells_len]; omega), T.cells_len, Nat.add_sub_cancel]; exact hu)
      rwa [show 0 + i * 7 + (j + 7) = 0 + (i + 1) * 7 + j by omega] at this
theorem owns_mem {W : World} {B : Nat} {v : Value} (l : TL) (h : W.ownsRow B 32 7 v l.list.length l.cells) (hc : ∀ c ∈ l.list, c.Mem W.heap.size W) : ∃ a c, v = .slice a l.list.length c ∧ l.Mem W.heap.size W a 0 := by
  have h' := h
  rcases h.2 with ⟨rfl, h0⟩ | ⟨g, cap, cur, rfl, _, hg, hn, _⟩
  · refine ⟨none, 0, by rw [h0], ?_⟩
    rw [TL.nil_of' l (List.length_eq_zero_iff.1 h0)]
    trivial
  · refine ⟨_, _, rfl, TL.mem_of (lt_of_block hg) l 0 (fun j u hu => ?_) hc⟩
    have := h'.cells (g := g) rfl j u hu
    rw [Addr.add_lit] at this
    rwa [show 0 + 0 * 7 + j = 0 + j by omega]
theorem wpList_append_vals {w : World} {ops : Array Oper} {rest : List Oper} {o : Oper} {a : Act} {Q : Exit → Act → World → Prop} (hgd : o.guard = none) (s x : Operand)
    (ho : o.op = .call { callee := .builtin .append, args := #[s, x], argTypes := #[24, 24] }) (B n₀ : Nat)
    (v : Value) (n : Nat) (xs : List Value) (hs : a.eval s = v) (hown : w.ownsRow B 32 7 v n xs) (la : Option Addr) (lc : Nat) (l : TL) (hx : a.eval x = .slice la l.list.length lc) (hm : l.Mem n₀ w la 0) (hnil : la = none → l.list = [] ∧ lc = 0)
    (hb : n + l.list.length ≤ 100000) (hbase : B ≤ w.heap.size)
    (h : ∀ v' w', w'.ownsRow B 32 7 v' (n + l.list.length) (xs ++ l.cells) → w.grownBy w' v.ownBlock → wpList Try.prog ops Q rest (a.put o.dst v') w') : wpList Try.prog ops Q (o :: rest) a w := by
  obtain ⟨i0, hi, hz0, hz1, hz2⟩ := info_parts Try.info41
  cases la with
  | none =>
    obtain ⟨h1, rfl⟩ := hnil rfl
    rw [h1] at hx
    have e := TL.nil_of' l h1
    subst e
    exact wpList_append_own_none hgd s x 24 ho B 32 i0 7 Try.underlying24 hi v n xs hs hown hx (h v w (by simpa [TL.list, TL.cells] using hown) (grown_refl w _))
  | some ad =>
    refine wpList_append_own w hgd s x 24 ho B 32 i0 _ 7 104 Try.underlying24 hi hz0 hz1 hz2 (by rfl) (by omega) v n xs hs hown ad l.list.length lc l.cells hx (TL.cells_len l) (fun j u hu => ?_) (TL.one l) (by unfold maxLen; omega) (by omega) hbase (fun v' w' h2 h3 _ => h v' w' h2 h3)
    cases l with
    | nil => simp [TL.cells] at hu
    | cons c r =>
      obtain ⟨b, o', e, _⟩ := hm.1
      cases e
      have := TL.news (.cons c r) 0 hm j u hu
      rw [Addr.add_lit]
      rwa [show o' + 0 * 7 + j = o' + j by omega] at this
end Go.Proofs.Ytegoeaofjnpehab
/- The document's kids, deep and parts of a value that may stand in a key. -/
namespace Go.Proofs.Ytegoeaofjnpehab
open Go.RowKit
set_option linter.unusedVariables false

set_option maxHeartbeats 3200000 in
set_option maxRecDepth 1000000 in
theorem kids_doc (n₀ : Nat) (k : Int) (bo : Bool) (n : Int) (t : ByteArray) (ya : Option Addr) (yc yl : Nat) (la : Option Addr) (lc : Nat) (l : TL) (fa : Option Addr) (fc : Nat) (w : World) (hm : l.Mem n₀ w la 0) (hnil : la = none → l.list = [] ∧ lc = 0) (hn : n₀ ≤ w.heap.size) (hl : l.list.length ≤ 90000) :
    Calls Try.prog 40 #[.agg #[.int .u8 k, .bool bo, .int .i64 n, .string t, .slice ya yl yc, .slice la l.list.length lc, .slice fa 0 fc]] w fun e w' => ∃ oa oc, e = .returned (.slice oa l.list.length oc) ∧ l.Mem w'.heap.size w' oa 0 ∧ Below w.heap.size w w' := by
  have HM := hide hm
  have HX := hide (below_alloc w (.cells #[.int .u8 k, .bool bo, .int .i64 n, .string t, .slice ya yl yc, .slice la l.list.length lc, .slice fa 0 fc] 32))
  have HM1 := hide (hm.on (HX.out.mono hn))
  have HNl := hide hnil
  have HBx := hide (Box7.new w (.int .u8 k) (.bool bo) (.int .i64 n) (.string t) (.slice ya yl yc) (.slice la l.list.length lc) (.slice fa 0 fc))
  have hsz : n₀ ≤ (w.alloc (.cells #[.int .u8 k, .bool bo, .int .i64 n, .string t, .slice ya yl yc, .slice la l.list.length lc, .slice fa 0 fc] 32)).heap.size := by simp; omega
  clear hm hnil
  go_enter Try.func40, Try.ntmps40
  go_wp2_with (at_builtin; refine wpList_append_vals (by rfl) (.tmp 5) (.tmp 7) (by rfl) (w.alloc (.cells #[.int .u8 k, .bool bo, .int .i64 n, .string t, .slice ya yl yc, .slice la l.list.length lc, .slice fa 0 fc] 32)).heap.size n₀ (.slice none 0 0) 0 [] (by rfl) (World.ownsRow_nil _ _ 32 7) la lc l (by rfl) HM1.out HNl.out (by omega) (Nat.le_refl _) ?_; intro v1 W6 hown1 hg1; rw [Nat.zero_add, List.nil_append] at hown1; have HO := hide hown1; have HB6 : Hid (Below _ _ W6) := hide (⟨hg1.os, hg1.tape, hg1.output, hg1.size, fun k hk => hg1.block k hk (by simp [Value.ownBlock])⟩); clear hown1 hg1)
  have HB2 := hide (HBx.out.below HB6.out)
  obtain ⟨oa, oc, hv, hmem⟩ := owns_mem l HO.out (fun c hc => by
    obtain ⟨j, hj, e⟩ := List.getElem_of_mem hc
    exact T.Mem.wider (by have := HB6.out.size; omega) ((TL.Mem.at l 0 HM1.out j c (by rw [List.getElem?_eq_getElem hj, e])).2.on (HB6.out.mono hsz)))
  subst hv
  have HMm := hide hmem
  obtain ⟨j0, j1, j2, j3, j4, j5, j6⟩ := HB2.out.cells
  have HBe := hide (HX.out.trans (HB6.out.mono HX.out.size))
  clear hmem
  go_loopw [3, 4] (fun o i wr => o = .slice oa l.list.length oc ∧ i = .int .i64 0 ∧ wr = W6) (fun _ _ _ => 0)
  case atStart => exact ⟨rfl, rfl, rfl⟩
  case round =>
    obtain ⟨rfl, rfl, rfl⟩ := hrel
    go_wp2
    go_ret
    exact ⟨_, _, rfl, HMm.out, HBe.out⟩
mutual
/-- how deep a value is. -/
def T.dp : T → Nat
  | .mk k bo n t ya yc y la lc l fa fc f => 1 + l.dp
def TL.dp : TL → Nat
  | .nil => 0
  | .cons v r => max v.dp r.dp
end
theorem TL.dp_mem : ∀ (l : TL), ∀ c ∈ l.list, c.dp ≤ l.dp
  | .nil, c, h => by simp [TL.list] at h
  | .cons v r, c, h => by
    simp only [TL.list, List.mem_cons] at h
    simp only [TL.dp]
    rcases h with rfl | h
    · omega
    · have := TL.dp_mem r c h; omega
theorem TL.sz_mem' (l : TL) (c : T) (h : c ∈ l.list) : c.sz ≤ l.sz := TL.sz_mem l c h
theorem szs_step (l : List T) (j : Nat) (c : T) (h : l[j]? = some c) : szs (l.take (j + 1)) = szs (l.take j) + c.sz := by
  rw [List.take_add_one, h]; simp [szs]
set_option maxHeartbeats 3200000 in
set_option maxRecDepth 1000000 in
theorem deep_doc : ∀ (N : Nat) (v : T), v.sz ≤ N → v.gk → v.sz ≤ 90000 → ∀ (d : Nat), v.dp ≤ d → d ≤ 1000 → ∀ (n₀ : Nat) (w : World), v.Mem n₀ w → n₀ ≤ w.heap.size → Calls Try.prog 26 #[v.val, .int .i64 (d : Int)] w fun e w' => e = .returned (.bool false) ∧ Below w.heap.size w w' := by
  intro N
  induction N with
  | zero => intro v hv; cases v; simp [T.sz] at hv
  | succ N ih =>
    intro v hv hg hs d hd hd2 n₀ w hm hn
    cases v with
    | mk k bo n t ya yc y la lc l fa fc f =>
    obtain ⟨hg1, ⟨_, _, _, _, _, hf⟩, hlg⟩ := hg
    have hf0 := FL.nil_of' f hf
    subst hf0
    have hll := TL.len_le l
    simp only [T.sz, FL.sz] at hv hs
    simp only [T.dp] at hd
    have HK := hide (fun W (hW : Below w.heap.size w W) => kids_doc n₀ k bo n t ya yc y.length la lc l fa fc W (hm.2.2.2.2.1.on (hW.mono hn)) hm.2.2.2.2.2.1 (by have := hW.size; omega) (by omega))
    have HIH : Hid (∀ c ∈ l.list, ∀ (n₁ : Nat) (W : World), c.Mem n₁ W → n₁ ≤ W.heap.size → Calls Try.prog 26 #[c.val, .int .i64 (((d - 1 : Nat) : Nat) : Int)] W fun e w' => e = .returned (.bool false) ∧ Below W.heap.size W w') := fun c hc n₁ W hcm hw => by
      have h1 := TL.sz_mem' l c hc
      have h2 := TL.dp_mem l c hc
      exact ih c (by omega) (TL.gk_mem l hlg c hc) (by omega) (d - 1) (by omega) (by omega) n₁ W hcm hw
    have t1 : ((d : Int) == 0) = false := by rw [beq_eq_false_iff_ne]; omega
    have t2 : IntKind.i64.wrap ((d : Int) - 1) = ((d - 1 : Nat) : Int) := by rw [IntKind.wrap_i64]; omega
    have HLb := hide (show l.list.length ≤ 90000 by omega)
    clear ih hm hg1 hf hlg hv hs hd
    simp only [T.val, FL.list, List.length_nil]
    go_enter Try.func26, Try.ntmps26
    go_wp2_with (go_at_call 40; refine (HK.out _ (below_alloc w _)).mono ?_; rintro e w1 ⟨oa, oc, rfl, hmem, hb⟩; have HMm := hide hmem; have HB := hide ((below_alloc w (.cells #[.int .u8 k, .bool bo, .int .i64 n, .string t, .slice ya y.length yc, .slice la l.list.length lc, .slice fa 0 fc] 32)).trans (hb.mono (below_alloc w _).size)); clear hmem hb)
    go_loopw [6] (fun i wr => ∃ j : Nat, i = .int .i64 (j : Int) ∧ j ≤ l.list.length ∧ Fr w1.heap.size w1 wr) (fun i _ => l.list.length - (intOf i).toNat)
    case atStart => exact ⟨0, rfl, by omega, Fr.refl w1⟩
    case round =>
      obtain ⟨j, rfl, hj, hfr⟩ := hrel
      have HFr := hide hfr
      clear hfr
      by_cases hlt : j < l.list.length
      · obtain ⟨c, hc⟩ : ∃ c, l.list[j]? = some c := ⟨_, List.getElem?_eq_getElem hlt⟩
        have hmem : c ∈ l.list := List.mem_of_getElem? hc
        have HMw := hide (HMm.out.on HFr.out.below)
        have HMc := hide (TL.Mem.at l 0 HMw.out j c hc).2
        have HIc := hide (HIH.out c hmem w1.heap.size)
        have hjl : (j : Int) < (l.list.length : Int) := by omega
        have HLt := hide hlt
        have hlb : (l.list.length : Int) ≤ 90000 := by have := HLb.out; omega
        clear hmem
        cases c with
        | mk ck cbo cn ct cya cyc cy cla clc cl cfa cfc cf =>
        obtain ⟨b', o', rfl, hb', c0, c1, c2, c3, c4, c5, c6⟩ := HMw.out.cells hc
        clear hc
        simp only [T.val] at HIc
        go_wp2_with (go_at_call 26; refine (HIc.out _ HMc.out HFr.out.size).mono ?_; rintro e V ⟨rfl, hb3⟩; have HF3 := hide (HFr.out.on hb3); clear hb3 c0 c1 c2 c3 c4 c5 c6)
        go_roundw
        case rel => exact ⟨j + 1, by have h1 := HLt.out; have h2 := HLb.out; first | go_num | rfl | (rw [IntWalk.wrap64_in _ ⟨by omega, by omega⟩]; push_cast; rfl), by have := HLt.out; omega, HF3.out⟩
        case measure => have h1 := HLt.out; have h2 := HLb.out; first | (simp [intOf]; omega) | (rw [IntWalk.wrap64_in _ ⟨by omega, by omega⟩]; simp [intOf]; omega)
      · have hjl : ¬ (j : Int) < (l.list.length : Int) := by omega
        go_wp2
        go_ret
        exact ⟨rfl, HB.out.trans (HFr.out.below.mono HB.out.size)⟩
set_option maxHeartbeats 3200000 in
set_option maxRecDepth 1000000 in
theorem parts_doc : ∀ (N : Nat) (v : T), v.sz ≤ N → v.gk → ∀ (m : Nat), m + v.sz ≤ 512 → ∀ (n₀ : Nat) (w : World), v.Mem n₀ w → n₀ ≤ w.heap.size → Calls Try.prog 27 #[v.val, .int .i64 (m : Int)] w fun e w' => e = .returned (.int .i64 ((m + v.sz : Nat) : Int)) ∧ Below w.heap.size w w' := by
  intro N
  induction N with
  | zero => intro v hv; cases v; simp [T.sz] at hv
  | succ N ih =>
    intro v hv hg m hd n₀ w hm hn
    cases v with
    | mk k bo n t ya yc y la lc l fa fc f =>
    obtain ⟨hg1, ⟨_, _, _, _, _, hf⟩, hlg⟩ := hg
    have hf0 := FL.nil_of' f hf
    subst hf0
    have hll := TL.len_le l
    simp only [T.sz, FL.sz] at hv hd ⊢
    have HK := hide (fun W (hW : Below w.heap.size w W) => kids_doc n₀ k bo n t ya yc y.length la lc l fa fc W (hm.2.2.2.2.1.on (hW.mono hn)) hm.2.2.2.2.2.1 (by have := hW.size; omega) (by omega))
    have HIH : Hid (∀ c ∈ l.list, ∀ (m' : Nat), m' + c.sz ≤ 512 → ∀ (n₁ : Nat) (W : World), c.Mem n₁ W → n₁ ≤ W.heap.size → Calls Try.prog 27 #[c.val, .int .i64 (m' : Int)] W fun e w' => e = .returned (.int .i64 ((m' + c.sz : Nat) : Int)) ∧ Below W.heap.size W w') := fun c hc m' hm' n₁ W hcm hw => by
      have h1 := TL.sz_mem' l c hc
      exact ih c (by omega) (TL.gk_mem l hlg c hc) m' hm' n₁ W hcm hw
    have HSz := hide (szs_is l)
    have HLb := hide (show l.list.length ≤ 90000 by omega)
    have t2 : IntKind.i64.wrap ((m : Int) + 1) = ((m + 1 : Nat) : Int) := by rw [IntKind.wrap_i64]; omega
    clear ih hm hg1 hf hlg hv
    simp only [T.val, FL.list, List.length_nil]
    go_enter Try.func27, Try.ntmps27
    go_wp2_with (go_at_call 40; refine (HK.out _ (below_alloc w _)).mono ?_; rintro e w1 ⟨oa, oc, rfl, hmem, hb⟩; have HMm := hide hmem; have HB := hide ((below_alloc w (.cells #[.int .u8 k, .bool bo, .int .i64 n, .string t, .slice ya y.length yc, .slice la l.list.length lc, .slice fa 0 fc] 32)).trans (hb.mono (below_alloc w _).size)); clear hmem hb)
    go_loopw [1, 6] (fun o i wr => ∃ j r : Nat, i = .int .i64 (j : Int) ∧ j ≤ l.list.length ∧ o = .int .i64 (r : Int) ∧ r = m + 1 + szs (l.list.take j) ∧ Fr w1.heap.size w1 wr) (fun _ i _ => l.list.length - (intOf i).toNat)
    case atStart => exact ⟨0, m + 1, rfl, by omega, rfl, by simp [szs], Fr.refl w1⟩
    case round =>
      obtain ⟨j, r, rfl, hj, rfl, hr, hfr⟩ := hrel
      have HFr := hide hfr
      have HR := hide hr
      clear hfr hr
      by_cases hlt : j < l.list.length
      · obtain ⟨c, hc⟩ : ∃ c, l.list[j]? = some c := ⟨_, List.getElem?_eq_getElem hlt⟩
        have hmem : c ∈ l.list := List.mem_of_getElem? hc
        have HMw := hide (HMm.out.on HFr.out.below)
        have HMc := hide (TL.Mem.at l 0 HMw.out j c hc).2
        have hstep : szs (l.list.take (j + 1)) = szs (l.list.take j) + c.sz := szs_step l.list j c hc
        have hle := szs_take l.list j c hc
        have HCj := hide hc
        have HIc := hide (HIH.out c hmem r (by have := HR.out; have := HSz.out; omega) w1.heap.size)
        have HSt := hide hstep
        have hjl : (j : Int) < (l.list.length : Int) := by omega
        have HLt := hide hlt
        have hlb : (l.list.length : Int) ≤ 90000 := by have := HLb.out; omega
        clear hmem hle hstep
        cases c with
        | mk ck cbo cn ct cya cyc cy cla clc cl cfa cfc cf =>
        obtain ⟨b', o', rfl, hb', c0, c1, c2, c3, c4, c5, c6⟩ := HMw.out.cells hc
        clear hc
        simp only [T.val] at HIc
        have hr5 : (r : Int) ≤ 512 := by have h1 := HR.out; have h2 := HSz.out; have h3 := szs_is l; have h4 := szs_take l.list j _ HCj.out; omega
        clear HCj
        generalize T.sz (.mk ck cbo cn ct cya cyc cy cla clc cl cfa cfc cf) = cs at HIc HSt
        go_wp2_with (go_at_call 27; refine (HIc.out _ HMc.out HFr.out.size).mono ?_; rintro e V ⟨rfl, hb3⟩; have HF3 := hide (HFr.out.on hb3); clear hb3 c0 c1 c2 c3 c4 c5 c6)
        go_roundw
        case rel => exact ⟨j + 1, _, by have h1 := HLt.out; have h2 := HLb.out; first | go_num | rfl | (rw [IntWalk.wrap64_in _ ⟨by omega, by omega⟩]; push_cast; rfl), by have := HLt.out; omega, rfl, by have h1 := HSt.out; have h2 := HR.out; omega, HF3.out⟩
        case measure => have h1 := HLt.out; have h2 := HLb.out; first | (simp [intOf]; omega) | (rw [IntWalk.wrap64_in _ ⟨by omega, by omega⟩]; simp [intOf]; omega)
      · have hjl : ¬ (j : Int) < (l.list.length : Int) := by omega
        have HJ := hide (show j = l.list.length by omega)
        go_wp2
        go_ret
        refine ⟨?_, HB.out.trans (HFr.out.below.mono HB.out.size)⟩
        have h1 := HJ.out
        have h2 := HR.out
        have h3 := HSz.out
        rw [h1, List.take_length] at h2
        have h5 : ((r : Nat) : Int) = (m : Int) + (1 + (l.sz : Int)) := by omega
        exact congrArg (fun x : Int => Ending.returned (Value.int .i64 x)) h5
end Go.Proofs.Ytegoeaofjnpehab
