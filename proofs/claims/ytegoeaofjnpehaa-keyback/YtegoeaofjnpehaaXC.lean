/- The reader of keys: any value that may stand in a key. -/
import Derived.Test.YtegoeaofjnpehaaXB
import Derived.Test.YtegoeaofjnpehaaVT
namespace Go.Proofs.Ytegoeaofjnpehaa
open Go.RowKit
set_option linter.unusedVariables false

theorem bk_sb (s : ByteArray) : bk (sb s) = s := by
  unfold bk sb
  cases s with
  | mk d =>
    simp only [List.map_map]
    congr 1
    apply Array.ext'
    simp only []
    conv => rhs; rw [← List.map_id d.toList]
    apply List.map_congr_left
    intro b hb
    simp
theorem unX_nX (n : Int) (h : -9223372036854775808 ≤ n ∧ n ≤ 9223372036854775807) : unX (jb (nbs (nX n) 8)) = n := by
  have h1 := nX_is n h
  rw [jb_nbs (nX n) (by rw [h1]; omega), h1]
  unfold unX
  have h2 := xor_top (n + 9223372036854775808).toNat (by omega)
  have h3 := u64_xor_nat (n + 9223372036854775808).toNat 9223372036854775808 (by omega) (by omega)
  have e : ((9223372036854775808 : Nat) : Int) = 9223372036854775808 := rfl
  rw [e] at h3
  have e2 : (2 : Nat) ^ 63 = 9223372036854775808 := by decide
  have e3 : (2 : Nat) ^ 64 = 18446744073709551616 := by decide
  rw [e2, e3] at h2
  rw [h3, h2]
  unfold wrap64
  omega
theorem TL.nil_of' (l : TL) (h : l.list = []) : l = .nil := by
  cases l with
  | nil => rfl
  | cons v r => simp [TL.list] at h
theorem FL.nil_of' (l : FL) (h : l.list = []) : l = .nil := by
  cases l with
  | nil => rfl
  | cons s v r => simp [FL.list] at h
def leafT (k : Int) (bo : Bool) (n : Int) (t : ByteArray) : T := .mk k bo n t none 0 [] none 0 .nil none 0 .nil
theorem leafT_mem (k : Int) (bo : Bool) (n : Int) (t : ByteArray) (N : Nat) (W : World) : (leafT k bo n t).Mem N W :=
  ⟨.inl rfl, fun c hc => by simp at hc, fun _ => ⟨rfl, rfl⟩, by simp, trivial, fun _ => ⟨rfl, rfl⟩, by simp [TL.list], trivial, fun _ => ⟨rfl, rfl⟩, by simp [FL.list]⟩
set_option maxHeartbeats 3200000 in
set_option maxRecDepth 1000000 in
theorem value_list (p : Nat) (a : Option Addr) (cap : Nat) (bs : List Int) (q : Nat) (m : Int) (l : TL) (hl : l.gk) (hR : ∀ c ∈ l.list, Reads p a cap bs q m c) (w : World) (i n : Nat) (rest : List Int) (hr : Rdr w p a cap bs i n q m) (hn : n + 1 + l.sz ≤ 512) (hE : (bs.drop i).map (tn m) = l.enc ++ 1 :: rest) :
    Calls Try.prog 32 #[.pointer (some ⟨p, 0, none⟩), .int .u8 96] w fun e w' => ∃ oa oc, e = .returned (.tuple #[.agg #[.int .u8 6, .bool false, .int .i64 0, .string ⟨#[]⟩, .slice none 0 0, .slice oa l.list.length oc, .slice none 0 0], .bool true]) ∧ Rdr w' p a cap bs (i + l.enc.length + 1) (n + 1 + l.sz) q m ∧ w.grownBy w' (some p) ∧
      ∀ W : World, w'.heap.size ≤ W.heap.size → (∀ k, w.heap.size ≤ k → k < w'.heap.size → W.heap[k]? = w'.heap[k]?) → ∃ l' : TL, l'.list.length = l.list.length ∧ l'.Mem W.heap.size W oa 0 ∧ (oa = none → l'.list = [] ∧ oc = 0) ∧ l'.er = l.er := by
  have hne : bs ≠ [] := fun e => by subst e; simp at hE
  have HLo := hide (hr.low hne)
  clear hne
  have hpb := hr.lt
  have hpne : w.heap.size ≠ p := by omega
  have k2 := hr.c2
  have f2 := hr.f 2
  have HRy := hide (hr.setParts (n + 1) (by omega))
  have HGy := hide (grown_setCell w p 2 (.int .i64 ((n + 1 : Nat) : Int)))
  have k3 := HRy.out.c2
  rw [show ((n + 1 : Nat) : Int) = (n : Int) + 1 by omega] at k3 HRy HGy
  have HSz : Hid ((w.setCell ⟨p, 2, none⟩ (.int .i64 ((n : Int) + 1))).heap.size = w.heap.size) := by simp [World.setCell, Hid]
  have HB1 := hide (Box7.new (w.setCell ⟨p, 2, none⟩ (.int .i64 ((n : Int) + 1))) (.int .u8 0) (.bool false) (.int .i64 0) (.string ⟨#[]⟩) (.slice none 0 0) (.slice none 0 0) (.slice none 0 0))
  rw [HSz.out] at HB1
  have HR1 := hide (HRy.out.below (below_alloc _ (.cells #[.int .u8 0, .bool false, .int .i64 0, .string ⟨#[]⟩, .slice none 0 0, .slice none 0 0, .slice none 0 0] 41)))
  have HG1 : Hid (w.grownBy ((w.setCell ⟨p, 2, none⟩ (.int .i64 ((n : Int) + 1))).alloc (.cells #[.int .u8 0, .bool false, .int .i64 0, .string ⟨#[]⟩, .slice none 0 0, .slice none 0 0, .slice none 0 0] 41)) (some p)) := grown_trans HGy.out (grown_below (below_alloc _ _))
  have HS1 : Hid (((w.setCell ⟨p, 2, none⟩ (.int .i64 ((n : Int) + 1))).alloc (.cells #[.int .u8 0, .bool false, .int .i64 0, .string ⟨#[]⟩, .slice none 0 0, .slice none 0 0, .slice none 0 0] 41)).heap.size = w.heap.size + 1) := by simp [World.setCell, Hid]
  have hn512 : n + 1 ≤ 512 := by omega
  have HLi := hide (fun W hr => list_in p a cap bs q m l hl hR W i (n + 1) rest hr hn hE)
  clear hr hE hR hl
  go_enter Try.func32, Try.ntmps32
  go_wp2_with fail
  clear k2 f2 k3
  generalize (w.setCell ⟨p, 2, none⟩ (.int .i64 ((n : Int) + 1))).alloc (.cells #[.int .u8 0, .bool false, .int .i64 0, .string ⟨#[]⟩, .slice none 0 0, .slice none 0 0, .slice none 0 0] 41) = X1 at HR1 HG1 HS1 HB1 ⊢
  refine (HLi.out X1 HR1.out).mono ?_
  rintro e W1 ⟨o, xs, rfl, hown, hrd, hg, hst⟩
  have HR2 := hide hrd
  have HG2 := hide (grown_trans HG1.out hg)
  have HB2 := hide (HB1.out.grown hg hpne)
  have HOw := hide hown
  have HSt := hide hst
  obtain ⟨oa, oc, rfl⟩ := ownsRow_shape hown
  obtain ⟨j0, j1, j2, j3, j4, j5, j6⟩ := HB2.out.cells
  have fr := HB2.out.free
  have hsw : X1.heap.size ≤ W1.heap.size := hg.size
  clear hown hrd hg hst HLi
  go_wp2
  have HBz := hide (HB2.out.set7 (.int .u8 6) (.bool false) (.int .i64 0) (.string ⟨#[]⟩) (.slice none 0 0) (.slice oa l.list.length oc) (.slice none 0 0))
  have HGz := hide (grown_set7 W1 w.heap.size (.int .u8 6) (.bool false) (.int .i64 0) (.string ⟨#[]⟩) (.slice none 0 0) (.slice oa l.list.length oc) (.slice none 0 0))
  generalize ((((((W1.setCell ⟨w.heap.size, 0, none⟩ (.int .u8 6)).setCell ⟨w.heap.size, 1, none⟩ (.bool false)).setCell ⟨w.heap.size, 2, none⟩ (.int .i64 0)).setCell ⟨w.heap.size, 3, none⟩ (.string ⟨#[]⟩)).setCell ⟨w.heap.size, 4, none⟩ (.slice none 0 0)).setCell ⟨w.heap.size, 5, none⟩ (.slice oa l.list.length oc)).setCell ⟨w.heap.size, 6, none⟩ (.slice none 0 0) = Z at HBz HGz ⊢
  obtain ⟨z0, z1, z2, z3, z4, z5, z6⟩ := HBz.out.cells
  refine bodyPost_ret (v := .tuple #[.agg #[.int .u8 6, .bool false, .int .i64 0, .string ⟨#[]⟩, .slice none 0 0, .slice oa l.list.length oc, .slice none 0 0], .bool true]) ?_ rfl ?_
  · simp [results, Try.results32, go_sem, z0, z1, z2, z3, z4, z5, z6]
  · refine ⟨oa, oc, rfl, HR2.out.grown HLo.out HGz.out (fun k e => by cases e; exact Nat.le_refl _), grown_new HG2.out HGz.out (fun k e => by cases e; exact Nat.le_refl _), fun W hs ha => ?_⟩
    have sz := HGz.out.size
    have s1 := HS1.out
    have hblk : ∀ k, X1.heap.size ≤ k → k < W1.heap.size → W.heap[k]? = W1.heap[k]? := fun k k1 k2 => (ha k (by omega) (by omega)).trans (HGz.out.block k k2 (fun e => by simp at e; omega))
    obtain ⟨vs, e1, e2, e3⟩ := HSt.out W (by omega) (fun k k1 k2 _ => hblk k k1 k2)
    have hvl : vs.length = l.list.length := by
      have := congrArg List.length e3
      simpa using this
    refine ⟨TL.ofL vs, by rw [TL.ofL_list]; exact hvl, ?_, ?_, TL.er_of _ _ (by rw [TL.ofL_list]; exact e3)⟩
    · rcases HOw.out.2 with ⟨h1, h2⟩ | ⟨g, cp, cur, h1, h2, h3, _⟩
      · have : vs = [] := List.eq_nil_of_length_eq_zero (by omega)
        subst this
        trivial
      · have ho : oa = some ⟨g, 0, none⟩ := by injection h1
        subst ho
        have hgl := lt_of_block h3
        refine ofL_mem (by omega) vs 0 (fun j u hu => ?_) e2
        rw [e1] at hu
        have h9 := HOw.out.cells (g := g) rfl j u hu
        rw [Addr.add_lit] at h9
        rw [Nat.zero_mul]
        have hbk := hblk g h2 hgl
        simp only [World.cell?] at h9 ⊢
        rw [hbk]; exact h9
    · intro h0
      subst h0
      rcases HOw.out.2 with ⟨h1, h2⟩ | ⟨g, cp, cur, h1, _⟩
      · have : oc = 0 := by injection h1
        exact ⟨by rw [TL.ofL_list]; exact List.eq_nil_of_length_eq_zero (by omega), this⟩
      · simp at h1
theorem value_all (p : Nat) (a : Option Addr) (cap : Nat) (bs : List Int) (q : Nat) (m : Int) : ∀ (N : Nat) (c : T), c.sz ≤ N → c.gk → Reads p a cap bs q m c := by
  intro N
  induction N with
  | zero => intro c hc; cases c; simp [T.sz] at hc
  | succ N ih =>
    intro c hc hg w i n rest hr hn hne hE
    cases c with
    | mk k bo nn t ya yc y la lc l fa fc f =>
    obtain ⟨⟨⟨a1, a2⟩, a3, a4, a5, a6⟩, ⟨c1, c2, c3, c4, c5, c6⟩, c7⟩ := hg
    have hf := FL.nil_of' f c6
    subst hf
    have hk : k = 1 ∨ k = 2 ∨ k = 3 ∨ k = 4 ∨ k = 5 ∨ k = 6 := by omega
    rcases hk with rfl | rfl | rfl | rfl | rfl | rfl
    · have hl := TL.nil_of' l (c5 (by decide))
      subst hl
      obtain rfl := c1 (by decide)
      obtain rfl := c2 (by decide)
      obtain rfl := c3 (by decide)
      obtain rfl := c4 (by decide)
      simp only [T.sz, TL.sz, FL.sz] at hn
      refine (value_null p a cap bs i n q m w hr (by omega)).mono ?_
      rintro e w' ⟨rfl, hrd, hgr⟩
      exact ⟨_, rfl, by simpa [T.enc, T.sz, TL.sz, FL.sz] using hrd, hgr, fun W _ _ => ⟨leafT 1 false 0 ⟨#[]⟩, rfl, leafT_mem _ _ _ _ _ _, rfl⟩⟩
    · have hl := TL.nil_of' l (c5 (by decide))
      subst hl
      obtain rfl := c2 (by decide)
      obtain rfl := c3 (by decide)
      obtain rfl := c4 (by decide)
      simp only [T.sz, TL.sz, FL.sz] at hn
      cases bo with
      | false =>
        refine (value_false p a cap bs i n q m w hr (by omega)).mono ?_
        rintro e w' ⟨rfl, hrd, hgr⟩
        exact ⟨_, rfl, by simpa [T.enc, bB, T.sz, TL.sz, FL.sz] using hrd, hgr, fun W _ _ => ⟨leafT 2 false 0 ⟨#[]⟩, rfl, leafT_mem _ _ _ _ _ _, rfl⟩⟩
      | true =>
        refine (value_true p a cap bs i n q m w hr (by omega)).mono ?_
        rintro e w' ⟨rfl, hrd, hgr⟩
        exact ⟨_, rfl, by simpa [T.enc, bB, T.sz, TL.sz, FL.sz] using hrd, hgr, fun W _ _ => ⟨leafT 2 true 0 ⟨#[]⟩, rfl, leafT_mem _ _ _ _ _ _, rfl⟩⟩
    · have hl := TL.nil_of' l (c5 (by decide))
      subst hl
      obtain rfl := c1 (by decide)
      obtain rfl := c3 (by decide)
      obtain rfl := c4 (by decide)
      simp only [T.sz, TL.sz, FL.sz] at hn
      have hE' : (bs.drop i).map (tn m) = nbs (nX nn) 8 ++ rest := by simpa [T.enc, bI] using hE
      have hlen : i + 8 ≤ bs.length := by
        have := congrArg List.length hE'
        simp only [List.length_map, List.length_drop, List.length_append, nbs_len] at this
        omega
      have htk : ((bs.drop i).take 8).map (tn m) = nbs (nX nn) 8 := by
        rw [List.map_take, hE', List.take_append_of_le_length (by rw [nbs_len]; omega), List.take_of_length_le (by rw [nbs_len]; omega)]
      refine (value_num p a cap bs i n q m w hr (by omega) hlen).mono ?_
      rintro e w' ⟨rfl, hrd, hgr⟩
      rw [htk, unX_nX nn a3]
      exact ⟨_, rfl, by simpa [T.enc, bI, nbs_len, T.sz, TL.sz, FL.sz] using hrd, hgr, fun W _ _ => ⟨leafT 3 false nn ⟨#[]⟩, rfl, leafT_mem _ _ _ _ _ _, rfl⟩⟩
    · have hl := TL.nil_of' l (c5 (by decide))
      subst hl
      obtain rfl := c1 (by decide)
      obtain rfl := c2 (by decide)
      obtain rfl := c4 (by decide)
      simp only [T.sz, TL.sz, FL.sz] at hn
      have hE' : (bs.drop i).map (tn m) = esc (sb t) ++ 0 :: 1 :: rest := by simpa [T.enc, bT] using hE
      refine (value_text p a cap bs i n q m (sb t) rest w hr (by omega) hE' (sb_byts t) (by rw [sb_len]; omega)).mono ?_
      rintro e w' ⟨rfl, hrd, hgr⟩
      rw [bk_sb]
      exact ⟨_, rfl, by simpa [T.enc, bT, T.sz, TL.sz, FL.sz, Nat.add_assoc] using hrd, hgr, fun W _ _ => ⟨leafT 4 false 0 t, rfl, leafT_mem _ _ _ _ _ _, rfl⟩⟩
    · have hl := TL.nil_of' l (c5 (by decide))
      subst hl
      obtain rfl := c1 (by decide)
      obtain rfl := c2 (by decide)
      obtain rfl := c3 (by decide)
      simp only [T.sz, TL.sz, FL.sz] at hn
      have hE' : (bs.drop i).map (tn m) = esc y ++ 0 :: 1 :: rest := by simpa [T.enc, bYs] using hE
      refine (value_bytes p a cap bs i n q m y rest w hr (by omega) hE' a6 a5).mono ?_
      rintro e w' ⟨a', c', rfl, hown, hrd, hgr⟩
      refine ⟨_, rfl, by simpa [T.enc, bYs, T.sz, TL.sz, FL.sz, Nat.add_assoc] using hrd, hgr, fun W hs ha => ?_⟩
      obtain ⟨a2', c2', e2, -, -, hbare, hrow, hblk⟩ := hown.own.shape
      have e1 : a' = a2' ∧ c' = c2' := by simpa using e2
      obtain ⟨rfl, rfl⟩ := e1
      refine ⟨.mk 5 false 0 ⟨#[]⟩ a' c' y none 0 .nil none 0 .nil, rfl, ⟨?_, a6, ?_, by omega, trivial, fun _ => ⟨rfl, rfl⟩, by simp [TL.list], trivial, fun _ => ⟨rfl, rfl⟩, by simp [FL.list]⟩, rfl⟩
      · rcases hrow with h0 | ⟨b, off, rfl, hlt, hcell⟩
        · exact .inl h0
        · refine .inr ⟨b, off, rfl, by omega, fun j hj => ?_⟩
          have hb1 := hown.new b rfl
          have hbk := ha b (by omega) hlt
          have h9 := hcell j hj
          simp only [World.cell?] at h9 ⊢
          rw [hbk]; exact h9
      · intro h0
        obtain ⟨g1, g2⟩ := hbare h0
        exact ⟨List.eq_nil_of_length_eq_zero g1, g2⟩
    · obtain rfl := c1 (by decide)
      obtain rfl := c2 (by decide)
      obtain rfl := c3 (by decide)
      obtain rfl := c4 (by decide)
      simp only [T.sz, FL.sz] at hn hc
      have hE' : (bs.drop i).map (tn m) = l.enc ++ 1 :: rest := by simpa [T.enc] using hE
      refine (value_list p a cap bs q m l c7 (fun c hcm => ih c (by have := TL.sz_mem l c hcm; omega) (TL.gk_mem l c7 c hcm)) w i n rest hr (by omega) hE').mono ?_
      rintro e w' ⟨oa, oc, rfl, hrd, hgr, hst⟩
      refine ⟨_, rfl, ?_, hgr, fun W hs ha => ?_⟩
      · have h9 : Rdr w' p a cap bs (i + (l.enc.length + 1)) (n + (1 + l.sz)) q m := by
          rw [← Nat.add_assoc, ← Nat.add_assoc]; exact hrd
        simpa [T.enc, T.sz, FL.sz] using h9
      · obtain ⟨l', h1, h2, h3, h4⟩ := hst W hs ha
        have hll := TL.len_le l
        exact ⟨.mk 6 false 0 ⟨#[]⟩ none 0 [] oa oc l' none 0 .nil, by simp [T.val, h1, FL.list], ⟨.inl rfl, fun c hc => by simp at hc, fun _ => ⟨rfl, rfl⟩, by simp, h2, h3, by omega, trivial, fun _ => ⟨rfl, rfl⟩, by simp [FL.list]⟩, by simp only [T.er, h4]⟩
end Go.Proofs.Ytegoeaofjnpehaa
