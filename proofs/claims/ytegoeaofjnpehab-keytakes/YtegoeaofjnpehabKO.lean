/- One, where it refuses a value. -/
import Derived.Test.YtegoeaofjnpehabKM
import Derived.Test.YtegoeaofjnpehabKJ
namespace Go.Proofs.Ytegoeaofjnpehab
open Go.RowKit
set_option linter.unusedVariables false

/-- One, where it refuses: no bytes. -/
def OneNo (v : T) (m : Int) (w : World) (e : Ending) (w' : World) : Prop := e = .returned (.tuple #[.slice none 0 0, .int .u16 (oneE v : Int)]) ∧ Below w.heap.size w w'
set_option maxHeartbeats 3200000 in
set_option maxRecDepth 1000000 in
theorem one_no (d : Bool) (n₀ : Nat) (v : T) (w : World) (hm : v.Mem n₀ w) (hn : n₀ ≤ w.heap.size) (hT : v.Tame) (hE : v.enc.length ≤ 9999999) (h0 : ¬ oneE v = 0) :
    Calls Try.prog 12 #[v.val, .bool d] w fun e w' => OneNo v (mk d) w e w' ∧ True := by
  have hmd : 0 ≤ mk d ∧ mk d ≤ 255 := by unfold mk; split <;> omega
  have HT := hide (turning_any d)
  have HCk := hide (fun W (hW : Below n₀ w W) (hs : n₀ ≤ W.heap.size) => check_all n₀ v W (hm.on hW) hs hT)
  have HDc := hide (fun W (hW : Below n₀ w W) (hs : n₀ ≤ W.heap.size) => hasdoc_gen n₀ v.sz v (Nat.le_refl _) W (hm.on hW) hs)
  have HWr := hide (fun W po pt q (hW : Below n₀ w W) (hs : n₀ ≤ W.heap.size) (hp : PutS W po pt q (mk d) []) (hN : New n₀ W po) => write_gen n₀ po pt q (mk d) v.sz v (Nat.le_refl _) W [] hp (hm.on hW) hN hs (by simp; omega))
  have HCl := hide (ckE_le v)
  have HOe : Hid (oneE v = if ckE v = 0 then (if v.hd then 41 else if 160 < v.enc.length then 42 else 0) else 40) := rfl
  have HBad : Hid (∀ (w' : World) (x : Nat), oneE v = x → ¬ x = 0 → Below w.heap.size w w' → OneNo v (mk d) w (.returned (.tuple #[.slice none 0 0, .int .u16 (x : Int)])) w') := fun w' x h hx hb => by subst h; exact ⟨rfl, hb⟩
  have HGood : Hid (∀ (w' : World) (a : Option Addr) (c : Nat), oneE v = 0 → Own w' (.slice a v.enc.length c) (v.enc.map (tn (mk d))) → (∀ k, (Value.slice a v.enc.length c).ownBlock = some k → w.heap.size ≤ k) → Below w.heap.size w w' → OneNo v (mk d) w (.returned (.tuple #[.slice a v.enc.length c, .int .u16 0])) w') := fun w' a c h _ _ _ => absurd h h0
  clear h0
  generalize OneNo v (mk d) w = Post at *
  generalize hO : oneE v = oe at *
  generalize v.hd = hd at *
  generalize ckE v = ck at *
  have HEl := hide hE
  clear hE hT hm hO
  generalize v.enc = ys at *
  cases v with
  | mk k bo n t ya yc y la lc l fa fc f =>
  simp only [T.val] at *
  have HB0 := hide (Box7.new w (.int .u8 k) (.bool bo) (.int .i64 n) (.string t) (.slice ya y.length yc) (.slice la l.list.length lc) (.slice fa f.list.length fc))
  have HF0 := hide ((Fr.refl w).alloc (.cells #[.int .u8 k, .bool bo, .int .i64 n, .string t, .slice ya y.length yc, .slice la l.list.length lc, .slice fa f.list.length fc] 32))
  generalize mk d = m at *
  go_enter Try.func12, Try.ntmps12
  go_wp2_with fail
  refine (HCk.out _ (HF0.out.below.mono hn) (by have := HF0.out.size; omega)).mono ?_
  rintro e W1 ⟨rfl, hb⟩
  have HB1 := hide (HB0.out.below hb)
  have HF1 := hide (HF0.out.on hb)
  clear hb HB0 HF0
  generalize hbw : w.heap.size = b at *
  have HBW := hide hbw
  clear hbw
  obtain ⟨k0, k1, k2, k3, k4, k5, k6⟩ := HB1.out.cells
  by_cases hck : ck = 0
  · subst hck
    go_wp2_with fail
    refine (HDc.out _ (HF1.out.below.mono hn) (by have := HF1.out.size; omega)).mono ?_
    rintro e W2 ⟨rfl, hb⟩
    have HB2 := hide (HB1.out.below hb)
    have HF2 := hide (HF1.out.on hb)
    clear hb HB1 HF1 k0 k1 k2 k3 k4 k5 k6
    cases hd
    · go_wp2_with fail
      refine (HT.out _).mono ?_
      rintro e W3 ⟨rfl, rfl⟩
      have HS := hide (PutS.start W2 m hmd)
      have HF3 := hide (((HF2.out.alloc (.cells #[.slice none 0 0] 22)).alloc (.cells #[.int .u8 m] 5)).alloc (.cells #[.func (.func 36) #[] #[.pointer (some ⟨W2.heap.size + 1, 0, none⟩)]] 55))
      have HB3 := hide (((HB2.out.below (below_alloc _ (.cells #[.slice none 0 0] 22))).below (below_alloc _ (.cells #[.int .u8 m] 5))).below (below_alloc _ (.cells #[.func (.func 36) #[] #[.pointer (some ⟨W2.heap.size + 1, 0, none⟩)]] 55)))
      obtain ⟨k0, k1, k2, k3, k4, k5, k6⟩ := HB3.out.cells
      go_wp2_with fail
      refine (HWr.out _ _ _ _ (HF3.out.below.mono hn) (by have := HF3.out.size; omega) HS.out (fun k hk => by have := start_foot W2 m k hk; have := HF2.out.size; omega)).mono ?_
      rintro e W4 ⟨rfl, hp, ho⟩
      have HF4 : Hid (Fr b w W4) := ⟨HF3.out.below.trans (ho.below (fun k hk => by have := start_foot W2 m k hk; have := HF2.out.size; omega) HF3.out.size), Nat.le_trans HF3.out.size ho.size⟩
      rw [List.nil_append] at hp
      obtain ⟨va, hcell, hown, hap⟩ := hp.wr
      obtain ⟨a1, c1, rfl, hle, hmx, hnn, hrow, _⟩ := hown.shape
      have g0 := cell_of_one hcell
      have HNw : Hid (∀ k, (Value.slice a1 (List.map (tn m) ys).length c1).ownBlock = some k → b ≤ k) := fun k hk => by
        rcases ho.foot k (.inr ⟨_, hcell, hk⟩) with h | h
        · have := start_foot W2 m k h; have := HF2.out.size; omega
        · have := HF3.out.size; omega
      have HRw := hide hown
      have HNn := hide hnn
      rw [List.length_map] at g0 HNn HNw HRw
      clear hcell hown hap hp ho hrow hnn k0 k1 k2 k3 k4 k5 k6
      by_cases hlen : 160 < ys.length
      · have hld : decide ((160 : Int) < (ys.length : Int)) = true := by simp; omega
        have HR : Hid (oe = 42) := by rw [Hid, HOe.out]; simp [hlen]
        clear hlen
        go_wp2
        go_ret2
        exact ⟨HBad.out _ 42 HR.out (by omega) HF4.out.below, trivial⟩
      · have hld : decide ((160 : Int) < (ys.length : Int)) = false := by simp; omega
        have HR : Hid (oe = 0) := by rw [Hid, HOe.out]; simp [hlen]
        clear hlen
        go_wp2
        go_ret2
        exact ⟨HGood.out _ a1 c1 HR.out HRw.out HNw.out HF4.out.below, trivial⟩
    · have HR : Hid (oe = 41) := by rw [Hid, HOe.out]; simp
      go_wp2
      go_ret2
      exact ⟨HBad.out _ 41 HR.out (by omega) HF2.out.below, trivial⟩
  · have hcb : ((ck : Int) == 0) = false := by simp; omega
    have HR : Hid (oe = 40) := by rw [Hid, HOe.out]; simp [hck]
    clear hck
    go_wp2
    go_ret2
    exact ⟨HBad.out _ 40 HR.out (by omega) HF1.out.below, trivial⟩
end Go.Proofs.Ytegoeaofjnpehab
/- What KeyTakes wants of Decode, Encode, Split, One and Check of any bytes. -/
namespace Go.Proofs.Ytegoeaofjnpehab
open Go.RowKit
set_option linter.unusedVariables false

/-- the list that lies in the row o. -/
theorem owns_list {B : Nat} {w' : World} {oa : Option Addr} {n oc : Nat} {xs : List Value} {ts : List T} (ho : w'.ownsRow B 32 7 (.slice oa n oc) ts.length xs) (hs : StaysL B w' (.slice oa n oc) xs ts) (W : World) (hb : Below w'.heap.size w' W) : ∃ m : TL, m.list.length = ts.length ∧ m.Mem W.heap.size W oa 0 ∧ m.list.map T.er = ts.map T.er := by
  obtain ⟨vs, e1, e2, e3⟩ := hs W hb.size (fun k _ k2 _ => hb.block k k2)
  have hvl : vs.length = ts.length := by
    have := congrArg List.length e3
    simpa using this
  have sz := hb.size
  refine ⟨TL.ofL vs, by rw [TL.ofL_list]; exact hvl, ?_, by rw [TL.ofL_list]; exact e3⟩
  rcases ho.2 with ⟨h1, h2⟩ | ⟨g, cp, cur, h1, h2, h3, _⟩
  · have : vs = [] := List.eq_nil_of_length_eq_zero (by omega)
    subst this
    trivial
  · have ho' : oa = some ⟨g, 0, none⟩ := by injection h1
    subst ho'
    have hgl := lt_of_block h3
    refine ofL_mem (by omega) vs 0 (fun j u hu => ?_) e2
    rw [e1] at hu
    have h9 := ho.cells (g := g) rfl j u hu
    rw [Addr.add_lit] at h9
    rw [Nat.zero_mul]
    have hbk := hb.block g hgl
    simp only [World.cell?] at h9 ⊢
    rw [hbk]; exact h9
theorem Bl.wider {n₀ n₁ : Nat} {W : World} {a : Option Addr} {ds : List Bool} (h : n₀ ≤ n₁) (k : Bl n₀ W a ds) : Bl n₁ W a ds := by
  rcases k with k | ⟨b, o, rfl, hlt, hc⟩
  · exact .inl k
  · exact .inr ⟨b, o, rfl, by omega, hc⟩
set_option maxHeartbeats 1600000 in
theorem decode_none (a da : Option Addr) (cap dn dc : Nat) (w : World) :
    Calls Try.prog 6 #[.slice a 0 cap, .slice da dn dc] w fun e w' => e = .returned (.tuple #[.slice none 0 0, .int .u16 0, .int .i64 0]) ∧ w' = w := by
  go_enter Try.func6, Try.ntmps6
  go_wp2
  go_loopw [7, 8] (fun l s wr => l = .slice none 0 0 ∧ s = .int .i64 0 ∧ wr = w) (fun _ _ _ => 0)
  case atStart => exact ⟨rfl, rfl, rfl⟩
  case round =>
    obtain ⟨rfl, rfl, rfl⟩ := hrel
    go_wp2
    go_ret3
    exact ⟨rfl, rfl⟩
/-- what Encode answers of what was read. -/
def EncK (bs : List Int) (V : Value) (da : Option Addr) (dc dn : Nat) (w' : World) : Prop := ∀ X, Below w'.heap.size w' X → Calls Try.prog 9 #[V, .slice da dn dc] X fun e X' => ∃ a c n, ∃ g : Nat, e = .returned (.tuple #[.slice a n c, .int .u16 (g : Int)]) ∧ Below X.heap.size X X' ∧ ((g = 0 ∧ n = bs.length ∧ Row X' a bs) ∨ (g = 42 ∧ 160 < bs.length))
theorem enc_k (bs : List Int) (oa : Option Addr) (oc : Nat) (n₀ : Nat) (da : Option Addr) (dc : Nat) (ds : List Bool) (ts : List T) (X : World) (m : TL) (hm : m.Mem X.heap.size X oa 0) (he : m.list.map T.er = ts.map T.er) (hf : ∀ c ∈ ts, FineG c) (h4 : ts.length ≤ 4) (hbs : bs = tupG ds 0 ts) (hlen : bs.length ≤ 20000) (hd : Bl n₀ X da ds) (hdl : ds.length ≤ 9223372036854775807) (hn : n₀ ≤ X.heap.size) :
    Calls Try.prog 9 #[.slice oa m.list.length oc, .slice da ds.length dc] X fun e X' => ∃ a c n, ∃ g : Nat, e = .returned (.tuple #[.slice a n c, .int .u16 (g : Int)]) ∧ Below X.heap.size X X' ∧ ((g = 0 ∧ n = bs.length ∧ Row X' a bs) ∨ (g = 42 ∧ 160 < bs.length)) := by
  have hfm := fine_all he hf
  have hml : m.list.length = ts.length := by simpa using congrArg List.length he
  have htg : tupG ds 0 m.list = bs := by rw [hbs]; exact tupG_er ds _ _ 0 he
  refine (encode_gen X.heap.size oa oc m da dc ds X hm (fun c hc => ?_) (by omega) (hd.wider hn) hdl (Nat.le_refl _)).mono ?_
  · have h1 := T.wt_enc c (hfm c hc).1
    have h2 := tupG_len ds m.list 0 c hc
    rw [htg] at h2
    omega
  · rintro e X' ⟨⟨⟨a, c, rfl, ho⟩, hb⟩, -⟩
    refine ⟨a, c, _, _, rfl, hb, ?_⟩
    rcases enc_fine ds m.list hfm (by omega) with ⟨h1, h2⟩ | ⟨h1, h2⟩
    · left
      rw [htg] at h2
      refine ⟨h1, by rw [h2], ?_⟩
      have := ho.row
      rw [h2] at this
      exact this
    · right
      rw [htg] at h2
      exact ⟨h1, h2⟩
theorem decode_out (n₀ : Nat) (a : Option Addr) (cap : Nat) (bs : List Int) (da : Option Addr) (dc : Nat) (ds : List Bool) (w : World) (hrow : Row w a bs) (hby : Byts bs) (hlen : bs.length ≤ 20000) (hcap : bs.length ≤ cap) (hd : Bl n₀ w da ds) (hdl : ds.length ≤ 9223372036854775807) (hn : n₀ ≤ w.heap.size) :
    Calls Try.prog 6 #[.slice a bs.length cap, .slice da ds.length dc] w fun e w' => ((∃ V, e = .returned (.tuple #[V, .int .u16 0, .int .i64 0]) ∧ (bs.length ≠ 0 → ∃ c rest, FineG c ∧ bs.map (tn (mk (ds.getD 0 false))) = c.enc ++ rest) ∧ EncK bs V da dc ds.length w') ∨ (∃ at' : Int, e = .returned (.tuple #[.slice none 0 0, .int .u16 40, .int .i64 at']))) ∧ Below w.heap.size w w' := by
  by_cases h0 : bs.length = 0
  · have hb0 : bs = [] := List.eq_nil_of_length_eq_zero h0
    rw [h0]
    refine (decode_none a da cap ds.length dc w).mono ?_
    rintro e w' ⟨rfl, rfl⟩
    refine ⟨.inl ⟨_, rfl, fun h => absurd rfl h, fun X hX => ?_⟩, Below.refl _ _⟩
    exact enc_k bs none 0 n₀ da dc ds [] X .nil trivial rfl (fun c hc => by simp at hc) (by simp) (by rw [hb0]; rfl) hlen (hd.on (hX.mono hn)) hdl (by have := hX.size; omega)
  · obtain ⟨b, o, rfl, hcell⟩ : ∃ b o, a = some ⟨b, o, none⟩ ∧ b < w.heap.size := by
      rcases hrow with h | ⟨b, o, h, hc⟩
      · rw [h] at h0; simp at h0
      · exact ⟨b, o, h, hc.1⟩
    refine (decode_any n₀ b o cap bs da dc ds w hrow hcell hby hlen hcap hd hdl hn).mono ?_
    rintro e w' (⟨v, xs, ts, rfl, h4, hf, hbs, hown, hb, hst⟩ | ⟨at', rfl, hb⟩)
    · obtain ⟨oa, oc, rfl⟩ := ownsRow_shape hown
      refine ⟨.inl ⟨_, rfl, fun _ => ?_, fun X hX => ?_⟩, hb⟩
      · rw [hbs] at h0 ⊢
        exact tupG_first ds ts hf (fun h => h0 (by rw [h]; rfl))
      · obtain ⟨m, e1, e2, e3⟩ := owns_list hown hst X hX
        have hbw : Below w.heap.size w X := hb.trans (hX.mono hb.size)
        have := enc_k bs oa oc n₀ da dc ds ts X m e2 e3 hf h4 hbs hlen (hd.on (hbw.mono hn)) hdl (by have := hbw.size; omega)
        rw [e1] at this
        exact this
    · exact ⟨.inr ⟨at', rfl⟩, hb⟩
set_option maxHeartbeats 3200000 in
set_option maxRecDepth 1000000 in
theorem split_no (a : Option Addr) (cap len : Nat) (d : Bool) (w : World) (hF : ∀ W, Below w.heap.size w W → Calls Try.prog 18 #[.slice a len cap, .bool d] W fun e w' => e = .returned (.tuple #[.agg #[.int .u8 0, .bool false, .int .i64 0, .string ⟨#[]⟩, .slice none 0 0, .slice none 0 0, .slice none 0 0], .int .i64 0, .bool false]) ∧ Below W.heap.size W w') :
    Calls Try.prog 7 #[.slice a len cap, .bool d] w fun e w' => e = .returned (.tuple #[.agg #[.int .u8 0, .bool false, .int .i64 0, .string ⟨#[]⟩, .slice none 0 0, .slice none 0 0, .slice none 0 0], .slice none 0 0, .int .u16 40]) ∧ Below w.heap.size w w' := by
  have HFi := hide hF
  clear hF
  go_enter Try.func7, Try.ntmps7
  go_wp2_with fail
  have HB0 := hide (Box7.new w (.int .u8 0) (.bool false) (.int .i64 0) (.string ⟨#[]⟩) (.slice none 0 0) (.slice none 0 0) (.slice none 0 0))
  have HF0 := hide ((Fr.refl w).alloc (.cells #[.int .u8 0, .bool false, .int .i64 0, .string ⟨#[]⟩, .slice none 0 0, .slice none 0 0, .slice none 0 0] 32))
  refine (HFi.out _ (below_alloc _ _)).mono ?_
  rintro e W2 ⟨rfl, hb2⟩
  have HB2 := hide (HB0.out.below hb2)
  have HF2 := hide (HF0.out.on hb2)
  clear hb2 HB0 HF0
  have HB4 := hide (HB2.out.below (below_alloc W2 (.cells #[.int .u8 0, .bool false, .int .i64 0, .string ⟨#[]⟩, .slice none 0 0, .slice none 0 0, .slice none 0 0] 32)))
  have HF4 := hide (HF2.out.alloc (.cells #[.int .u8 0, .bool false, .int .i64 0, .string ⟨#[]⟩, .slice none 0 0, .slice none 0 0, .slice none 0 0] 32))
  clear HB2 HF2
  obtain ⟨l0, l1, l2, l3, l4, l5, l6⟩ := HB4.out.cells
  have fr := HB4.out.free
  go_wp2
  have HBz := hide (HB4.out.set7 (.int .u8 0) (.bool false) (.int .i64 0) (.string ⟨#[]⟩) (.slice none 0 0) (.slice none 0 0) (.slice none 0 0))
  have HFz := hide (HF4.out.grown (grown_set7 _ w.heap.size (.int .u8 0) (.bool false) (.int .i64 0) (.string ⟨#[]⟩) (.slice none 0 0) (.slice none 0 0) (.slice none 0 0)) (fun x e => by cases e; exact Nat.le_refl _))
  obtain ⟨z0, z1, z2, z3, z4, z5, z6⟩ := HBz.out.cells
  clear l0 l1 l2 l3 l4 l5 l6 fr
  refine bodyPost_ret (v := .tuple #[.agg #[.int .u8 0, .bool false, .int .i64 0, .string ⟨#[]⟩, .slice none 0 0, .slice none 0 0, .slice none 0 0], .slice none 0 0, .int .u16 40]) ?_ rfl ?_
  · simp [results, Try.results7, go_sem, z0, z1, z2, z3, z4, z5, z6]
  · exact ⟨rfl, HFz.out.below⟩
end Go.Proofs.Ytegoeaofjnpehab
/- What KeyTakes wants of Split, One and Check of any bytes. -/
namespace Go.Proofs.Ytegoeaofjnpehab
open Go.RowKit
set_option linter.unusedVariables false

/-- what One answers of the value that was split off. -/
def OneK (zs : List Int) (d : Bool) (V : Value) (w' : World) : Prop := ∀ X, Below w'.heap.size w' X → Calls Try.prog 12 #[V, .bool d] X fun e X' => ∃ a n q, ∃ g : Nat, e = .returned (.tuple #[.slice a n q, .int .u16 (g : Int)]) ∧ Below X.heap.size X X' ∧ ((g = 0 ∧ n = zs.length ∧ Own X' (.slice a n q) zs ∧ (∀ k, (Value.slice a n q).ownBlock = some k → X.heap.size ≤ k)) ∨ (g = 42 ∧ 160 < zs.length ∧ a = none ∧ n = 0 ∧ q = 0))
/-- what the document's Check answers of it. -/
def ChkK (V : Value) (w' : World) : Prop := ∀ X, Below w'.heap.size w' X → Calls Try.prog 13 #[V] X fun e X' => e = .returned (.int .i64 0) ∧ Below X.heap.size X X'
theorem one_k (c : T) (d : Bool) (v : T) (X : World) (hf : FineG c) (hm : v.Mem X.heap.size X) (he : v.er = c.er) (hl : c.enc.length ≤ 20000) :
    Calls Try.prog 12 #[v.val, .bool d] X fun e X' => ∃ a n q, ∃ g : Nat, e = .returned (.tuple #[.slice a n q, .int .u16 (g : Int)]) ∧ Below X.heap.size X X' ∧ ((g = 0 ∧ n = (c.enc.map (tn (mk d))).length ∧ Own X' (.slice a n q) (c.enc.map (tn (mk d))) ∧ (∀ k, (Value.slice a n q).ownBlock = some k → X.heap.size ≤ k)) ∨ (g = 42 ∧ 160 < (c.enc.map (tn (mk d))).length ∧ a = none ∧ n = 0 ∧ q = 0)) := by
  have hfv := FineG.er he hf
  have h1 := FineG.one hfv
  have h2 := enc_of_er he
  have h3 := T.wt_enc v hfv.1
  have h4 : (c.enc.map (tn (mk d))).length = c.enc.length := by simp
  rw [h2] at h3 h1
  by_cases hb : 160 < c.enc.length
  · rw [if_pos hb] at h1
    refine (one_no d X.heap.size v X hm (Nat.le_refl _) (tame_of v (by omega)) (by rw [h2]; omega) (by omega)).mono ?_
    rintro e X' ⟨⟨rfl, hbl⟩, -⟩
    exact ⟨none, 0, 0, 42, by rw [h1], hbl, .inr ⟨rfl, by rw [h4]; exact hb, rfl, rfl, rfl⟩⟩
  · rw [if_neg hb] at h1
    refine (one_own d X.heap.size v X hm (Nat.le_refl _) (tame_of v (by omega)) (by rw [h2]; omega) h1).mono ?_
    rintro e X' ⟨⟨⟨a, q, rfl, ho, hk⟩, hbl⟩, -⟩
    rw [h2] at ho hk
    exact ⟨a, c.enc.length, q, 0, by rw [h2]; rfl, hbl, .inl ⟨rfl, h4.symm, ho, hk⟩⟩
theorem split_out (a : Option Addr) (cap : Nat) (bs : List Int) (d : Bool) (w : World) (hrow : Row w a bs) (hby : Byts bs) (hlen : bs.length ≤ 20000) (hcap : bs.length ≤ cap) :
    Calls Try.prog 7 #[.slice a bs.length cap, .bool d] w fun e w' => ((∃ (v : T) (zs rs : List Int) (ra : Option Addr) (rc : Nat), e = .returned (.tuple #[v.val, .slice ra rs.length rc, .int .u16 0]) ∧ bs = zs ++ rs ∧ Own w' (.slice ra rs.length rc) rs ∧ OneK zs d v.val w' ∧ ChkK v.val w') ∨ (e = .returned (.tuple #[.agg #[.int .u8 0, .bool false, .int .i64 0, .string ⟨#[]⟩, .slice none 0 0, .slice none 0 0, .slice none 0 0], .slice none 0 0, .int .u16 40]) ∧ ¬ ∃ c rest, FineG c ∧ bs.map (tn (mk d)) = c.enc ++ rest)) ∧ Below w.heap.size w w' := by
  by_cases hex : ∃ c rest, FineG c ∧ bs.map (tn (mk d)) = c.enc ++ rest
  · obtain ⟨c, rest, hc, hE⟩ := hex
    have hlE := congrArg List.length hE
    rw [List.length_map, List.length_append] at hlE
    have hne : 1 ≤ c.enc.length := by obtain ⟨h1, -⟩ := gk_head c hc.1; rw [h1]; simp
    obtain ⟨b, o, rfl⟩ : ∃ b o, a = some ⟨b, o, none⟩ := by
      rcases hrow with h | ⟨b, o, h, -⟩
      · rw [h] at hlE; simp at hlE; omega
      · exact ⟨b, o, h⟩
    have hwt := T.wt_enc c hc.1
    refine (split_in b o cap bs rest c d w hrow hby (by omega) hcap hE hc.1 hc.2.1 (by omega) hc.2.2.1).mono ?_
    rintro e w' ⟨V, ra, rn, rc, rfl, hb, ho, hk, hst⟩
    obtain ⟨v0, rfl, -, -⟩ := hst w' (Nat.le_refl _) (fun _ _ _ => rfl)
    have hbs : bs = c.enc.map (tn (mk d)) ++ rest.map (tn (mk d)) := by
      rw [← List.map_append, ← hE, map_tn_tn d bs hby]
    have hdr : bs.drop c.enc.length = rest.map (tn (mk d)) := by
      have e2 : c.enc.length = (c.enc.map (tn (mk d))).length := by simp
      rw [hbs, e2, List.drop_left]
    rw [hdr] at ho
    obtain ⟨_, _, e9, _⟩ := ho.shape
    have hrn : rn = (rest.map (tn (mk d))).length := by
      obtain ⟨a', c', e, _⟩ := ho.shape
      cases e
      rfl
    subst hrn
    refine ⟨.inl ⟨v0, _, _, ra, rc, rfl, hbs, ho, fun X hX => ?_, fun X hX => ?_⟩, hb⟩
    · obtain ⟨v, ev, m1, e1⟩ := hst X hX.size (fun k _ k2 => hX.block k k2)
      have := one_k c d v X hc m1 e1 (by omega)
      rw [ev] at this
      exact this
    · obtain ⟨v, ev, m1, e1⟩ := hst X hX.size (fun k _ k2 => hX.block k k2)
      have hfv := FineG.er e1 hc
      have := check_doc v hfv.1 hfv.2.1 hfv.2.2.1 X.heap.size X m1 (Nat.le_refl _)
      rw [ev] at this
      exact this
  · by_cases h0 : bs.length = 0
    · rw [h0]
      refine (split_no a cap 0 d w (fun W hW => first_empty d a cap W)).mono ?_
      rintro e w' ⟨rfl, hb⟩
      exact ⟨.inr ⟨rfl, hex⟩, hb⟩
    · refine (split_no a cap bs.length d w (fun W hW => first_none d a cap bs W (hrow.below hW) hby hlen (by omega) hex)).mono ?_
      rintro e w' ⟨rfl, hb⟩
      exact ⟨.inr ⟨rfl, hex⟩, hb⟩
end Go.Proofs.Ytegoeaofjnpehab
