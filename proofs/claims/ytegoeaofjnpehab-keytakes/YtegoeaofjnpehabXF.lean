/- The reader of keys: no value. -/
import Derived.Test.YtegoeaofjnpehabKC
import Derived.Deep.Cut
import Derived.Test.YtegoeaofjnpehabXA
namespace Go.Proofs.Ytegoeaofjnpehab
open Go.RowKit
set_option linter.unusedVariables false

/-- these bytes begin with a value's, that may be one of so many parts. -/
def Beg (n : Nat) (zs : List Int) : Prop := ∃ (c : T) (rest : List Int), c.gk ∧ n + c.sz ≤ 512 ∧ zs = c.enc ++ rest
theorem TL.gk_ofL : ∀ l : List T, (∀ c ∈ l, c.gk) → (TL.ofL l).gk
  | [], _ => trivial
  | c :: r, h => ⟨h c (by simp), TL.gk_ofL r (fun x hx => h x (by simp [hx]))⟩
/-- what a list's values are read from. -/
def ValNo (p : Nat) (a : Option Addr) (cap : Nat) (bs : List Int) (q : Nat) (m : Int) (M : Nat) : Prop :=
  ∀ (w : World) (i n : Nat) (mk : Int), bs.length - i < M → Rdr w p a cap bs i n q m → n < 1000000 → 0 ≤ mk ∧ mk ≤ 255 → Low w.heap.size p q a → ¬ Beg n (mk :: (bs.drop i).map (tn m)) →
    Calls Try.prog 31 #[.pointer (some ⟨p, 0, none⟩), .int .u8 mk] w fun e w' => NoV p w e w'
theorem beg_head {n : Nat} {mk : Int} {zs : List Int} (h : Beg n (mk :: zs)) : ∃ (c : T) (rest : List Int), c.gk ∧ n + c.sz ≤ 512 ∧ c.enc = mk :: c.enc.tail ∧ zs = c.enc.tail ++ rest := by
  obtain ⟨c, rest, hg, hs, e⟩ := h
  obtain ⟨h1, -⟩ := gk_head c hg
  rw [h1, List.cons_append] at e
  obtain ⟨e1, e2⟩ := List.cons.inj e
  exact ⟨c, rest, hg, hs, by rw [e1]; exact h1, e2⟩
set_option maxHeartbeats 3200000 in
set_option maxRecDepth 1000000 in
theorem list_no (p : Nat) (a : Option Addr) (cap : Nat) (bs : List Int) (q : Nat) (m : Int) (M : Nat) (hV : ValNo p a cap bs q m M) (w : World) (i n : Nat) (hM : bs.length - i ≤ M) (hr : Rdr w p a cap bs i n q m) (hlo : Low w.heap.size p q a) (hn : n ≤ 512) (hH : ∀ (l : TL) (rest : List Int), l.gk → n + l.sz ≤ 512 → (bs.drop i).map (tn m) ≠ l.enc ++ 1 :: rest) :
    Calls Try.prog 44 #[.pointer (some ⟨p, 0, none⟩)] w fun e w' => e = .returned (.tuple #[.slice none 0 0, .bool false]) ∧ w.grownBy w' (some p) := by
  obtain ⟨i0, hi, hz0, hz1, hz2⟩ := info_parts Try.info41
  have HLo := hide hlo
  have HR := hide hr
  have HH := hide hH
  have HVn := hide hV
  have HM := hide hM
  clear hr hlo hH hV hM
  go_enter Try.func44, Try.ntmps44
  go_wp2
  go_loopw [4] (fun o wr => ∃ (us : List T) (xs : List Value), us.length ≤ szs us ∧ n + szs us ≤ 512 ∧ Hid (∀ c ∈ us, c.gk) ∧ wr.ownsRow w.heap.size 32 7 o us.length xs ∧ Rdr wr p a cap bs (i + (encs us).length) (n + szs us) q m ∧ Hid ((bs.drop i).map (tn m) = encs us ++ (bs.drop (i + (encs us).length)).map (tn m)) ∧ w.grownBy wr (some p)) (fun o _ => 600 - lenV o)
  case atStart => exact ⟨[], [], by simp [szs], by simpa [szs] using hn, by intro c hc; simp at hc, World.ownsRow_nil w _ 32 7, by simpa [encs, szs] using HR.out, by simp [encs, Hid], grown_refl _ _⟩
  obtain ⟨us, xs, hus, hns, HG, hown, hrd, HDr, hg⟩ := hrel
  obtain ⟨oa, oc, rfl⟩ := ownsRow_shape hown
  have HO := hide hown
  have HRw := hide hrd
  have HGw := hide hg
  have hle := hrd.le
  clear hown hrd hg HR
  by_cases hlt : i + (encs us).length < bs.length
  · have HAt := hide (tail_at bs m _ hlt)
    have hby := tn_bd m (bs.getD (i + (encs us).length) 0) (HRw.out.byts.at _) HRw.out.md
    have HNx := hide (next_in p a cap bs _ _ q m wr HRw.out hlt)
    have hne1 : tn m (bs.getD (i + (encs us).length) 0) ≠ 1 := fun e1 => by
      have h1 := HDr.out
      rw [HAt.out, e1] at h1
      exact HH.out (TL.ofL us) _ (TL.gk_ofL us HG.out) (by rw [← szs_is, TL.ofL_list]; exact hns) (by rw [TL.enc_is, TL.ofL_list]; exact h1)
    have hbs0 : bs ≠ [] := fun e => by rw [e] at hlt; simp at hlt
    have HBM : Hid (bs.length - (i + (encs us).length + 1) < M) := by have := HM.out; rw [Hid]; omega
    generalize tn m (bs.getD (i + (encs us).length) 0) = mk at *
    have hmk : (mk == (1 : Int)) = false := by simpa using hne1
    have HBy := hide hby
    clear hne1 hby
    by_cases hbg : Beg (n + szs us) (mk :: (bs.drop (i + (encs us).length + 1)).map (tn m))
    · obtain ⟨c, rest, hcg, hcs, hce, hct⟩ := beg_head hbg
      have HIH : Hid (Reads p a cap bs q m c) := value_all p a cap bs q m c.sz c (Nat.le_refl _) hcg
      have HCe := hide hce
      have HCt := hide hct
      have HCg := hide hcg
      have hhd : c.enc.headD 0 = mk := by rw [hce]; rfl
      clear hbg hcg hce hct
      go_wp2_with fail
      refine HNx.out.mono ?_
      rintro e W1 ⟨rfl, hrd1, hg1⟩
      have HR1 := hide hrd1
      have HG1 := hide hg1
      clear hrd1 hg1 HNx
      go_wp2_with fail
      have hvc := HIH.out W1 _ _ _ HR1.out (by omega) hbs0 HCt.out
      rw [hhd] at hvc
      refine hvc.mono ?_
      rintro e W2 ⟨V, rfl, hrd2, hg2, hst2⟩
      have HR2 := hide hrd2
      have HG2 := hide hg2
      have HS2 := hide hst2
      obtain ⟨v0, hv0, -⟩ := hst2 W2 (Nat.le_refl _) (fun _ _ _ => rfl)
      clear hrd2 hg2 hst2
      have HV0 := hide hv0
      cases v0 with
      | mk vk vbo vn vt vya vyc vy vla vlc vl vfa vfc vf =>
      simp only [T.val] at hv0
      subst hv0
      have HO4 : Hid (((W2.alloc (.cells #[.int .u8 vk, .bool vbo, .int .i64 vn, .string vt, .slice vya vy.length vyc, .slice vla vl.list.length vlc, .slice vfa vf.list.length vfc] 32)).alloc (.cells #[.int .u8 vk, .bool vbo, .int .i64 vn, .string vt, .slice vya vy.length vyc, .slice vla vl.list.length vlc, .slice vfa vf.list.length vfc] 32)).ownsRow w.heap.size 32 7 (.slice oa us.length oc) us.length xs) := owns_of_block HO.out (fun k hk => by
        have h9 := own_ne HO.out k hk
        have h8 := HLo.out.p
        have s1 := HG1.out.size
        have s2 := HG2.out.size
        rw [Below.heap_alloc _ _ _ (by simp; omega), Below.heap_alloc _ _ _ (by omega), HG2.out.block k (by omega) (fun e => by simp at e; omega), HG1.out.block k (by omega) (fun e => by simp at e; omega)])
      have HB4 : Hid (Below W2.heap.size W2 ((W2.alloc (.cells #[.int .u8 vk, .bool vbo, .int .i64 vn, .string vt, .slice vya vy.length vyc, .slice vla vl.list.length vlc, .slice vfa vf.list.length vfc] 32)).alloc (.cells #[.int .u8 vk, .bool vbo, .int .i64 vn, .string vt, .slice vya vy.length vyc, .slice vla vl.list.length vlc, .slice vfa vf.list.length vfc] 32))) := (below_alloc W2 _).trans ((below_alloc _ _).mono (by simp))
      have hszb : w.heap.size ≤ ((W2.alloc (.cells #[.int .u8 vk, .bool vbo, .int .i64 vn, .string vt, .slice vya vy.length vyc, .slice vla vl.list.length vlc, .slice vfa vf.list.length vfc] 32)).alloc (.cells #[.int .u8 vk, .bool vbo, .int .i64 vn, .string vt, .slice vya vy.length vyc, .slice vla vl.list.length vlc, .slice vfa vf.list.length vfc] 32)).heap.size := by
        have s0 := HGw.out.size
        have s1 := HG1.out.size
        have s2 := HG2.out.size
        simp; omega
      have HNw : Hid (∀ (j : Nat) u, ([.int .u8 vk, .bool vbo, .int .i64 vn, .string vt, .slice vya vy.length vyc, .slice vla vl.list.length vlc, .slice vfa vf.list.length vfc] : List Value)[j]? = some u → ((W2.alloc (.cells #[.int .u8 vk, .bool vbo, .int .i64 vn, .string vt, .slice vya vy.length vyc, .slice vla vl.list.length vlc, .slice vfa vf.list.length vfc] 32)).alloc (.cells #[.int .u8 vk, .bool vbo, .int .i64 vn, .string vt, .slice vya vy.length vyc, .slice vla vl.list.length vlc, .slice vfa vf.list.length vfc] 32)).cell? ((⟨W2.heap.size + 1, 0, none⟩ : Addr).add j) = some u) := by
        have := news7 (W2.alloc (.cells #[.int .u8 vk, .bool vbo, .int .i64 vn, .string vt, .slice vya vy.length vyc, .slice vla vl.list.length vlc, .slice vfa vf.list.length vfc] 32)) (.int .u8 vk) (.bool vbo) (.int .i64 vn) (.string vt) (.slice vya vy.length vyc) (.slice vla vl.list.length vlc) (.slice vfa vf.list.length vfc)
        rw [show (W2.alloc (.cells #[.int .u8 vk, .bool vbo, .int .i64 vn, .string vt, .slice vya vy.length vyc, .slice vla vl.list.length vlc, .slice vfa vf.list.length vfc] 32)).heap.size = W2.heap.size + 1 by simp] at this
        exact this
      go_wp2_with (at_builtin; refine wpList_append_own_at _ (by rfl) (.tmp 26) (.tmp 28) 24 (by rfl) w.heap.size 32 i0 _ 7 104 Try.underlying24 hi hz0 hz1 hz2 (by rfl) (by omega) (.slice oa us.length oc) us.length xs (by rfl) HO4.out ⟨W2.heap.size + 1, 0, none⟩ 1 1 [.int .u8 vk, .bool vbo, .int .i64 vn, .string vt, .slice vya vy.length vyc, .slice vla vl.list.length vlc, .slice vfa vf.list.length vfc] (by rfl) (by rfl) HNw.out (by intro u hu; simp at hu; rcases hu with rfl | rfl | rfl | rfl | rfl | rfl | rfl <;> rfl) (by unfold maxLen; omega) (by omega) hszb ?_; intro v' W5 hown5 hg5 _ hat5; have HO5 := hide hown5; have HG5 := hide hg5; have HA5 := hide hat5; clear hown5 hg5 hat5)
      obtain ⟨a5, c5, rfl⟩ := ownsRow_shape HO5.out
      have he1 : c.enc.length = c.enc.tail.length + 1 := by have h := congrArg List.length HCe.out; simpa using h
      have hle2 : i + (encs (us ++ [c])).length = i + (encs us).length + 1 + c.enc.tail.length := by rw [encs_snoc, List.length_append]; omega
      have hss : szs (us ++ [c]) = szs us + c.sz := by simp [szs]
      have hc1 : 1 ≤ c.sz := by cases c; simp only [T.sz]; omega
      have hrr : Rdr W5 p a cap bs (i + (encs (us ++ [c])).length) (n + szs (us ++ [c])) q m := by
        rw [hle2, hss, ← Nat.add_assoc n]
        exact (HR2.out.below HB4.out).grown HLo.out HG5.out (fun k e => (own_ne HO4.out k e).1)
      have hgg : w.grownBy W5 (some p) := grown_new (grown_trans HGw.out (grown_trans HG1.out (grown_trans HG2.out (grown_below HB4.out)))) HG5.out (fun k e => (own_ne HO4.out k e).1)
      have hdd : (bs.drop i).map (tn m) = encs (us ++ [c]) ++ (bs.drop (i + (encs (us ++ [c])).length)).map (tn m) := by
        have h1 := HCe.out
        have h2 := HCt.out
        have h3 := hle2
        generalize c.enc.tail = tl at h1 h2 h3
        have e0 : (bs.drop (i + (encs us).length + 1 + tl.length)).map (tn m) = rest := by rw [← List.drop_drop, List.map_drop, h2, List.drop_left]
        rw [h3, e0, HDr.out, HAt.out, h2, encs_snoc, h1]
        simp
      exact ⟨⟨us ++ [c], _, by rw [hss]; simp; omega, by rw [hss]; omega, fun x hx => by
        rcases List.mem_append.1 hx with h | h
        · exact HG.out x h
        · simp at h; rw [h]; exact HCg.out, by rw [List.length_append]; exact HO5.out, hrr, hdd, hgg⟩, by simp only [lenV]; omega⟩
    · have HNb := hide hbg
      clear hbg
      go_wp2_with fail
      refine HNx.out.mono ?_
      rintro e W1 ⟨rfl, hrd1, hg1⟩
      have HR1 := hide hrd1
      have HG1 := hide hg1
      have HL1 : Hid (Low W1.heap.size p q a) := ⟨by have := HLo.out.p; have := HGw.out.size; have := hg1.size; omega, by have := HLo.out.q; have := HGw.out.size; have := hg1.size; omega, fun ad e => by have := HLo.out.a ad e; have := HGw.out.size; have := hg1.size; omega⟩
      clear hrd1 hg1 HNx
      go_wp2_with fail
      refine (HVn.out W1 _ _ mk HBM.out HR1.out (by omega) HBy.out HL1.out HNb.out).mono ?_
      rintro e W2 ⟨k, rfl, hg2⟩
      have HG2 := hide (grown_trans HGw.out (grown_trans HG1.out hg2))
      clear hg2
      go_wp2
      go_ret2
      exact ⟨rfl, grown_trans HG2.out (grown_below (below_alloc _ _))⟩
  · have HNx := hide (next_end p a cap bs _ _ q m wr HRw.out (by omega))
    clear hlt
    go_wp2_with fail
    refine HNx.out.mono ?_
    rintro e W1 ⟨rfl, hrd1, hg1⟩
    have HG1 := hide (grown_trans HGw.out hg1)
    clear hrd1 hg1 HNx
    go_wp2
    go_ret2
    exact ⟨rfl, HG1.out⟩
theorem leaf_gk (k : Int) (bo : Bool) (n : Int) (t : ByteArray) (h1 : 1 ≤ k ∧ k ≤ 4) (h2 : k ≠ 2 → bo = false) (h3 : k ≠ 3 → n = 0) (h4 : k ≠ 4 → t = ⟨#[]⟩) (h5 : -9223372036854775808 ≤ n ∧ n ≤ 9223372036854775807) (h6 : t.size ≤ 4000) : (leafT k bo n t).gk ∧ (leafT k bo n t).sz = 1 := by
  refine ⟨⟨⟨⟨by omega, by omega⟩, h5, h6, by simp, fun c hc => by simp at hc⟩, ⟨h2, h3, h4, fun _ => rfl, fun _ => rfl, rfl⟩, trivial⟩, ?_⟩
  simp [leafT, T.sz, TL.sz, FL.sz]
theorem bk_size (ys : List Int) : (bk ys).size = ys.length := by
  unfold bk
  show (ys.map fun z => UInt8.ofNat z.toNat).toArray.size = _
  simp
theorem value_noM (p : Nat) (a : Option Addr) (cap : Nat) (bs : List Int) (q : Nat) (m : Int) (M : Nat) (hI : ValNo p a cap bs q m M) (w : World) (i n : Nat) (mk : Int) (hM : bs.length - i ≤ M) (hr : Rdr w p a cap bs i n q m) (hn1 : n < 1000000) (hmk : 0 ≤ mk ∧ mk ≤ 255) (hlo : Low w.heap.size p q a) (hb : ¬ Beg n (mk :: (bs.drop i).map (tn m))) :
    Calls Try.prog 31 #[.pointer (some ⟨p, 0, none⟩), .int .u8 mk] w fun e w' => NoV p w e w' := by
  by_cases hn : n < 512
  · by_cases h1 : mk = 16
    · subst h1
      obtain ⟨g1, g2⟩ := leaf_gk 1 false 0 ⟨#[]⟩ (by omega) (fun _ => rfl) (fun _ => rfl) (fun _ => rfl) (by omega) (by decide)
      exact absurd ⟨_, _, g1, by rw [g2]; omega, rfl⟩ hb
    by_cases h2 : mk = 32
    · subst h2
      obtain ⟨g1, g2⟩ := leaf_gk 2 false 0 ⟨#[]⟩ (by omega) (fun _ => rfl) (fun _ => rfl) (fun _ => rfl) (by omega) (by decide)
      exact absurd ⟨_, _, g1, by rw [g2]; omega, rfl⟩ hb
    by_cases h3 : mk = 33
    · subst h3
      obtain ⟨g1, g2⟩ := leaf_gk 2 true 0 ⟨#[]⟩ (by omega) (fun h => absurd rfl h) (fun _ => rfl) (fun _ => rfl) (by omega) (by decide)
      exact absurd ⟨_, _, g1, by rw [g2]; omega, rfl⟩ hb
    by_cases h4 : mk = 48
    · subst h4
      refine value_nonum p a cap bs i n q m w hr hlo hn (Classical.byContradiction fun hc => hb ?_)
      have h8 : (((bs.drop i).map (tn m)).take 8).length = 8 := by rw [List.length_take, List.length_map, List.length_drop]; omega
      obtain ⟨x, hx, e⟩ := num_of _ h8 (fun c hc => by
        have := List.mem_of_mem_take hc
        obtain ⟨y, hy, rfl⟩ := List.mem_map.1 this
        exact tn_bd m y (hr.byts y (List.mem_of_mem_drop hy)) hr.md)
      obtain ⟨g1, g2⟩ := leaf_gk 3 false x ⟨#[]⟩ (by omega) (fun _ => rfl) (fun h => absurd rfl h) (fun _ => rfl) hx (by decide)
      refine ⟨_, ((bs.drop i).map (tn m)).drop 8, g1, by rw [g2]; omega, ?_⟩
      have e2 : (leafT 3 false x ⟨#[]⟩).enc = 48 :: nbs (nX x) 8 := by simp [leafT, T.enc, bI]
      rw [e2, e, List.cons_append, List.take_append_drop]
    by_cases h5 : mk = 64
    · subst h5
      refine value_notext p a cap bs i n q m w hr hlo hn (fun ys rest hy hl e => hb ?_)
      obtain ⟨g1, g2⟩ := leaf_gk 4 false 0 (bk ys) (by omega) (fun _ => rfl) (fun _ => rfl) (fun h => absurd rfl h) (by omega) (by rw [bk_size]; exact hl)
      refine ⟨_, rest, g1, by rw [g2]; omega, ?_⟩
      have e2 : (leafT 4 false 0 (bk ys)).enc = 64 :: (esc ys ++ [0, 1]) := by simp [leafT, T.enc, bT, sb_bk ys hy]
      rw [e2, e]
      simp
    by_cases h6 : mk = 80
    · subst h6
      refine value_nobytes p a cap bs i n q m w hr hlo hn (fun ys rest hy hl e => hb ?_)
      refine ⟨.mk 5 false 0 ⟨#[]⟩ none 0 ys none 0 .nil none 0 .nil, rest, ⟨⟨⟨by omega, by omega⟩, by omega, by decide, hl, hy⟩, ⟨fun _ => rfl, fun _ => rfl, fun _ => rfl, fun h => absurd rfl h, fun _ => rfl, rfl⟩, trivial⟩, by simp [T.sz, TL.sz, FL.sz]; omega, ?_⟩
      have e2 : (T.mk 5 false 0 ⟨#[]⟩ none 0 ys none 0 .nil none 0 .nil).enc = 80 :: (esc ys ++ [0, 1]) := by simp [T.enc, bYs]
      rw [e2, e]
      simp
    by_cases h7 : mk = 96
    · subst h7
      refine value_nolist p a cap bs i n q m w hr hlo hn (fun W hW hl => ?_)
      have hH : ∀ (l : TL) (rest : List Int), l.gk → n + 1 + l.sz ≤ 512 → (bs.drop i).map (tn m) ≠ l.enc ++ 1 :: rest := fun l rest hg hs e => hb ⟨.mk 6 false 0 ⟨#[]⟩ none 0 [] none 0 l none 0 .nil, rest, ⟨⟨⟨by omega, by omega⟩, by omega, by decide, by simp, fun c hc => by simp at hc⟩, ⟨fun _ => rfl, fun _ => rfl, fun _ => rfl, fun _ => rfl, fun h => absurd rfl h, rfl⟩, hg⟩, by simp only [T.sz, FL.sz]; omega, by rw [e]; simp [T.enc]⟩
      exact list_no p a cap bs q m M hI W i (n + 1) hM hW hl (by omega) hH
    · exact value_mark p a cap bs i n q m mk w hr hn h1 h2 h3 h4 h5 h6 h7
  · exact value_many p a cap bs i n q m mk w hr hn hn1
theorem value_no (p : Nat) (a : Option Addr) (cap : Nat) (bs : List Int) (q : Nat) (m : Int) : ∀ M, ValNo p a cap bs q m M := by
  intro M
  induction M with
  | zero =>
    intro w i n mk hM hr hn hmk hlo hb
    exact absurd hM (Nat.not_lt_zero _)
  | succ M ih =>
    intro w i n mk hM hr hn hmk hlo hb
    exact value_noM p a cap bs q m M ih w i n mk (by omega) hr hn hmk hlo hb
end Go.Proofs.Ytegoeaofjnpehab
/- The reader of keys: the first value of any bytes. -/
namespace Go.Proofs.Ytegoeaofjnpehab
open Go.RowKit
set_option linter.unusedVariables false

mutual
theorem T.wt_enc : ∀ v : T, v.gk → v.wt ≤ v.enc.length
  | .mk k bo n t ya yc y la lc l fa fc f, h => by
    obtain ⟨⟨⟨a1, a2⟩, a3, a4, a5, a6⟩, ⟨c1, c2, c3, c4, c5, c6⟩, c7⟩ := h
    have hf := FL.nil_of' f c6
    subst hf
    have ht := esc_ge (sb t)
    have hs : (sb t).length = t.size := sb_len t
    have hy := esc_ge y
    have hl := TL.wt_enc l c7
    have hk : k = 1 ∨ k = 2 ∨ k = 3 ∨ k = 4 ∨ k = 5 ∨ k = 6 := by omega
    have e4 : k ≠ 4 → t.size = 0 := fun h => by rw [c3 h]; rfl
    have e5 : k ≠ 5 → y.length = 0 := fun h => by rw [c4 h]; rfl
    have e6 : k ≠ 6 → l.wt = 0 := fun h => by rw [TL.nil_of' l (c5 h)]; rfl
    rcases hk with rfl | rfl | rfl | rfl | rfl | rfl
    · have h4 := e4 (by decide); have h5 := e5 (by decide); have h6 := e6 (by decide)
      simp only [T.wt, T.enc, FL.wt, h4, h5, h6]; simp
    · have h4 := e4 (by decide); have h5 := e5 (by decide); have h6 := e6 (by decide)
      simp only [T.wt, T.enc, FL.wt, h4, h5, h6]; cases bo <;> simp [bB]
    · have h4 := e4 (by decide); have h5 := e5 (by decide); have h6 := e6 (by decide)
      simp only [T.wt, T.enc, FL.wt, h4, h5, h6]; simp [bI]
    · have h5 := e5 (by decide); have h6 := e6 (by decide)
      simp only [T.wt, T.enc, FL.wt, h5, h6]; simp [bT]; omega
    · have h4 := e4 (by decide); have h6 := e6 (by decide)
      simp only [T.wt, T.enc, FL.wt, h4, h6]; simp [bYs]; omega
    · have h4 := e4 (by decide); have h5 := e5 (by decide)
      simp only [T.wt, T.enc, FL.wt, h4, h5]; simp; omega
theorem TL.wt_enc : ∀ l : TL, l.gk → l.wt ≤ l.enc.length
  | .nil, _ => by simp [TL.wt]
  | .cons v r, h => by
    have h1 := T.wt_enc v h.1
    have h2 := TL.wt_enc r h.2
    simp only [TL.wt, TL.enc, List.length_append]
    omega
end
set_option maxHeartbeats 3200000 in
set_option maxRecDepth 1000000 in
theorem first_bad (d : Bool) (m : Int) (a : Option Addr) (cap : Nat) (bs rest : List Int) (c : T) (w : World) (hrow : Row w a bs) (hby : Byts bs) (hsm : bs.length ≤ 1000000) (hm : 0 ≤ m ∧ m ≤ 255) (hE : bs.map (tn m) = c.enc ++ rest) (hg : c.gk) (hck : ckE c ≠ 0) (hwt : c.wt ≤ 20000) (hsz : c.sz ≤ 512)
    (HT : Hid (∀ W, Calls Try.prog 23 #[.bool d] W fun e w' => e = .returned (.func (.func 36) #[] #[.pointer (some ⟨W.heap.size, 0, none⟩)]) ∧ w' = W.alloc (.cells #[.int .u8 m] 5))) :
    Calls Try.prog 18 #[.slice a bs.length cap, .bool d] w fun e w' => e = .returned (.tuple #[.agg #[.int .u8 0, .bool false, .int .i64 0, .string ⟨#[]⟩, .slice none 0 0, .slice none 0 0, .slice none 0 0], .int .i64 0, .bool false]) ∧ Below w.heap.size w w' := by
  obtain ⟨hd1, hd2, hd3, hd4⟩ := gk_head c hg
  have hE0 : (bs.drop 0).map (tn m) = c.enc.headD 0 :: (c.enc.tail ++ rest) := by rw [List.drop_zero, hE, ← List.cons_append, ← hd1]
  obtain ⟨h0, hmk, hE1⟩ := head_at _ _ _ _ _ hE0
  have hne : bs ≠ [] := fun e => by subst e; simp at h0
  have HV : Hid (∀ W p q, Rdr W p a cap bs 1 0 q m → Calls Try.prog 31 #[.pointer (some ⟨p, 0, none⟩), .int .u8 (c.enc.headD 0)] W fun e W' => Val p a cap bs 1 0 q m c W e W') := fun W p q hr => value_all p a cap bs q m c.sz c (Nat.le_refl _) hg W 1 0 rest hr (by omega) hne hE1
  have hlen : 1 + c.enc.tail.length = c.enc.length := by
    have := congrArg List.length hd1
    simp only [List.length_cons] at this
    omega
  have HB0 := hide (Box7.new w (.int .u8 0) (.bool false) (.int .i64 0) (.string ⟨#[]⟩) (.slice none 0 0) (.slice none 0 0) (.slice none 0 0))
  clear hE hE0 hE1 hd1 hg
  generalize c.enc.headD 0 = mark at *
  go_enter Try.func18, Try.ntmps18
  go_wp2_with fail
  refine (HT.out _).mono ?_
  rintro e W1 ⟨rfl, rfl⟩
  have HF1 := hide ((((Fr.refl w).alloc (.cells #[.int .u8 0, .bool false, .int .i64 0, .string ⟨#[]⟩, .slice none 0 0, .slice none 0 0, .slice none 0 0] 32)).alloc (.cells #[.int .u8 m] 5)).alloc (.cells #[.slice a bs.length cap, .int .i64 0, .int .i64 0, .func (.func 36) #[] #[.pointer (some ⟨w.heap.size + 1, 0, none⟩)]] 62))
  have HR1 := hide (Rdr.start w (.cells #[.int .u8 0, .bool false, .int .i64 0, .string ⟨#[]⟩, .slice none 0 0, .slice none 0 0, .slice none 0 0] 32) m a cap bs hrow hby hsm hm h0)
  have HB1 := hide ((HB0.out.below (below_alloc _ (.cells #[.int .u8 m] 5))).below (below_alloc _ (.cells #[.slice a bs.length cap, .int .i64 0, .int .i64 0, .func (.func 36) #[] #[.pointer (some ⟨w.heap.size + 1, 0, none⟩)]] 62)))
  have HMk := hide hmk
  clear hmk hrow HB0
  go_wp2_with fail
  generalize ((w.alloc (.cells #[.int .u8 0, .bool false, .int .i64 0, .string ⟨#[]⟩, .slice none 0 0, .slice none 0 0, .slice none 0 0] 32)).alloc (.cells #[.int .u8 m] 5)).alloc (.cells #[.slice a bs.length cap, .int .i64 0, .int .i64 0, .func (.func 36) #[] #[.pointer (some ⟨w.heap.size + 1, 0, none⟩)]] 62) = X1 at HF1 HR1 HB1 ⊢
  generalize hB : w.heap.size = B at *
  have HBB := hide hB
  clear hB
  refine (next_in (B + 1 + 1) a cap bs 0 0 (B + 1) m X1 HR1.out h0).mono ?_
  rintro e W2 ⟨rfl, hrd, hg⟩
  have HR2 := hide hrd
  have HF2 := hide (HF1.out.grown hg (fun k e => by cases e; omega))
  have HB2 := hide (HB1.out.grown hg (by omega))
  clear hrd hg HB1 HF1 HR1
  rw [HMk.out]
  go_wp2_with fail
  refine (HV.out W2 (B + 1 + 1) (B + 1) HR2.out).mono ?_
  rintro e W3 ⟨V, rfl, hrd, hg, hst⟩
  rw [hlen] at hrd
  have HSt := hide hst
  obtain ⟨v0, hv0, -⟩ := hst W3 (Nat.le_refl _) (fun _ _ _ => rfl)
  have HR3 := hide hrd
  have HF3 := hide (HF2.out.grown hg (fun k e => by cases e; omega))
  have HB3 := hide (HB2.out.grown hg (by omega))
  have hsB : B < W2.heap.size := HB2.out.lt
  clear hrd hg hst HB2 HF2 HR2
  cases v0 with
  | mk vk vbo vn vt vya vyc vy vla vlc vl vfa vfc vf =>
  simp only [T.val] at hv0
  subst hv0
  have HR4 := hide (HR3.out.below (below_alloc W3 (.cells #[.int .u8 vk, .bool vbo, .int .i64 vn, .string vt, .slice vya vy.length vyc, .slice vla vl.list.length vlc, .slice vfa vf.list.length vfc] 32)))
  have HF4 := hide (HF3.out.alloc (.cells #[.int .u8 vk, .bool vbo, .int .i64 vn, .string vt, .slice vya vy.length vyc, .slice vla vl.list.length vlc, .slice vfa vf.list.length vfc] 32))
  have HB4 := hide (HB3.out.below (below_alloc W3 (.cells #[.int .u8 vk, .bool vbo, .int .i64 vn, .string vt, .slice vya vy.length vyc, .slice vla vl.list.length vlc, .slice vfa vf.list.length vfc] 32)))
  have HC4 := hide (Box7.new W3 (.int .u8 vk) (.bool vbo) (.int .i64 vn) (.string vt) (.slice vya vy.length vyc) (.slice vla vl.list.length vlc) (.slice vfa vf.list.length vfc))
  have H34 := hide (below_alloc W3 (.cells #[.int .u8 vk, .bool vbo, .int .i64 vn, .string vt, .slice vya vy.length vyc, .slice vla vl.list.length vlc, .slice vfa vf.list.length vfc] 32))
  have hb1 := HB3.out.lt
  have hb2 := HR3.out.lt
  go_wp2_with fail
  generalize hX4 : W3.alloc (.cells #[.int .u8 vk, .bool vbo, .int .i64 vn, .string vt, .slice vya vy.length vyc, .slice vla vl.list.length vlc, .slice vfa vf.list.length vfc] 32) = X4 at HR4 HF4 HB4 HC4 H34 ⊢
  obtain ⟨x, hx1, hx2, hx3⟩ := HSt.out X4 H34.out.size (fun k _ h => H34.out.block k h)
  have HCk := hide (check_all X4.heap.size x X4 hx2 (Nat.le_refl _) (tame_of x (by rw [wt_of_er hx3]; exact hwt)))
  rw [ck_of_er hx3, hx1] at HCk
  have hckb : ((ckE c : Nat) : Int) ≠ 0 := by omega
  generalize ckE c = cke at *
  have hckd : ((cke : Int) != 0) = true := by simpa using hckb
  refine HCk.out.mono ?_
  rintro e W5 ⟨rfl, hb⟩
  have HR5 := hide (HR4.out.below hb)
  have HF5 := hide (HF4.out.on hb)
  have HB5 := hide (HB4.out.below hb)
  have HC5 := hide (HC4.out.below hb)
  have H35 : Hid (Below W3.heap.size W3 W5) := H34.out.trans (hb.mono H34.out.size)
  clear hb HR4 HF4 HB4 HC4 HR3 HF3 HB3 hx1 hx2 hx3 HCk hX4
  generalize hW3 : W3.heap.size = c3 at HC5
  obtain ⟨j0, j1, j2, j3, j4, j5, j6⟩ := HC5.out.cells
  obtain ⟨l0, l1, l2, l3, l4, l5, l6⟩ := HB5.out.cells
  have fr := HB5.out.free
  have r1 := HR5.out.c1
  clear hckb hck
  go_wp2
  have HBz := hide (HB5.out.set7 (.int .u8 0) (.bool false) (.int .i64 0) (.string ⟨#[]⟩) (.slice none 0 0) (.slice none 0 0) (.slice none 0 0))
  have HFz := hide (HF5.out.grown (grown_set7 W5 B (.int .u8 0) (.bool false) (.int .i64 0) (.string ⟨#[]⟩) (.slice none 0 0) (.slice none 0 0) (.slice none 0 0)) (fun x e => by cases e; exact Nat.le_refl _))
  obtain ⟨z0, z1, z2, z3, z4, z5, z6⟩ := HBz.out.cells
  clear j0 j1 j2 j3 j4 j5 j6 l0 l1 l2 l3 l4 l5 l6 fr r1
  refine bodyPost_ret (v := .tuple #[.agg #[.int .u8 0, .bool false, .int .i64 0, .string ⟨#[]⟩, .slice none 0 0, .slice none 0 0, .slice none 0 0], .int .i64 0, .bool false]) ?_ rfl ?_
  · simp [results, Try.results18, go_sem, z0, z1, z2, z3, z4, z5, z6]
  · exact ⟨rfl, by rw [HBB.out]; exact HFz.out.below⟩
set_option maxHeartbeats 3200000 in
set_option maxRecDepth 1000000 in
theorem first_noval (d : Bool) (m : Int) (a : Option Addr) (cap : Nat) (bs : List Int) (w : World) (hrow : Row w a bs) (hby : Byts bs) (hsm : bs.length ≤ 1000000) (hm : 0 ≤ m ∧ m ≤ 255) (h0 : 0 < bs.length) (hH : ¬ Beg 0 (bs.map (tn m)))
    (HT : Hid (∀ W, Calls Try.prog 23 #[.bool d] W fun e w' => e = .returned (.func (.func 36) #[] #[.pointer (some ⟨W.heap.size, 0, none⟩)]) ∧ w' = W.alloc (.cells #[.int .u8 m] 5))) :
    Calls Try.prog 18 #[.slice a bs.length cap, .bool d] w fun e w' => e = .returned (.tuple #[.agg #[.int .u8 0, .bool false, .int .i64 0, .string ⟨#[]⟩, .slice none 0 0, .slice none 0 0, .slice none 0 0], .int .i64 0, .bool false]) ∧ Below w.heap.size w w' := by
  have hne : bs ≠ [] := fun e => by subst e; simp at h0
  have hE0 : bs.map (tn m) = tn m (bs.getD 0 0) :: (bs.drop 1).map (tn m) := by have := tail_at bs m 0 h0; rwa [List.drop_zero] at this
  have hmb := tn_bd m (bs.getD 0 0) (hby.at 0) hm
  rw [hE0] at hH
  have HV : Hid (∀ W p q, Rdr W p a cap bs 1 0 q m → Low W.heap.size p q a → Calls Try.prog 31 #[.pointer (some ⟨p, 0, none⟩), .int .u8 (tn m (bs.getD 0 0))] W fun e W' => NoV p W e W') := fun W p q hr hl => value_no p a cap bs q m bs.length W 1 0 _ (by omega) hr (by omega) hmb hl hH
  have HB0 := hide (Box7.new w (.int .u8 0) (.bool false) (.int .i64 0) (.string ⟨#[]⟩) (.slice none 0 0) (.slice none 0 0) (.slice none 0 0))
  obtain ⟨mark, HMk⟩ : ∃ mark, Hid (tn m (bs.getD 0 0) = mark) := ⟨_, rfl⟩
  rw [HMk.out] at HV
  clear hE0 hH hmb
  go_enter Try.func18, Try.ntmps18
  go_wp2_with fail
  refine (HT.out _).mono ?_
  rintro e W1 ⟨rfl, rfl⟩
  have HF1 := hide ((((Fr.refl w).alloc (.cells #[.int .u8 0, .bool false, .int .i64 0, .string ⟨#[]⟩, .slice none 0 0, .slice none 0 0, .slice none 0 0] 32)).alloc (.cells #[.int .u8 m] 5)).alloc (.cells #[.slice a bs.length cap, .int .i64 0, .int .i64 0, .func (.func 36) #[] #[.pointer (some ⟨w.heap.size + 1, 0, none⟩)]] 62))
  have HR1 := hide (Rdr.start w (.cells #[.int .u8 0, .bool false, .int .i64 0, .string ⟨#[]⟩, .slice none 0 0, .slice none 0 0, .slice none 0 0] 32) m a cap bs hrow hby hsm hm h0)
  have HB1 := hide ((HB0.out.below (below_alloc _ (.cells #[.int .u8 m] 5))).below (below_alloc _ (.cells #[.slice a bs.length cap, .int .i64 0, .int .i64 0, .func (.func 36) #[] #[.pointer (some ⟨w.heap.size + 1, 0, none⟩)]] 62)))
  have HLw : Hid (Low (w.heap.size + 1 + 1 + 1) (w.heap.size + 1 + 1) (w.heap.size + 1) a) := ⟨by omega, by omega, fun ad e => by
    rcases hrow with h | ⟨b, o, e2, hlt, _⟩
    · exact absurd h hne
    · rw [e2] at e; cases e; show b < _; omega⟩
  clear hrow HB0
  go_wp2_with fail
  generalize ((w.alloc (.cells #[.int .u8 0, .bool false, .int .i64 0, .string ⟨#[]⟩, .slice none 0 0, .slice none 0 0, .slice none 0 0] 32)).alloc (.cells #[.int .u8 m] 5)).alloc (.cells #[.slice a bs.length cap, .int .i64 0, .int .i64 0, .func (.func 36) #[] #[.pointer (some ⟨w.heap.size + 1, 0, none⟩)]] 62) = X1 at HF1 HR1 HB1 ⊢
  generalize hB : w.heap.size = B at *
  have HBB := hide hB
  clear hB
  refine (next_in (B + 1 + 1) a cap bs 0 0 (B + 1) m X1 HR1.out h0).mono ?_
  rintro e W2 ⟨rfl, hrd, hg⟩
  have HR2 := hide hrd
  have HF2 := hide (HF1.out.grown hg (fun k e => by cases e; omega))
  have HB2 := hide (HB1.out.grown hg (by omega))
  have HL2 : Hid (Low W2.heap.size (B + 1 + 1) (B + 1) a) := ⟨hrd.lt, by have := hrd.lt; omega, fun ad e => by have := HLw.out.a ad e; have := hrd.lt; omega⟩
  clear hrd hg HB1 HF1 HR1
  rw [HMk.out]
  go_wp2_with fail
  refine (HV.out W2 (B + 1 + 1) (B + 1) HR2.out HL2.out).mono ?_
  rintro e W3 ⟨vk, rfl, hg⟩
  have HF3 := hide (HF2.out.grown hg (fun k e => by cases e; omega))
  have HB3 := hide (HB2.out.grown hg (by omega))
  have hsB : B < W2.heap.size := HB2.out.lt
  clear hg HB2 HF2 HR2
  have HF4 := hide (HF3.out.alloc (.cells #[.int .u8 vk, .bool false, .int .i64 0, .string ⟨#[]⟩, .slice none 0 0, .slice none 0 0, .slice none 0 0] 32))
  have HB4 := hide (HB3.out.below (below_alloc W3 (.cells #[.int .u8 vk, .bool false, .int .i64 0, .string ⟨#[]⟩, .slice none 0 0, .slice none 0 0, .slice none 0 0] 32)))
  have hb1 := HB3.out.lt
  go_upto_region 6 with fail
  generalize W3.alloc (.cells #[.int .u8 vk, .bool false, .int .i64 0, .string ⟨#[]⟩, .slice none 0 0, .slice none 0 0, .slice none 0 0] 32) = X4 at HF4 HB4 ⊢
  obtain ⟨l0, l1, l2, l3, l4, l5, l6⟩ := HB4.out.cells
  have fr := HB4.out.free
  go_wp2
  have HBz := hide (HB4.out.set7 (.int .u8 0) (.bool false) (.int .i64 0) (.string ⟨#[]⟩) (.slice none 0 0) (.slice none 0 0) (.slice none 0 0))
  have HFz := hide (HF4.out.grown (grown_set7 X4 B (.int .u8 0) (.bool false) (.int .i64 0) (.string ⟨#[]⟩) (.slice none 0 0) (.slice none 0 0) (.slice none 0 0)) (fun x e => by cases e; exact Nat.le_refl _))
  obtain ⟨z0, z1, z2, z3, z4, z5, z6⟩ := HBz.out.cells
  clear l0 l1 l2 l3 l4 l5 l6 fr
  refine bodyPost_ret (v := .tuple #[.agg #[.int .u8 0, .bool false, .int .i64 0, .string ⟨#[]⟩, .slice none 0 0, .slice none 0 0, .slice none 0 0], .int .i64 0, .bool false]) ?_ rfl ?_
  · simp [results, Try.results18, go_sem, z0, z1, z2, z3, z4, z5, z6]
  · exact ⟨rfl, by rw [HBB.out]; exact HFz.out.below⟩
end Go.Proofs.Ytegoeaofjnpehab
/- Mathematics: a value that One takes may stand in a key; the bytes of tuples one behind the other. -/
namespace Go.Proofs.Ytegoeaofjnpehab
set_option linter.unusedVariables false

theorem sb_inj (s t : ByteArray) (h : sb s = sb t) : s = t := by rw [← bk_sb s, ← bk_sb t, h]
mutual
/-- nothing but what its kind has, here and in the lists below. -/
def T.cl : T → Prop
  | .mk k bo n t ya yc y la lc l fa fc f => f.list = [] ∧ (k ≠ 2 → bo = false) ∧ (k ≠ 3 → n = 0) ∧ (k ≠ 4 → t = ⟨#[]⟩) ∧ (k ≠ 5 → y = []) ∧ (k ≠ 6 → l.list = []) ∧ l.cl
def TL.cl : TL → Prop
  | .nil => True
  | .cons v r => v.cl ∧ r.cl
end
theorem fit_clean {k : Int} {bo : Bool} {n : Int} {t : ByteArray} {ya : Option Addr} {yc : Nat} {y : List Int} {la : Option Addr} {lc : Nat} {l : TL} {fa : Option Addr} {fc : Nat} {f : FL} (h : fitE (.mk k bo n t ya yc y la lc l fa fc f) = 0) (h7 : k ≠ 7) : f.list = [] ∧ (k ≠ 2 → bo = false) ∧ (k ≠ 3 → n = 0) ∧ (k ≠ 4 → t = ⟨#[]⟩) ∧ (k ≠ 5 → y = []) ∧ (k ≠ 6 → l.list = []) := by
  by_cases h2 : k = 2
  · subst h2
    simp [fitE, alB] at h
    exact ⟨h.2.2.2.2, by simp, by simp [h.1], by simp [h.2.1], by simp [h.2.2.1], by simp [h.2.2.2.1]⟩
  by_cases h3 : k = 3
  · subst h3
    simp [fitE, alB] at h
    exact ⟨h.2.2.2.2, by simp [h.1], by simp, by simp [h.2.1], by simp [h.2.2.1], by simp [h.2.2.2.1]⟩
  by_cases h4 : k = 4
  · subst h4
    by_cases hb : alB 4 bo n t y.length l.list.length f.list.length 4 false 0 t 0 0 0 = true
    · simp only [alB, decide_eq_true_eq] at hb
      obtain ⟨_, e1, e2, e3, e4, e5, e6⟩ := hb
      exact ⟨List.length_eq_zero_iff.1 e6, fun _ => e1, fun _ => e2, fun h => absurd rfl h, fun _ => List.length_eq_zero_iff.1 e4, fun _ => List.length_eq_zero_iff.1 e5⟩
    · simp [fitE, hb] at h
  by_cases h5 : k = 5
  · subst h5
    by_cases hb : alB 5 bo n t y.length l.list.length f.list.length 5 false 0 ⟨#[]⟩ y.length 0 0 = true
    · simp only [alB, decide_eq_true_eq] at hb
      obtain ⟨_, e1, e2, e3, e4, e5, e6⟩ := hb
      exact ⟨List.length_eq_zero_iff.1 e6, fun _ => e1, fun _ => e2, fun _ => e3, fun h => absurd rfl h, fun _ => List.length_eq_zero_iff.1 e5⟩
    · simp [fitE, hb] at h
  by_cases h6 : k = 6
  · subst h6
    simp [fitE, alB] at h
    exact ⟨h.2.2.2.2, by simp [h.1], by simp [h.2.1], by simp [h.2.2.1], by simp [h.2.2.2.1], by simp⟩
  simp only [fitE, h2, h3, h4, h5, h6, h7, if_false] at h
  by_cases hb : alB k bo n t y.length l.list.length f.list.length 1 false 0 ⟨#[]⟩ 0 0 0 = true
  · simp only [alB, decide_eq_true_eq] at hb
    obtain ⟨_, e1, e2, e3, e4, e5, e6⟩ := hb
    exact ⟨List.length_eq_zero_iff.1 e6, fun _ => e1, fun _ => e2, fun _ => e3, fun _ => List.length_eq_zero_iff.1 e4, fun _ => List.length_eq_zero_iff.1 e5⟩
  · rw [if_neg hb] at h
    omega
theorem TL.cl_of : ∀ (l : TL), (∀ c ∈ l.list, c.cl) → l.cl
  | .nil, _ => trivial
  | .cons v r, h => ⟨h v (by simp [TL.list]), TL.cl_of r (fun c hc => h c (by simp [TL.list, hc]))⟩
theorem cl_of : ∀ (N : Nat) (v : T), v.sz ≤ N → ∀ e, (∀ z ∈ v.flat e, fitE z.2 = 0) → v.hd = false → v.cl := by
  intro N
  induction N with
  | zero => intro v hv; cases v; simp [T.sz] at hv
  | succ N ih =>
    intro v hv e hz hd
    have h0 := hz (e, v) (by rw [T.flat_is]; simp)
    cases v with
    | mk k bo n t ya yc y la lc l fa fc f =>
    simp only [T.hd, Bool.or_eq_false_iff, decide_eq_false_iff_not] at hd
    obtain ⟨c1, c2, c3, c4, c5, c6⟩ := fit_clean h0 hd.1
    refine ⟨c1, c2, c3, c4, c5, c6, TL.cl_of l (fun c hc => ?_)⟩
    have hkid : c ∈ (T.mk k bo n t ya yc y la lc l fa fc f).kids := by simp only [T.kids]; exact List.mem_append_left _ hc
    have hs := T.kid_sz _ c hkid
    refine ih c (by omega) (e + 1) (fun z hzc => hz z ?_) ?_
    · rw [T.flat_is]
      exact List.mem_cons_of_mem _ (List.mem_flatMap.2 ⟨c, hkid, hzc⟩)
    · have h9 := hd.2
      rw [TL.hd_is] at h9
      have := List.any_eq_false.1 h9 c hc
      simpa using this
theorem one_cl (v : T) (h : oneE v = 0) : v.cl := by
  unfold oneE at h
  by_cases hc : ckE v = 0
  · rw [if_pos hc] at h
    cases hh : v.hd
    · refine cl_of v.sz v (Nat.le_refl _) 1 ?_ hh
      unfold ckE chk at hc
      split at hc
      · omega
      split at hc
      · omega
      exact firstE_zero _ _ hc
    · rw [hh] at h
      simp at h
  · rw [if_neg hc] at h
    omega
mutual
theorem T.gk_of {n₀ : Nat} {W : World} : ∀ v : T, v.cl → v.ok → v.Szd → v.Mem n₀ W → v.enc.length ≤ 4000 → v.gk ∧ v.sz ≤ v.enc.length
  | .mk k bo n t ya yc y la lc l fa fc f, hc, ho, hz, hm, he => by
    obtain ⟨c1, c2, c3, c4, c5, c6, c7⟩ := hc
    have hy := hm.2.1
    have hn := hz.2.1
    obtain rfl := FL.nil_of' f c1
    have ht := esc_ge (sb t)
    have hs : (sb t).length = t.size := sb_len t
    have hye := esc_ge y
    by_cases h6 : k = 6
    · subst h6
      have hl6 : l.ok := by simpa [T.ok] using ho
      have e6 : (T.mk 6 bo n t ya yc y la lc l fa fc .nil).enc = 96 :: (l.enc ++ [1]) := by simp [T.enc]
      rw [e6] at he ⊢
      simp only [List.length_cons, List.length_append, List.length_nil] at he ⊢
      have ih := TL.gk_of l la 0 c7 hl6 hz.2.2.2.1 hm.2.2.2.2.1 (by omega)
      have t0 := c4 (by omega)
      have y0 := c5 (by omega)
      subst t0
      subst y0
      refine ⟨⟨⟨by omega, hn, by decide, by simp, hy⟩, ⟨c2, c3, c4, c5, c6, c1⟩, ih.1⟩, ?_⟩
      simp only [T.sz, FL.sz]
      omega
    · obtain rfl := TL.nil_of' l (c6 h6)
      have hk : k = 1 ∨ k = 2 ∨ k = 3 ∨ k = 4 ∨ k = 5 := by simpa [T.ok, h6] using ho
      have hts : t.size ≤ 4000 ∧ y.length ≤ 4000 ∧ 1 ≤ (T.mk k bo n t ya yc y la lc .nil fa fc .nil).enc.length := by
        rcases hk with rfl | rfl | rfl | rfl | rfl
        · rw [c4 (by omega), c5 (by omega)]; exact ⟨by decide, by simp, by simp [T.enc]⟩
        · rw [c4 (by omega), c5 (by omega)]; exact ⟨by decide, by simp, by simp [T.enc, bB]⟩
        · rw [c4 (by omega), c5 (by omega)]; exact ⟨by decide, by simp, by simp [T.enc, bI]⟩
        · rw [c5 (by omega)]
          have e4 : (T.mk 4 bo n t ya yc y la lc .nil fa fc .nil).enc = bT t := by simp [T.enc]
          rw [e4] at he
          simp [T.enc, bT] at he ⊢
          omega
        · rw [c4 (by omega)]
          have e4 : (T.mk 5 bo n t ya yc y la lc .nil fa fc .nil).enc = bYs y := by simp [T.enc]
          rw [e4] at he
          have z0 : (⟨#[]⟩ : ByteArray).size = 0 := rfl
          simp [T.enc, bYs] at he ⊢
          omega
      refine ⟨⟨⟨by omega, hn, hts.1, hts.2.1, hy⟩, ⟨c2, c3, c4, c5, c6, c1⟩, trivial⟩, ?_⟩
      simp only [T.sz, FL.sz, TL.sz]
      omega
theorem TL.gk_of {n₀ : Nat} {W : World} : ∀ (l : TL) (la : Option Addr) (k : Nat), l.cl → l.ok → l.Szd → l.Mem n₀ W la k → l.enc.length ≤ 4000 → l.gk ∧ l.sz ≤ l.enc.length
  | .nil, _, _, _, _, _, _, _ => ⟨trivial, by simp [TL.sz]⟩
  | .cons v r, la, k, hc, ho, hz, hm, he => by
    simp only [TL.enc, List.length_append] at he
    have h1 := T.gk_of v hc.1 ho.1 hz.1 hm.2.1 (by omega)
    have h2 := TL.gk_of r la (k + 1) hc.2 ho.2 hz.2 hm.2.2 (by omega)
    refine ⟨⟨h1.1, h2.1⟩, ?_⟩
    simp only [TL.sz, TL.enc, List.length_append]
    omega
end
theorem tn_tn (d : Bool) (c : Int) (h : 0 ≤ c ∧ c ≤ 255) : tn (mk d) (tn (mk d) c) = c := by
  cases d
  · rw [show mk false = 0 from rfl, tn_up c h.1, tn_up c h.1]
  · rw [show mk true = 255 from rfl, tn_down c h, tn_down _ (by omega)]
    omega
theorem map_tn_tn (d : Bool) (l : List Int) (h : Byts l) : (l.map (tn (mk d))).map (tn (mk d)) = l := by
  rw [List.map_map]
  conv => rhs; rw [← List.map_id l]
  exact List.map_congr_left (fun c hc => tn_tn d c (h c hc))
end Go.Proofs.Ytegoeaofjnpehab
/- Decode of a tuple's bytes. -/
namespace Go.Proofs.Ytegoeaofjnpehab
open Go.RowKit
set_option linter.unusedVariables false

theorem tupB_drop (ds : List Bool) (ts : List T) : ∀ (i j : Nat), (tupB ds i ts).drop (tupB ds i (ts.take j)).length = tupB ds (i + j) (ts.drop j) := by
  induction ts with
  | nil => intro i j; simp [tupB]
  | cons v r ih =>
    intro i j
    cases j with
    | zero => simp [tupB]
    | succ j =>
      simp only [List.take_succ_cons, tupB, List.length_append, List.drop_succ_cons]
      rw [← List.drop_drop, List.drop_left, ih, show i + 1 + j = i + (j + 1) by omega]
theorem tupB_byts (ds : List Bool) (ts : List T) (h : ∀ c ∈ ts, Byts c.enc) : ∀ i, Byts (tupB ds i ts) := by
  induction ts with
  | nil => intro i c hc; simp [tupB] at hc
  | cons v r ih =>
    intro i c hc
    simp only [tupB, List.mem_append, List.mem_map] at hc
    rcases hc with ⟨x, hx, rfl⟩ | hc
    · refine tn_bd _ _ (h v (by simp) x ?_) (by unfold mk; split <;> omega)
      unfold outp at hx
      split at hx
      · exact hx
      · simp at hx
    · exact ih (fun c hc => h c (by simp [hc])) (i + 1) c hc
theorem stays_wide {w W1 W2 Z : World} {V : Value} {c : T} (h : Stays W1 W2 V c) (h1 : w.heap.size ≤ W1.heap.size) (h2 : W2.heap.size ≤ Z.heap.size) (ha : ∀ k, W1.heap.size ≤ k → k < W2.heap.size → Z.heap[k]? = W2.heap[k]?) : Stays w Z V c := fun W hs hw =>
  h W (by omega) (fun k k1 k2 => (hw k (by omega) (by omega)).trans (ha k k1 k2))
/-- one value of the tuple's bytes, where they stand. -/
theorem tup_at (ds : List Bool) (ts : List T) (j : Nat) (c : T) (hc : ts[j]? = some c) (ho : oneE c = 0) (hby : Byts c.enc) : ((tupB ds 0 ts).drop (tupB ds 0 (ts.take j)).length).map (tn (mk (ds.getD j false))) = c.enc ++ (tupB ds (j + 1) (ts.drop (j + 1))).map (tn (mk (ds.getD j false))) := by
  rw [tupB_drop, Nat.zero_add]
  obtain ⟨h1, rfl⟩ := List.getElem?_eq_some_iff.1 hc
  rw [List.drop_eq_getElem_cons h1]
  simp only [tupB, List.map_append]
  rw [show outp ts[j] = ts[j].enc by simp [outp, ho], map_tn_tn _ _ hby]
theorem tup_next (ds : List Bool) (ts : List T) (j : Nat) (c : T) (hc : ts[j]? = some c) (ho : oneE c = 0) : (tupB ds 0 (ts.take (j + 1))).length = (tupB ds 0 (ts.take j)).length + c.enc.length := by
  rw [take_next ts j c hc, tupB_snoc]
  simp [outp, ho]
theorem tupB_app (ds : List Bool) (u v : List T) : ∀ i, tupB ds i (u ++ v) = tupB ds i u ++ tupB ds (i + u.length) v := by
  induction u with
  | nil => intro i; simp [tupB]
  | cons x r ih =>
    intro i
    simp only [List.cons_append, tupB, ih, List.append_assoc, List.length_cons]
    rw [show i + 1 + r.length = i + (r.length + 1) by omega]
theorem tup_le (ds : List Bool) (ts : List T) (j : Nat) : (tupB ds 0 (ts.take j)).length ≤ (tupB ds 0 ts).length := by
  conv => rhs; rw [← List.take_append_drop j ts]
  rw [tupB_app, List.length_append]
  omega
set_option maxHeartbeats 3200000 in
set_option maxRecDepth 1000000 in
theorem decode_tup (n₀ b o cap : Nat) (bs : List Int) (ts : List T) (da : Option Addr) (dc : Nat) (ds : List Bool) (w : World) (hrow : Row w (some ⟨b, o, none⟩) bs) (hcap : bs.length ≤ cap) (hd : Bl n₀ w da ds) (hdl : ds.length ≤ 9223372036854775807) (hn : n₀ ≤ w.heap.size) (hbs : bs = tupB ds 0 ts) (hts : ∀ c ∈ ts, oneE c = 0 ∧ c.gk ∧ c.wt ≤ 20000 ∧ c.sz ≤ 512 ∧ Byts c.enc) (hl : ts.length ≤ 4) :
    Calls Try.prog 6 #[.slice (some ⟨b, o, none⟩) bs.length cap, .slice da ds.length dc] w fun e w' => ∃ v xs, e = .returned (.tuple #[v, .int .u16 0, .int .i64 0]) ∧ w'.ownsRow w.heap.size 32 7 v ts.length xs ∧ Below w.heap.size w w' ∧ StaysL w.heap.size w' v xs ts := by
  obtain ⟨i0, hi, hz0, hz1, hz2⟩ := info_parts Try.info41
  have hlen : bs.length ≤ 640 := by rw [hbs]; have := tupB_len ds ts 0; omega
  have HBy : Hid (Byts bs) := by rw [hbs]; exact tupB_byts ds ts (fun c hc => (hts c hc).2.2.2.2) 0
  have HRw := hide hrow
  have HF0 := hide (Fr.refl w)
  have HD := hide hd
  have HTs := hide hts
  have HBs := hide hbs
  clear hrow hd hts hbs
  generalize hB : w.heap.size = B at *
  have HBB := hide hB
  clear hB
  go_enter Try.func6, Try.ntmps6
  go_wp2
  go_loopw [7, 8] (fun l s wr => ∃ (j p : Nat) (cs : List Value), s = .int .i64 (p : Int) ∧ Hid (p = (tupB ds 0 (ts.take j)).length) ∧ j ≤ ts.length ∧ p ≤ bs.length ∧ wr.ownsRow B 32 7 l j cs ∧ Fr B w wr ∧ StaysL B wr l cs (ts.take j)) (fun _ s _ => bs.length - (intOf s).toNat)
  case atStart => exact ⟨0, 0, [], rfl, hide (by simp [tupB]), by omega, by omega, World.ownsRow_nil w B 32 7, HF0.out, fun W _ _ => ⟨[], rfl, by simp, rfl⟩⟩
  case round =>
    obtain ⟨j, p, cs, rfl, HP, hj, hpb, hown, hfr, hst⟩ := hrel
    have HF := hide hfr
    have HDr : Hid (Bl n₀ wr da ds) := hide (HD.out.on (hfr.below.mono hn))
    have HRr : Hid (Row wr (some ⟨b, o, none⟩) bs) := by have h := HRw.out; exact h.below (by rw [HBB.out]; exact hfr.below)
    obtain ⟨a1, c1, rfl⟩ := ownsRow_shape hown
    have HO := hide hown
    have HSt := hide hst
    clear hfr hown hst
    by_cases hlt : j < ts.length
    · obtain ⟨c, hc⟩ : ∃ c, ts[j]? = some c := ⟨_, List.getElem?_eq_getElem hlt⟩
      obtain ⟨ho, hgk, hwt, hsz, hbe⟩ := HTs.out c (List.mem_of_getElem? hc)
      have hE : (bs.drop p).map (tn (mk (ds.getD j false))) = c.enc ++ (tupB ds (j + 1) (ts.drop (j + 1))).map (tn (mk (ds.getD j false))) := by rw [HBs.out, HP.out]; exact tup_at ds ts j c hc ho hbe
      have hen : 1 ≤ c.enc.length := by obtain ⟨h1, -⟩ := gk_head c hgk; rw [h1]; simp
      have hpc : p + c.enc.length ≤ bs.length := by
        have := congrArg List.length hE
        simp only [List.length_map, List.length_drop, List.length_append] at this
        omega
      have HN : Hid (p + c.enc.length = (tupB ds 0 (ts.take (j + 1))).length) := by rw [HP.out]; exact (tup_next ds ts j c hc ho).symm
      have HTk := hide (take_next ts j c hc)
      have HFi : Hid (∀ W, Below wr.heap.size wr W → Calls Try.prog 18 #[.slice (some ⟨b, o + p, none⟩) (bs.length - p) (cap - p), .bool (ds.getD j false)] W fun e w' => ∃ V, e = .returned (.tuple #[V, .int .i64 (c.enc.length : Int), .bool true]) ∧ Below W.heap.size W w' ∧ Stays W w' V c) := by
        intro W hb
        have h := first_all (ds.getD j false) (mk (ds.getD j false)) (some ⟨b, o + p, none⟩) (cap - p) (bs.drop p) _ c W ((HRr.out.drop p).below hb) (HBy.out.drop p) (by rw [List.length_drop]; omega) (by unfold mk; split <;> omega) hE hgk (by unfold oneE at ho; split at ho <;> omega) hwt hsz (hide (fun W => turning_any _ W))
        rw [List.length_drop] at h
        exact h
      have HFa : Hid (∀ W, Below wr.heap.size wr W → Calls Try.prog 19 #[.slice da ds.length dc, .int .i64 (j : Int)] W fun e w' => e = .returned (.bool (ds.getD j false)) ∧ w' = W) := fun W hb => falls_any n₀ da dc j ds W (HDr.out.on (hb.mono (by have := HF.out.size; omega))) hdl
      clear hE ho hgk hwt hsz hbe HTs hc
      generalize ds.getD j false = d at *
      generalize c.enc.length = cn at *
      have t1 : decide ((p : Int) < (bs.length : Int)) = true := by simp; omega
      have t2 : ((j : Int) == 4) = false := by simp; omega
      have hcp : ¬ (cap = p) := by omega
      have HBn := hide ((Box7.new wr (.int .u8 0) (.bool false) (.int .i64 0) (.string ⟨#[]⟩) (.slice none 0 0) (.slice none 0 0) (.slice none 0 0)).below (Below.refl _ _).drew)
      have HWn := hide (((Fr.refl wr).alloc (.cells #[.int .u8 0, .bool false, .int .i64 0, .string ⟨#[]⟩, .slice none 0 0, .slice none 0 0, .slice none 0 0] 32)).drew)
      have HWd := hide (Fr.refl wr).drew
      have hbB : b < B := by
        rcases HRw.out with h | ⟨b', o', e, h, -⟩
        · rw [h] at hpc; simp at hpc; omega
        · cases e; rw [← HBB.out]; exact h
      go_wp2
      go_region_law (first | (go_simp; go_at_call 19; refine (HFa.out _ (by first | exact (Below.refl _ _).drew | exact (below_alloc _ _).drew | exact ((Below.refl _ _).drew.alloc (Nat.le_refl _) _))).mono ?_; intro r' V1 hh; obtain ⟨rfl, rfl⟩ := hh) | (go_simp; go_at_call 18; refine (HFi.out _ (by first | exact (Below.refl _ _).drew | exact (below_alloc _ _).drew | exact ((Below.refl _ _).drew.alloc (Nat.le_refl _) _))).mono ?_; intro r' V2 hh; obtain ⟨V, rfl, hb2, hs2⟩ := hh; obtain ⟨⟨vk, vbo, vn, vt, vya, vyc, vy, vla, vlc, vl, vfa, vfc, vf⟩, hv0, -⟩ := hs2 V2 (Nat.le_refl _) (fun _ _ _ => rfl); have HV0 := hide hv0; simp only [T.val] at hv0; subst hv0; obtain ⟨hcv, hfv⟩ := bcell hb2; have HB2 := hide hb2; have HS2 := hide hs2; clear hb2 hs2))
      all_goals clear hcv hfv
      all_goals first
        | (have HBz := hide ((HBn.out.below HB2.out).set7 (.int .u8 vk) (.bool vbo) (.int .i64 vn) (.string vt) (.slice vya vy.length vyc) (.slice vla vl.list.length vlc) (.slice vfa vf.list.length vfc))
           have HWz := hide ((HWn.out.on HB2.out).grown (grown_set7 V2 wr.heap.size (.int .u8 vk) (.bool vbo) (.int .i64 vn) (.string vt) (.slice vya vy.length vyc) (.slice vla vl.list.length vlc) (.slice vfa vf.list.length vfc)) (fun x e => by cases e; exact Nat.le_refl _))
           have HSz := hide (stays_wide HS2.out (w := wr) (by show _ ≤ (wr.alloc (.cells #[.int .u8 0, .bool false, .int .i64 0, .string ⟨#[]⟩, .slice none 0 0, .slice none 0 0, .slice none 0 0] 32)).heap.size; simp) (grown_set7 V2 wr.heap.size (.int .u8 vk) (.bool vbo) (.int .i64 vn) (.string vt) (.slice vya vy.length vyc) (.slice vla vl.list.length vlc) (.slice vfa vf.list.length vfc)).size (fun k h1 h2 => (grown_set7 V2 wr.heap.size (.int .u8 vk) (.bool vbo) (.int .i64 vn) (.string vt) (.slice vya vy.length vyc) (.slice vla vl.list.length vlc) (.slice vfa vf.list.length vfc)).block k h2 (fun e => by cases e; have h3 : (wr.alloc (.cells #[.int .u8 0, .bool false, .int .i64 0, .string ⟨#[]⟩, .slice none 0 0, .slice none 0 0, .slice none 0 0] 32)).heap.size ≤ wr.heap.size := h1; simp at h3; omega)))
           generalize ((((((V2.setCell ⟨wr.heap.size, 0, none⟩ (.int .u8 vk)).setCell ⟨wr.heap.size, 1, none⟩ (.bool vbo)).setCell ⟨wr.heap.size, 2, none⟩ (.int .i64 vn)).setCell ⟨wr.heap.size, 3, none⟩ (.string vt)).setCell ⟨wr.heap.size, 4, none⟩ (.slice vya vy.length vyc)).setCell ⟨wr.heap.size, 5, none⟩ (.slice vla vl.list.length vlc)).setCell ⟨wr.heap.size, 6, none⟩ (.slice vfa vf.list.length vfc) = Z at HBz HWz HSz ⊢
           generalize hbx : wr.heap.size = bx at HBz ⊢
           clear hbx)
        | (have HBz := hide (Box7.new V2 (.int .u8 vk) (.bool vbo) (.int .i64 vn) (.string vt) (.slice vya vy.length vyc) (.slice vla vl.list.length vlc) (.slice vfa vf.list.length vfc))
           have HWz := hide ((HWd.out.on HB2.out).alloc (.cells #[.int .u8 vk, .bool vbo, .int .i64 vn, .string vt, .slice vya vy.length vyc, .slice vla vl.list.length vlc, .slice vfa vf.list.length vfc] 32))
           have HSz := hide (stays_wide HS2.out (w := wr) (Nat.le_refl _) (below_alloc V2 (.cells #[.int .u8 vk, .bool vbo, .int .i64 vn, .string vt, .slice vya vy.length vyc, .slice vla vl.list.length vlc, .slice vfa vf.list.length vfc] 32)).size (fun k h1 h2 => (below_alloc V2 (.cells #[.int .u8 vk, .bool vbo, .int .i64 vn, .string vt, .slice vya vy.length vyc, .slice vla vl.list.length vlc, .slice vfa vf.list.length vfc] 32)).block k h2))
           generalize V2.alloc (.cells #[.int .u8 vk, .bool vbo, .int .i64 vn, .string vt, .slice vya vy.length vyc, .slice vla vl.list.length vlc, .slice vfa vf.list.length vfc] 32) = Z at HBz HWz HSz ⊢
           generalize V2.heap.size = bx at HBz ⊢)
      all_goals
        clear HBn HWn HWd HB2 HS2
        obtain ⟨z0, z1, z2, z3, z4, z5, z6⟩ := HBz.out.cells
        have HNw := hide (news7 Z (.int .u8 vk) (.bool vbo) (.int .i64 vn) (.string vt) (.slice vya vy.length vyc) (.slice vla vl.list.length vlc) (.slice vfa vf.list.length vfc))
        have HOz := hide (owns_below (owns_below HO.out HWz.out.below) (below_alloc Z (.cells #[.int .u8 vk, .bool vbo, .int .i64 vn, .string vt, .slice vya vy.length vyc, .slice vla vl.list.length vlc, .slice vfa vf.list.length vfc] 32)))
        have HFz := hide (HF.out.on HWz.out.below)
        go_wp2_with (at_builtin; refine wpList_append_own_at _ (by rfl) (.tmp 35) (.tmp 37) 24 (by rfl) B 32 i0 _ 7 104 Try.underlying24 hi hz0 hz1 hz2 (by rfl) (by omega) (.slice a1 j c1) j cs (by rfl) HOz.out ⟨Z.heap.size, 0, none⟩ 1 1 [.int .u8 vk, .bool vbo, .int .i64 vn, .string vt, .slice vya vy.length vyc, .slice vla vl.list.length vlc, .slice vfa vf.list.length vfc] (by rfl) (by rfl) HNw.out (by intro u hu; simp at hu; rcases hu with rfl | rfl | rfl | rfl | rfl | rfl | rfl <;> rfl) (by unfold maxLen; omega) (by omega) (by have := HFz.out.size; simp; omega) ?_; intro v' W5 hown5 hg5 _ hat5; have HO5 := hide hown5; have HG5 := hide hg5; have HA5 := hide hat5; clear hown5 hg5 hat5)
        obtain ⟨a5, c5, rfl⟩ := ownsRow_shape HO5.out
        have hss := staysL_step (j := j) (w := w) HSt.out HF.out.size hbB (own_ne HO.out) (grown_refl _ _) (grown_below HWz.out.below) HSz.out (below_alloc Z (.cells #[.int .u8 vk, .bool vbo, .int .i64 vn, .string vt, .slice vya vy.length vyc, .slice vla vl.list.length vlc, .slice vfa vf.list.length vfc] 32)) HG5.out HA5.out HV0.out
        rw [← HTk.out] at hss
        exact ⟨⟨j + 1, p + cn, _, by rw [Int.natCast_add], HN, by omega, hpc, HO5.out, (HFz.out.alloc (.cells #[.int .u8 vk, .bool vbo, .int .i64 vn, .string vt, .slice vya vy.length vyc, .slice vla vl.list.length vlc, .slice vfa vf.list.length vfc] 32)).grown HG5.out (fun k e => (own_ne HOz.out k e).1), hss⟩, by simp only [intOf]; omega⟩
    · obtain rfl : j = ts.length := by omega
      have htk : ts.take ts.length = ts := List.take_length
      have hp2 := HP.out
      rw [htk, ← HBs.out] at hp2
      rw [htk] at HSt
      subst hp2
      clear HP htk
      have t1 : decide ((bs.length : Int) < (bs.length : Int)) = false := by simp
      go_wp2
      go_ret3
      exact ⟨_, _, rfl, HO.out, HF.out.below, HSt.out⟩
end Go.Proofs.Ytegoeaofjnpehab
