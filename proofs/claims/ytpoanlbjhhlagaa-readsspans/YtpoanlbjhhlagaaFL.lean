/- filled: a set that keys and spans are added to, in turns, and the document's. -/
import Derived.Test.YtpoanlbjhhlagaaFS
namespace Go.Proofs.Ytpoanlbjhhlagaa
open Go.RowKit Go.Maps
set_option linter.unusedVariables false

/-- a key that lies anywhere. -/
structure Ky where
  key : List Int
  ka : Option Addr
  kc : Nat
/-- a row of keys. -/
structure Kys (w : World) (a : Option Addr) (n c : Nat) (ks : List Ky) : Prop where
  len : ks.length = n
  cap : n ≤ c
  max : c ≤ 9223372036854775807
  row : ks = [] ∨ ∃ b off, a = some ⟨b, off, none⟩ ∧ b < w.heap.size ∧ ∀ (j : Nat) (x : Ky), ks[j]? = some x → w.cell? ⟨b, off + j, none⟩ = some (.slice x.ka x.key.length x.kc)
  each : ∀ x ∈ ks, Inn w x.ka x.key.length x.kc x.key
theorem Kys.below {w w' : World} {a : Option Addr} {n c : Nat} {ks : List Ky} (h : Kys w a n c ks) (hb : Below w.heap.size w w') : Kys w' a n c ks :=
  ⟨h.len, h.cap, h.max, h.row.imp id fun ⟨b, off, e, hl, hc⟩ => ⟨b, off, e, Nat.lt_of_lt_of_le hl hb.size, fun j x hx => (hb.cell (p := ⟨b, off + j, none⟩) hl).trans (hc j x hx)⟩, fun x hx => (h.each x hx).below hb⟩
theorem Kys.at {w : World} {a : Option Addr} {n c : Nat} {ks : List Ky} (h : Kys w a n c ks) {i : Nat} (hi : i < n) : ∃ x b off, ks[i]? = some x ∧ a = some ⟨b, off, none⟩ ∧ b < w.heap.size ∧ w.cell? ⟨b, off + i, none⟩ = some (.slice x.ka x.key.length x.kc) ∧ Inn w x.ka x.key.length x.kc x.key := by
  have hi' : i < ks.length := by rw [h.len]; exact hi
  have hx := List.getElem?_eq_getElem hi'
  rcases h.row with e | ⟨b, off, e, hl, hc⟩
  · rw [e] at hi'; simp at hi'
  · exact ⟨ks[i], b, off, hx, e, hl, hc i _ hx, h.each _ (List.getElem_mem hi')⟩
theorem ens_one {w : World} {b off n c i : Nat} {xs : List En} {x : En} (h : Ens w (some ⟨b, off, none⟩) n c xs) (hx : xs[i]? = some x) : Ens w (some ⟨b, off + i * 3, none⟩) 1 (c - i) [x] := by
  have hi : i < n := by have := (List.getElem?_eq_some_iff.1 hx).1; rw [h.len] at this; exact this
  have hc := h.cap
  have hm := h.max
  obtain ⟨b', off', e, hl, c0, c1, c2⟩ := h.cells hx
  cases e
  refine ⟨rfl, by omega, by omega, fun e => (by cases e), .inr ⟨b, off + i * 3, rfl, hl, fun j u hu => ?_⟩, fun y hy => by simp at hy; subst hy; exact h.each y (List.mem_of_getElem? hx)⟩
  rw [rowc_one] at hu
  have hj : j < 3 := by have := (List.getElem?_eq_some_iff.1 hu).1; simpa [En.cells] using this
  match j, hj with
  | 0, _ => simp [En.cells] at hu; subst hu; exact c0
  | 1, _ => simp [En.cells] at hu; subst hu; exact c1
  | 2, _ => simp [En.cells] at hu; subst hu; exact c2
def kof (ks : List Ky) (i : Nat) : List Ee := match ks[i]? with
  | some k => [⟨k.key, k.key ++ [0], false⟩]
  | none => []
def sof (xs : List En) (i : Nat) : List Ee := match xs[i]? with
  | some x => sps x.e
  | none => []
/-- what was added in the first rounds. -/
def flk (ks : List Ky) (xs : List En) : Nat → List Ee
  | 0 => []
  | i + 1 => (flk ks xs i ++ kof ks i) ++ sof xs i
theorem sps_len (x : Ee) : (sps x).length ≤ 1 := by unfold sps; split <;> (try split) <;> simp
theorem kof_len (ks : List Ky) (i : Nat) : (kof ks i).length ≤ 1 := by unfold kof; split <;> simp
theorem sof_len (xs : List En) (i : Nat) : (sof xs i).length ≤ 1 := by
  unfold sof
  split
  · exact sps_len _
  · simp
theorem flk_len (ks : List Ky) (xs : List En) : ∀ i, (flk ks xs i).length ≤ 2 * i
  | 0 => by simp [flk]
  | i + 1 => by
    have := flk_len ks xs i
    have := kof_len ks i
    have := sof_len xs i
    simp [flk]; omega
theorem lent_inn {w : World} {g : Nat} {key : List Int} (h : Own w (.slice (some ⟨g, 0, none⟩) (key.length + 2) (key.length + 2)) (key ++ [91, 92])) (h8 : Byts key) (hl : key.length ≤ 30000) : Inn w (some ⟨g, 0, none⟩) key.length (key.length + 2) key :=
  ⟨rfl, by omega, by omega, fun e => (by cases e), Le.row_left (own_row h), h8⟩
theorem Lt.of_block {w0 w w' : World} {g gk gv g9 : Nat} {x : Ee} (h : Lt w0 w g gk gv g9 x) (hb : ∀ k, k = g ∨ k = gk ∨ k = gv ∨ k = g9 → w'.heap[k]? = w.heap[k]?) : Lt w0 w' g gk gv g9 x :=
  ⟨(hb g (.inl rfl)).trans h.row, h.key.of_block fun k hk => hb k (.inr (.inl (by simp [Value.ownBlock] at hk; omega))), h.val.of_block fun k hk => hb k (.inr (.inr (.inl (by simp [Value.ownBlock] at hk; omega)))), (hb g9 (.inr (.inr (.inr rfl)))).trans h.mrk, h.ge, h.ne⟩
set_option maxHeartbeats 1600000 in
set_option maxRecDepth 1000000 in
theorem new_any (w : World) : Calls Try.prog 22 #[] w fun e w' => e = .returned (.pointer (some ⟨w.heap.size, 0, none⟩)) ∧ w' = w.alloc (.cells #[.slice none 0 0, .int .i64 0] 79) := by
  go_enter Try.func22, Try.ntmps22
  go_wp2
  go_ret
  exact ⟨rfl, rfl⟩
set_option maxHeartbeats 12800000 in
set_option maxRecDepth 1000000 in
theorem filled_any {w : World} {ka la : Option Addr} {kn kc ln lc : Nat} {ks : List Ky} {xs : List En} (hK : Kys w ka kn kc ks) (hL : Ens w la ln lc xs) (hkn : kn ≤ 300) (hln : ln ≤ 300) (hkl : ∀ x ∈ ks, x.key.length ≤ 30000) (hll : ∀ x ∈ xs, x.e.key.length ≤ 30000 ∧ x.e.val.length ≤ 30000) :
    Calls Try.prog 9 #[.slice ka kn kc, .slice la ln lc] w fun e w' => ∃ i p pr, e = .returned (.tuple #[.pointer (some ⟨p, 0, none⟩), .pointer (some ⟨pr, 0, none⟩), .bool true]) ∧ i ≤ 300 ∧ kn ≤ i ∧ ln ≤ i ∧ Fs w' w.heap.size p pr (flk ks xs i) (flk ks xs i) (fun _ => False) ∧ Below w.heap.size w w' := by
  have HK := hide hK
  have HL0 := hide hL
  have HKl := hide hkl
  have HLl := hide hll
  have hkc := hK.cap
  have hkm := hK.max
  have hlc := hL.cap
  have hlm := hL.max
  have HNw := hide (new_any w)
  have hs1 : (w.alloc (.cells #[.slice none 0 0, .int .i64 0] 79)).heap.size = w.heap.size + 1 := by simp
  have hB1 := below_alloc w (.cells #[.slice none 0 0, .int .i64 0] 79)
  have hB2 := below_alloc (w.alloc (.cells #[.slice none 0 0, .int .i64 0] 79)) (.cells #[.slice none 0 0] 72)
  have HB0 := hide (hB1.trans (hB2.mono hB1.size))
  have HF0 : Hid (Fs ((w.alloc (.cells #[.slice none 0 0, .int .i64 0] 79)).alloc (.cells #[.slice none 0 0] 72)) w.heap.size w.heap.size (w.heap.size + 1) [] [] (fun _ => False)) := hide ⟨_, _, .slice none 0 0, [], (Sx.new w w.heap.size (Nat.le_refl _)).below hB2, ⟨by have h := heap_alloc_new (w.alloc (.cells #[.slice none 0 0, .int .i64 0] 79)) (.cells #[.slice none 0 0] 72); rw [hs1] at h; exact h, by omega, ⟨⟨rfl, .inl ⟨rfl, rfl⟩⟩, by simp, by intro i j yi yj k hi; simp at hi⟩⟩, rfl, fun k _ e => by simp [Value.ownBlock] at e, fun k hk => hk.elim⟩
  clear hK hL hkl hll hB1 hB2
  go_enter Try.func9, Try.ntmps9
  go_wp2_with fail
  refine HNw.out.mono ?_
  rintro e w1 ⟨rfl, rfl⟩
  go_wp2
  obtain ⟨wI, hwI⟩ : ∃ wI, wI = (w.alloc (.cells #[.slice none 0 0, .int .i64 0] 79)).alloc (.cells #[.slice none 0 0] 72) := ⟨_, rfl⟩
  rw [← hwI] at HF0 HB0 ⊢
  clear hwI hs1
  go_loopw [9, 10] (fun vb vi wr => ∃ i : Nat, vb = .bool true ∧ i ≤ 300 ∧ (i ≤ kn ∨ i ≤ ln) ∧ vi = .int .i64 (i : Int) ∧ Fs wr w.heap.size w.heap.size (w.heap.size + 1) (flk ks xs i) (flk ks xs i) (fun _ => False) ∧ Below w.heap.size w wr) (fun _ vi _ => (kn + ln) - (intOf vi).toNat)
  case atStart => exact ⟨0, rfl, by omega, by omega, rfl, HF0.out, HB0.out⟩
  case round =>
    obtain ⟨i, rfl, hi3, hio, rfl, hf, hb⟩ := hrel
    have HF := hide hf
    have HB := hide hb
    clear hf hb
    by_cases hk : i < kn
    · have fw : (i : Int) < (kn : Int) := by omega
      obtain ⟨x, b1, o1, hx, ha1, -, -, -⟩ := HK.out.at hk
      have HA1 := hide ha1
      have HQ : Hid (∀ W, Below w.heap.size w W → W.cell? ⟨b1, o1 + i, none⟩ = some (.slice x.ka x.key.length x.kc)) := hide fun W hW => by
        obtain ⟨x2, b2, o2, h1, h2, h3, h4, h5⟩ := (HK.out.below hW).at hk
        rw [hx] at h1; rw [ha1] at h2; cases h1; cases h2; exact h4
      have HI : Hid (∀ W, Below w.heap.size w W → Inn W x.ka x.key.length x.kc x.key) := hide fun W hW => (HK.out.each x (List.mem_of_getElem? hx)).below hW
      have hxl := HKl.out x (List.mem_of_getElem? hx)
      have HKf : Hid (kof ks i = [⟨x.key, x.key ++ [0], false⟩]) := hide (by unfold kof; rw [hx])
      have HL := hide (Le.lent_any x.ka x.key.length x.kc x.key wr rfl (by omega) (HI.out _ HB.out).bare (HI.out _ HB.out).row)
      have f3 : (i : Int) < (kn : Int) := by omega
      have q0 := HQ.out _ HB.out
      have hkv : ka = some ⟨b1, o1, none⟩ := ha1
      subst hkv
      clear hx ha1 HA1
      go_wp2_with fail
      refine HL.out.mono ?_
      rintro e w2 ⟨rfl, ho2, hb2⟩
      have HO2 := hide ho2
      have HB2 := hide (HB.out.trans (hb2.mono HB.out.size))
      have hlt2 : wr.heap.size < w2.heap.size := ho2.lt (by simp [Value.ownBlock])
      have HF2 := hide (HF.out.lend (X' := fun k => k = wr.heap.size) hb2 fun k hk => .inr ⟨Nat.le_of_eq hk.symm, by omega⟩)
      have HKy := hide (HF2.out.s_on fun O E h => key_any h (by have := flk_len ks xs i; omega) _ _ _ x.key (lent_inn ho2 (HI.out _ HB.out).byts hxl) (by omega))
      clear ho2 hb2 HL q0
      go_wp2_with fail
      refine HKy.out.mono ?_
      rintro e w3 ⟨rfl, hf3, hz3⟩
      have HF3 := hide hf3
      have HZ3 := hide hz3
      have HB3 := hide (HB2.out.trans hz3.1)
      have q3 := HQ.out _ HB3.out
      have HRk := hide (HF3.out.r_on (l := [⟨x.key, x.key ++ [0], false⟩]) fun v ys hr he => (rkey_any hr HF3.out.size x.ka x.key.length x.kc x.key (HI.out _ HB3.out) (by omega) (by have := flk_len ks xs i; have := congrArg List.length he; rw [ers_len] at this; omega)).mono fun e w' h => h.rs)
      clear hf3 hz3 HKy
      go_wp2_with fail
      refine HRk.out.mono ?_
      rintro e w4 ⟨rfl, hf4, hz4⟩
      have HF4 := hide hf4
      have HB4 := hide (HB3.out.trans hz4.1)
      have HO4 := hide (HO2.out.of_block (w' := w4) fun k hk => by
        have e9 : k = wr.heap.size := by simp [Value.ownBlock] at hk; omega
        exact (hz4.2 k e9).trans (HZ3.out.2 k e9))
      have q4 := HQ.out _ HB4.out
      have HWh := hide (Le.whole_any wr.heap.size x.ka x.key.length x.kc x.key w4 (by omega) (own_row HO4.out) (HI.out _ HB4.out))
      clear hf4 hz4 HRk q3
      go_wp2_with fail
      refine HWh.out.mono ?_
      rintro e w5 ⟨rfl, hb5⟩
      have HF5 := hide (HF4.out.below hb5)
      have HB5 := hide (HB4.out.trans (hb5.mono HB4.out.size))
      have HO5 := hide (HO4.out.of_block (w' := w5) fun k hk => hb5.block k (HO4.out.lt hk))
      have HSp := hide (Le.spoil_any wr.heap.size x.key.length (x.key.length + 2) w5 (Le.own_blk HO5.out) (by omega) (by omega))
      clear hb5 HWh q4
      go_wp2_with fail
      refine HSp.out.mono ?_
      rintro e w6 ⟨rfl, hg6⟩
      have hm6 : Mv (fun k => k = wr.heap.size) w5 w6 := (Mv.refl _ _).grown hg6 fun k hk => .inl (Option.some.inj hk).symm
      have HF6 : Hid (Fs w6 w.heap.size w.heap.size (w.heap.size + 1) (flk ks xs i ++ kof ks i) (flk ks xs i ++ kof ks i) (fun _ => False)) := hide (by rw [HKf.out]; exact (HF5.out.spoil hm6 (fun k hk => hk) (fun k hk => hk.elim)).1)
      have HB6 := hide (HB5.out.trans (HF5.out.spoil hm6 (fun k hk => hk) (X' := fun _ => False) (fun k hk => hk.elim)).2)
      clear hg6 hm6 HSp HF2 HF3 HF4 HF5 HZ3 HO2 HO4 HO5
      by_cases hl : i < ln
      · skip
        obtain ⟨y, hy⟩ : ∃ y, xs[i]? = some y := ⟨_, List.getElem?_eq_getElem (show i < xs.length by rw [HL0.out.len]; exact hl)⟩
        obtain ⟨b2, o2, hla, -, -, -, -⟩ := HL0.out.cells hy
        subst hla
        have hyl := HLl.out y (List.mem_of_getElem? hy)
        have HC : Hid (∀ W, Below w.heap.size w W → W.cell? ⟨b2, o2 + i * 3, none⟩ = some (.slice y.ka y.e.key.length y.kc) ∧ W.cell? ⟨b2, o2 + i * 3 + 1, none⟩ = some (.slice y.va y.e.val.length y.vc) ∧ W.cell? ⟨b2, o2 + i * 3 + 2, none⟩ = some (.bool y.e.del)) := hide fun W hW => by
          obtain ⟨b3, o3, e3, _, h0, h1, h2⟩ := (HL0.out.below hW).cells hy
          cases e3; exact ⟨h0, h1, h2⟩
        have HE1 : Hid (∀ W, Below w.heap.size w W → Ens W (some ⟨b2, o2 + i * 3, none⟩) 1 (lc - i) [y]) := hide fun W hW => ens_one (HL0.out.below hW) hy
        have HSf : Hid (sof xs i = sps y.e) := hide (by unfold sof; rw [hy])
        have f4 : (i : Int) < (ln : Int) := by omega
        have f5 : (0 : Int) ≤ (i : Int) := by omega
        have f6 : (i : Int) + 1 ≤ (lc : Int) := by omega
        have f7 : ¬ (lc = i) := by omega
        have HLs := hide (lents_any y (HE1.out _ HB6.out) hyl)
        clear hy
        go_wp2_with fail
        refine HLs.out.mono ?_
        rintro e w7 ⟨g, gk, gv, g9, rfl, hLt, hb7⟩
        have HLt := hide hLt
        have HB7 := hide (HB6.out.trans (hb7.mono HB6.out.size))
        have HF7 := hide (HF6.out.lend (X' := fun k => k = g ∨ k = gk ∨ k = gv ∨ k = g9) hb7 fun k hk => .inr (by
          obtain ⟨g1, g2, g3, g4⟩ := hLt.ge
          rcases hk with rfl | rfl | rfl | rfl
          · exact ⟨g1, lt_of_block hLt.row⟩
          · exact ⟨g2, hLt.key.lt (by simp [Value.ownBlock])⟩
          · exact ⟨g3, hLt.val.lt (by simp [Value.ownBlock])⟩
          · exact ⟨g4, lt_of_block hLt.mrk⟩))
        have r0 : w7.cell? ⟨g, 0, none⟩ = some (.slice (some ⟨gk, 0, none⟩) y.e.key.length (y.e.key.length + 2)) := by simp [World.cell?, hLt.row]
        have r1 : w7.cell? ⟨g, 1, none⟩ = some (.slice (some ⟨gv, 0, none⟩) y.e.val.length (y.e.val.length + 2)) := by simp [World.cell?, hLt.row]
        have r2 : w7.cell? ⟨g, 2, none⟩ = some (.bool y.e.del) := by simp [World.cell?, hLt.row]
        have hyo := (HE1.out w (Below.refl _ _)).each y (by simp)
        have HSn := hide (HF7.out.s_on fun O E h => span_any h (by have := flk_len ks xs i; have := kof_len ks i; simp; omega) ⟨y.e, some ⟨gk, 0, none⟩, y.e.key.length + 2, some ⟨gv, 0, none⟩, y.e.val.length + 2⟩ ⟨lent_inn hLt.key hyo.key.byts hyl.1, lent_inn hLt.val hyo.val.byts hyl.2⟩ hyl)
        have hgs := hLt.ge
        clear hLt hb7 HLs hyo
        go_wp2_with fail
        refine HSn.out.mono ?_
        rintro e w8 ⟨rfl, hf8, hz8⟩
        have HF8 := hide hf8
        have HZ8 := hide hz8
        have HB8 := hide (HB7.out.trans hz8.1)
        obtain ⟨s0, s1, s2⟩ := HC.out _ HB8.out
        have HRs := hide (HF8.out.r_on fun v zs hr he => rspan_any hr HF8.out.size (by have := flk_len ks xs i; have := kof_len ks i; have := congrArg List.length he; rw [ers_len] at this; simp at this; omega) y ((HE1.out _ HB8.out).each y (by simp)) hyl)
        clear hf8 hz8 HSn r0 r1 r2
        go_wp2_with fail
        refine HRs.out.mono ?_
        rintro e w9 ⟨rfl, hf9, hz9⟩
        have HF9 := hide hf9
        have HB9 := hide (HB8.out.trans hz9.1)
        have HLt9 := hide (HLt.out.of_block (w' := w9) fun k hk => (hz9.2 k hk).trans (HZ8.out.2 k hk))
        have HWs := hide (wholes_any y HLt9.out (HE1.out _ HB9.out) hyl)
        clear hf9 hz9 HRs s0 s1 s2
        go_wp2_with fail
        refine HWs.out.mono ?_
        rintro e w10 ⟨rfl, hb10⟩
        have HF10 := hide (HF9.out.below hb10)
        have HB10 := hide (HB9.out.trans (hb10.mono HB9.out.size))
        have hLt10 := HLt9.out.of_block (w' := w10) fun k hk => hb10.block k (by rcases hk with rfl | rfl | rfl | rfl; exact lt_of_block HLt9.out.row; exact HLt9.out.key.lt (by simp [Value.ownBlock]); exact HLt9.out.val.lt (by simp [Value.ownBlock]); exact lt_of_block HLt9.out.mrk)
        have HSs := hide (spoils_any hLt10 hyl)
        clear hb10 HWs hLt10
        go_wp2_with fail
        refine HSs.out.mono ?_
        rintro e w11 ⟨rfl, hm11⟩
        have h11 := HF10.out.spoil hm11 (fun k hk => by rcases hk with h | h | h; exact .inl h; exact .inr (.inl h); exact .inr (.inr (.inl h))) (X' := fun _ => False) (fun k hk => hk.elim)
        have HF11 : Hid (Fs w11 w.heap.size w.heap.size (w.heap.size + 1) (flk ks xs (i + 1)) (flk ks xs (i + 1)) (fun _ => False)) := hide (by unfold flk; rw [HSf.out]; exact h11.1)
        have HB11 := hide (HB10.out.trans h11.2)
        clear hm11 h11 HSs HF7 HF8 HF9 HF10 HZ8 HLt HLt9 hgs
        go_wp2
        go_roundw
        case rel => exact ⟨i + 1, rfl, by omega, by omega, by go_num, HF11.out, HB11.out⟩
        case measure => simp [intOf]; omega
      · skip
        have f4 : ¬ (i : Int) < (ln : Int) := by omega
        have HSf : Hid (sof xs i = []) := hide (by unfold sof; rw [List.getElem?_eq_none (by rw [HL0.out.len]; omega)])
        have HF11 : Hid (Fs w6 w.heap.size w.heap.size (w.heap.size + 1) (flk ks xs (i + 1)) (flk ks xs (i + 1)) (fun _ => False)) := hide (by unfold flk; rw [HSf.out, List.append_nil]; exact HF6.out)
        go_wp2
        go_roundw
        case rel => exact ⟨i + 1, rfl, by omega, by omega, by go_num, HF11.out, HB6.out⟩
        case measure => simp [intOf]; omega
    · have fw : ¬ (i : Int) < (kn : Int) := by omega
      have HFa : Hid (Fs wr w.heap.size w.heap.size (w.heap.size + 1) (flk ks xs i ++ kof ks i) (flk ks xs i ++ kof ks i) (fun _ => False)) := hide (by
        have e : kof ks i = [] := by unfold kof; rw [List.getElem?_eq_none (by rw [HK.out.len]; omega)]
        rw [e, List.append_nil]; exact HF.out)
      by_cases hl : i < ln
      · skip
        obtain ⟨y, hy⟩ : ∃ y, xs[i]? = some y := ⟨_, List.getElem?_eq_getElem (show i < xs.length by rw [HL0.out.len]; exact hl)⟩
        obtain ⟨b2, o2, hla, -, -, -, -⟩ := HL0.out.cells hy
        subst hla
        have hyl := HLl.out y (List.mem_of_getElem? hy)
        have HC : Hid (∀ W, Below w.heap.size w W → W.cell? ⟨b2, o2 + i * 3, none⟩ = some (.slice y.ka y.e.key.length y.kc) ∧ W.cell? ⟨b2, o2 + i * 3 + 1, none⟩ = some (.slice y.va y.e.val.length y.vc) ∧ W.cell? ⟨b2, o2 + i * 3 + 2, none⟩ = some (.bool y.e.del)) := hide fun W hW => by
          obtain ⟨b3, o3, e3, _, h0, h1, h2⟩ := (HL0.out.below hW).cells hy
          cases e3; exact ⟨h0, h1, h2⟩
        have HE1 : Hid (∀ W, Below w.heap.size w W → Ens W (some ⟨b2, o2 + i * 3, none⟩) 1 (lc - i) [y]) := hide fun W hW => ens_one (HL0.out.below hW) hy
        have HSf : Hid (sof xs i = sps y.e) := hide (by unfold sof; rw [hy])
        have f4 : (i : Int) < (ln : Int) := by omega
        have f5 : (0 : Int) ≤ (i : Int) := by omega
        have f6 : (i : Int) + 1 ≤ (lc : Int) := by omega
        have f7 : ¬ (lc = i) := by omega
        have HLs := hide (lents_any y (HE1.out _ HB.out) hyl)
        clear hy
        go_wp2_with fail
        refine HLs.out.mono ?_
        rintro e w7 ⟨g, gk, gv, g9, rfl, hLt, hb7⟩
        have HLt := hide hLt
        have HB7 := hide (HB.out.trans (hb7.mono HB.out.size))
        have HF7 := hide (HFa.out.lend (X' := fun k => k = g ∨ k = gk ∨ k = gv ∨ k = g9) hb7 fun k hk => .inr (by
          obtain ⟨g1, g2, g3, g4⟩ := hLt.ge
          rcases hk with rfl | rfl | rfl | rfl
          · exact ⟨g1, lt_of_block hLt.row⟩
          · exact ⟨g2, hLt.key.lt (by simp [Value.ownBlock])⟩
          · exact ⟨g3, hLt.val.lt (by simp [Value.ownBlock])⟩
          · exact ⟨g4, lt_of_block hLt.mrk⟩))
        have r0 : w7.cell? ⟨g, 0, none⟩ = some (.slice (some ⟨gk, 0, none⟩) y.e.key.length (y.e.key.length + 2)) := by simp [World.cell?, hLt.row]
        have r1 : w7.cell? ⟨g, 1, none⟩ = some (.slice (some ⟨gv, 0, none⟩) y.e.val.length (y.e.val.length + 2)) := by simp [World.cell?, hLt.row]
        have r2 : w7.cell? ⟨g, 2, none⟩ = some (.bool y.e.del) := by simp [World.cell?, hLt.row]
        have hyo := (HE1.out w (Below.refl _ _)).each y (by simp)
        have HSn := hide (HF7.out.s_on fun O E h => span_any h (by have := flk_len ks xs i; have := kof_len ks i; simp; omega) ⟨y.e, some ⟨gk, 0, none⟩, y.e.key.length + 2, some ⟨gv, 0, none⟩, y.e.val.length + 2⟩ ⟨lent_inn hLt.key hyo.key.byts hyl.1, lent_inn hLt.val hyo.val.byts hyl.2⟩ hyl)
        have hgs := hLt.ge
        clear hLt hb7 HLs hyo
        go_wp2_with fail
        refine HSn.out.mono ?_
        rintro e w8 ⟨rfl, hf8, hz8⟩
        have HF8 := hide hf8
        have HZ8 := hide hz8
        have HB8 := hide (HB7.out.trans hz8.1)
        obtain ⟨s0, s1, s2⟩ := HC.out _ HB8.out
        have HRs := hide (HF8.out.r_on fun v zs hr he => rspan_any hr HF8.out.size (by have := flk_len ks xs i; have := kof_len ks i; have := congrArg List.length he; rw [ers_len] at this; simp at this; omega) y ((HE1.out _ HB8.out).each y (by simp)) hyl)
        clear hf8 hz8 HSn r0 r1 r2
        go_wp2_with fail
        refine HRs.out.mono ?_
        rintro e w9 ⟨rfl, hf9, hz9⟩
        have HF9 := hide hf9
        have HB9 := hide (HB8.out.trans hz9.1)
        have HLt9 := hide (HLt.out.of_block (w' := w9) fun k hk => (hz9.2 k hk).trans (HZ8.out.2 k hk))
        have HWs := hide (wholes_any y HLt9.out (HE1.out _ HB9.out) hyl)
        clear hf9 hz9 HRs s0 s1 s2
        go_wp2_with fail
        refine HWs.out.mono ?_
        rintro e w10 ⟨rfl, hb10⟩
        have HF10 := hide (HF9.out.below hb10)
        have HB10 := hide (HB9.out.trans (hb10.mono HB9.out.size))
        have hLt10 := HLt9.out.of_block (w' := w10) fun k hk => hb10.block k (by rcases hk with rfl | rfl | rfl | rfl; exact lt_of_block HLt9.out.row; exact HLt9.out.key.lt (by simp [Value.ownBlock]); exact HLt9.out.val.lt (by simp [Value.ownBlock]); exact lt_of_block HLt9.out.mrk)
        have HSs := hide (spoils_any hLt10 hyl)
        clear hb10 HWs hLt10
        go_wp2_with fail
        refine HSs.out.mono ?_
        rintro e w11 ⟨rfl, hm11⟩
        have h11 := HF10.out.spoil hm11 (fun k hk => by rcases hk with h | h | h; exact .inl h; exact .inr (.inl h); exact .inr (.inr (.inl h))) (X' := fun _ => False) (fun k hk => hk.elim)
        have HF11 : Hid (Fs w11 w.heap.size w.heap.size (w.heap.size + 1) (flk ks xs (i + 1)) (flk ks xs (i + 1)) (fun _ => False)) := hide (by unfold flk; rw [HSf.out]; exact h11.1)
        have HB11 := hide (HB10.out.trans h11.2)
        clear hm11 h11 HSs HF7 HF8 HF9 HF10 HZ8 HLt HLt9 hgs
        go_wp2
        go_roundw
        case rel => exact ⟨i + 1, rfl, by omega, by omega, by go_num, HF11.out, HB11.out⟩
        case measure => simp [intOf]; omega
      · have f4 : ¬ (i : Int) < (ln : Int) := by omega
        go_wp2
        go_ret3
        exact ⟨i, _, _, rfl, hi3, by omega, by omega, HF.out, HB.out⟩
end Go.Proofs.Ytpoanlbjhhlagaa
