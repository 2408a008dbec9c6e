/- What is known. -/
import Derived.Test.YtehapglbenaikaaLM
import Derived.Test.YtehapglbenaikaaKK
namespace Go.Proofs.Ytehapglbenaikaa
open Go.RowKit
set_option linter.unusedVariables false

theorem RowN.wider {n₀ n₁ : Nat} {W : World} {a : Option Addr} {zs : List Int} (h : n₀ ≤ n₁) (k : RowN n₀ W a zs) : RowN n₁ W a zs := by
  rcases k with k | ⟨b, o, rfl, hlt, hc⟩
  · exact .inl k
  · exact .inr ⟨b, o, rfl, by omega, hc⟩
mutual
theorem T.Mem.wider {n₀ n₁ : Nat} {W : World} (h : n₀ ≤ n₁) : ∀ {v : T}, v.Mem n₀ W → v.Mem n₁ W
  | .mk k bo n t ya yc y la lc l fa fc f, ⟨h1, h2, h3, h4, h5, h6, h7, h8, h9, h10⟩ => ⟨h1.wider h, h2, h3, h4, TL.Mem.wider h h5, h6, h7, FL.Mem.wider h h8, h9, h10⟩
theorem TL.Mem.wider {n₀ n₁ : Nat} {W : World} (h : n₀ ≤ n₁) {a : Option Addr} : ∀ {i : Nat} {l : TL}, l.Mem n₀ W a i → l.Mem n₁ W a i
  | _, .nil, _ => trivial
  | i, .cons v r, ⟨⟨b, o, h1, h2, h3⟩, h4, h5⟩ => ⟨⟨b, o, h1, Nat.lt_of_lt_of_le h2 h, h3⟩, T.Mem.wider h h4, TL.Mem.wider h h5⟩
theorem FL.Mem.wider {n₀ n₁ : Nat} {W : World} (h : n₀ ≤ n₁) {a : Option Addr} : ∀ {i : Nat} {l : FL}, l.Mem n₀ W a i → l.Mem n₁ W a i
  | _, .nil, _ => trivial
  | i, .cons s v r, ⟨⟨b, o, h1, h2, h6, h3⟩, h4, h5⟩ => ⟨⟨b, o, h1, Nat.lt_of_lt_of_le h2 h, h6, h3⟩, T.Mem.wider h h4, FL.Mem.wider h h5⟩
end
theorem kd_mem {W : World} {b : Nat} (h : W.heap[b]? = some (.cells #[.string ⟨#[97]⟩, .int .u8 3, .bool false, .int .i64 1, .string ⟨#[]⟩, .slice none 0 0, .slice none 0 0, .slice none 0 0, .string ⟨#[98]⟩, .int .u8 4, .bool false, .int .i64 0, .string ⟨#[120]⟩, .slice none 0 0, .slice none 0 0, .slice none 0 0] 53 (0, 0))) : (kd b).Mem (b + 1) W := by
  have hc : ∀ (i : Nat) (u : Value), #[Value.string ⟨#[97]⟩, .int .u8 3, .bool false, .int .i64 1, .string ⟨#[]⟩, .slice none 0 0, .slice none 0 0, .slice none 0 0, .string ⟨#[98]⟩, .int .u8 4, .bool false, .int .i64 0, .string ⟨#[120]⟩, .slice none 0 0, .slice none 0 0, .slice none 0 0][i]? = some u → W.cell? ⟨b, i, none⟩ = some u := fun i u hu => by
    simp only [World.cell?]
    rw [h]
    exact hu
  refine ⟨.inl rfl, fun c hc => by simp at hc, fun _ => ⟨rfl, rfl⟩, by simp, trivial, fun _ => ⟨rfl, rfl⟩, by simp [TL.list], ⟨⟨b, 0, rfl, by omega, hc 0 _ rfl, ?_⟩, leafT_mem 3 false 1 ⟨#[]⟩ _ _, ⟨b, 0, rfl, by omega, hc 8 _ rfl, ?_⟩, leafT_mem 4 false 0 ⟨#[120]⟩ _ _, trivial⟩, fun h => by simp at h, by simp [FL.list]⟩
  · intro j u hu
    match j, hu with
    | 0, hu => exact hc 1 u hu
    | 1, hu => exact hc 2 u hu
    | 2, hu => exact hc 3 u hu
    | 3, hu => exact hc 4 u hu
    | 4, hu => exact hc 5 u hu
    | 5, hu => exact hc 6 u hu
    | 6, hu => exact hc 7 u hu
    | j + 7, hu => simp [T.cells] at hu
  · intro j u hu
    match j, hu with
    | 0, hu => exact hc 9 u hu
    | 1, hu => exact hc 10 u hu
    | 2, hu => exact hc 11 u hu
    | 3, hu => exact hc 12 u hu
    | 4, hu => exact hc 13 u hu
    | 5, hu => exact hc 14 u hu
    | 6, hu => exact hc 15 u hu
    | j + 7, hu => simp [T.cells] at hu
theorem own_row {w : World} {a : Option Addr} {n c : Nat} {zs : List Int} (h : Own w (.slice a n c) zs) : Row w a zs := by
  obtain ⟨a2, c2, e2, -, -, hbare, hrow, hblk⟩ := h.shape
  have : a = a2 := by injection e2
  subst this
  exact hrow
theorem kb_byts : Byts kb := by
  intro c hc
  simp [kb] at hc
  omega
theorem kd_wd (b : Nat) : (kd b).Wd := ck_wd _ (kd_ck b) (kd_wt b) (kd_szd b)
theorem kd_docE (b : Nat) : docE (kd b) = 0 := by
  unfold docE
  rw [kd_ck, kd_denc]
  decide
theorem kd_docB (b : Nat) : docB (kd b) = kb := by
  unfold docB
  rw [kd_docE, kd_denc]; simp
theorem no22 (v : T) (h : v.Wd) : v.denc ≠ [2, 2] := by
  rw [T.denc_tag v h]
  intro e
  have e1 : v.tag = 2 := by injection e
  have e2 : v.body = [2] := by injection e
  rw [body_none v h (.inr (.inl e1))] at e2
  simp at e2
theorem same_kd (b : Nat) (v : T) (h : v.Ok) (hd : v.denc = kb) : (kd b).same v = true := by
  have hw := T.wt_denc v h
  have hz := T.sz_wt v
  rw [hd] at hw
  have hl : kb.length = 11 := rfl
  exact T.same_er _ _ (T.denc_inj (kd b) v [] [] (kd_wd b) h.1 (ck_cl _ (kd_ck b)) h.2 (by have := ck_sz _ (kd_ck b); omega) (by omega) (by rw [kd_denc, hd])).1
set_option maxHeartbeats 3200000 in
set_option maxRecDepth 1000000 in
theorem known_any (w : World) : Calls Try.prog 8 #[] w fun e w' => e = .returned (.bool true) ∧ Below w.heap.size w w' := by
  go_enter Try.func8, Try.ntmps8
  go_wp2_with fail
  have HF0 := hide (((Fr.refl w).alloc (.cells #[.string ⟨#[97]⟩, .int .u8 3, .bool false, .int .i64 1, .string ⟨#[]⟩, .slice none 0 0, .slice none 0 0, .slice none 0 0, .string ⟨#[98]⟩, .int .u8 4, .bool false, .int .i64 0, .string ⟨#[120]⟩, .slice none 0 0, .slice none 0 0, .slice none 0 0] 53)).alloc (.cells #[.int .u8 7, .bool false, .int .i64 0, .string ⟨#[]⟩, .slice none 0 0, .slice none 0 0, .slice (some ⟨w.heap.size, 0, none⟩) 2 2] 27))
  have HM0 : Hid (((w.alloc (.cells #[.string ⟨#[97]⟩, .int .u8 3, .bool false, .int .i64 1, .string ⟨#[]⟩, .slice none 0 0, .slice none 0 0, .slice none 0 0, .string ⟨#[98]⟩, .int .u8 4, .bool false, .int .i64 0, .string ⟨#[120]⟩, .slice none 0 0, .slice none 0 0, .slice none 0 0] 53)).alloc (.cells #[.int .u8 7, .bool false, .int .i64 0, .string ⟨#[]⟩, .slice none 0 0, .slice none 0 0, .slice (some ⟨w.heap.size, 0, none⟩) 2 2] 27)).heap[w.heap.size]? = some (.cells #[.string ⟨#[97]⟩, .int .u8 3, .bool false, .int .i64 1, .string ⟨#[]⟩, .slice none 0 0, .slice none 0 0, .slice none 0 0, .string ⟨#[98]⟩, .int .u8 4, .bool false, .int .i64 0, .string ⟨#[120]⟩, .slice none 0 0, .slice none 0 0, .slice none 0 0] 53 (0, 0))) := (Below.heap_alloc _ _ _ (by simp)).trans (heap_alloc_new w _)
  have HB0 : Hid (Box7 ((w.alloc (.cells #[.string ⟨#[97]⟩, .int .u8 3, .bool false, .int .i64 1, .string ⟨#[]⟩, .slice none 0 0, .slice none 0 0, .slice none 0 0, .string ⟨#[98]⟩, .int .u8 4, .bool false, .int .i64 0, .string ⟨#[120]⟩, .slice none 0 0, .slice none 0 0, .slice none 0 0] 53)).alloc (.cells #[.int .u8 7, .bool false, .int .i64 0, .string ⟨#[]⟩, .slice none 0 0, .slice none 0 0, .slice (some ⟨w.heap.size, 0, none⟩) 2 2] 27)) (w.heap.size + 1) (.int .u8 7) (.bool false) (.int .i64 0) (.string ⟨#[]⟩) (.slice none 0 0) (.slice none 0 0) (.slice (some ⟨w.heap.size, 0, none⟩) 2 2)) := by
    have := heap_alloc_new (w.alloc (.cells #[.string ⟨#[97]⟩, .int .u8 3, .bool false, .int .i64 1, .string ⟨#[]⟩, .slice none 0 0, .slice none 0 0, .slice none 0 0, .string ⟨#[98]⟩, .int .u8 4, .bool false, .int .i64 0, .string ⟨#[120]⟩, .slice none 0 0, .slice none 0 0, .slice none 0 0] 53)) (.cells #[.int .u8 7, .bool false, .int .i64 0, .string ⟨#[]⟩, .slice none 0 0, .slice none 0 0, .slice (some ⟨w.heap.size, 0, none⟩) 2 2] 27)
    rw [Hid]
    unfold Box7
    simpa using this
  generalize (w.alloc (.cells #[.string ⟨#[97]⟩, .int .u8 3, .bool false, .int .i64 1, .string ⟨#[]⟩, .slice none 0 0, .slice none 0 0, .slice none 0 0, .string ⟨#[98]⟩, .int .u8 4, .bool false, .int .i64 0, .string ⟨#[120]⟩, .slice none 0 0, .slice none 0 0, .slice none 0 0] 53)).alloc (.cells #[.int .u8 7, .bool false, .int .i64 0, .string ⟨#[]⟩, .slice none 0 0, .slice none 0 0, .slice (some ⟨w.heap.size, 0, none⟩) 2 2] 27) = W1 at HF0 HM0 HB0 ⊢
  have hb1 := HB0.out.lt
  refine (encode_gen (w.heap.size + 1) (kd w.heap.size) W1 (kd_mem HM0.out) (by omega) (kd_wt _) (kd_szd _)).mono ?_
  rintro e W2 ⟨⟨⟨xa, xc, rfl, hxo⟩, hb2⟩, -⟩
  rw [kd_docB] at hxo
  rw [kd_docB, kd_docE]
  have HXo := hide hxo
  have HF2 := hide (HF0.out.on hb2)
  have HB2 := hide (HB0.out.below hb2)
  have HM2 : Hid ((kd w.heap.size).Mem (w.heap.size + 1) W2) := (kd_mem HM0.out).on (hb2.mono (by omega))
  clear hxo hb2 HF0 HM0 HB0
  obtain ⟨k0, k1, k2, k3, k4, k5, k6⟩ := HB2.out.cells
  have hkl : kb.length = 11 := rfl
  have HDc := hide (decode_gen kb.length xc xa kb W2 rfl (own_row HXo.out) kb_byts (by rw [hkl]; omega))
  rw [hkl] at HDc
  rw [hkl]
  go_wp2_with fail
  refine HDc.out.mono ?_
  rintro e W3 ⟨⟨hb3, hor⟩, -⟩
  rcases hor with ⟨V, rfl, -, hV⟩ | ⟨rfl, hno⟩
  case inr => exact absurd (hno (kd w.heap.size) (kd_wd _) (kd_ck _) (kd_denc _) (by rw [hkl]; omega)) (fun h => h)
  have hs2 : w.heap.size + 1 < W2.heap.size := HB2.out.lt
  have HV := hide hV
  obtain ⟨v0, hv0, -⟩ := hV W3 (Nat.le_refl _) (fun _ _ _ => rfl)
  have HF3 := hide (HF2.out.on hb3)
  have HB3 := hide (HB2.out.below hb3)
  have HM3 : Hid ((kd w.heap.size).Mem (w.heap.size + 1) W3) := HM2.out.on (hb3.mono (by omega))
  have HR3 : Hid (Row W3 xa kb) := (own_row HXo.out).below hb3
  have hs23 : W2.heap.size ≤ W3.heap.size := hb3.size
  clear hV hb3 HF2 HB2 HM2 HDc HXo k0 k1 k2 k3 k4 k5 k6
  cases v0 with
  | mk vk vbo vn vt vya vyc vy vla vlc vl vfa vfc vf =>
  simp only [T.val] at hv0
  subst hv0
  obtain ⟨k0, k1, k2, k3, k4, k5, k6⟩ := HB3.out.cells
  go_wp2_with fail
  have HF4 := hide ((HF3.out.alloc (.cells #[.int .u8 vk, .bool vbo, .int .i64 vn, .string vt, .slice vya vy.length vyc, .slice vla vl.list.length vlc, .slice vfa vf.list.length vfc] 27)).alloc (.cells #[.int .u8 2, .int .u8 2] 5))
  have HBl : Hid (Below W3.heap.size W3 ((W3.alloc (.cells #[.int .u8 vk, .bool vbo, .int .i64 vn, .string vt, .slice vya vy.length vyc, .slice vla vl.list.length vlc, .slice vfa vf.list.length vfc] 27)).alloc (.cells #[.int .u8 2, .int .u8 2] 5))) := (below_alloc W3 _).trans ((below_alloc _ _).mono (by simp))
  have HBw : Hid (Box7 ((W3.alloc (.cells #[.int .u8 vk, .bool vbo, .int .i64 vn, .string vt, .slice vya vy.length vyc, .slice vla vl.list.length vlc, .slice vfa vf.list.length vfc] 27)).alloc (.cells #[.int .u8 2, .int .u8 2] 5)) W3.heap.size (.int .u8 vk) (.bool vbo) (.int .i64 vn) (.string vt) (.slice vya vy.length vyc) (.slice vla vl.list.length vlc) (.slice vfa vf.list.length vfc)) := (Below.heap_alloc _ _ _ (by simp)).trans (heap_alloc_new W3 _)
  have HBn : Hid (((W3.alloc (.cells #[.int .u8 vk, .bool vbo, .int .i64 vn, .string vt, .slice vya vy.length vyc, .slice vla vl.list.length vlc, .slice vfa vf.list.length vfc] 27)).alloc (.cells #[.int .u8 2, .int .u8 2] 5)).heap[W3.heap.size + 1]? = some (.cells #[.int .u8 2, .int .u8 2] 5 (0, 0))) := by
    have := heap_alloc_new (W3.alloc (.cells #[.int .u8 vk, .bool vbo, .int .i64 vn, .string vt, .slice vya vy.length vyc, .slice vla vl.list.length vlc, .slice vfa vf.list.length vfc] 27)) (.cells #[.int .u8 2, .int .u8 2] 5)
    rw [Hid]
    simpa using this
  generalize (W3.alloc (.cells #[.int .u8 vk, .bool vbo, .int .i64 vn, .string vt, .slice vya vy.length vyc, .slice vla vl.list.length vlc, .slice vfa vf.list.length vfc] 27)).alloc (.cells #[.int .u8 2, .int .u8 2] 5) = W4 at HF4 HBl HBw HBn ⊢
  have hrow : Row W4 (some ⟨W3.heap.size + 1, 0, none⟩) [2, 2] := by
    refine .inr ⟨W3.heap.size + 1, 0, rfl, lt_of_block HBn.out, fun i hi => ?_⟩
    simp only [World.cell?]
    rw [HBn.out]
    match i, hi with
    | 0, _ => rfl
    | 1, _ => rfl
  refine (decode_gen 2 2 (some ⟨W3.heap.size + 1, 0, none⟩) [2, 2] W4 rfl hrow (by intro c hc; simp at hc; omega) (by omega)).mono ?_
  rintro e W5 ⟨⟨hb5, hor⟩, -⟩
  rcases hor with ⟨V, rfl, -, hV⟩ | ⟨rfl, -⟩
  case inl =>
    obtain ⟨x, -, -, h3, h4, -⟩ := hV W5 (Nat.le_refl _) (fun _ _ _ => rfl)
    exact absurd h4 (no22 x h3.1)
  have HF5 := hide (HF4.out.on hb5)
  have HB35 : Hid (Below W3.heap.size W3 W5) := HBl.out.trans (hb5.mono HBl.out.size)
  have HB5 := hide (HB3.out.below HB35.out)
  have HBw5 := hide (HBw.out.below hb5)
  have HM5 : Hid ((kd w.heap.size).Mem (w.heap.size + 1) W5) := HM3.out.on (HB35.out.mono (by omega))
  have HR5 : Hid (Row W5 xa kb) := HR3.out.below HB35.out
  clear hb5 HF4 HBl HBw HBn hrow HF3 HB3 HM3 HR3 k0 k1 k2 k3 k4 k5 k6
  have hb6 := below_alloc W5 (.cells #[.int .u8 0, .bool false, .int .i64 0, .string ⟨#[]⟩, .slice none 0 0, .slice none 0 0, .slice none 0 0] 27)
  have HF6 := hide (HF5.out.alloc (.cells #[.int .u8 0, .bool false, .int .i64 0, .string ⟨#[]⟩, .slice none 0 0, .slice none 0 0, .slice none 0 0] 27))
  have HB36 : Hid (Below W3.heap.size W3 (W5.alloc (.cells #[.int .u8 0, .bool false, .int .i64 0, .string ⟨#[]⟩, .slice none 0 0, .slice none 0 0, .slice none 0 0] 27))) := HB35.out.trans (hb6.mono HB35.out.size)
  have HB6 := hide (HB5.out.below hb6)
  have HBw6 := hide (HBw5.out.below hb6)
  have HM6 : Hid ((kd w.heap.size).Mem (w.heap.size + 1) (W5.alloc (.cells #[.int .u8 0, .bool false, .int .i64 0, .string ⟨#[]⟩, .slice none 0 0, .slice none 0 0, .slice none 0 0] 27))) := HM5.out.on (hb6.mono (by have := HB35.out.size; omega))
  have HR6 : Hid (Row (W5.alloc (.cells #[.int .u8 0, .bool false, .int .i64 0, .string ⟨#[]⟩, .slice none 0 0, .slice none 0 0, .slice none 0 0] 27)) xa kb) := HR5.out.below hb6
  clear hb6 HF5 HB35 HB5 HBw5 HM5 HR5
  obtain ⟨k0, k1, k2, k3, k4, k5, k6⟩ := HB6.out.cells
  obtain ⟨j0, j1, j2, j3, j4, j5, j6⟩ := HBw6.out.cells
  simp only [zeroT, T.val, TL.list, FL.list, List.length_nil]
  go_wp2_with fail
  generalize W5.alloc (.cells #[.int .u8 0, .bool false, .int .i64 0, .string ⟨#[]⟩, .slice none 0 0, .slice none 0 0, .slice none 0 0] 27) = W6 at HF6 HB36 HB6 HBw6 HM6 HR6 k0 k1 k2 k3 k4 k5 k6 j0 j1 j2 j3 j4 j5 j6 ⊢
  obtain ⟨x, hx1, hx2, hx3, hx4, -⟩ := HV.out W6 HB36.out.size (fun k _ h => HB36.out.block k h)
  have hsz6 : w.heap.size + 1 ≤ W6.heap.size := by have := HB36.out.size; omega
  have HS := hide (samev_all W6.heap.size (kd w.heap.size).sz (kd w.heap.size) x (Nat.le_refl _) W6 (T.Mem.wider hsz6 HM6.out) hx2 (Nat.le_refl _))
  rw [hx1, same_kd _ _ hx3 hx4] at HS
  simp only [kd, T.val, TL.list, FL.list, List.length_cons, List.length_nil, Nat.zero_add] at HS
  refine HS.out.mono ?_
  rintro e W7 ⟨rfl, hb7⟩
  have HF7 := hide (HF6.out.on hb7)
  have HB7 := hide (HB6.out.below hb7)
  have HM7 : Hid ((kd w.heap.size).Mem (w.heap.size + 1) W7) := HM6.out.on (hb7.mono (by omega))
  have HR7 : Hid (Row W7 xa kb) := HR6.out.below hb7
  have hsz7 : w.heap.size + 1 ≤ W7.heap.size := by have := hb7.size; omega
  clear hb7 HS hx1 hx2 hx3 hx4 HV HF6 HB36 HB6 HBw6 HM6 HR6 k0 k1 k2 k3 k4 k5 k6 j0 j1 j2 j3 j4 j5 j6
  have hb8 := below_alloc W7 (.cells #[.int .u8 8, .int .u8 2, .int .u8 1, .int .u8 97, .int .u8 4, .int .u8 2, .int .u8 1, .int .u8 98, .int .u8 5, .int .u8 1, .int .u8 120] 5)
  have HF8 := hide (HF7.out.alloc (.cells #[.int .u8 8, .int .u8 2, .int .u8 1, .int .u8 97, .int .u8 4, .int .u8 2, .int .u8 1, .int .u8 98, .int .u8 5, .int .u8 1, .int .u8 120] 5))
  have HN8 : Hid ((W7.alloc (.cells #[.int .u8 8, .int .u8 2, .int .u8 1, .int .u8 97, .int .u8 4, .int .u8 2, .int .u8 1, .int .u8 98, .int .u8 5, .int .u8 1, .int .u8 120] 5)).heap[W7.heap.size]? = some (.cells #[.int .u8 8, .int .u8 2, .int .u8 1, .int .u8 97, .int .u8 4, .int .u8 2, .int .u8 1, .int .u8 98, .int .u8 5, .int .u8 1, .int .u8 120] 5 (0, 0))) := heap_alloc_new W7 _
  have HB8 := hide (HB7.out.below hb8)
  have HM8 : Hid ((kd w.heap.size).Mem (w.heap.size + 1) (W7.alloc (.cells #[.int .u8 8, .int .u8 2, .int .u8 1, .int .u8 97, .int .u8 4, .int .u8 2, .int .u8 1, .int .u8 98, .int .u8 5, .int .u8 1, .int .u8 120] 5))) := HM7.out.on (hb8.mono (by omega))
  have HR8 : Hid (Row (W7.alloc (.cells #[.int .u8 8, .int .u8 2, .int .u8 1, .int .u8 97, .int .u8 4, .int .u8 2, .int .u8 1, .int .u8 98, .int .u8 5, .int .u8 1, .int .u8 120] 5)) xa kb) := HR7.out.below hb8
  have hsz8 : w.heap.size + 1 ≤ (W7.alloc (.cells #[.int .u8 8, .int .u8 2, .int .u8 1, .int .u8 97, .int .u8 4, .int .u8 2, .int .u8 1, .int .u8 98, .int .u8 5, .int .u8 1, .int .u8 120] 5)).heap.size := by have := hb8.size; omega
  clear hb8 HF7 HB7 HM7 HR7
  go_wp2_with fail
  generalize W7.alloc (.cells #[.int .u8 8, .int .u8 2, .int .u8 1, .int .u8 97, .int .u8 4, .int .u8 2, .int .u8 1, .int .u8 98, .int .u8 5, .int .u8 1, .int .u8 120] 5) = W8 at HF8 HN8 HB8 HM8 HR8 hsz8 ⊢
  have hrow : Row W8 (some ⟨W7.heap.size, 0, none⟩) kb := by
    refine .inr ⟨W7.heap.size, 0, rfl, lt_of_block HN8.out, fun i hi => ?_⟩
    simp only [World.cell?]
    rw [HN8.out]
    rw [hkl] at hi
    match i, hi with
    | 0, _ => rfl
    | 1, _ => rfl
    | 2, _ => rfl
    | 3, _ => rfl
    | 4, _ => rfl
    | 5, _ => rfl
    | 6, _ => rfl
    | 7, _ => rfl
    | 8, _ => rfl
    | 9, _ => rfl
    | 10, _ => rfl
  have hsame : sameB kb kb = true := by simp [sameB]
  have HSb := hide (sameb_any xa (some ⟨W7.heap.size, 0, none⟩) 11 11 xc 11 kb kb W8 rfl rfl (by omega) (by omega) HR8.out hrow)
  rw [hsame] at HSb
  refine HSb.out.mono ?_
  rintro e W9 ⟨rfl, hb9⟩
  have HF9 := hide (HF8.out.on hb9)
  have HB9 := hide (HB8.out.below hb9)
  have HM9 : Hid ((kd w.heap.size).Mem (w.heap.size + 1) W9) := HM8.out.on (hb9.mono hsz8)
  have hsz9 : w.heap.size + 1 ≤ W9.heap.size := by have := hb9.size; omega
  clear hb9 HSb hrow hsame HF8 HN8 HB8 HM8 HR8
  obtain ⟨k0, k1, k2, k3, k4, k5, k6⟩ := HB9.out.cells
  have HSz := hide (size_gen (w.heap.size + 1) (kd w.heap.size) W9 HM9.out hsz9 (kd_wt _) (kd_szd _) 11 (by rw [if_pos (kd_ck _), kd_denc]; rfl))
  simp only [kd, T.val, TL.list, FL.list, List.length_cons, List.length_nil, Nat.zero_add] at HSz
  go_wp2_with fail
  refine HSz.out.mono ?_
  rintro e W10 ⟨rfl, hb10⟩
  have HF10 := hide (HF9.out.on hb10)
  clear hb10 k0 k1 k2 k3 k4 k5 k6
  go_wp2
  go_ret
  exact ⟨by simp, HF10.out.below⟩
end Go.Proofs.Ytehapglbenaikaa
