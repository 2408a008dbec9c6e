/- The Go function DocParts answers true for any list of values that is handed in, and leaves it as it was: a list's bytes are its tag, how many there are, and the bytes of its values; its size is the sum of these. No condition. -/
import Derived.Test.YtehapglbenaikaaLN
import Derived.Test.YtehapglbenaikaaVW
namespace Go.Proofs.Ytehapglbenaikaa.Parts
open Go.ChangeShapes Go.WideShapes Go.ChangeAt Go.RowKit
set_option linter.unusedVariables false

mutual
theorem T.flat_shift : ∀ (v : T) (d : Int), v.flat (d + 1) = (v.flat d).map (fun z => (z.1 + 1, z.2))
  | .mk k bo n t ya yc y la lc l fa fc f, d => by
    simp only [T.flat, List.map_cons, List.map_append, TL.flat_shift l (d + 1), FL.flat_shift f (d + 1)]
theorem TL.flat_shift : ∀ (l : TL) (d : Int), l.flat (d + 1) = (l.flat d).map (fun z => (z.1 + 1, z.2))
  | .nil, d => rfl
  | .cons v r, d => by simp only [TL.flat, List.map_append, T.flat_shift v d, TL.flat_shift r d]
theorem FL.flat_shift : ∀ (l : FL) (d : Int), l.flat (d + 1) = (l.flat d).map (fun z => (z.1 + 1, z.2))
  | .nil, d => rfl
  | .cons s v r, d => by simp only [FL.flat, List.map_append, T.flat_shift v d, FL.flat_shift r d]
end
theorem kid_ck (v c : T) (h : ckE v = 0) (hc : c ∈ v.kids) : ckE c = 0 := by
  have hsub : ∀ z ∈ c.flat 1, (z.1 + 1, z.2) ∈ v.flat 1 := by
    intro z hz
    rw [T.flat_is]
    refine List.mem_cons_of_mem _ (List.mem_flatMap.2 ⟨c, hc, ?_⟩)
    rw [T.flat_shift c 1]
    exact List.mem_map.2 ⟨z, hz, rfl⟩
  have hlen : (c.flat 1).length ≤ (v.flat 1).length := by
    rw [T.flat_len, T.flat_len]
    have := T.kid_sz v c hc
    omega
  unfold ckE chk at h ⊢
  split at h
  · omega
  · rename_i h1
    split at h
    · omega
    · rename_i h2
      rw [if_neg, if_neg (by omega)]
      · refine firstE_all fitE _ (fun z hz => ?_)
        exact firstE_zero fitE _ h (z.1 + 1, z.2) (hsub z hz)
      · intro ha
        apply h1
        rw [List.any_eq_true] at ha ⊢
        obtain ⟨z, hz, hz8⟩ := ha
        refine ⟨_, hsub z hz, ?_⟩
        simp only [decide_eq_true_eq] at hz8 ⊢
        omega
def szE (c : T) : Nat := if ckE c = 0 then c.denc.length else 0
/-- the bytes of a list's first values, their sizes. -/
def pB (l : List T) : List Int := l.flatMap docB
def pS (l : List T) : Nat := (l.map szE).sum
theorem pB_snoc (l : List T) (c : T) : pB (l ++ [c]) = pB l ++ docB c := by simp [pB]
theorem pS_snoc (l : List T) (c : T) : pS (l ++ [c]) = pS l + szE c := by simp [pS]
theorem doc_ok {v : T} (h : docE v = 0) : ckE v = 0 ∧ v.denc.length ≤ 8192 ∧ docB v = v.denc := by
  have h0 := h
  unfold docE at h
  by_cases hc : ckE v = 0
  · rw [if_pos hc] at h
    by_cases hl : 8192 < v.denc.length
    · rw [if_pos hl] at h; omega
    · exact ⟨hc, by omega, by unfold docB; rw [if_pos h0]⟩
  · rw [if_neg hc] at h; exact absurd h hc
theorem ok_docE {v : T} (h : ckE v = 0) (hl : v.denc.length ≤ 8192) : docE v = 0 ∧ docB v = v.denc := by
  have : docE v = 0 := by unfold docE; rw [if_pos h, if_neg (by omega)]
  exact ⟨this, by unfold docB; rw [if_pos this]⟩
theorem doc_short (v : T) : (docB v).length ≤ 8192 := by
  unfold docB
  split
  · rename_i h; exact (doc_ok h).2.1
  · simp
/-- the list that was handed in, as a value. -/
def lv (la : Option Addr) (lc : Nat) (l : TL) : T := .mk 6 false 0 ⟨#[]⟩ none 0 [] la lc l none 0 .nil
theorem denc_mem (l : List T) (c : T) (hc : c ∈ l) : c.denc.length ≤ (l.flatMap T.denc).length := by
  induction l with
  | nil => simp at hc
  | cons x r ih =>
    simp only [List.flatMap_cons, List.length_append]
    rcases List.mem_cons.1 hc with rfl | hc
    · omega
    · have := ih hc; omega
theorem lv_denc (la : Option Addr) (lc : Nat) (l : TL) (h : l.list.length ≤ 120) : (lv la lc l).denc = 7 :: (l.list.length : Int) :: l.list.flatMap T.denc := by
  have e := vb_small l.list.length (by omega)
  simp [lv, T.denc, TL.denc_is, e]
theorem lv_kids (la : Option Addr) (lc : Nat) (l : TL) : ∀ c ∈ l.list, c ∈ (lv la lc l).kids := fun c hc => by
  simp only [lv, T.kids]
  exact List.mem_append_left _ hc
theorem lv_ok (la : Option Addr) (lc : Nat) (l : TL) (h : l.list.length ≤ 120) (he : docE (lv la lc l) = 0) : (∀ c ∈ l.list, docE c = 0) ∧ docB (lv la lc l) = 7 :: (l.list.length : Int) :: pB l.list ∧ (docB (lv la lc l)).length = 2 + pS l.list := by
  obtain ⟨h1, h2, h3⟩ := doc_ok he
  have hd := lv_denc la lc l h
  rw [hd] at h2
  simp only [List.length_cons] at h2
  have hk : ∀ c ∈ l.list, ckE c = 0 ∧ docE c = 0 ∧ docB c = c.denc := fun c hc => by
    have g1 := kid_ck _ c h1 (lv_kids la lc l c hc)
    have g2 := denc_mem l.list c hc
    have g3 := ok_docE g1 (by omega)
    exact ⟨g1, g3.1, g3.2⟩
  have e1 : pB l.list = l.list.flatMap T.denc := by
    unfold pB
    rw [List.flatMap_def, List.flatMap_def]
    congr 1
    exact List.map_congr_left (fun c hc => (hk c hc).2.2)
  have e2 : ∀ m : List T, (∀ c ∈ m, ckE c = 0) → pS m = (m.flatMap T.denc).length := by
    intro m
    induction m with
    | nil => intro _; rfl
    | cons x r ih =>
      intro hm
      have := ih (fun c hc => hm c (by simp [hc]))
      simp only [pS, List.map_cons, List.sum_cons, List.flatMap_cons, List.length_append] at this ⊢
      rw [this]
      simp [szE, hm x (by simp)]
  refine ⟨fun c hc => (hk c hc).2.1, by rw [h3, hd, e1], ?_⟩
  rw [h3, hd, e2 _ (fun c hc => (hk c hc).1)]
  simp only [List.length_cons]
  omega
theorem own_two (w : World) (x y : Int) : Own (w.alloc (.cells #[.int .u8 x, .int .u8 y] 5)) (.slice (some ⟨w.heap.size, 0, none⟩) 2 2) [x, y] :=
  ⟨rfl, .inr ⟨w.heap.size, 2, _, rfl, Nat.zero_le _, heap_alloc_new w _, Nat.le_refl _, by simp [maxLen], by simp, by simp⟩⟩
theorem own_src {w : World} {a : Option Addr} {n c : Nat} {zs : List Int} (h : Own w (.slice a n c) zs) (hn : n = zs.length) : Src Try.prog 1 23 (.slice a n c) n (zs.map (Value.int .u8)) w := by
  subst hn
  obtain ⟨a2, c2, e2, -, -, hbare, hrow, hblk⟩ := h.shape
  have e1 : a = a2 ∧ c = c2 := by simpa using e2
  obtain ⟨rfl, rfl⟩ := e1
  cases a with
  | none =>
    obtain ⟨h0, rfl⟩ := hbare rfl
    have : zs = [] := List.eq_nil_of_length_eq_zero h0
    subst this
    exact Src.ofNil w Try.underlying23 0
  | some ad => exact Src.ofSlice (size := 1) w Try.underlying23 ad zs.length c _ (by simp) (hrow.news ad rfl) (by intro u hu; obtain ⟨x, _, rfl⟩ := List.mem_map.1 hu; rfl)
theorem own_some {w : World} {v : Value} {zs : List Int} (h : Own w v zs) (h0 : 0 < zs.length) : ∃ g c, v = .slice (some ⟨g, 0, none⟩) zs.length c := by
  rcases h.2 with ⟨_, h1⟩ | ⟨g, cap, cur, h1, _⟩
  · omega
  · exact ⟨g, cap, h1⟩
theorem row_keep {W W' : World} {a : Option Addr} {zs : List Int} {g G : Nat} (h : Row W a zs) (hlt : zs = [] ∨ ∃ ad, a = some ad ∧ ad.block < G) (hg : W.grownBy W' (some g)) (hG : G ≤ g) : Row W' a zs := by
  rcases hlt with h0 | ⟨ad, rfl, hb⟩
  · exact .inl h0
  · exact h.other hg (fun x hx => by cases hx; omega)
theorem row_low {W : World} {a : Option Addr} {zs : List Int} (h : Row W a zs) : zs = [] ∨ ∃ ad, a = some ad ∧ ad.block < W.heap.size := by
  rcases h with h | ⟨b, o, rfl, h1, _⟩
  · exact .inl h
  · exact .inr ⟨_, rfl, h1⟩
theorem TL.seven {n₀ : Nat} {W : World} {b o : Nat} {l : TL} (h : l.Mem n₀ W (some ⟨b, o, none⟩) 0) {j : Nat} {k : Int} {bo : Bool} {n : Int} {t : ByteArray} {ya : Option Addr} {yc : Nat} {y : List Int} {la : Option Addr} {lc : Nat} {ls : TL} {fa : Option Addr} {fc : Nat} {fs : FL} (hc : l.list[j]? = some (.mk k bo n t ya yc y la lc ls fa fc fs)) :
    W.cell? ⟨b, o + j * 7, none⟩ = some (.int .u8 k) ∧ W.cell? ⟨b, o + j * 7 + 1, none⟩ = some (.bool bo) ∧ W.cell? ⟨b, o + j * 7 + 2, none⟩ = some (.int .i64 n) ∧ W.cell? ⟨b, o + j * 7 + 3, none⟩ = some (.string t) ∧ W.cell? ⟨b, o + j * 7 + 4, none⟩ = some (.slice ya y.length yc) ∧ W.cell? ⟨b, o + j * 7 + 5, none⟩ = some (.slice la ls.list.length lc) ∧ W.cell? ⟨b, o + j * 7 + 6, none⟩ = some (.slice fa fs.list.length fc) := by
  obtain ⟨b', o', e, _, h1⟩ := h.cells hc
  cases e
  exact h1
theorem pS_le (m : List T) (B : Nat) (h : ∀ c ∈ m, szE c ≤ B) : pS m ≤ m.length * B := by
  induction m with
  | nil => simp [pS]
  | cons x r ih =>
    have h1 := ih (fun c hc => h c (by simp [hc]))
    have h2 := h x (by simp)
    simp only [pS, List.map_cons, List.sum_cons, List.length_cons] at h1 ⊢
    rw [Nat.add_mul]
    omega
theorem pB_le (m : List T) : (pB m).length ≤ m.length * 8192 := by
  induction m with
  | nil => simp [pB]
  | cons x r ih =>
    have h2 := doc_short x
    simp only [pB, List.flatMap_cons, List.length_append, List.length_cons] at ih ⊢
    omega
set_option maxHeartbeats 6400000 in
set_option maxRecDepth 1000000 in
theorem walk (la : Option Addr) (lc : Nat) (l : TL) (w : World) (hm : l.Mem w.heap.size w la 0) (hnil : la = none → l.list = [] ∧ lc = 0) (hll : l.list.length ≤ 9223372036854775807) (hs : l.Szd) :
    Calls Try.prog 4 #[.slice la l.list.length lc] w fun e w' => e = .returned (.bool true) ∧ Below w.heap.size w w' := by
  have hvm : (lv la lc l).Mem w.heap.size w := ⟨.inl rfl, fun c hc => by simp at hc, fun _ => ⟨rfl, rfl⟩, by simp, hm, hnil, hll, trivial, fun _ => ⟨rfl, rfl⟩, by simp [FL.list]⟩
  have hvs : (lv la lc l).Szd := ⟨by omega, by omega, by simp [ByteArray.size], hs, trivial⟩
  have HX := hide (below_alloc w (.cells (lv la lc l).cells.toArray 27))
  have HB0 : Hid ((w.alloc (.cells (lv la lc l).cells.toArray 27)).heap[w.heap.size]? = some (.cells (lv la lc l).cells.toArray 27 (0, 0))) := heap_alloc_new w _
  have HF0 := hide ((Fr.refl w).alloc (.cells (lv la lc l).cells.toArray 27))
  have HMu := hide (fun W (h : Below w.heap.size w W) (hz : w.heap.size ≤ W.heap.size) => much_gen w.heap.size (lv la lc l) W (hvm.on h) hvs hz)
  have HEn := hide (fun (hwt : (lv la lc l).wt ≤ 100000) W (h : Below w.heap.size w W) (hz : w.heap.size ≤ W.heap.size) => encode_gen w.heap.size (lv la lc l) W (hvm.on h) hz hwt hvs)
  simp only [DocOut] at HEn
  have HSz := hide (fun (hwt : (lv la lc l).wt ≤ 100000) (he : docE (lv la lc l) = 0) W (h : Below w.heap.size w W) (hz : w.heap.size ≤ W.heap.size) => size_gen w.heap.size (lv la lc l) W (hvm.on h) hz hwt hvs (docB (lv la lc l)).length (by rw [if_pos (doc_ok he).1, (doc_ok he).2.2]))
  have HOk := hide (lv_ok la lc l)
  have HBad : Hid (docE (lv la lc l) ≠ 0 → docB (lv la lc l) = []) := fun h => by unfold docB; rw [if_neg h]
  have hxl := doc_short (lv la lc l)
  have HKw : Hid ((lv la lc l).wt ≤ 100000 → ∀ c ∈ l.list, c.wt ≤ 100000) := fun h c hc => by
    have := T.kid_wt _ c (lv_kids la lc l c hc)
    omega
  have HKs := hide (TL.Szd.at l hs)
  have HMl := hide hm
  have HSe : Hid ((lv la lc l).wt ≤ 100000 → ∀ c ∈ l.list, szE c ≤ 100000000) := fun h c hc => by
    have h1 := T.kid_wt _ c (lv_kids la lc l c hc)
    have h2 := denc_few c (by omega) (TL.Szd.at l hs c hc)
    unfold szE
    split <;> omega
  clear hvm hvs hs hm
  generalize docB (lv la lc l) = xs at *
  generalize docE (lv la lc l) = de at *
  generalize (lv la lc l).wt = vw at *
  simp only [lv, T.val, T.cells, FL.list, List.length_nil] at *
  go_enter Try.func4, Try.ntmps4
  go_wp2_with fail
  refine (HMu.out _ HX.out HF0.out.size).mono ?_
  rintro e W1 ⟨⟨β, rfl, hβ⟩, hb⟩
  have HF1 := hide (HF0.out.on hb)
  have HB1 : Hid (Box7 W1 w.heap.size (.int .u8 6) (.bool false) (.int .i64 0) (.string ⟨#[]⟩) (.slice none 0 0) (.slice la l.list.length lc) (.slice none 0 0)) := Box7.below HB0.out hb
  have Hβ := hide hβ
  clear hb hβ HX HB0 HF0
  by_cases hbig : β = true ∨ ¬ l.list.length ≤ 120
  · have HKn : Hid (∀ W, Calls Try.prog 8 #[] W fun e w' => e = .returned (.bool true) ∧ Below W.heap.size W w') := known_any
    rcases hbig with rfl | hbig
    · go_wp2_with fail
      refine (HKn.out _).mono ?_
      rintro e W2 ⟨rfl, hb2⟩
      have HF2 := hide (HF1.out.on hb2)
      clear hb2
      go_wp2
      go_ret
      exact ⟨rfl, HF2.out.below⟩
    · cases β with
      | true =>
        go_wp2_with fail
        refine (HKn.out _).mono ?_
        rintro e W2 ⟨rfl, hb2⟩
        have HF2 := hide (HF1.out.on hb2)
        clear hb2
        go_wp2
        go_ret
        exact ⟨rfl, HF2.out.below⟩
      | false =>
        have hd : decide ((120 : Int) < (l.list.length : Int)) = true := by simp; omega
        have hd' : (120 : Int) < (l.list.length : Int) := by omega
        clear hbig
        go_wp2_with fail
        refine (HKn.out _).mono ?_
        rintro e W2 ⟨rfl, hb2⟩
        have HF2 := hide (HF1.out.on hb2)
        clear hb2
        go_wp2
        go_ret
        exact ⟨rfl, HF2.out.below⟩
  · obtain rfl : β = false := by cases β <;> simp_all
    have hlen : l.list.length ≤ 120 := by simp_all
    have hwt := Hβ.out rfl
    have hd : decide ((120 : Int) < (l.list.length : Int)) = false := by simp; omega
    have hd' : ¬ ((120 : Int) < (l.list.length : Int)) := by omega
    clear hbig
    go_wp2_with fail
    refine (known_any W1).mono ?_
    rintro e W2 ⟨rfl, hb2⟩
    have HF2 := hide (HF1.out.on hb2)
    have HB2 := hide (HB1.out.below hb2)
    clear hb2 HF1 HB1
    obtain ⟨k0, k1, k2, k3, k4, k5, k6⟩ := HB2.out.cells
    go_wp2_with fail
    refine (HEn.out hwt _ HF2.out.below HF2.out.size).mono ?_
    rintro e W3 ⟨⟨⟨xa, xc, rfl, hxo⟩, hb3⟩, -⟩
    have HX3 := hide (own_row hxo)
    have HF3 := hide (HF2.out.on hb3)
    have HB3 := hide (HB2.out.below hb3)
    clear hxo hb3 HF2 HB2 k0 k1 k2 k3 k4 k5 k6
    have hu8 : IntKind.u8.wrap (l.list.length : Int) = (l.list.length : Int) := by simp only [IntKind.wrap, IntKind.bits, IntKind.signed]; simp; omega
    have HOw := hide (own_two W3 7 (l.list.length : Int))
    have HF4 := hide (HF3.out.alloc (.cells #[.int .u8 7, .int .u8 (l.list.length : Int)] 5))
    have HB4 := hide (HB3.out.below (below_alloc W3 (.cells #[.int .u8 7, .int .u8 (l.list.length : Int)] 5)))
    have HX4 : Hid (Row (W3.alloc (.cells #[.int .u8 7, .int .u8 (l.list.length : Int)] 5)) xa xs) := HX3.out.below (below_alloc W3 _)
    have HXl := hide (row_low HX3.out)
    have hG : w.heap.size < W3.heap.size := HB3.out.lt
    obtain ⟨i0, hi, hz0, hz1, hz2⟩ := info_parts Try.info5
    go_wp2
    generalize W3.alloc (.cells #[.int .u8 7, .int .u8 (l.list.length : Int)] 5) = W4 at HOw HF4 HB4 HX4 ⊢
    go_loopw [6, 7, 8] (fun x s i wr => ∃ (j g nw cw S : Nat), x = .slice (some ⟨g, 0, none⟩) nw cw ∧ s = .int .i64 (S : Int) ∧ i = .int .i64 (j : Int) ∧ j ≤ l.list.length ∧ Hid (S = 2 + pS (l.list.take j)) ∧ Own wr (.slice (some ⟨g, 0, none⟩) nw cw) (7 :: (l.list.length : Int) :: pB (l.list.take j)) ∧ Hid (nw = 2 + (pB (l.list.take j)).length) ∧ W3.heap.size ≤ g ∧ Fr w.heap.size w wr ∧ Box7 wr w.heap.size (.int .u8 6) (.bool false) (.int .i64 0) (.string ⟨#[]⟩) (.slice none 0 0) (.slice la l.list.length lc) (.slice none 0 0) ∧ Row wr xa xs) (fun x s i _ => l.list.length - (intOf i).toNat)
    case atStart => exact ⟨0, W3.heap.size, 2, 2, 2, rfl, rfl, rfl, by omega, by simp [Hid, pS], by simpa [pB] using HOw.out, by simp [Hid, pB], Nat.le_refl _, HF4.out, HB4.out, HX4.out⟩
    case round =>
      obtain ⟨j, g, nw, cw, S, rfl, rfl, rfl, hj, HS, hown, HN, hg, hfr, hbx, hxr⟩ := hrel
      have HO := hide hown
      have HFr := hide hfr
      have HBx := hide hbx
      have HXr := hide hxr
      clear hown hfr hbx hxr HOw HF4 HB4 HX4 HF3 HB3 HX3
      by_cases h1 : j < l.list.length
      · obtain ⟨c, hc⟩ : ∃ c, l.list[j]? = some c := ⟨_, List.getElem?_eq_getElem h1⟩
        have hcm := List.mem_of_getElem? hc
        have HMw := hide (HMl.out.on (HFr.out.below))
        have hcM := (TL.Mem.at l 0 HMl.out j c hc).2
        have HEc := hide (encode_gen w.heap.size c wr (hcM.on HFr.out.below) HFr.out.size (HKw.out hwt c hcm) (HKs.out c hcm))
        simp only [DocOut] at HEc
        have HSc := hide (fun W (h : Below w.heap.size w W) (hz : w.heap.size ≤ W.heap.size) => size_gen w.heap.size c W (hcM.on h) hz (HKw.out hwt c hcm) (HKs.out c hcm) (szE c) rfl)
        have HTk := hide (take_next l.list j c hc)
        have HPB : Hid (pB (l.list.take (j + 1)) = pB (l.list.take j) ++ docB c) := by rw [Hid, HTk.out, pB_snoc]
        have HPS : Hid (pS (l.list.take (j + 1)) = pS (l.list.take j) + szE c) := by rw [Hid, HTk.out, pS_snoc]
        have hpl := pB_le (l.list.take j)
        have hsl := pS_le (l.list.take j) 100000000 (fun x hx => HSe.out hwt x (List.mem_of_mem_take hx))
        have hse := HSe.out hwt c hcm
        have hbl := doc_short c
        have HDe : Hid (de = 0 → docE c = 0) := fun h => (HOk.out hlen h).1 c hcm
        have htl : (l.list.take j).length ≤ 120 := by rw [List.length_take]; omega
        have hnw : nw ≤ 1000000 := by have := HN.out; have := Nat.mul_le_mul_right 8192 htl; omega
        have hSb : S + szE c ≤ 100000000000 := by have := HS.out; have := Nat.mul_le_mul_right 100000000 htl; omega
        generalize docB c = cb at *
        generalize docE c = ce at *
        generalize szE c = cs at *
        generalize pB (l.list.take j) = pb at *
        generalize pS (l.list.take j) = ps at *
        clear hcM hcm
        cases c with
        | mk ck cbo cn ct cya cyc cy cla clc cl cfa cfc cf =>
        obtain ⟨b', o', rfl, hb', c0, c1, c2, c3, c4, c5, c6⟩ := HMw.out.cells hc
        have HJc := hide hc
        clear hc
        simp only [T.val] at HEc HSc
        go_wp2_with fail
        refine HEc.out.mono ?_
        rintro e V1 ⟨⟨⟨ca, cc, rfl, hco⟩, hb1⟩, -⟩
        have HCo := hide hco
        have HF1 := hide (HFr.out.on hb1)
        have HB1 := hide (HBx.out.below hb1)
        have HX1 : Hid (Row V1 xa xs) := HXr.out.below hb1
        have HO1 : Hid (Own V1 (.slice (some ⟨g, 0, none⟩) nw cw) (7 :: (l.list.length : Int) :: pb)) := owns_below HO.out hb1
        have hgl : g < wr.heap.size := HO.out.lt rfl
        have HSv := hide hb1.size
        clear hco hb1 HEc c0 c1 c2 c3 c4 c5 c6
        have hce : de = 0 → ce = 0 := HDe.out
        have HBd : Hid ((7 :: (l.list.length : Int) :: pb).length + cb.length ≤ 140737488355328) := by
          rw [Hid]
          simp only [List.length_cons]
          have := Nat.mul_le_mul_right 8192 htl
          omega
        by_cases hde : de = 0
        · have hce0 := hce hde
          have hd0 : ((de : Int) == 0) = true := by simp; omega
          have hc0 : ((ce : Int) != 0) = false := by simp; omega
          have hc1 : ((ce : Int) == 0) = true := by simp; omega
          clear hce hde hce0
          go_wp2_with (at_builtin; refine wpList_append_src (by rfl) (.tmp 54) (.tmp 55) 23 23 (by rfl) i0 Try.underlying23 hi hz0 hz1 hz2 (.slice (some ⟨g, 0, none⟩) nw cw) (7 :: (l.list.length : Int) :: pb) (by rfl) HO1.out (.slice ca cb.length cc) cb.length cb (by rfl) (own_src HCo.out rfl) HBd.out ?_; intro v' V2 hown2 hg2 hf2; obtain ⟨g2, cc2, rfl⟩ := own_some hown2 (by simp); have HO2 := hide hown2; have HG2 := hide hg2; have HF2' := hide hf2; clear hown2 hg2 hf2; generalize hn2 : (7 :: (l.list.length : Int) :: pb ++ cb).length = n2 at HO2 ⊢; have HN2 := hide hn2; clear hn2; have HF2 := hide (HF1.out.grown HG2.out (fun k e => by simp [Value.ownBlock] at e; omega)); have HMw2 := hide (HMl.out.on HF2.out.below); obtain ⟨d0, d1, d2, d3, d4, d5, d6⟩ := TL.seven HMw2.out HJc.out; have hlt2 : b' < V2.heap.size := Nat.lt_of_lt_of_le hb' HF2.out.size)
          have HB2 : Hid (Box7 V2 w.heap.size (.int .u8 6) (.bool false) (.int .i64 0) (.string ⟨#[]⟩) (.slice none 0 0) (.slice (some ⟨b', o', none⟩) l.list.length lc) (.slice none 0 0)) := (HG2.out.block _ HB1.out.lt (by intro e; simp [Value.ownBlock] at e; omega)).trans HB1.out
          have HX2 : Hid (Row V2 xa xs) := row_keep HX1.out HXl.out HG2.out hg
          have hg2' : W3.heap.size ≤ g2 := by
            rcases HF2'.out g2 rfl with h | h
            · have : g = g2 := by simpa [Value.ownBlock] using h
              omega
            · have h7 : wr.heap.size ≤ V1.heap.size := HSv.out; omega
          refine (HSc.out V2 HF2.out.below HF2.out.size).mono ?_
          rintro e V3 ⟨rfl, hb3⟩
          have HF3 := hide (HF2.out.on hb3)
          have HB3 := hide (HB2.out.below hb3)
          have HX3 : Hid (Row V3 xa xs) := HX2.out.below hb3
          have HO3 : Hid (Own V3 (.slice (some ⟨g2, 0, none⟩) n2 cc2) (7 :: (l.list.length : Int) :: pb ++ cb)) := by
            have := owns_below HO2.out hb3
            exact this
          clear hb3 d0 d1 d2 d3 d4 d5 d6
          have hws : IntKind.i64.wrap ((S : Int) + (cs : Int)) = ((S + cs : Nat) : Int) := by simp only [IntKind.wrap, IntKind.bits, IntKind.signed]; simp; omega
          go_wp2
          go_roundw
          case rel => exact ⟨j + 1, g2, n2, cc2, S + cs, rfl, by go_num, by go_num, by omega, by have := HS.out; have := HPS.out; rw [Hid]; omega, by rw [HPB.out]; exact HO3.out, by rw [Hid, HPB.out, ← HN2.out]; simp; omega, hg2', HF3.out, HB3.out, HX3.out⟩
          case measure => simp [intOf]; omega
        · have hd0 : ((de : Int) == 0) = false := by simp; omega
          clear hce hde
          go_wp2_with (at_builtin; refine wpList_append_src (by rfl) (.tmp 54) (.tmp 55) 23 23 (by rfl) i0 Try.underlying23 hi hz0 hz1 hz2 (.slice (some ⟨g, 0, none⟩) nw cw) (7 :: (l.list.length : Int) :: pb) (by rfl) HO1.out (.slice ca cb.length cc) cb.length cb (by rfl) (own_src HCo.out rfl) HBd.out ?_; intro v' V2 hown2 hg2 hf2; obtain ⟨g2, cc2, rfl⟩ := own_some hown2 (by simp); have HO2 := hide hown2; have HG2 := hide hg2; have HF2' := hide hf2; clear hown2 hg2 hf2; generalize hn2 : (7 :: (l.list.length : Int) :: pb ++ cb).length = n2 at HO2 ⊢; have HN2 := hide hn2; clear hn2; have HF2 := hide (HF1.out.grown HG2.out (fun k e => by simp [Value.ownBlock] at e; omega)); have HMw2 := hide (HMl.out.on HF2.out.below); obtain ⟨d0, d1, d2, d3, d4, d5, d6⟩ := TL.seven HMw2.out HJc.out; have hlt2 : b' < V2.heap.size := Nat.lt_of_lt_of_le hb' HF2.out.size)
          have HB2 : Hid (Box7 V2 w.heap.size (.int .u8 6) (.bool false) (.int .i64 0) (.string ⟨#[]⟩) (.slice none 0 0) (.slice (some ⟨b', o', none⟩) l.list.length lc) (.slice none 0 0)) := (HG2.out.block _ HB1.out.lt (by intro e; simp [Value.ownBlock] at e; omega)).trans HB1.out
          have HX2 : Hid (Row V2 xa xs) := row_keep HX1.out HXl.out HG2.out hg
          have hg2' : W3.heap.size ≤ g2 := by
            rcases HF2'.out g2 rfl with h | h
            · have : g = g2 := by simpa [Value.ownBlock] using h
              omega
            · have h7 : wr.heap.size ≤ V1.heap.size := HSv.out; omega
          refine (HSc.out V2 HF2.out.below HF2.out.size).mono ?_
          rintro e V3 ⟨rfl, hb3⟩
          have HF3 := hide (HF2.out.on hb3)
          have HB3 := hide (HB2.out.below hb3)
          have HX3 : Hid (Row V3 xa xs) := HX2.out.below hb3
          have HO3 : Hid (Own V3 (.slice (some ⟨g2, 0, none⟩) n2 cc2) (7 :: (l.list.length : Int) :: pb ++ cb)) := by
            have := owns_below HO2.out hb3
            exact this
          clear hb3 d0 d1 d2 d3 d4 d5 d6
          have hws : IntKind.i64.wrap ((S : Int) + (cs : Int)) = ((S + cs : Nat) : Int) := by simp only [IntKind.wrap, IntKind.bits, IntKind.signed]; simp; omega
          go_wp2
          go_roundw
          case rel => exact ⟨j + 1, g2, n2, cc2, S + cs, rfl, by go_num, by go_num, by omega, by have := HS.out; have := HPS.out; rw [Hid]; omega, by rw [HPB.out]; exact HO3.out, by rw [Hid, HPB.out, ← HN2.out]; simp; omega, hg2', HF3.out, HB3.out, HX3.out⟩
          case measure => simp [intOf]; omega
      · obtain rfl : j = l.list.length := by omega
        have htk : l.list.take l.list.length = l.list := List.take_length
        rw [htk] at HO HS HN
        clear htk h1
        by_cases hde : de = 0
        · subst hde
          obtain ⟨-, o2, o3⟩ := HOk.out hlen rfl
          have HXs := hide o2
          have hSx : S = xs.length := by have := HS.out; omega
          subst hSx
          have hnx : nw = xs.length := by rw [HXs.out]; simp only [List.length_cons]; have := HN.out; omega
          subst hnx
          have HOx : Hid (Own wr (.slice (some ⟨g, 0, none⟩) xs.length cw) xs) := by
            have h9 := HO.out
            rw [← HXs.out] at h9
            exact h9
          clear o2 o3 HO HS HN
          have HSb := hide (sameb_any xa (some ⟨g, 0, none⟩) xs.length xs.length xc cw xs xs wr rfl rfl (by omega) (by omega) HXr.out (own_row HOx.out))
          rw [show sameB xs xs = true by simp [sameB]] at HSb
          go_wp2_with fail
          refine HSb.out.mono ?_
          rintro e V1 ⟨rfl, hb1⟩
          have HF1 := hide (HFr.out.on hb1)
          have HB1 := hide (HBx.out.below hb1)
          clear hb1 HSb
          obtain ⟨k0, k1, k2, k3, k4, k5, k6⟩ := HB1.out.cells
          go_wp2_with fail
          refine (HSz.out hwt (by first | trivial | rfl) _ HF1.out.below HF1.out.size).mono ?_
          rintro e V2 ⟨rfl, hb2⟩
          have HF2 := hide (HF1.out.on hb2)
          clear hb2 k0 k1 k2 k3 k4 k5 k6
          go_wp2
          go_ret
          exact ⟨by simp, HF2.out.below⟩
        · have hx0 := HBad.out hde
          subst hx0
          have hd0 : ((de : Int) == 0) = false := by simp; omega
          have hd1 : ((de : Int) != 0) = true := by simp; omega
          clear hde
          go_wp2
          go_ret
          exact ⟨by simp, HFr.out.below⟩

set_option maxRecDepth 100000 in
theorem lifted (os : Os) (started : os.Started) (H : Type) (enc : TypeId × Value → H) :
    ReturnsInHanded {} Try.checked os 4 .any (Rows.docPartsSpec.pre6 enc Try.prog Try.f4 Rows.docPartsRow.domain false) (Rows.docPartsSpec.post enc Try.prog Try.f4 false true false false) := by
  refine returnsInHanded_of_change (C := Try.checked) own started (by kernel_rfl) Try.func4
    (ChangeSpec.witness6 (enc := enc) (C := Try.checked) false ⟨#[], #[.slice none 0 0], []⟩ 8 (by kernel_rfl) (by kernel_rfl) (by kernel_rfl) (by kernel_rfl)) ?_
  intro W base args ds gs before hval0 hW hcnd _
  have hval : ∀ (j : Nat) t v, Try.f4.params[j]? = some t → args[j]? = some v → Value.okWide Try.prog W .any base t v := hval0
  have hW' := hW
  obtain ⟨p, q, hA0, hV, rfl, hfz, hnd⟩ := hW
  have hA : DataW.TrodAll enc Try.prog W 0 (fun _ => true) true Try.f4.params.toList args.toList ds p := hA0
  rw [Try.params4] at hA hval
  obtain ⟨v0, vs0, d0, ds0, p0, q0, hargs, rfl, rfl, h0, r0⟩ := trodAll_cons hA
  obtain ⟨rfl, rfl, rfl⟩ := trodAll_nil r0
  obtain rfl : args = #[v0] := by cases args; simp_all
  obtain ⟨rfl, rfl⟩ := trodVars_none hV
  obtain ⟨a0, len0, cap0, rfl⟩ := okWide_slice Try.underlying24 (hval 0 24 v0 rfl rfl)
  have k0 := h0
  have lt0 : ∀ x ∈ p0, x.block < W.heap.size := by obtain ⟨m, hm⟩ := k0; exact DataW.trod_lt m _ _ _ hm
  obtain ⟨x0, y0, l, e0, m0, z0, n0, s0, c0⟩ : ∃ la lc, ∃ l : TL, Value.slice a0 len0 cap0 = .slice la l.list.length lc ∧ l.Mem W.heap.size W la 0 ∧ (la = none → l.list = [] ∧ lc = 0) ∧ l.list.length ≤ 9223372036854775807 ∧ l.Szd ∧ l.list.length ≤ lc := by
    obtain ⟨fuel, hf⟩ := h0
    exact read_vals fuel _ _ hf
  cases e0
  clear hA0 hval0
  refine (walk a0 cap0 l W m0 z0 n0 s0).mono fun e W' ⟨he, bel⟩ => ?_
  subst he
  exact ⟨_, rfl, _, _, _, [], _, [], hW', trodAll_mk1 (shut_bool Try.underlying4 _), (trodAll_cons_mk (Below.trod laidOut (by kernel_rfl) (of_decide_eq_true (by kernel_rfl)) k0 bel lt0) trodAll_mk0), rfl, bel.frame _, fun h => by cases h⟩

theorem over : Rows.docPartsRow.holds Try.pinned (OpenSpec.ofChange Rows.docPartsSpec) :=
  OpenClaim.holds_of_wide 4 Try.f4 rfl rfl rfl rfl rfl rfl rfl ⟨rfl, rfl, rfl, rfl, rfl⟩ rfl rfl rfl rfl rfl (by kernel_rfl) Try.func4 (by kernel_rfl)
    (of_decide_eq_true (by kernel_rfl)) (by unfold Func.isWrapper; first | (rw [if_pos (by decide +kernel)]; kernel_rfl) | (rw [if_neg (by decide +kernel)]; exact ⟨rfl, rfl⟩))
    (fun os started H enc _ => lifted os started H enc)

end Go.Proofs.Ytehapglbenaikaa.Parts
namespace Go.Proofs.Ytehapglbenaikaa
theorem docParts_holds : Rows.DocPartsSaid := Parts.over
#print axioms docParts_holds
end Go.Proofs.Ytehapglbenaikaa
