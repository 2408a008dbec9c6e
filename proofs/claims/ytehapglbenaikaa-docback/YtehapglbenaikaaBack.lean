/- The Go function DocBack answers true for any value and any bytes that are handed in, and leaves them as they were: a value that is written is read as it was, bytes that are read are those of the value. No condition. -/
import Derived.Test.YtehapglbenaikaaLN
namespace Go.Proofs.Ytehapglbenaikaa.Back
open Go.ChangeShapes Go.WideShapes Go.ChangeAt Go.RowKit
set_option linter.unusedVariables false

mutual
theorem T.denc_byts {n₀ : Nat} {W : World} : ∀ v : T, v.Mem n₀ W → Byts v.denc
  | .mk k bo n t ya yc y la lc l fa fc f, ⟨_, h2, _, _, h5, _, _, h8, _, _⟩ => by
    have h3 := TL.denc_byts l _ _ h5
    have h4 := FL.denc_byts f _ _ h8
    simp only [T.denc]
    intro c hc
    have hv := fun m => vb_byts m
    split at hc
    · simp at hc; omega
    split at hc
    · simp at hc; split at hc <;> omega
    split at hc
    · rcases List.mem_cons.1 hc with rfl | hc
      · omega
      · exact hv _ c hc
    split at hc
    · rcases List.mem_cons.1 hc with rfl | hc
      · omega
      · rcases List.mem_append.1 hc with hc | hc
        · exact hv _ c hc
        · exact sb_byts t c hc
    split at hc
    · rcases List.mem_cons.1 hc with rfl | hc
      · omega
      · rcases List.mem_append.1 hc with hc | hc
        · exact hv _ c hc
        · exact h2 c hc
    split at hc
    · rcases List.mem_cons.1 hc with rfl | hc
      · omega
      · rcases List.mem_append.1 hc with hc | hc
        · exact hv _ c hc
        · exact h3 c hc
    split at hc
    · rcases List.mem_cons.1 hc with rfl | hc
      · omega
      · rcases List.mem_append.1 hc with hc | hc
        · exact hv _ c hc
        · exact h4 c hc
    · simp at hc
theorem TL.denc_byts {n₀ : Nat} {W : World} : ∀ (l : TL) (a : Option Addr) (i : Nat), l.Mem n₀ W a i → Byts l.denc
  | .nil, _, _, _ => fun c hc => by simp [TL.denc] at hc
  | .cons v r, a, i, ⟨_, h2, h3⟩ => by
    have h4 := T.denc_byts v h2
    have h5 := TL.denc_byts r _ _ h3
    simp only [TL.denc]
    exact Byts.append h4 h5
theorem FL.denc_byts {n₀ : Nat} {W : World} : ∀ (l : FL) (a : Option Addr) (i : Nat), l.Mem n₀ W a i → Byts l.denc
  | .nil, _, _, _ => fun c hc => by simp [FL.denc] at hc
  | .cons s v r, a, i, ⟨_, h2, h3⟩ => by
    have h4 := T.denc_byts v h2
    have h5 := FL.denc_byts r _ _ h3
    simp only [FL.denc]
    exact Byts.append (vb_byts _) (Byts.append (sb_byts s) (Byts.append h4 h5))
end
theorem doc_ok {v : T} (h : docE v = 0) : ckE v = 0 ∧ v.denc.length ≤ 8192 ∧ docB v = v.denc := by
  have h0 := h
  unfold docE at h
  by_cases hc : ckE v = 0
  · rw [if_pos hc] at h
    by_cases hl : 8192 < v.denc.length
    · rw [if_pos hl] at h; omega
    · exact ⟨hc, by omega, by unfold docB; rw [if_pos h0]⟩
  · rw [if_neg hc] at h; exact absurd h hc
theorem doc_short (v : T) : (docB v).length ≤ 8192 := by
  unfold docB
  split
  · rename_i h; exact (doc_ok h).2.1
  · simp
theorem doc_byts {n₀ : Nat} {W : World} (v : T) (h : v.Mem n₀ W) : Byts (docB v) := by
  unfold docB
  split
  · exact T.denc_byts v h
  · exact fun c hc => by simp at hc
theorem doc_same {v x : T} (h : docE v = 0) (hw : v.wt ≤ 100000) (hs : v.Szd) (hx : x.Ok) (hd : x.denc = docB v) : v.same x = true := by
  obtain ⟨h1, h2, h3⟩ := doc_ok h
  have hw' := T.wt_denc x hx
  have hz := T.sz_wt x
  rw [hd, h3] at hw'
  exact T.same_er _ _ (T.denc_inj v x [] [] (ck_wd v h1 hw hs) hx.1 (ck_cl v h1) hx.2 (by have := ck_sz v h1; omega) (by omega) (by rw [hd, h3])).1
theorem doc_noc {v : T} (h : docE v = 0) (hw : v.wt ≤ 100000) (hs : v.Szd) (hn : NoC (docB v)) : False := by
  obtain ⟨h1, h2, h3⟩ := doc_ok h
  exact hn v (ck_wd v h1 hw hs) h1 h3.symm (by rw [h3]; exact h2)
theorem ok_docE {v : T} (h : ckE v = 0) (hl : v.denc.length ≤ 8192) : docE v = 0 ∧ docB v = v.denc := by
  have : docE v = 0 := by unfold docE; rw [if_pos h, if_neg (by omega)]
  exact ⟨this, by unfold docB; rw [if_pos this]⟩
set_option maxHeartbeats 6400000 in
set_option maxRecDepth 1000000 in
theorem walk (v : T) (a : Option Addr) (n c : Nat) (bs : List Int) (w : World) (hm : v.Mem w.heap.size w) (hs : v.Szd) (hr : Row w a bs) (hby : Byts bs) (hl : bs.length = n) (hn : n ≤ 9223372036854775807) :
    Calls Try.prog 3 #[v.val, .slice a n c] w fun e w' => e = .returned (.bool true) ∧ Below w.heap.size w w' := by
  have HX := hide (below_alloc w (.cells v.cells.toArray 27))
  have HB0 : Hid ((w.alloc (.cells v.cells.toArray 27)).heap[w.heap.size]? = some (.cells v.cells.toArray 27 (0, 0))) := heap_alloc_new w _
  have HF0 := hide ((Fr.refl w).alloc (.cells v.cells.toArray 27))
  have HMu := hide (fun W (h : Below w.heap.size w W) (hz : w.heap.size ≤ W.heap.size) => much_gen w.heap.size v W (hm.on h) hs hz)
  have HEn := hide (fun (hwt : v.wt ≤ 100000) W (h : Below w.heap.size w W) (hz : w.heap.size ≤ W.heap.size) => encode_gen w.heap.size v W (hm.on h) hz hwt hs)
  simp only [DocOut] at HEn
  have HSz := hide (fun (hwt : v.wt ≤ 100000) (he : docE v = 0) W (h : Below w.heap.size w W) (hz : w.heap.size ≤ W.heap.size) => size_gen w.heap.size v W (hm.on h) hz hwt hs (docB v).length (by rw [if_pos (doc_ok he).1, (doc_ok he).2.2]))
  have HSm := hide (fun (hwt : v.wt ≤ 100000) (he : docE v = 0) (x : T) (V : Value) (hxV : x.val = V) (hx : x.Ok) (hd : x.denc = docB v) W (h : Below w.heap.size w W) (hz : w.heap.size ≤ W.heap.size) (hx : x.Mem W.heap.size W) => hxV ▸ (doc_same he hwt hs ‹x.Ok› hd) ▸ samev_all W.heap.size v.sz v x (Nat.le_refl _) W (T.Mem.wider hz (hm.on h)) hx (Nat.le_refl _))
  have HNo := hide (fun (hwt : v.wt ≤ 100000) (he : docE v = 0) (h : NoC (docB v)) => doc_noc he hwt hs h)
  have HXb := hide (doc_byts v hm)
  have hxl := doc_short v
  have HRw := hide hr
  have HBy := hide hby
  have HL := hide hl
  clear hm hs hr hby hl
  generalize docB v = xs at *
  generalize docE v = de at *
  generalize v.wt = vw at *
  generalize v.sz = vz at *
  cases v with
  | mk k bo nn t ya yc y la lc l fa fc f =>
  simp only [T.val, T.cells] at *
  go_enter Try.func3, Try.ntmps3
  go_wp2_with fail
  refine (HMu.out _ HX.out HF0.out.size).mono ?_
  rintro e W1 ⟨⟨β, rfl, hβ⟩, hb⟩
  have HF1 := hide (HF0.out.on hb)
  have HB1 : Hid (Box7 W1 w.heap.size (.int .u8 k) (.bool bo) (.int .i64 nn) (.string t) (.slice ya y.length yc) (.slice la l.list.length lc) (.slice fa f.list.length fc)) := Box7.below HB0.out hb
  have Hβ := hide hβ
  obtain ⟨k0, k1, k2, k3, k4, k5, k6⟩ := HB1.out.cells
  clear hb hβ
  cases β with
  | true =>
    go_wp2
    go_ret
    exact ⟨rfl, HF1.out.below⟩
  | false =>
    have hwt := Hβ.out rfl
    by_cases hn1 : n ≤ 100000
    · have hd : decide ((100000 : Int) < (n : Int)) = false := by simp; omega
      have hd' : ¬ ((100000 : Int) < (n : Int)) := by omega
      go_wp2_with fail
      refine (HEn.out hwt _ HF1.out.below HF1.out.size).mono ?_
      rintro e W2 ⟨⟨⟨xa, xc, rfl, hxo⟩, hb2⟩, -⟩
      have HXo := hide (own_row hxo)
      have HF2 := hide (HF1.out.on hb2)
      have HB2 := hide (HB1.out.below hb2)
      have HR2 : Hid (Row W2 a bs) := HRw.out.below HF2.out.below
      clear hxo hb2 HB1 HF1 k0 k1 k2 k3 k4 k5 k6
      have HDc := hide (decode_gen n c a bs W2 HL.out HR2.out HBy.out (by omega))
      go_wp2_with fail
      refine HDc.out.mono ?_
      rintro e W3 ⟨⟨hb3, hor⟩, -⟩
      have HF3 := hide (HF2.out.on hb3)
      have HB3 := hide (HB2.out.below hb3)
      have HX3 : Hid (Row W3 xa xs) := HXo.out.below hb3
      have HR3 : Hid (Row W3 a bs) := HR2.out.below hb3
      have hs23 : W2.heap.size ≤ W3.heap.size := hb3.size
      clear hb3 HF2 HB2 HXo HR2 HDc
      rcases hor with ⟨V, rfl, h8, hV⟩ | ⟨rfl, hno⟩
      · have HV := hide hV
        obtain ⟨u0, hu0, -⟩ := hV W3 (Nat.le_refl _) (fun _ _ _ => rfl)
        clear hV
        cases u0 with
        | mk uk ubo un ut uya uyc uy ula ulc ul ufa ufc uf =>
        simp only [T.val] at hu0
        subst hu0
        have hb4 := below_alloc W3 (.cells #[.int .u8 uk, .bool ubo, .int .i64 un, .string ut, .slice uya uy.length uyc, .slice ula ul.list.length ulc, .slice ufa uf.list.length ufc] 27)
        have HBu4 : Hid (Box7 (W3.alloc (.cells #[.int .u8 uk, .bool ubo, .int .i64 un, .string ut, .slice uya uy.length uyc, .slice ula ul.list.length ulc, .slice ufa uf.list.length ufc] 27)) W3.heap.size (.int .u8 uk) (.bool ubo) (.int .i64 un) (.string ut) (.slice uya uy.length uyc) (.slice ula ul.list.length ulc) (.slice ufa uf.list.length ufc)) := heap_alloc_new W3 _
        have HF4 := hide (HF3.out.alloc (.cells #[.int .u8 uk, .bool ubo, .int .i64 un, .string ut, .slice uya uy.length uyc, .slice ula ul.list.length ulc, .slice ufa uf.list.length ufc] 27))
        have HBv4 := hide (HB3.out.below hb4)
        have HX4 : Hid (Row (W3.alloc (.cells #[.int .u8 uk, .bool ubo, .int .i64 un, .string ut, .slice uya uy.length uyc, .slice ula ul.list.length ulc, .slice ufa uf.list.length ufc] 27)) xa xs) := HX3.out.below hb4
        have HR4 : Hid (Row (W3.alloc (.cells #[.int .u8 uk, .bool ubo, .int .i64 un, .string ut, .slice uya uy.length uyc, .slice ula ul.list.length ulc, .slice ufa uf.list.length ufc] 27)) a bs) := HR3.out.below hb4
        have HB34 : Hid (Below W3.heap.size W3 (W3.alloc (.cells #[.int .u8 uk, .bool ubo, .int .i64 un, .string ut, .slice uya uy.length uyc, .slice ula ul.list.length ulc, .slice ufa uf.list.length ufc] 27))) := hb4
        clear hb4 HF3 HB3 HX3 HR3
        go_wp2_with fail
        generalize W3.alloc (.cells #[.int .u8 uk, .bool ubo, .int .i64 un, .string ut, .slice uya uy.length uyc, .slice ula ul.list.length ulc, .slice ufa uf.list.length ufc] 27) = W4 at HBu4 HF4 HBv4 HX4 HR4 HB34 ⊢
        refine (known_any W4).mono ?_
        rintro e W5 ⟨rfl, hb5⟩
        have HF5 := hide (HF4.out.on hb5)
        have HBv5 := hide (HBv4.out.below hb5)
        have HBu5 := hide (HBu4.out.below hb5)
        have HX5 : Hid (Row W5 xa xs) := HX4.out.below hb5
        have HR5 : Hid (Row W5 a bs) := HR4.out.below hb5
        have HB35 : Hid (Below W3.heap.size W3 W5) := HB34.out.trans (hb5.mono HB34.out.size)
        clear hb5 HF4 HBv4 HBu4 HX4 HR4 HB34
        by_cases hde : de = 0
        · subst hde
          have HD2 := hide (decode_gen xs.length xc xa xs W5 rfl HX5.out HXb.out (by omega))
          go_wp2_with fail
          refine HD2.out.mono ?_
          rintro e W6 ⟨⟨hb6, hor2⟩, -⟩
          rcases hor2 with ⟨V2, rfl, -, hV2⟩ | ⟨rfl, hno2⟩
          case inr => exact absurd (HNo.out hwt (by first | trivial | rfl) hno2) (fun h => h)
          have HV2 := hide hV2
          obtain ⟨g0, hg0, -⟩ := hV2 W6 (Nat.le_refl _) (fun _ _ _ => rfl)
          clear hV2
          cases g0 with
          | mk gk gbo gn gt gya gyc gy gla glc gl gfa gfc gf =>
          simp only [T.val] at hg0
          subst hg0
          have HF6 := hide (HF5.out.on hb6)
          have HBv6 := hide (HBv5.out.below hb6)
          have HBu6 := hide (HBu5.out.below hb6)
          have HX6 : Hid (Row W6 xa xs) := HX5.out.below hb6
          have HR6 : Hid (Row W6 a bs) := HR5.out.below hb6
          have HB36 : Hid (Below W3.heap.size W3 W6) := HB35.out.trans (hb6.mono HB35.out.size)
          clear hb6 HD2 HF5 HBv5 HBu5 HX5 HR5 HB35
          have hb7 := below_alloc W6 (.cells #[.int .u8 gk, .bool gbo, .int .i64 gn, .string gt, .slice gya gy.length gyc, .slice gla gl.list.length glc, .slice gfa gf.list.length gfc] 27)
          have HBg7 : Hid (Box7 (W6.alloc (.cells #[.int .u8 gk, .bool gbo, .int .i64 gn, .string gt, .slice gya gy.length gyc, .slice gla gl.list.length glc, .slice gfa gf.list.length gfc] 27)) W6.heap.size (.int .u8 gk) (.bool gbo) (.int .i64 gn) (.string gt) (.slice gya gy.length gyc) (.slice gla gl.list.length glc) (.slice gfa gf.list.length gfc)) := heap_alloc_new W6 _
          have HF7 := hide (HF6.out.alloc (.cells #[.int .u8 gk, .bool gbo, .int .i64 gn, .string gt, .slice gya gy.length gyc, .slice gla gl.list.length glc, .slice gfa gf.list.length gfc] 27))
          have HBv7 := hide (HBv6.out.below hb7)
          have HBu7 := hide (HBu6.out.below hb7)
          have HX7 : Hid (Row (W6.alloc (.cells #[.int .u8 gk, .bool gbo, .int .i64 gn, .string gt, .slice gya gy.length gyc, .slice gla gl.list.length glc, .slice gfa gf.list.length gfc] 27)) xa xs) := HX6.out.below hb7
          have HR7 : Hid (Row (W6.alloc (.cells #[.int .u8 gk, .bool gbo, .int .i64 gn, .string gt, .slice gya gy.length gyc, .slice gla gl.list.length glc, .slice gfa gf.list.length gfc] 27)) a bs) := HR6.out.below hb7
          have HB37 : Hid (Below W3.heap.size W3 (W6.alloc (.cells #[.int .u8 gk, .bool gbo, .int .i64 gn, .string gt, .slice gya gy.length gyc, .slice gla gl.list.length glc, .slice gfa gf.list.length gfc] 27))) := HB36.out.trans (hb7.mono HB36.out.size)
          have HB67 : Hid (Below W6.heap.size W6 (W6.alloc (.cells #[.int .u8 gk, .bool gbo, .int .i64 gn, .string gt, .slice gya gy.length gyc, .slice gla gl.list.length glc, .slice gfa gf.list.length gfc] 27))) := hb7
          clear hb7 HF6 HBv6 HBu6 HX6 HR6 HB36
          obtain ⟨k0, k1, k2, k3, k4, k5, k6⟩ := HBv7.out.cells
          obtain ⟨j0, j1, j2, j3, j4, j5, j6⟩ := HBg7.out.cells
          go_wp2_with fail
          generalize W6.alloc (.cells #[.int .u8 gk, .bool gbo, .int .i64 gn, .string gt, .slice gya gy.length gyc, .slice gla gl.list.length glc, .slice gfa gf.list.length gfc] 27) = W7 at HBg7 HF7 HBv7 HBu7 HX7 HR7 HB37 HB67 k0 k1 k2 k3 k4 k5 k6 j0 j1 j2 j3 j4 j5 j6 ⊢
          obtain ⟨x, hx1, hx2, hx3, hx4, -⟩ := HV2.out W7 HB67.out.size (fun q _ h => HB67.out.block q h)
          have HS := hide (HSm.out hwt (by first | trivial | rfl) x _ hx1 hx3 hx4 W7 HF7.out.below HF7.out.size hx2)
          refine HS.out.mono ?_
          rintro e W8 ⟨rfl, hb8⟩
          have HF8 := hide (HF7.out.on hb8)
          have HBv8 := hide (HBv7.out.below hb8)
          have HBu8 := hide (HBu7.out.below hb8)
          have HX8 : Hid (Row W8 xa xs) := HX7.out.below hb8
          have HR8 : Hid (Row W8 a bs) := HR7.out.below hb8
          have HB38 : Hid (Below W3.heap.size W3 W8) := HB37.out.trans (hb8.mono HB37.out.size)
          clear hb8 HS hx1 hx2 hx3 hx4 HV2 HBg7 HB67 HF7 HBv7 HBu7 HX7 HR7 HB37 k0 k1 k2 k3 k4 k5 k6 j0 j1 j2 j3 j4 j5 j6
          obtain ⟨k0, k1, k2, k3, k4, k5, k6⟩ := HBv8.out.cells
          have HSz8 := hide (HSz.out hwt (by first | trivial | rfl) W8 HF8.out.below HF8.out.size)
          go_wp2_with fail
          refine HSz8.out.mono ?_
          rintro e W9 ⟨rfl, hb9⟩
          have HF9 := hide (HF8.out.on hb9)
          have HBv9 := hide (HBv8.out.below hb9)
          have HBu9 := hide (HBu8.out.below hb9)
          have HX9 : Hid (Row W9 xa xs) := HX8.out.below hb9
          have HR9 : Hid (Row W9 a bs) := HR8.out.below hb9
          have HB39 : Hid (Below W3.heap.size W3 W9) := HB38.out.trans (hb9.mono HB38.out.size)
          clear hb9 HSz8 HF8 HBv8 HBu8 HX8 HR8 HB38 k0 k1 k2 k3 k4 k5 k6
          obtain ⟨x, hx1, hx2, hx3, hx4, hx5⟩ := HV.out W9 HB39.out.size (fun q _ h => HB39.out.block q h)
          obtain ⟨k0, k1, k2, k3, k4, k5, k6⟩ := HBu9.out.cells
          have hwx := T.wt_denc x hx3
          rw [hx4] at hwx
          have hwx' : x.wt ≤ 100000 := by omega
          obtain ⟨o1, o2⟩ := ok_docE hx5 (by rw [hx4]; exact h8)
          have HE := hide (encode_gen W9.heap.size x W9 hx2 (Nat.le_refl _) hwx' (T.szd_of x hx3.1))
          simp only [DocOut] at HE
          rw [o1, o2, hx4, hx1] at HE
          have HCk := hide (fun W (h : Below W9.heap.size W9 W) => check_all W9.heap.size x W (hx2.on h) h.size (tame_of x hwx'))
          rw [hx5, hx1] at HCk
          clear hx1 hx2 hx3 hx4 hx5 o1 o2 hwx hwx'
          go_wp2_with fail
          refine HE.out.mono ?_
          rintro e W10 ⟨⟨⟨ya9, yc9, rfl, hyo⟩, hb10⟩, -⟩
          have HY := hide (own_row hyo)
          have HF10 := hide (HF9.out.on hb10)
          have HBv10 := hide (HBv9.out.below hb10)
          have HBu10 := hide (HBu9.out.below hb10)
          have HX10 : Hid (Row W10 xa xs) := HX9.out.below hb10
          have HR10 : Hid (Row W10 a bs) := HR9.out.below hb10
          have HB310 : Hid (Below W3.heap.size W3 W10) := HB39.out.trans (hb10.mono HB39.out.size)
          have HB10 := hide hb10
          clear hyo hb10 HE HF9 HBv9 HBu9 HX9 HR9 HB39 k0 k1 k2 k3 k4 k5 k6
          have hsame : sameB bs bs = true := by simp [sameB]
          have hlen := HL.out
          have HSb := hide (sameb_any ya9 a n n yc9 c bs bs W10 HL.out HL.out (by omega) (by omega) HY.out HR10.out)
          rw [hsame] at HSb
          rw [hlen]
          go_wp2_with fail
          refine HSb.out.mono ?_
          rintro e W11 ⟨rfl, hb11⟩
          have HF11 := hide (HF10.out.on hb11)
          have HBu11 := hide (HBu10.out.below hb11)
          have HB11 : Hid (Below W9.heap.size W9 W11) := HB10.out.trans (hb11.mono HB10.out.size)
          clear hb11 HSb
          obtain ⟨k0, k1, k2, k3, k4, k5, k6⟩ := HBu11.out.cells
          go_wp2_with fail
          refine (HCk.out _ HB11.out).mono ?_
          rintro e W12 ⟨rfl, hb12⟩
          have HF12 := hide (HF11.out.on hb12)
          clear hb12 k0 k1 k2 k3 k4 k5 k6
          go_wp2
          go_ret
          exact ⟨by simp, HF12.out.below⟩
        · have hd0 : ((de : Int) == 0) = false := by simp; omega
          have hd0' : ((de : Int) != 0) = true := by simp; omega
          clear hde
          obtain ⟨x, hx1, hx2, hx3, hx4, hx5⟩ := HV.out W5 HB35.out.size (fun q _ h => HB35.out.block q h)
          obtain ⟨k0, k1, k2, k3, k4, k5, k6⟩ := HBu5.out.cells
          have hwx := T.wt_denc x hx3
          rw [hx4] at hwx
          have hwx' : x.wt ≤ 100000 := by omega
          obtain ⟨o1, o2⟩ := ok_docE hx5 (by rw [hx4]; exact h8)
          have HE := hide (encode_gen W5.heap.size x W5 hx2 (Nat.le_refl _) hwx' (T.szd_of x hx3.1))
          simp only [DocOut] at HE
          rw [o1, o2, hx4, hx1] at HE
          have HCk := hide (fun W (h : Below W5.heap.size W5 W) => check_all W5.heap.size x W (hx2.on h) h.size (tame_of x hwx'))
          rw [hx5, hx1] at HCk
          clear hx1 hx2 hx3 hx4 hx5 o1 o2 hwx hwx'
          go_wp2_with fail
          refine HE.out.mono ?_
          rintro e W10 ⟨⟨⟨ya9, yc9, rfl, hyo⟩, hb10⟩, -⟩
          have HY := hide (own_row hyo)
          have HF10 := hide (HF5.out.on hb10)
          have HBv10 := hide (HBv5.out.below hb10)
          have HBu10 := hide (HBu5.out.below hb10)
          have HX10 : Hid (Row W10 xa xs) := HX5.out.below hb10
          have HR10 : Hid (Row W10 a bs) := HR5.out.below hb10
          have HB310 : Hid (Below W3.heap.size W3 W10) := HB35.out.trans (hb10.mono HB35.out.size)
          have HB10 := hide hb10
          clear hyo hb10 HE HF5 HBv5 HBu5 HX5 HR5 HB35 k0 k1 k2 k3 k4 k5 k6
          have hsame : sameB bs bs = true := by simp [sameB]
          have hlen := HL.out
          have HSb := hide (sameb_any ya9 a n n yc9 c bs bs W10 HL.out HL.out (by omega) (by omega) HY.out HR10.out)
          rw [hsame] at HSb
          rw [hlen]
          go_wp2_with fail
          refine HSb.out.mono ?_
          rintro e W11 ⟨rfl, hb11⟩
          have HF11 := hide (HF10.out.on hb11)
          have HBu11 := hide (HBu10.out.below hb11)
          have HB11 : Hid (Below W5.heap.size W5 W11) := HB10.out.trans (hb11.mono HB10.out.size)
          clear hb11 HSb
          obtain ⟨k0, k1, k2, k3, k4, k5, k6⟩ := HBu11.out.cells
          go_wp2_with fail
          refine (HCk.out _ HB11.out).mono ?_
          rintro e W12 ⟨rfl, hb12⟩
          have HF12 := hide (HF11.out.on hb12)
          clear hb12 k0 k1 k2 k3 k4 k5 k6
          go_wp2
          go_ret
          exact ⟨by simp, HF12.out.below⟩
      · have HNb := hide hno
        clear hno
        simp only [zeroT, T.val, TL.list, FL.list, List.length_nil]
        have hb4 := below_alloc W3 (.cells #[.int .u8 0, .bool false, .int .i64 0, .string ⟨#[]⟩, .slice none 0 0, .slice none 0 0, .slice none 0 0] 27)
        have HBu4 : Hid (Box7 (W3.alloc (.cells #[.int .u8 0, .bool false, .int .i64 0, .string ⟨#[]⟩, .slice none 0 0, .slice none 0 0, .slice none 0 0] 27)) W3.heap.size (.int .u8 0) (.bool false) (.int .i64 0) (.string ⟨#[]⟩) (.slice none 0 0) (.slice none 0 0) (.slice none 0 0)) := heap_alloc_new W3 _
        have HF4 := hide (HF3.out.alloc (.cells #[.int .u8 0, .bool false, .int .i64 0, .string ⟨#[]⟩, .slice none 0 0, .slice none 0 0, .slice none 0 0] 27))
        have HBv4 := hide (HB3.out.below hb4)
        have HX4 : Hid (Row (W3.alloc (.cells #[.int .u8 0, .bool false, .int .i64 0, .string ⟨#[]⟩, .slice none 0 0, .slice none 0 0, .slice none 0 0] 27)) xa xs) := HX3.out.below hb4
        have HR4 : Hid (Row (W3.alloc (.cells #[.int .u8 0, .bool false, .int .i64 0, .string ⟨#[]⟩, .slice none 0 0, .slice none 0 0, .slice none 0 0] 27)) a bs) := HR3.out.below hb4
        have HB34 : Hid (Below W3.heap.size W3 (W3.alloc (.cells #[.int .u8 0, .bool false, .int .i64 0, .string ⟨#[]⟩, .slice none 0 0, .slice none 0 0, .slice none 0 0] 27))) := hb4
        clear hb4 HF3 HB3 HX3 HR3
        go_wp2_with fail
        generalize W3.alloc (.cells #[.int .u8 0, .bool false, .int .i64 0, .string ⟨#[]⟩, .slice none 0 0, .slice none 0 0, .slice none 0 0] 27) = W4 at HBu4 HF4 HBv4 HX4 HR4 HB34 ⊢
        refine (known_any W4).mono ?_
        rintro e W5 ⟨rfl, hb5⟩
        have HF5 := hide (HF4.out.on hb5)
        have HBv5 := hide (HBv4.out.below hb5)
        have HBu5 := hide (HBu4.out.below hb5)
        have HX5 : Hid (Row W5 xa xs) := HX4.out.below hb5
        have HR5 : Hid (Row W5 a bs) := HR4.out.below hb5
        have HB35 : Hid (Below W3.heap.size W3 W5) := HB34.out.trans (hb5.mono HB34.out.size)
        clear hb5 HF4 HBv4 HBu4 HX4 HR4 HB34
        by_cases hde : de = 0
        · subst hde
          have HD2 := hide (decode_gen xs.length xc xa xs W5 rfl HX5.out HXb.out (by omega))
          go_wp2_with fail
          refine HD2.out.mono ?_
          rintro e W6 ⟨⟨hb6, hor2⟩, -⟩
          rcases hor2 with ⟨V2, rfl, -, hV2⟩ | ⟨rfl, hno2⟩
          case inr => exact absurd (HNo.out hwt (by first | trivial | rfl) hno2) (fun h => h)
          have HV2 := hide hV2
          obtain ⟨g0, hg0, -⟩ := hV2 W6 (Nat.le_refl _) (fun _ _ _ => rfl)
          clear hV2
          cases g0 with
          | mk gk gbo gn gt gya gyc gy gla glc gl gfa gfc gf =>
          simp only [T.val] at hg0
          subst hg0
          have HF6 := hide (HF5.out.on hb6)
          have HBv6 := hide (HBv5.out.below hb6)
          have HBu6 := hide (HBu5.out.below hb6)
          have HX6 : Hid (Row W6 xa xs) := HX5.out.below hb6
          have HR6 : Hid (Row W6 a bs) := HR5.out.below hb6
          have HB36 : Hid (Below W3.heap.size W3 W6) := HB35.out.trans (hb6.mono HB35.out.size)
          clear hb6 HD2 HF5 HBv5 HBu5 HX5 HR5 HB35
          have hb7 := below_alloc W6 (.cells #[.int .u8 gk, .bool gbo, .int .i64 gn, .string gt, .slice gya gy.length gyc, .slice gla gl.list.length glc, .slice gfa gf.list.length gfc] 27)
          have HBg7 : Hid (Box7 (W6.alloc (.cells #[.int .u8 gk, .bool gbo, .int .i64 gn, .string gt, .slice gya gy.length gyc, .slice gla gl.list.length glc, .slice gfa gf.list.length gfc] 27)) W6.heap.size (.int .u8 gk) (.bool gbo) (.int .i64 gn) (.string gt) (.slice gya gy.length gyc) (.slice gla gl.list.length glc) (.slice gfa gf.list.length gfc)) := heap_alloc_new W6 _
          have HF7 := hide (HF6.out.alloc (.cells #[.int .u8 gk, .bool gbo, .int .i64 gn, .string gt, .slice gya gy.length gyc, .slice gla gl.list.length glc, .slice gfa gf.list.length gfc] 27))
          have HBv7 := hide (HBv6.out.below hb7)
          have HBu7 := hide (HBu6.out.below hb7)
          have HX7 : Hid (Row (W6.alloc (.cells #[.int .u8 gk, .bool gbo, .int .i64 gn, .string gt, .slice gya gy.length gyc, .slice gla gl.list.length glc, .slice gfa gf.list.length gfc] 27)) xa xs) := HX6.out.below hb7
          have HR7 : Hid (Row (W6.alloc (.cells #[.int .u8 gk, .bool gbo, .int .i64 gn, .string gt, .slice gya gy.length gyc, .slice gla gl.list.length glc, .slice gfa gf.list.length gfc] 27)) a bs) := HR6.out.below hb7
          have HB37 : Hid (Below W3.heap.size W3 (W6.alloc (.cells #[.int .u8 gk, .bool gbo, .int .i64 gn, .string gt, .slice gya gy.length gyc, .slice gla gl.list.length glc, .slice gfa gf.list.length gfc] 27))) := HB36.out.trans (hb7.mono HB36.out.size)
          have HB67 : Hid (Below W6.heap.size W6 (W6.alloc (.cells #[.int .u8 gk, .bool gbo, .int .i64 gn, .string gt, .slice gya gy.length gyc, .slice gla gl.list.length glc, .slice gfa gf.list.length gfc] 27))) := hb7
          clear hb7 HF6 HBv6 HBu6 HX6 HR6 HB36
          obtain ⟨k0, k1, k2, k3, k4, k5, k6⟩ := HBv7.out.cells
          obtain ⟨j0, j1, j2, j3, j4, j5, j6⟩ := HBg7.out.cells
          go_wp2_with fail
          generalize W6.alloc (.cells #[.int .u8 gk, .bool gbo, .int .i64 gn, .string gt, .slice gya gy.length gyc, .slice gla gl.list.length glc, .slice gfa gf.list.length gfc] 27) = W7 at HBg7 HF7 HBv7 HBu7 HX7 HR7 HB37 HB67 k0 k1 k2 k3 k4 k5 k6 j0 j1 j2 j3 j4 j5 j6 ⊢
          obtain ⟨x, hx1, hx2, hx3, hx4, -⟩ := HV2.out W7 HB67.out.size (fun q _ h => HB67.out.block q h)
          have HS := hide (HSm.out hwt (by first | trivial | rfl) x _ hx1 hx3 hx4 W7 HF7.out.below HF7.out.size hx2)
          refine HS.out.mono ?_
          rintro e W8 ⟨rfl, hb8⟩
          have HF8 := hide (HF7.out.on hb8)
          have HBv8 := hide (HBv7.out.below hb8)
          have HBu8 := hide (HBu7.out.below hb8)
          have HX8 : Hid (Row W8 xa xs) := HX7.out.below hb8
          have HR8 : Hid (Row W8 a bs) := HR7.out.below hb8
          have HB38 : Hid (Below W3.heap.size W3 W8) := HB37.out.trans (hb8.mono HB37.out.size)
          clear hb8 HS hx1 hx2 hx3 hx4 HV2 HBg7 HB67 HF7 HBv7 HBu7 HX7 HR7 HB37 k0 k1 k2 k3 k4 k5 k6 j0 j1 j2 j3 j4 j5 j6
          obtain ⟨k0, k1, k2, k3, k4, k5, k6⟩ := HBv8.out.cells
          have HSz8 := hide (HSz.out hwt (by first | trivial | rfl) W8 HF8.out.below HF8.out.size)
          go_wp2_with fail
          refine HSz8.out.mono ?_
          rintro e W9 ⟨rfl, hb9⟩
          have HF9 := hide (HF8.out.on hb9)
          have HBv9 := hide (HBv8.out.below hb9)
          have HBu9 := hide (HBu8.out.below hb9)
          have HX9 : Hid (Row W9 xa xs) := HX8.out.below hb9
          have HR9 : Hid (Row W9 a bs) := HR8.out.below hb9
          have HB39 : Hid (Below W3.heap.size W3 W9) := HB38.out.trans (hb9.mono HB38.out.size)
          clear hb9 HSz8 HF8 HBv8 HBu8 HX8 HR8 HB38 k0 k1 k2 k3 k4 k5 k6
          obtain ⟨k0, k1, k2, k3, k4, k5, k6⟩ := HBu9.out.cells
          have HS := hide (samev_all W9.heap.size 1 zeroT zeroT (by simp [zeroT, T.sz, TL.sz, FL.sz]) W9 (leafT_mem 0 false 0 ⟨#[]⟩ _ _) (leafT_mem 0 false 0 ⟨#[]⟩ _ _) (Nat.le_refl _))
          rw [T.same_er zeroT zeroT rfl] at HS
          simp only [zeroT, T.val, TL.list, FL.list, List.length_nil] at HS
          go_wp2_with fail
          refine HS.out.mono ?_
          rintro e W10 ⟨rfl, hb10⟩
          have HF10 := hide (HF9.out.on hb10)
          have HBv10 := hide (HBv9.out.below hb10)
          have HBu10 := hide (HBu9.out.below hb10)
          have HX10 : Hid (Row W10 xa xs) := HX9.out.below hb10
          have HR10 : Hid (Row W10 a bs) := HR9.out.below hb10
          have HB310 : Hid (Below W3.heap.size W3 W10) := HB39.out.trans (hb10.mono HB39.out.size)
          clear hb10 HS HF9 HBv9 HBu9 HX9 HR9 HB39 k0 k1 k2 k3 k4 k5 k6
          have hsame : sameB xs bs = false := by
            unfold sameB
            rw [decide_eq_false_iff_not]
            rintro rfl
            exact HNo.out hwt (by first | trivial | rfl) HNb.out
          have hlen := HL.out
          have HSb := hide (sameb_any xa a xs.length n xc c xs bs W10 rfl HL.out (by omega) (by omega) HX10.out HR10.out)
          rw [hsame] at HSb
          go_wp2_with fail
          refine HSb.out.mono ?_
          rintro e W11 ⟨rfl, hb11⟩
          have HF11 := hide (HF10.out.on hb11)
          clear hb11 HSb hsame
          go_wp2
          go_ret
          exact ⟨by simp, HF11.out.below⟩
        · have hd0 : ((de : Int) == 0) = false := by simp; omega
          have hd0' : ((de : Int) != 0) = true := by simp; omega
          clear hde
          obtain ⟨k0, k1, k2, k3, k4, k5, k6⟩ := HBu5.out.cells
          have HS := hide (samev_all W5.heap.size 1 zeroT zeroT (by simp [zeroT, T.sz, TL.sz, FL.sz]) W5 (leafT_mem 0 false 0 ⟨#[]⟩ _ _) (leafT_mem 0 false 0 ⟨#[]⟩ _ _) (Nat.le_refl _))
          rw [T.same_er zeroT zeroT rfl] at HS
          simp only [zeroT, T.val, TL.list, FL.list, List.length_nil] at HS
          go_wp2_with fail
          refine HS.out.mono ?_
          rintro e W10 ⟨rfl, hb10⟩
          have HF10 := hide (HF5.out.on hb10)
          have HBv10 := hide (HBv5.out.below hb10)
          have HBu10 := hide (HBu5.out.below hb10)
          have HX10 : Hid (Row W10 xa xs) := HX5.out.below hb10
          have HR10 : Hid (Row W10 a bs) := HR5.out.below hb10
          have HB310 : Hid (Below W3.heap.size W3 W10) := HB35.out.trans (hb10.mono HB35.out.size)
          clear hb10 HS HF5 HBv5 HBu5 HX5 HR5 HB35 k0 k1 k2 k3 k4 k5 k6
          go_wp2
          go_ret
          exact ⟨by simp, HF10.out.below⟩
    · have hd : decide ((100000 : Int) < (n : Int)) = true := by simp; omega
      have hd' : ((100000 : Int) < (n : Int)) := by omega
      go_wp2
      go_ret
      exact ⟨rfl, HF1.out.below⟩

set_option maxRecDepth 100000 in
theorem lifted (os : Os) (started : os.Started) (H : Type) (enc : TypeId × Value → H) :
    ReturnsInHanded {} Try.checked os 3 .any (Rows.docBackSpec.pre6 enc Try.prog Try.f3 Rows.docBackRow.domain false) (Rows.docBackSpec.post enc Try.prog Try.f3 false true false false) := by
  refine returnsInHanded_of_change (C := Try.checked) own started (by kernel_rfl) Try.func3
    (ChangeSpec.witness6 (enc := enc) (C := Try.checked) false ⟨#[], #[.agg #[.int .u8 0, .bool false, .int .i64 0, .string ⟨#[]⟩, .slice none 0 0, .slice none 0 0, .slice none 0 0], .slice none 0 0], []⟩ 8 (by kernel_rfl) (by kernel_rfl) (by kernel_rfl) (by kernel_rfl)) ?_
  intro W base args ds gs before hval0 hW hcnd _
  have hval : ∀ (j : Nat) t v, Try.f3.params[j]? = some t → args[j]? = some v → Value.okWide Try.prog W .any base t v := hval0
  have hW' := hW
  obtain ⟨p, q, hA0, hV, rfl, hfz, hnd⟩ := hW
  have hA : DataW.TrodAll enc Try.prog W 0 (fun _ => true) true Try.f3.params.toList args.toList ds p := hA0
  rw [Try.params3] at hA hval
  obtain ⟨v0, vs0, d0, ds0, p0, q0, hargs, rfl, rfl, h0, r0⟩ := trodAll_cons hA
  obtain ⟨v1, vs1, d1, ds1, p1, q1, rfl, rfl, rfl, h1, r1⟩ := trodAll_cons r0
  obtain ⟨rfl, rfl, rfl⟩ := trodAll_nil r1
  obtain rfl : args = #[v0, v1] := by cases args; simp_all
  obtain ⟨rfl, rfl⟩ := trodVars_none hV
  obtain ⟨cs0, rfl, _⟩ := okWide_struct Try.underlying27 (hval 0 27 v0 rfl rfl)
  have k0 := h0
  have lt0 : ∀ x ∈ p0, x.block < W.heap.size := by obtain ⟨m, hm⟩ := k0; exact DataW.trod_lt m _ _ _ hm
  obtain ⟨u0, e0, m0, s0⟩ : ∃ v : T, v.val = .agg cs0 ∧ v.Mem W.heap.size W ∧ v.Szd := by
    obtain ⟨fuel, hf⟩ := h0
    obtain ⟨v, hv, hm, hs⟩ := read_val fuel _ _ hf
    refine ⟨v, ?_, hm, hs⟩
    rw [T.val_cells, hv]
    simp [Value.cells]
  obtain ⟨a1, len1, cap1, rfl⟩ := okWide_slice Try.underlying23 (hval 1 23 v1 rfl rfl)
  have k1 := h1
  have lt1 : ∀ x ∈ p1, x.block < W.heap.size := by obtain ⟨m, hm⟩ := k1; exact DataW.trod_lt m _ _ _ hm
  obtain ⟨z1, w1⟩ : ∃ zs, IsRow .u8 W a1 len1 cap1 zs := by
    obtain ⟨fuel, hf⟩ := h1
    rcases open_ints Try.underlying23 Try.underlying5 (by kernel_rfl) hf with ⟨hcs, _⟩ | ⟨x, l, c, zs, hcs, _, hl, hm, hz, _, hcell, hwz⟩
    · simp [Value.cells] at hcs
      obtain ⟨rfl, rfl, rfl⟩ := hcs
      exact ⟨[], .inl ⟨rfl, rfl, rfl, rfl⟩⟩
    · simp [Value.cells] at hcs
      obtain ⟨rfl, rfl, rfl⟩ := hcs
      exact ⟨zs, .inr ⟨_, rfl, hl, hm, by simpa using hz, hcell, hwz⟩⟩
  obtain ⟨r1, r2, r3, r4, r5, _⟩ := isrow_row w1
  clear hA0 hval0
  have hwalk := walk u0 a1 len1 cap1 (z1.take len1) W m0 s0 r1 r2 r3 (by unfold maxLen at r5; omega)
  rw [e0] at hwalk
  refine hwalk.mono fun e W' ⟨he, bel⟩ => ?_
  subst he
  exact ⟨_, rfl, _, _, _, [], _, [], hW', trodAll_mk1 (shut_bool Try.underlying4 _), (trodAll_cons_mk (Below.trod laidOut (by kernel_rfl) (of_decide_eq_true (by kernel_rfl)) k0 bel lt0) (trodAll_cons_mk (Below.trod laidOut (by kernel_rfl) (of_decide_eq_true (by kernel_rfl)) k1 bel lt1) trodAll_mk0)), rfl, bel.frame _, fun h => by cases h⟩

theorem over : Rows.docBackRow.holds Try.pinned (OpenSpec.ofChange Rows.docBackSpec) :=
  OpenClaim.holds_of_wide 3 Try.f3 rfl rfl rfl rfl rfl rfl rfl ⟨rfl, rfl, rfl, rfl, rfl⟩ rfl rfl rfl rfl rfl (by kernel_rfl) Try.func3 (by kernel_rfl)
    (of_decide_eq_true (by kernel_rfl)) (by unfold Func.isWrapper; first | (rw [if_pos (by decide +kernel)]; kernel_rfl) | (rw [if_neg (by decide +kernel)]; exact ⟨rfl, rfl⟩))
    (fun os started H enc _ => lifted os started H enc)

end Go.Proofs.Ytehapglbenaikaa.Back
namespace Go.Proofs.Ytehapglbenaikaa
theorem docBack_holds : Rows.DocBackSaid := Back.over
#print axioms docBack_holds
end Go.Proofs.Ytehapglbenaikaa
