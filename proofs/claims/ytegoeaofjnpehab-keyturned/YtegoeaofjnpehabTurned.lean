/- The Go function KeyTurned answers true for any two values that are handed in, and leaves them as they were: what falls has each byte turned over, and compares the other way round. No condition. -/
import Derived.Test.YtegoeaofjnpehabVQ
namespace Go.Proofs.Ytegoeaofjnpehab.Turned
open Go.ChangeShapes Go.WideShapes Go.ChangeAt Go.RowKit
set_option linter.unusedVariables false

theorem val_cells (v : T) : v.val = .agg v.cells.toArray := by cases v; rfl
theorem ordI_bd (a b : List Int) : ordI a b = -1 ∨ ordI a b = 0 ∨ ordI a b = 1 := by
  induction a generalizing b with
  | nil => cases b <;> simp [ordI]
  | cons x a ih => cases b with
    | nil => simp [ordI]
    | cons y b =>
      unfold ordI
      split
      · simp
      · split
        · simp
        · exact ih b
theorem xor_whole : ∀ c : Nat, c < 256 → c ^^^ (255 - c) = 255 := by decide +kernel
theorem both_xor (c : Int) (h : 0 ≤ c ∧ c ≤ 255) : bits .xor .u8 (tn 0 c) (tn 255 c) = 255 := by
  rw [tn_up c h.1, tn_down c h, u8_xor c (255 - c) h.1 (by omega) (by omega) (by omega)]
  have h1 := xor_whole c.toNat (by omega)
  have h2 : (255 - c).toNat = 255 - c.toNat := by omega
  rw [h2, h1]
  rfl
theorem getD_map (xs : List Int) (m : Int) (j : Nat) (h : j < xs.length) : (xs.map (tn m)).getD j 0 = tn m (xs.getD j 0) := by
  simp [List.getD_eq_getElem?_getD, h]
theorem Byts.turned {xs : List Int} (h : Byts xs) (m : Int) (hm : 0 ≤ m ∧ m ≤ 255) : Byts (xs.map (tn m)) := by
  intro c hc
  obtain ⟨x, hx, rfl⟩ := List.mem_map.1 hc
  exact tn_bd m x (h x hx) hm
/-- the bytes that One gives, none where it refuses. -/
def out (v : T) : List Int := if oneE v = 0 then v.enc else []
theorem out_byts {n₀ : Nat} {W : World} (v : T) (h : v.Mem n₀ W) : Byts (out v) := by
  unfold out
  split
  · exact T.enc_byts v h
  · intro c hc; simp at hc
theorem out_len (v : T) (h : v.wt ≤ 20000) : (out v).length ≤ 9999999 := by
  unfold out
  have := enc_small v h
  split
  · exact this
  · simp
theorem out_apart (u v : T) (hu : oneE u = 0) (hv : oneE v = 0) : Apart (out u) (out v) := by
  unfold out
  rw [if_pos hu, if_pos hv]
  exact enc_apart u v (one_ok u hu).1 (one_ok v hv).1
/-- a list of the two values just built. -/
theorem two_mem {n₀ : Nat} {W : World} (p q : T) (b : Nat) (hn : n₀ ≤ W.heap.size) (hp : p.Mem n₀ W) (hq : q.Mem n₀ W) (hb : b < W.heap.size) (hc : ∀ j u, (p.cells ++ q.cells)[j]? = some u → W.cell? ⟨b, j, none⟩ = some u) :
    (TL.cons p (TL.cons q .nil)).Mem W.heap.size W (some ⟨b, 0, none⟩) 0 := by
  have l7 : p.cells.length = 7 := by cases p; rfl
  refine ⟨⟨b, 0, rfl, hb, fun j u hu => ?_⟩, hp.wider hn, ⟨b, 0, rfl, hb, fun j u hu => ?_⟩, hq.wider hn, trivial⟩
  · have hj := (List.getElem?_eq_some_iff.1 hu).1
    have := hc j u (by rw [List.getElem?_append_left hj]; exact hu)
    simpa using this
  · have := hc (7 + j) u (by rw [List.getElem?_append_right (by omega), l7]; simpa using hu)
    simpa using this
theorem alloc_cells (W : World) (L : List Value) (ty : TypeId) : ∀ j u, L[j]? = some u → (W.alloc (.cells L.toArray ty)).cell? ⟨W.heap.size, j, none⟩ = some u := by
  intro j u h
  have h3 := heap_alloc_new W (.cells L.toArray ty)
  simp only [World.cell?, h3]
  simpa using h
theorem row_at {w : World} {a : Option Addr} {zs : List Int} (h : Row w a zs) (h0 : 0 < zs.length) : ∃ b o, a = some ⟨b, o, none⟩ ∧ ∀ i, i < zs.length → w.cell? ⟨b, o + i, none⟩ = some (.int .u8 (zs.getD i 0)) := by
  rcases h with h | ⟨b, o, rfl, _, hc⟩
  · subst h; simp at h0
  · exact ⟨b, o, rfl, hc⟩
set_option maxHeartbeats 3200000 in
set_option maxRecDepth 1000000 in
theorem walk (p q : T) (w : World) (hp : p.Mem w.heap.size w) (hq : q.Mem w.heap.size w) (sp : p.Szd) (sq : q.Szd) :
    Calls Try.prog 4 #[p.val, q.val] w fun e w' => e = .returned (.bool true) ∧ Below w.heap.size w w' := by
  have hwt : (TL.cons p (TL.cons q .nil)).list.length + (TL.cons p (TL.cons q .nil)).wt ≤ 20000 → p.wt ≤ 20000 ∧ q.wt ≤ 20000 := by
    intro h
    simp only [TL.wt, TL.list, List.length_cons, List.length_nil] at h
    omega
  have HMu : Hid (∀ W b, Below w.heap.size w W → w.heap.size ≤ W.heap.size → b < W.heap.size → (∀ j u, (p.cells ++ q.cells)[j]? = some u → W.cell? ⟨b, j, none⟩ = some u) →
      Calls Try.prog 14 #[.slice (some ⟨b, 0, none⟩) 2 2] W fun e w' => (∃ β, e = .returned (.bool β) ∧ (β = false → p.wt ≤ 20000 ∧ q.wt ≤ 20000)) ∧ Below W.heap.size W w') :=
    fun W b hW hs hb hc => (much_gen W.heap.size (some ⟨b, 0, none⟩) 2 (TL.cons p (TL.cons q .nil)) W (two_mem p q b hs (hp.on hW) (hq.on hW) hb hc) ⟨sp, sq, trivial⟩ (by simp [TL.list]) (Nat.le_refl _)).mono (fun e w' ⟨⟨β, h1, h2⟩, h3⟩ => ⟨⟨β, h1, fun h => hwt (h2 h)⟩, h3⟩)
  have HOp : Hid (∀ d W, Below w.heap.size w W → w.heap.size ≤ W.heap.size → p.wt ≤ 20000 → Calls Try.prog 12 #[p.val, .bool d] W fun e w' => (∃ a c, e = .returned (.tuple #[.slice a (out p).length c, .int .u16 (oneE p : Int)]) ∧ Row w' a ((out p).map (tn (mk d))) ∧ (a = none → (out p).length = 0 ∧ c = 0)) ∧ Below W.heap.size W w') :=
    fun d W hW hs h => (one_gen d w.heap.size p W (hp.on hW) hs (tame_of p h) (enc_small p h)).mono (fun e w' h => h.1)
  have HOq : Hid (∀ d W, Below w.heap.size w W → w.heap.size ≤ W.heap.size → q.wt ≤ 20000 → Calls Try.prog 12 #[q.val, .bool d] W fun e w' => (∃ a c, e = .returned (.tuple #[.slice a (out q).length c, .int .u16 (oneE q : Int)]) ∧ Row w' a ((out q).map (tn (mk d))) ∧ (a = none → (out q).length = 0 ∧ c = 0)) ∧ Below W.heap.size W w') :=
    fun d W hW hs h => (one_gen d w.heap.size q W (hq.on hW) hs (tame_of q h) (enc_small q h)).mono (fun e w' h => h.1)
  have HYp := hide (out_byts p hp)
  have HYq := hide (out_byts q hq)
  have HLp := hide (out_len p)
  have HLq := hide (out_len q)
  have HAp := hide (out_apart p q)
  generalize out p = xs at *
  generalize out q = zs at *
  generalize oneE p = ep at *
  generalize oneE q = eq at *
  generalize p.wt = pw at *
  generalize q.wt = qw at *
  clear hp hq sp sq hwt
  cases p with
  | mk k bo n t ya yc y la lc l fa fc f =>
  cases q with
  | mk k' bo' n' t' ya' yc' y' la' lc' l' fa' fc' f' =>
  simp only [T.val, T.cells, List.cons_append, List.nil_append] at *
  have HF0 := hide (((Fr.refl w).alloc (.cells #[.int .u8 k, .bool bo, .int .i64 n, .string t, .slice ya y.length yc, .slice la l.list.length lc, .slice fa f.list.length fc] 32)).alloc (.cells #[.int .u8 k', .bool bo', .int .i64 n', .string t', .slice ya' y'.length yc', .slice la' l'.list.length lc', .slice fa' f'.list.length fc'] 32))
  have HF1 := hide (HF0.out.alloc (.cells #[.int .u8 k, .bool bo, .int .i64 n, .string t, .slice ya y.length yc, .slice la l.list.length lc, .slice fa f.list.length fc, .int .u8 k', .bool bo', .int .i64 n', .string t', .slice ya' y'.length yc', .slice la' l'.list.length lc', .slice fa' f'.list.length fc'] 32))
  have HBa1 := hide (((Box7.new w (.int .u8 k) (.bool bo) (.int .i64 n) (.string t) (.slice ya y.length yc) (.slice la l.list.length lc) (.slice fa f.list.length fc)).below (below_alloc _ (.cells #[.int .u8 k', .bool bo', .int .i64 n', .string t', .slice ya' y'.length yc', .slice la' l'.list.length lc', .slice fa' f'.list.length fc'] 32))).below (below_alloc _ (.cells #[.int .u8 k, .bool bo, .int .i64 n, .string t, .slice ya y.length yc, .slice la l.list.length lc, .slice fa f.list.length fc, .int .u8 k', .bool bo', .int .i64 n', .string t', .slice ya' y'.length yc', .slice la' l'.list.length lc', .slice fa' f'.list.length fc'] 32)))
  have HBb0 : Hid (Box7 ((w.alloc (.cells #[.int .u8 k, .bool bo, .int .i64 n, .string t, .slice ya y.length yc, .slice la l.list.length lc, .slice fa f.list.length fc] 32)).alloc (.cells #[.int .u8 k', .bool bo', .int .i64 n', .string t', .slice ya' y'.length yc', .slice la' l'.list.length lc', .slice fa' f'.list.length fc'] 32)) (w.heap.size + 1) (.int .u8 k') (.bool bo') (.int .i64 n') (.string t') (.slice ya' y'.length yc') (.slice la' l'.list.length lc') (.slice fa' f'.list.length fc')) := by
    have := Box7.new (w.alloc (.cells #[.int .u8 k, .bool bo, .int .i64 n, .string t, .slice ya y.length yc, .slice la l.list.length lc, .slice fa f.list.length fc] 32)) (.int .u8 k') (.bool bo') (.int .i64 n') (.string t') (.slice ya' y'.length yc') (.slice la' l'.list.length lc') (.slice fa' f'.list.length fc')
    rwa [World.size_alloc] at this
  have HBb1 := hide (HBb0.out.below (below_alloc _ (.cells #[.int .u8 k, .bool bo, .int .i64 n, .string t, .slice ya y.length yc, .slice la l.list.length lc, .slice fa f.list.length fc, .int .u8 k', .bool bo', .int .i64 n', .string t', .slice ya' y'.length yc', .slice la' l'.list.length lc', .slice fa' f'.list.length fc'] 32)))
  have HCs := hide (alloc_cells ((w.alloc (.cells #[.int .u8 k, .bool bo, .int .i64 n, .string t, .slice ya y.length yc, .slice la l.list.length lc, .slice fa f.list.length fc] 32)).alloc (.cells #[.int .u8 k', .bool bo', .int .i64 n', .string t', .slice ya' y'.length yc', .slice la' l'.list.length lc', .slice fa' f'.list.length fc'] 32)) [.int .u8 k, .bool bo, .int .i64 n, .string t, .slice ya y.length yc, .slice la l.list.length lc, .slice fa f.list.length fc, .int .u8 k', .bool bo', .int .i64 n', .string t', .slice ya' y'.length yc', .slice la' l'.list.length lc', .slice fa' f'.list.length fc'] 32)
  have hsz2 : ((w.alloc (.cells #[.int .u8 k, .bool bo, .int .i64 n, .string t, .slice ya y.length yc, .slice la l.list.length lc, .slice fa f.list.length fc] 32)).alloc (.cells #[.int .u8 k', .bool bo', .int .i64 n', .string t', .slice ya' y'.length yc', .slice la' l'.list.length lc', .slice fa' f'.list.length fc'] 32)).heap.size = w.heap.size + 1 + 1 := by simp
  rw [hsz2] at HCs
  have hsz3 : w.heap.size + 1 + 1 < (((w.alloc (.cells #[.int .u8 k, .bool bo, .int .i64 n, .string t, .slice ya y.length yc, .slice la l.list.length lc, .slice fa f.list.length fc] 32)).alloc (.cells #[.int .u8 k', .bool bo', .int .i64 n', .string t', .slice ya' y'.length yc', .slice la' l'.list.length lc', .slice fa' f'.list.length fc'] 32)).alloc (.cells #[.int .u8 k, .bool bo, .int .i64 n, .string t, .slice ya y.length yc, .slice la l.list.length lc, .slice fa f.list.length fc, .int .u8 k', .bool bo', .int .i64 n', .string t', .slice ya' y'.length yc', .slice la' l'.list.length lc', .slice fa' f'.list.length fc'] 32)).heap.size := by simp
  have HMu1 := hide (HMu.out (((w.alloc (.cells #[.int .u8 k, .bool bo, .int .i64 n, .string t, .slice ya y.length yc, .slice la l.list.length lc, .slice fa f.list.length fc] 32)).alloc (.cells #[.int .u8 k', .bool bo', .int .i64 n', .string t', .slice ya' y'.length yc', .slice la' l'.list.length lc', .slice fa' f'.list.length fc'] 32)).alloc (.cells #[.int .u8 k, .bool bo, .int .i64 n, .string t, .slice ya y.length yc, .slice la l.list.length lc, .slice fa f.list.length fc, .int .u8 k', .bool bo', .int .i64 n', .string t', .slice ya' y'.length yc', .slice la' l'.list.length lc', .slice fa' f'.list.length fc'] 32)) (w.heap.size + 1 + 1) HF1.out.below HF1.out.size hsz3 HCs.out)
  clear HF0 HBb0 HCs hsz2 hsz3
  go_enter Try.func4, Try.ntmps4
  go_wp2_with fail
  refine HMu1.out.mono ?_
  rintro e W2 ⟨⟨β, rfl, hβ⟩, hb⟩
  have HF2 := hide (HF1.out.on hb)
  have HBa2 := hide (HBa1.out.below hb)
  have HBb2 := hide (HBb1.out.below hb)
  clear hb HF1 HBa1 HBb1 HMu1 HMu
  generalize hbw : w.heap.size = b at *
  have HBW := hide hbw
  clear hbw
  cases β
  · obtain ⟨hpw, hqw⟩ := hβ rfl
    go_wp2_with fail
    refine (known_any _).mono ?_
    rintro e W3 ⟨rfl, hb⟩
    have HF3 := hide (HF2.out.on hb)
    have HBa3 := hide (HBa2.out.below hb)
    have HBb3 := hide (HBb2.out.below hb)
    clear hb
    obtain ⟨k0, k1, k2, k3, k4, k5, k6⟩ := HBa3.out.cells
    go_wp2_with fail
    refine (HOp.out false _ HF3.out.below HF3.out.size hpw).mono ?_
    rintro e W4 ⟨⟨a1, c1, rfl, hr, hnn⟩, hb⟩
    have HF4 := hide (HF3.out.on hb)
    have HBa4 := hide (HBa3.out.below hb)
    have HBb4 := hide (HBb3.out.below hb)
    have HR1_4 : Hid (Row W4 a1 (xs.map (tn 0))) := hr
    have HN1 := hide hnn
    clear hb hr hnn k0 k1 k2 k3 k4 k5 k6
    obtain ⟨k0, k1, k2, k3, k4, k5, k6⟩ := HBa4.out.cells
    go_wp2_with fail
    refine (HOp.out true _ HF4.out.below HF4.out.size hpw).mono ?_
    rintro e W5 ⟨⟨a2, c2, rfl, hr, hnn⟩, hb⟩
    have HF5 := hide (HF4.out.on hb)
    have HBa5 := hide (HBa4.out.below hb)
    have HBb5 := hide (HBb4.out.below hb)
    have HR2_5 : Hid (Row W5 a2 (xs.map (tn 255))) := hr
    have HN2 := hide hnn
    have HR1_5 := hide (HR1_4.out.below hb)
    clear hb hr hnn k0 k1 k2 k3 k4 k5 k6
    obtain ⟨k0, k1, k2, k3, k4, k5, k6⟩ := HBb5.out.cells
    go_wp2_with fail
    refine (HOq.out false _ HF5.out.below HF5.out.size hqw).mono ?_
    rintro e W6 ⟨⟨a3, c3, rfl, hr, hnn⟩, hb⟩
    have HF6 := hide (HF5.out.on hb)
    have HBa6 := hide (HBa5.out.below hb)
    have HBb6 := hide (HBb5.out.below hb)
    have HR3_6 : Hid (Row W6 a3 (zs.map (tn 0))) := hr
    have HN3 := hide hnn
    have HR1_6 := hide (HR1_5.out.below hb)
    have HR2_6 := hide (HR2_5.out.below hb)
    clear hb hr hnn k0 k1 k2 k3 k4 k5 k6
    obtain ⟨k0, k1, k2, k3, k4, k5, k6⟩ := HBb6.out.cells
    go_wp2_with fail
    refine (HOq.out true _ HF6.out.below HF6.out.size hqw).mono ?_
    rintro e W7 ⟨⟨a4, c4, rfl, hr, hnn⟩, hb⟩
    have HF7 := hide (HF6.out.on hb)
    have HBa7 := hide (HBa6.out.below hb)
    have HBb7 := hide (HBb6.out.below hb)
    have HR4_7 : Hid (Row W7 a4 (zs.map (tn 255))) := hr
    have HN4 := hide hnn
    have HR1_7 := hide (HR1_6.out.below hb)
    have HR2_7 := hide (HR2_6.out.below hb)
    have HR3_7 := hide (HR3_6.out.below hb)
    clear hb hr hnn k0 k1 k2 k3 k4 k5 k6
    have hxl := HLp.out hpw
    have hzl := HLq.out hqw
    go_wp2
    go_loopw [13] (fun i wr => ∃ j : Nat, j ≤ xs.length ∧ i = .int .i64 (j : Int) ∧ Below W7.heap.size W7 wr) (fun i _ => xs.length - (intOf i).toNat)
    case atStart => exact ⟨0, by omega, rfl, Below.refl _ _⟩
    case round =>
      obtain ⟨j, hj, rfl, hbl⟩ := hrel
      have HBl := hide hbl
      have R1 := hide (HR1_7.out.below hbl)
      have R2 := hide (HR2_7.out.below hbl)
      have R3 := hide (HR3_7.out.below hbl)
      have R4 := hide (HR4_7.out.below hbl)
      have HFw := hide (HF7.out.on hbl)
      clear hbl
      by_cases hlt : j < xs.length
      · obtain ⟨b1, o1, rfl, h1⟩ := row_at R1.out (by simp; omega)
        obtain ⟨b2, o2, rfl, h2⟩ := row_at R2.out (by simp; omega)
        have g1 := h1 j (by simpa using hlt)
        have g2 := h2 j (by simpa using hlt)
        rw [getD_map xs 0 j hlt] at g1
        rw [getD_map xs 255 j hlt] at g2
        have hx := both_xor (xs.getD j 0) (HYp.out.at j)
        generalize tn 0 (xs.getD j 0) = u1 at *
        generalize tn 255 (xs.getD j 0) = u2 at *
        clear h1 h2
        go_wp2
        go_quiet (fail)
        have HBn := hide (HBl.out.trans (below_drewN (Below.refl W7.heap.size wr) nq))
        generalize wr.drewN nq = X at *
        go_wp2
        go_roundw
        case rel => exact ⟨j + 1, by omega, by go_num, HBn.out⟩
        case measure => simp [intOf]; omega
      · by_cases he : ep = 0
        · subst he
          by_cases hq0 : eq = 0
          · subst hq0
            have HOr := hide (ord_turn xs zs (HAp.out rfl rfl) HYp.out HYq.out)
            have HBd := hide (ordI_bd (xs.map (tn 255)) (zs.map (tn 255)))
            go_wp2_with fail
            refine (order_any a1 a3 xs.length c1 zs.length c3 (xs.map (tn 0)) (zs.map (tn 0)) _ (by simp) (by simp) HN1.out HN3.out R1.out R3.out (Byts.turned HYp.out 0 (by omega)) (Byts.turned HYq.out 0 (by omega))).mono ?_
            rintro e V ⟨rfl, rfl⟩
            rw [HOr.out]
            go_wp2_with fail
            refine (order_any a2 a4 xs.length c2 zs.length c4 (xs.map (tn 255)) (zs.map (tn 255)) _ (by simp) (by simp) HN2.out HN4.out R2.out R4.out (Byts.turned HYp.out 255 (by omega)) (Byts.turned HYq.out 255 (by omega))).mono ?_
            rintro e V ⟨rfl, rfl⟩
            generalize ordI (xs.map (tn 255)) (zs.map (tn 255)) = o2 at *
            rcases HBd.out with rfl | rfl | rfl
            · go_wp2
              go_ret
              exact ⟨rfl, by rw [HBW.out]; exact HFw.out.below⟩
            · go_wp2
              go_ret
              exact ⟨rfl, by rw [HBW.out]; exact HFw.out.below⟩
            · go_wp2
              go_ret
              exact ⟨rfl, by rw [HBW.out]; exact HFw.out.below⟩
          · have hd : ((eq : Int) == 0) = false := by simp; omega
            go_wp2
            go_ret
            exact ⟨rfl, by rw [HBW.out]; exact HFw.out.below⟩
        · have hd : ((ep : Int) == 0) = false := by simp; omega
          go_wp2
          go_ret
          exact ⟨rfl, by rw [HBW.out]; exact HFw.out.below⟩
  · clear hβ
    go_wp2_with fail
    refine (known_any _).mono ?_
    rintro e W3 ⟨rfl, hb⟩
    have HF3 := hide (HF2.out.on hb)
    clear hb
    go_wp2
    go_ret
    exact ⟨rfl, by rw [HBW.out]; exact HF3.out.below⟩

set_option maxRecDepth 100000 in
theorem lifted (os : Os) (started : os.Started) (H : Type) (enc : TypeId × Value → H) :
    ReturnsInHanded {} Try.checked os 4 .any (Rows.keyTurnedSpec.pre6 enc Try.prog Try.f4 Rows.keyTurnedRow.domain false) (Rows.keyTurnedSpec.post enc Try.prog Try.f4 false true false false) := by
  refine returnsInHanded_of_change (C := Try.checked) own started (by kernel_rfl) Try.func4
    (ChangeSpec.witness6 (enc := enc) (C := Try.checked) false ⟨#[], #[.agg #[.int .u8 0, .bool false, .int .i64 0, .string ⟨#[]⟩, .slice none 0 0, .slice none 0 0, .slice none 0 0], .agg #[.int .u8 0, .bool false, .int .i64 0, .string ⟨#[]⟩, .slice none 0 0, .slice none 0 0, .slice none 0 0]], []⟩ 8 (by kernel_rfl) (by kernel_rfl) (by kernel_rfl) (by kernel_rfl)) ?_
  intro W base args ds gs before hval0 hW hcnd _
  have hval : ∀ (j : Nat) t v, Try.f4.params[j]? = some t → args[j]? = some v → Value.okWide Try.prog W .any base t v := hval0
  have hW' := hW
  obtain ⟨p, q, hA0, hV, rfl, hfz, hnd⟩ := hW
  have hA : DataW.TrodAll enc Try.prog W 0 (fun _ => true) true Try.f4.params.toList args.toList ds p := hA0
  rw [Try.params4] at hA hval
  obtain ⟨v0, vs0, d0, ds0, p0, q0, hargs, rfl, rfl, h0, r0⟩ := trodAll_cons hA
  obtain ⟨v1, vs1, d1, ds1, p1, q1, rfl, rfl, rfl, h1, r1⟩ := trodAll_cons r0
  obtain ⟨rfl, rfl, rfl⟩ := trodAll_nil r1
  obtain rfl : args = #[v0, v1] := by cases args; simp_all
  obtain ⟨rfl, rfl⟩ := trodVars_none hV
  obtain ⟨cs0, rfl, _⟩ := okWide_struct Try.underlying32 (hval 0 32 v0 rfl rfl)
  have k0 := h0
  have lt0 : ∀ x ∈ p0, x.block < W.heap.size := by obtain ⟨m, hm⟩ := k0; exact DataW.trod_lt m _ _ _ hm
  obtain ⟨u0, e0, m0, s0⟩ : ∃ v : T, v.val = .agg cs0 ∧ v.Mem W.heap.size W ∧ v.Szd := by
    obtain ⟨fuel, hf⟩ := h0
    obtain ⟨v, hv, hm, hs⟩ := read_val fuel _ _ hf
    refine ⟨v, ?_, hm, hs⟩
    rw [val_cells, hv]
    simp [Value.cells]
  obtain ⟨cs1, rfl, _⟩ := okWide_struct Try.underlying32 (hval 1 32 v1 rfl rfl)
  have k1 := h1
  have lt1 : ∀ x ∈ p1, x.block < W.heap.size := by obtain ⟨m, hm⟩ := k1; exact DataW.trod_lt m _ _ _ hm
  obtain ⟨u1, e1, m1, s1⟩ : ∃ v : T, v.val = .agg cs1 ∧ v.Mem W.heap.size W ∧ v.Szd := by
    obtain ⟨fuel, hf⟩ := h1
    obtain ⟨v, hv, hm, hs⟩ := read_val fuel _ _ hf
    refine ⟨v, ?_, hm, hs⟩
    rw [val_cells, hv]
    simp [Value.cells]
  clear hA0 hval0
  have hwalk := walk u0 u1 W m0 m1 s0 s1
  rw [e0, e1] at hwalk
  refine hwalk.mono fun e W' ⟨he, bel⟩ => ?_
  subst he
  exact ⟨_, rfl, _, _, _, [], _, [], hW', trodAll_mk1 (shut_bool Try.underlying4 _), (trodAll_cons_mk (Below.trod laidOut (by kernel_rfl) (of_decide_eq_true (by kernel_rfl)) k0 bel lt0) (trodAll_cons_mk (Below.trod laidOut (by kernel_rfl) (of_decide_eq_true (by kernel_rfl)) k1 bel lt1) trodAll_mk0)), rfl, bel.frame _, fun h => by cases h⟩

theorem over : Rows.keyTurnedRow.holds Try.pinned (OpenSpec.ofChange Rows.keyTurnedSpec) :=
  OpenClaim.holds_of_wide 4 Try.f4 rfl rfl rfl rfl rfl rfl rfl ⟨rfl, rfl, rfl, rfl, rfl⟩ rfl rfl rfl rfl rfl (by kernel_rfl) Try.func4 (by kernel_rfl)
    (of_decide_eq_true (by kernel_rfl)) (by unfold Func.isWrapper; first | (rw [if_pos (by decide +kernel)]; kernel_rfl) | (rw [if_neg (by decide +kernel)]; exact ⟨rfl, rfl⟩))
    (fun os started H enc _ => lifted os started H enc)

end Go.Proofs.Ytegoeaofjnpehab.Turned
namespace Go.Proofs.Ytegoeaofjnpehab
theorem keyTurned_holds : Rows.KeyTurnedSaid := Turned.over
#print axioms keyTurned_holds
end Go.Proofs.Ytegoeaofjnpehab
