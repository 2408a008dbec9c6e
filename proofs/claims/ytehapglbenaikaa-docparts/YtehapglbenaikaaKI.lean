/- Mathematics: a light value is tame, its bytes are few; contracts of Encode and Size. -/
import Derived.Test.YtehapglbenaikaaKH
namespace Go.Proofs.Ytehapglbenaikaa
open Go.RowKit
set_option linter.unusedVariables false

mutual
theorem T.sz_wt : ∀ v : T, v.sz ≤ v.wt
  | .mk k bo n t ya yc y la lc l fa fc f => by
    have h1 := TL.sz_wt l
    have h2 := FL.sz_wt f
    simp only [T.sz, T.wt]
    omega
theorem TL.sz_wt : ∀ l : TL, l.sz ≤ l.wt
  | .nil => by simp [TL.sz, TL.wt]
  | .cons v r => by
    have h1 := T.sz_wt v
    have h2 := TL.sz_wt r
    simp only [TL.sz, TL.wt]
    omega
theorem FL.sz_wt : ∀ l : FL, l.sz ≤ l.wt
  | .nil => by simp [FL.sz, FL.wt]
  | .cons s v r => by
    have h1 := T.sz_wt v
    have h2 := FL.sz_wt r
    simp only [FL.sz, FL.wt]
    omega
end
theorem TL.wt_mem : ∀ (l : TL) (c : T), c ∈ l.list → c.wt ≤ l.wt
  | .nil, c, h => by simp [TL.list] at h
  | .cons v r, c, h => by
    simp only [TL.list, List.mem_cons] at h
    simp only [TL.wt]
    rcases h with rfl | h
    · omega
    · have := TL.wt_mem r c h; omega
theorem FL.wt_mem : ∀ (l : FL) (c : ByteArray × T), c ∈ l.list → c.1.size / 64 + c.2.wt ≤ l.wt
  | .nil, c, h => by simp [FL.list] at h
  | .cons s v r, c, h => by
    simp only [FL.list, List.mem_cons] at h
    simp only [FL.wt]
    rcases h with rfl | h
    · simp only []; omega
    · have := FL.wt_mem r c h; omega
theorem T.kid_wt (v c : T) (h : c ∈ v.kids) : c.wt ≤ v.wt := by
  cases v with
  | mk k bo n t ya yc y la lc l fa fc f =>
    simp only [T.kids, List.mem_append, List.mem_map] at h
    simp only [T.wt]
    rcases h with h | ⟨x, h, rfl⟩
    · have := TL.wt_mem l c h; omega
    · have := FL.wt_mem f x h; omega
theorem flat_wt : ∀ (N : Nat) (v : T), v.sz ≤ N → ∀ (d e : Int) (x : T), (d, x) ∈ v.flat e → x.wt ≤ v.wt := by
  intro N
  induction N with
  | zero => intro v hv; cases v; simp [T.sz] at hv
  | succ N ih =>
    intro v hv d e x hx
    rw [T.flat_is] at hx
    rcases List.mem_cons.1 hx with h | h
    · cases h; omega
    · obtain ⟨c, hc, hx⟩ := List.mem_flatMap.1 h
      have h1 := T.kid_sz v c hc
      have h2 := T.kid_wt v c hc
      have h3 := ih c (by omega) d (e + 1) x hx
      omega
theorem FL.len_wt (f : FL) : f.list.length ≤ f.wt := by
  match f with
  | .nil => simp [FL.list]
  | .cons s v r =>
    have h1 := FL.len_wt r
    have h2 : 1 ≤ v.wt := by cases v; simp only [T.wt]; omega
    simp only [FL.list, FL.wt, List.length_cons]
    omega
theorem node_of (x : T) (h : x.wt ≤ 100000) : x.Node := by
  cases x with
  | mk k bo n t ya yc y la lc l fa fc f =>
    simp only [T.wt] at h
    have h1 := FL.len_wt f
    refine ⟨by omega, by omega, by omega, fun x hx => ?_⟩
    have := FL.wt_mem f x hx
    omega
theorem tame_of (v : T) (h : v.wt ≤ 100000) : v.Tame :=
  ⟨by have := T.sz_wt v; omega, fun d x hx => node_of x (by have := flat_wt v.sz v (Nat.le_refl _) d 1 x hx; omega)⟩
theorem firstE_zero (fe : T → Nat) (l : List (Int × T)) (h : firstE fe l = 0) : ∀ z ∈ l, fe z.2 = 0 := by
  induction l with
  | nil => intro z hz; simp at hz
  | cons x r ih =>
    intro z hz
    simp only [firstE] at h
    by_cases h0 : fe x.2 = 0
    · rw [if_pos h0] at h
      rcases List.mem_cons.1 hz with rfl | hz
      · exact h0
      · exact ih h z hz
    · rw [if_neg h0] at h
      exact absurd h h0
theorem fit_kind {k : Int} {bo : Bool} {n : Int} {t : ByteArray} {ya : Option Addr} {yc : Nat} {y : List Int} {la : Option Addr} {lc : Nat} {l : TL} {fa : Option Addr} {fc : Nat} {f : FL} (h : fitE (.mk k bo n t ya yc y la lc l fa fc f) = 0) : k = 1 ∨ k = 2 ∨ k = 3 ∨ k = 4 ∨ k = 5 ∨ k = 6 ∨ k = 7 := by
  by_cases h2 : k = 2
  · omega
  by_cases h3 : k = 3
  · omega
  by_cases h4 : k = 4
  · omega
  by_cases h5 : k = 5
  · omega
  by_cases h6 : k = 6
  · omega
  by_cases h7 : k = 7
  · omega
  simp only [fitE, h2, h3, h4, h5, h6, h7, if_false] at h
  by_cases hb : alB k bo n t y.length l.list.length f.list.length 1 false 0 ⟨#[]⟩ 0 0 0 = true
  · simp only [alB, decide_eq_true_eq] at hb
    exact .inl hb.1
  · rw [if_neg hb] at h
    omega
theorem vb_le (m : Nat) : (vb m).length ≤ m / 64 + 10 := by
  induction m using Nat.strongRecOn with
  | _ m ih =>
    by_cases h : m < 128
    · rw [vb_small m h]; simp
    · rw [vb_big m h, List.length_cons]
      have := ih (m / 128) (by omega)
      omega
mutual
theorem T.denc_wt : ∀ v : T, v.Szd → v.denc.length + 80 ≤ 160 * v.wt
  | .mk k bo n t ya yc y la lc l fa fc f, hz => by
    have h1 := TL.denc_wt l hz.2.2.2.1
    have h2 := FL.denc_wt f hz.2.2.2.2
    have h9 := vb_ten (zz n) (zz_lt n hz.2.1.1 hz.2.1.2)
    have h3 := vb_le t.size
    have h4 := vb_le y.length
    have h5 := vb_le l.list.length
    have h6 := vb_le f.list.length
    have h8 := sb_len t
    simp only [T.denc, T.wt]
    split
    · simp; omega
    split
    · simp; omega
    split
    · simp only [List.length_cons]; omega
    split
    · simp only [List.length_cons, List.length_append]; omega
    split
    · simp only [List.length_cons, List.length_append]; omega
    split
    · simp only [List.length_cons, List.length_append]; omega
    split
    · simp only [List.length_cons, List.length_append]; omega
    · simp; omega
theorem TL.denc_wt : ∀ l : TL, l.Szd → l.denc.length + 80 * l.list.length ≤ 160 * l.wt
  | .nil, _ => by simp [TL.denc, TL.list]
  | .cons v r, hz => by
    have h1 := T.denc_wt v hz.1
    have h2 := TL.denc_wt r hz.2
    simp only [TL.denc, TL.wt, TL.list, List.length_append, List.length_cons]
    omega
theorem FL.denc_wt : ∀ l : FL, l.Szd → l.denc.length + 7 * l.list.length ≤ 160 * l.wt
  | .nil, _ => by simp [FL.denc, FL.list]
  | .cons s v r, hz => by
    have h1 := T.denc_wt v hz.2.1
    have h2 := FL.denc_wt r hz.2.2
    have h3 := vb_le s.size
    have h4 := sb_len s
    simp only [FL.denc, FL.wt, FL.list, List.length_append, List.length_cons]
    omega
end
theorem TL.wd_of : ∀ (l : TL), (∀ c ∈ l.list, c.Wd) → l.Wd
  | .nil, _ => trivial
  | .cons v r, h => ⟨h v (by simp [TL.list]), TL.wd_of r (fun c hc => h c (by simp [TL.list, hc]))⟩
theorem FL.wd_of : ∀ (l : FL), (∀ c ∈ l.list, c.1.size ≤ 10000000 ∧ c.2.Wd) → l.Wd
  | .nil, _ => trivial
  | .cons s v r, h => ⟨(h (s, v) (by simp [FL.list])).1, (h (s, v) (by simp [FL.list])).2, FL.wd_of r (fun c hc => h c (by simp [FL.list, hc]))⟩
theorem wd_of : ∀ (N : Nat) (v : T), v.sz ≤ N → ∀ e, (∀ z ∈ v.flat e, fitE z.2 = 0) → v.wt ≤ 100000 → v.Szd → v.Wd := by
  intro N
  induction N with
  | zero => intro v hv; cases v; simp [T.sz] at hv
  | succ N ih =>
    intro v hv e hz hw hs
    have h0 := hz (e, v) (by rw [T.flat_is]; simp)
    have hkid : ∀ c ∈ v.kids, c.Szd → c.Wd := by
      intro c hc hcs
      have h1 := T.kid_sz v c hc
      have h2 := T.kid_wt v c hc
      refine ih c (by omega) (e + 1) (fun z hzc => hz z ?_) (by omega) hcs
      rw [T.flat_is]
      exact List.mem_cons_of_mem _ (List.mem_flatMap.2 ⟨c, hc, hzc⟩)
    cases v with
    | mk k bo n t ya yc y la lc l fa fc f =>
    have hk := fit_kind h0
    have hw' := hw
    simp only [T.wt] at hw'
    refine ⟨by omega, hs.2.1, by omega, by omega, TL.wd_of l (fun c hc => hkid c (by simp only [T.kids]; exact List.mem_append_left _ hc) (TL.Szd.at l hs.2.2.2.1 c hc)), FL.wd_of f (fun x hx => ⟨?_, hkid x.2 (by simp only [T.kids]; exact List.mem_append_right _ (List.mem_map_of_mem hx)) (FL.Szd.at f hs.2.2.2.2 x hx).2⟩)⟩
    have := FL.wt_mem f x hx
    omega
theorem ck_wd (v : T) (h : ckE v = 0) (hw : v.wt ≤ 100000) (hs : v.Szd) : v.Wd := by
  refine wd_of v.sz v (Nat.le_refl _) 1 ?_ hw hs
  unfold ckE chk at h
  split at h
  · omega
  split at h
  · omega
  exact firstE_zero _ _ h
theorem denc_few (v : T) (hw : v.wt ≤ 100000) (hs : v.Szd) : v.denc.length ≤ 100000000 := by have := T.denc_wt v hs; omega
/-- what Encode answers. -/
def docE (v : T) : Nat := if ckE v = 0 then (if 8192 < v.denc.length then 51 else 0) else ckE v
def docB (v : T) : List Int := if docE v = 0 then v.denc else []
def DocOut (v : T) (w : World) (e : Ending) (w' : World) : Prop :=
  (∃ a c, e = .returned (.tuple #[.slice a (docB v).length c, .int .u16 (docE v : Int)]) ∧ Own w' (.slice a (docB v).length c) (docB v)) ∧ Below w.heap.size w w'
theorem DocOut.bad {v : T} {w w' : World} {x : Nat} (h : docE v = x) (hx : ¬ x = 0) (hb : Below w.heap.size w w') : DocOut v w (.returned (.tuple #[.slice none 0 0, .int .u16 (x : Int)])) w' := by
  subst h
  refine ⟨⟨none, 0, ?_, ?_⟩, hb⟩
  · simp [docB, hx]
  · simp only [docB, if_neg hx]; exact Own.nil _
theorem DocOut.good {v : T} {w w' : World} {a : Option Addr} {n c : Nat} (h : docE v = 0) (hn : n = v.denc.length) (ho : Own w' (.slice a n c) v.denc) (hb : Below w.heap.size w w') : DocOut v w (.returned (.tuple #[.slice a n c, .int .u16 0])) w' := by
  subst hn
  refine ⟨⟨a, c, ?_, ?_⟩, hb⟩
  · simp [docB, h]
  · simpa [docB, h] using ho
set_option maxHeartbeats 3200000 in
set_option maxRecDepth 1000000 in
theorem encode_gen (n₀ : Nat) (v : T) (w : World) (hm : v.Mem n₀ w) (hn : n₀ ≤ w.heap.size) (hw : v.wt ≤ 100000) (hs : v.Szd) :
    Calls Try.prog 6 #[v.val] w fun e w' => DocOut v w e w' ∧ True := by
  have HX := hide (below_alloc w (.cells v.cells.toArray 27))
  have HB0 : Hid ((w.alloc (.cells v.cells.toArray 27)).heap[w.heap.size]? = some (.cells v.cells.toArray 27 (0, 0))) := heap_alloc_new w _
  have HF0 := hide ((Fr.refl w).alloc (.cells v.cells.toArray 27))
  have HC := hide (fun W (h : Below w.heap.size w W) (hz : w.heap.size ≤ W.heap.size) => check_all n₀ v W (hm.on (h.mono hn)) (by omega) (tame_of v hw))
  have HW := hide (fun (h0 : ckE v = 0) W (h : Below w.heap.size w W) (hz : w.heap.size ≤ W.heap.size) => written_gen n₀ v W (hm.on (h.mono hn)) (by omega) (ck_wd v h0 hw hs) (denc_few v hw hs))
  have HE : Hid (docE v = if ckE v = 0 then (if 8192 < v.denc.length then 51 else 0) else ckE v) := rfl
  have HBad := hide (fun w' x => DocOut.bad (v := v) (w := w) (w' := w') (x := x))
  have HGood := hide (fun w' a n c => DocOut.good (v := v) (w := w) (w' := w') (a := a) (n := n) (c := c))
  have hfew := denc_few v hw hs
  generalize v.denc = ys at *
  generalize ckE v = ck at *
  generalize docE v = de at *
  generalize DocOut v w = Post at *
  clear hm hw hs
  cases v with
  | mk k bo n t ya yc y la lc l fa fc f =>
  simp only [T.val, T.cells] at *
  go_enter Try.func6, Try.ntmps6
  go_wp2_with fail
  refine (HC.out _ HX.out HF0.out.size).mono ?_
  rintro e W1 ⟨rfl, hb⟩
  have HF1 := hide (HF0.out.on hb)
  have HB1 : Hid (Box7 W1 w.heap.size (.int .u8 k) (.bool bo) (.int .i64 n) (.string t) (.slice ya y.length yc) (.slice la l.list.length lc) (.slice fa f.list.length fc)) := Box7.below HB0.out hb
  obtain ⟨k0, k1, k2, k3, k4, k5, k6⟩ := HB1.out.cells
  clear hb
  by_cases hck : ck = 0
  · subst hck
    rw [if_pos rfl] at HE
    have HW0 := hide (HW.out rfl)
    go_wp2_with fail
    refine (HW0.out _ HF1.out.below HF1.out.size).mono ?_
    rintro e W2 ⟨⟨p, rfl, hw2, hn2⟩, hb⟩
    have HF2 := hide (HF1.out.on hb)
    have HW2 := hide hw2
    clear hw2 hn2 hb k0 k1 k2 k3 k4 k5 k6
    go_wp2_with fail
    refine (wlen_any p ys W2 HW2.out).mono ?_
    rintro e V ⟨rfl, rfl⟩
    by_cases hlen : 8192 < ys.length
    · have hld : decide ((8192 : Int) < (ys.length : Int)) = true := by simp; omega
      have HR : Hid (de = 51) := by rw [Hid, HE.out, if_pos hlen]
      clear hlen
      go_wp2
      go_ret2
      exact ⟨HBad.out _ 51 HR.out (by omega) HF2.out.below, trivial⟩
    · have hld : decide ((8192 : Int) < (ys.length : Int)) = false := by simp; omega
      have HR : Hid (de = 0) := by rw [Hid, HE.out, if_neg hlen]
      go_wp2_with fail
      refine (wbytes_any p ys _ HW2.out (by omega)).mono ?_
      rintro e W3 ⟨a', rfl, ho, _, hb⟩
      have HF3 := hide (HF2.out.on hb)
      have HO := hide ho
      clear ho hb
      go_wp2
      go_ret2
      exact ⟨HGood.out _ a' ys.length ys.length HR.out rfl HO.out HF3.out.below, trivial⟩
  · have hd : ((ck : Int) == 0) = false := by simp; omega
    have hd' : ((ck : Int) != 0) = true := by simp; omega
    rw [if_neg hck] at HE
    have HR : Hid (de = ck) := HE.out
    have HX9 := hide hck
    clear hck
    go_wp2
    go_ret2
    exact ⟨HBad.out _ ck HR.out HX9.out HF1.out.below, trivial⟩
set_option maxHeartbeats 3200000 in
set_option maxRecDepth 1000000 in
theorem size_gen (n₀ : Nat) (v : T) (w : World) (hm : v.Mem n₀ w) (hn : n₀ ≤ w.heap.size) (hw : v.wt ≤ 100000) (hs : v.Szd) (r : Nat) (hr : (if ckE v = 0 then v.denc.length else 0) = r) :
    Calls Try.prog 10 #[v.val] w fun e w' => e = .returned (.int .i64 (r : Int)) ∧ Below w.heap.size w w' := by
  have HX := hide (below_alloc w (.cells v.cells.toArray 27))
  have HB0 : Hid ((w.alloc (.cells v.cells.toArray 27)).heap[w.heap.size]? = some (.cells v.cells.toArray 27 (0, 0))) := heap_alloc_new w _
  have HF0 := hide ((Fr.refl w).alloc (.cells v.cells.toArray 27))
  have HC := hide (fun W (h : Below w.heap.size w W) (hz : w.heap.size ≤ W.heap.size) => check_all n₀ v W (hm.on (h.mono hn)) (by omega) (tame_of v hw))
  have HW := hide (fun (h0 : ckE v = 0) W (h : Below w.heap.size w W) (hz : w.heap.size ≤ W.heap.size) => written_gen n₀ v W (hm.on (h.mono hn)) (by omega) (ck_wd v h0 hw hs) (denc_few v hw hs))
  have HE := hide hr.symm
  generalize v.denc = ys at *
  generalize ckE v = ck at *
  clear hm hw hs hr
  cases v with
  | mk k bo n t ya yc y la lc l fa fc f =>
  simp only [T.val, T.cells] at *
  go_enter Try.func10, Try.ntmps10
  go_wp2_with fail
  refine (HC.out _ HX.out HF0.out.size).mono ?_
  rintro e W1 ⟨rfl, hb⟩
  have HF1 := hide (HF0.out.on hb)
  have HB1 : Hid (Box7 W1 w.heap.size (.int .u8 k) (.bool bo) (.int .i64 n) (.string t) (.slice ya y.length yc) (.slice la l.list.length lc) (.slice fa f.list.length fc)) := Box7.below HB0.out hb
  obtain ⟨k0, k1, k2, k3, k4, k5, k6⟩ := HB1.out.cells
  clear hb
  by_cases hck : ck = 0
  · subst hck
    rw [if_pos rfl] at HE
    have HW0 := hide (HW.out rfl)
    go_wp2_with fail
    refine (HW0.out _ HF1.out.below HF1.out.size).mono ?_
    rintro e W2 ⟨⟨p, rfl, hw2, hn2⟩, hb⟩
    have HF2 := hide (HF1.out.on hb)
    have HW2 := hide hw2
    clear hw2 hn2 hb k0 k1 k2 k3 k4 k5 k6
    go_wp2_with fail
    refine (wlen_any p ys W2 HW2.out).mono ?_
    rintro e V ⟨rfl, rfl⟩
    go_wp2
    go_ret
    exact ⟨by rw [HE.out]; rfl, HF2.out.below⟩
  · have hd : ((ck : Int) == 0) = false := by simp; omega
    have hd' : ((ck : Int) != 0) = true := by simp; omega
    rw [if_neg hck] at HE
    clear hck
    go_wp2
    go_ret
    exact ⟨by rw [HE.out]; rfl, HF1.out.below⟩
end Go.Proofs.Ytehapglbenaikaa
