/- Contract of the document's order of two values, of any two. -/
import Derived.Test.YtegoeaofjnpehaaVX
import Derived.Deep.RegionHeld3
namespace Go.Proofs.Ytegoeaofjnpehaa
open Go.RowKit
set_option linter.unusedVariables false

theorem boxes (w : World) (a0 a1 a2 a3 a4 a5 a6 b0 b1 b2 b3 b4 b5 b6 : Value) : Fr w.heap.size w ((w.alloc (.cells #[a0, a1, a2, a3, a4, a5, a6] 41)).alloc (.cells #[b0, b1, b2, b3, b4, b5, b6] 41)) ∧ Box7 ((w.alloc (.cells #[a0, a1, a2, a3, a4, a5, a6] 41)).alloc (.cells #[b0, b1, b2, b3, b4, b5, b6] 41)) w.heap.size a0 a1 a2 a3 a4 a5 a6 ∧ Box7 ((w.alloc (.cells #[a0, a1, a2, a3, a4, a5, a6] 41)).alloc (.cells #[b0, b1, b2, b3, b4, b5, b6] 41)) (w.heap.size + 1) b0 b1 b2 b3 b4 b5 b6 := by
  refine ⟨((Fr.refl w).alloc _).alloc _, (Box7.new w a0 a1 a2 a3 a4 a5 a6).below (below_alloc _ _), ?_⟩
  have := Box7.new (w.alloc (.cells #[a0, a1, a2, a3, a4, a5, a6] 41)) b0 b1 b2 b3 b4 b5 b6
  rwa [World.size_alloc] at this

set_option maxHeartbeats 3200000 in
set_option maxRecDepth 1000000 in
theorem cmp_kinds (w : World) (k k' : Int) (bo bo' : Bool) (n n' : Int) (t t' : ByteArray) (ya ya' : Option Addr) (yc yc' : Nat) (y y' : List Int) (la la' : Option Addr) (lc lc' : Nat) (l l' : TL) (fa fa' : Option Addr) (fc fc' : Nat) (f f' : FL) (hk : 0 ≤ k ∧ k ≤ 255) (hk' : 0 ≤ k' ∧ k' ≤ 255) (hne : k ≠ k') (r : Int) (hr : num k k' = r) :
    Calls Try.prog 20 #[.agg #[.int .u8 k, .bool bo, .int .i64 n, .string t, .slice ya y.length yc, .slice la l.list.length lc, .slice fa f.list.length fc], .agg #[.int .u8 k', .bool bo', .int .i64 n', .string t', .slice ya' y'.length yc', .slice la' l'.list.length lc', .slice fa' f'.list.length fc']] w fun e w' => e = .returned (.int .i64 (r)) ∧ Below w.heap.size w w' := by
  obtain ⟨hf0, hba, hbb⟩ := boxes w (.int .u8 k) (.bool bo) (.int .i64 n) (.string t) (.slice ya y.length yc) (.slice la l.list.length lc) (.slice fa f.list.length fc) (.int .u8 k') (.bool bo') (.int .i64 n') (.string t') (.slice ya' y'.length yc') (.slice la' l'.list.length lc') (.slice fa' f'.list.length fc')
  have HF0 := hide hf0
  have HBa := hide hba
  have HBb := hide hbb
  clear hf0 hba hbb
  have hd : (k == k') = false := by simp [hne]
  have HN := hide (fun W => number_any k k' W)
  rw [hr] at HN
  clear hr hne
  go_enter Try.func20, Try.ntmps20
  go_wp2_with fail
  refine (HN.out _).mono ?_
  rintro e V ⟨rfl, rfl⟩
  go_wp2
  go_ret
  exact ⟨rfl, HF0.out.below⟩

set_option maxHeartbeats 3200000 in
set_option maxRecDepth 1000000 in
theorem cmp_int (w : World) (bo bo' : Bool) (n n' : Int) (t t' : ByteArray) (ya ya' : Option Addr) (yc yc' : Nat) (y y' : List Int) (la la' : Option Addr) (lc lc' : Nat) (l l' : TL) (fa fa' : Option Addr) (fc fc' : Nat) (f f' : FL)  (r : Int) (hr : num n n' = r) :
    Calls Try.prog 20 #[.agg #[.int .u8 3, .bool bo, .int .i64 n, .string t, .slice ya y.length yc, .slice la l.list.length lc, .slice fa f.list.length fc], .agg #[.int .u8 3, .bool bo', .int .i64 n', .string t', .slice ya' y'.length yc', .slice la' l'.list.length lc', .slice fa' f'.list.length fc']] w fun e w' => e = .returned (.int .i64 (r)) ∧ Below w.heap.size w w' := by
  obtain ⟨hf0, hba, hbb⟩ := boxes w (.int .u8 3) (.bool bo) (.int .i64 n) (.string t) (.slice ya y.length yc) (.slice la l.list.length lc) (.slice fa f.list.length fc) (.int .u8 3) (.bool bo') (.int .i64 n') (.string t') (.slice ya' y'.length yc') (.slice la' l'.list.length lc') (.slice fa' f'.list.length fc')
  have HF0 := hide hf0
  have HBa := hide hba
  have HBb := hide hbb
  clear hf0 hba hbb
  have HN := hide (fun W => number_any n n' W)
  rw [hr] at HN
  clear hr
  go_enter Try.func20, Try.ntmps20
  go_wp2_with fail
  refine (HN.out _).mono ?_
  rintro e V ⟨rfl, rfl⟩
  go_wp2
  go_ret
  exact ⟨rfl, HF0.out.below⟩

set_option maxHeartbeats 3200000 in
set_option maxRecDepth 1000000 in
theorem cmp_text (w : World) (bo bo' : Bool) (n n' : Int) (t t' : ByteArray) (ya ya' : Option Addr) (yc yc' : Nat) (y y' : List Int) (la la' : Option Addr) (lc lc' : Nat) (l l' : TL) (fa fa' : Option Addr) (fc fc' : Nat) (f f' : FL)  (r : Int) (hr : ordI (sb t) (sb t') = r) :
    Calls Try.prog 20 #[.agg #[.int .u8 4, .bool bo, .int .i64 n, .string t, .slice ya y.length yc, .slice la l.list.length lc, .slice fa f.list.length fc], .agg #[.int .u8 4, .bool bo', .int .i64 n', .string t', .slice ya' y'.length yc', .slice la' l'.list.length lc', .slice fa' f'.list.length fc']] w fun e w' => e = .returned (.int .i64 (r)) ∧ Below w.heap.size w w' := by
  obtain ⟨hf0, hba, hbb⟩ := boxes w (.int .u8 4) (.bool bo) (.int .i64 n) (.string t) (.slice ya y.length yc) (.slice la l.list.length lc) (.slice fa f.list.length fc) (.int .u8 4) (.bool bo') (.int .i64 n') (.string t') (.slice ya' y'.length yc') (.slice la' l'.list.length lc') (.slice fa' f'.list.length fc')
  have HF0 := hide hf0
  have HBa := hide hba
  have HBb := hide hbb
  clear hf0 hba hbb
  have HN := hide (fun W => text_any t t' W)
  rw [hr] at HN
  clear hr
  go_enter Try.func20, Try.ntmps20
  go_wp2_with fail
  refine (HN.out _).mono ?_
  rintro e V ⟨rfl, rfl⟩
  go_wp2
  go_ret
  exact ⟨rfl, HF0.out.below⟩

set_option maxHeartbeats 3200000 in
set_option maxRecDepth 1000000 in
theorem cmp_bytes (w : World) (bo bo' : Bool) (n n' : Int) (t t' : ByteArray) (ya ya' : Option Addr) (yc yc' : Nat) (y y' : List Int) (la la' : Option Addr) (lc lc' : Nat) (l l' : TL) (fa fa' : Option Addr) (fc fc' : Nat) (f f' : FL) (n₀ : Nat) (hn : n₀ ≤ w.heap.size) (r1 : RowN n₀ w ya y) (r2 : RowN n₀ w ya' y') (b1 : Byts y) (b2 : Byts y') (n1 : ya = none → y = [] ∧ yc = 0) (n2 : ya' = none → y' = [] ∧ yc' = 0) (r : Int) (hr : ordI y y' = r) :
    Calls Try.prog 20 #[.agg #[.int .u8 5, .bool bo, .int .i64 n, .string t, .slice ya y.length yc, .slice la l.list.length lc, .slice fa f.list.length fc], .agg #[.int .u8 5, .bool bo', .int .i64 n', .string t', .slice ya' y'.length yc', .slice la' l'.list.length lc', .slice fa' f'.list.length fc']] w fun e w' => e = .returned (.int .i64 (r)) ∧ Below w.heap.size w w' := by
  obtain ⟨hf0, hba, hbb⟩ := boxes w (.int .u8 5) (.bool bo) (.int .i64 n) (.string t) (.slice ya y.length yc) (.slice la l.list.length lc) (.slice fa f.list.length fc) (.int .u8 5) (.bool bo') (.int .i64 n') (.string t') (.slice ya' y'.length yc') (.slice la' l'.list.length lc') (.slice fa' f'.list.length fc')
  have HF0 := hide hf0
  have HBa := hide hba
  have HBb := hide hbb
  clear hf0 hba hbb
  have HN := hide (fun W => text_lists y y' W b1 b2)
  rw [hr] at HN
  have hB : Below n₀ w ((w.alloc (.cells #[.int .u8 5, .bool bo, .int .i64 n, .string t, .slice ya y.length yc, .slice la l.list.length lc, .slice fa f.list.length fc] 41)).alloc (.cells #[.int .u8 5, .bool bo', .int .i64 n', .string t', .slice ya' y'.length yc', .slice la' l'.list.length lc', .slice fa' f'.list.length fc'] 41)) := HF0.out.below.mono hn
  have hs : n₀ ≤ ((w.alloc (.cells #[.int .u8 5, .bool bo, .int .i64 n, .string t, .slice ya y.length yc, .slice la l.list.length lc, .slice fa f.list.length fc] 41)).alloc (.cells #[.int .u8 5, .bool bo', .int .i64 n', .string t', .slice ya' y'.length yc', .slice la' l'.list.length lc', .slice fa' f'.list.length fc'] 41)).heap.size := by have := HF0.out.size; omega
  have k1 := run_text ((w.alloc (.cells #[.int .u8 5, .bool bo, .int .i64 n, .string t, .slice ya y.length yc, .slice la l.list.length lc, .slice fa f.list.length fc] 41)).alloc (.cells #[.int .u8 5, .bool bo', .int .i64 n', .string t', .slice ya' y'.length yc', .slice la' l'.list.length lc', .slice fa' f'.list.length fc'] 41)) ya y.length yc y rfl (fun h => by obtain ⟨h1, h2⟩ := n1 h; exact ⟨by rw [h1]; rfl, h2⟩) ((r1.on hB).row hs) b1
  have k2 := run_text ((w.alloc (.cells #[.int .u8 5, .bool bo, .int .i64 n, .string t, .slice ya y.length yc, .slice la l.list.length lc, .slice fa f.list.length fc] 41)).alloc (.cells #[.int .u8 5, .bool bo', .int .i64 n', .string t', .slice ya' y'.length yc', .slice la' l'.list.length lc', .slice fa' f'.list.length fc'] 41)) ya' y'.length yc' y' rfl (fun h => by obtain ⟨h1, h2⟩ := n2 h; exact ⟨by rw [h1]; rfl, h2⟩) ((r2.on hB).row hs) b2
  clear hr r1 r2 b1 b2 n1 n2 hB hs
  go_enter Try.func20, Try.ntmps20
  go_wp2_with fail
  refine (HN.out _).mono ?_
  rintro e V ⟨rfl, rfl⟩
  go_wp2
  go_ret
  exact ⟨rfl, HF0.out.below⟩

set_option maxHeartbeats 3200000 in
set_option maxRecDepth 1000000 in
theorem cmp_bool (w : World) (bo bo' : Bool) (n n' : Int) (t t' : ByteArray) (ya ya' : Option Addr) (yc yc' : Nat) (y y' : List Int) (la la' : Option Addr) (lc lc' : Nat) (l l' : TL) (fa fa' : Option Addr) (fc fc' : Nat) (f f' : FL)  (r : Int) (hr : (if bo = bo' then 0 else if bo' then -1 else 1) = r) :
    Calls Try.prog 20 #[.agg #[.int .u8 2, .bool bo, .int .i64 n, .string t, .slice ya y.length yc, .slice la l.list.length lc, .slice fa f.list.length fc], .agg #[.int .u8 2, .bool bo', .int .i64 n', .string t', .slice ya' y'.length yc', .slice la' l'.list.length lc', .slice fa' f'.list.length fc']] w fun e w' => e = .returned (.int .i64 (r)) ∧ Below w.heap.size w w' := by
  obtain ⟨hf0, hba, hbb⟩ := boxes w (.int .u8 2) (.bool bo) (.int .i64 n) (.string t) (.slice ya y.length yc) (.slice la l.list.length lc) (.slice fa f.list.length fc) (.int .u8 2) (.bool bo') (.int .i64 n') (.string t') (.slice ya' y'.length yc') (.slice la' l'.list.length lc') (.slice fa' f'.list.length fc')
  have HF0 := hide hf0
  have HBa := hide hba
  have HBb := hide hbb
  clear hf0 hba hbb
  cases bo <;> cases bo' <;> simp at hr <;> subst hr
  all_goals
    go_enter Try.func20, Try.ntmps20
    go_wp2
    go_ret
    exact ⟨rfl, HF0.out.below⟩

set_option maxHeartbeats 3200000 in
set_option maxRecDepth 1000000 in
theorem cmp_else (w : World) (k : Int) (bo bo' : Bool) (n n' : Int) (t t' : ByteArray) (ya ya' : Option Addr) (yc yc' : Nat) (y y' : List Int) (la la' : Option Addr) (lc lc' : Nat) (l l' : TL) (fa fa' : Option Addr) (fc fc' : Nat) (f f' : FL) (h2 : k ≠ 2) (h3 : k ≠ 3) (h4 : k ≠ 4) (h5 : k ≠ 5) (h6 : k ≠ 6) (h7 : k ≠ 7) :
    Calls Try.prog 20 #[.agg #[.int .u8 k, .bool bo, .int .i64 n, .string t, .slice ya y.length yc, .slice la l.list.length lc, .slice fa f.list.length fc], .agg #[.int .u8 k, .bool bo', .int .i64 n', .string t', .slice ya' y'.length yc', .slice la' l'.list.length lc', .slice fa' f'.list.length fc']] w fun e w' => e = .returned (.int .i64 0) ∧ Below w.heap.size w w' := by
  obtain ⟨hf0, hba, hbb⟩ := boxes w (.int .u8 k) (.bool bo) (.int .i64 n) (.string t) (.slice ya y.length yc) (.slice la l.list.length lc) (.slice fa f.list.length fc) (.int .u8 k) (.bool bo') (.int .i64 n') (.string t') (.slice ya' y'.length yc') (.slice la' l'.list.length lc') (.slice fa' f'.list.length fc')
  have HF0 := hide hf0
  have HBa := hide hba
  have HBb := hide hbb
  clear hf0 hba hbb
  have d2 : (k == 2) = false := by simp [h2]
  have d3 : (k == 3) = false := by simp [h3]
  have d4 : (k == 4) = false := by simp [h4]
  have d5 : (k == 5) = false := by simp [h5]
  have d6 : (k == 6) = false := by simp [h6]
  have d7 : (k == 7) = false := by simp [h7]
  clear h2 h3 h4 h5 h6 h7
  go_enter Try.func20, Try.ntmps20
  go_wp2
  go_ret
  exact ⟨rfl, HF0.out.below⟩

set_option maxHeartbeats 3200000 in
set_option maxRecDepth 1000000 in
theorem cmp_list (w : World) (bo bo' : Bool) (n n' : Int) (t t' : ByteArray) (ya ya' : Option Addr) (yc yc' : Nat) (y y' : List Int) (la la' : Option Addr) (lc lc' : Nat) (l l' : TL) (fa fa' : Option Addr) (fc fc' : Nat) (f f' : FL) (n₀ : Nat) (hn : n₀ ≤ w.heap.size) (hm : l.Mem n₀ w la 0) (hm' : l'.Mem n₀ w la' 0) (hll : l.list.length ≤ 9223372036854775807) (hll' : l'.list.length ≤ 9223372036854775807) (hi : ∀ c ∈ l.list, ∀ c' ∈ l'.list, ∀ W, c.Mem n₀ W → c'.Mem n₀ W → n₀ ≤ W.heap.size → Calls Try.prog 20 #[c.val, c'.val] W fun e w' => e = .returned (.int .i64 (c.cmp c')) ∧ Below W.heap.size W w') (r : Int) (hr : cmpL l.list l'.list = r) :
    Calls Try.prog 20 #[.agg #[.int .u8 6, .bool bo, .int .i64 n, .string t, .slice ya y.length yc, .slice la l.list.length lc, .slice fa f.list.length fc], .agg #[.int .u8 6, .bool bo', .int .i64 n', .string t', .slice ya' y'.length yc', .slice la' l'.list.length lc', .slice fa' f'.list.length fc']] w fun e w' => e = .returned (.int .i64 (r)) ∧ Below w.heap.size w w' := by
  obtain ⟨hf0, hba, hbb⟩ := boxes w (.int .u8 6) (.bool bo) (.int .i64 n) (.string t) (.slice ya y.length yc) (.slice la l.list.length lc) (.slice fa f.list.length fc) (.int .u8 6) (.bool bo') (.int .i64 n') (.string t') (.slice ya' y'.length yc') (.slice la' l'.list.length lc') (.slice fa' f'.list.length fc')
  have HF0 := hide hf0
  have HBa := hide hba
  have HBb := hide hbb
  clear hf0 hba hbb
  have HM := hide hm
  have HM' := hide hm'
  have HI := hide hi
  have HR := hide hr
  have HN := hide (fun W => number_any (l.list.length : Int) (l'.list.length : Int) W)
  clear hm hm' hi hr
  go_enter Try.func20, Try.ntmps20
  go_wp2
  generalize hbw : w.heap.size = b at *
  have HBW := hide hbw
  clear hbw
  go_loopw [5] (fun i wr => ∃ (j : Nat), i = .int .i64 (j : Int) ∧ j ≤ l.list.length ∧ j ≤ l'.list.length ∧ cmpL (l.list.drop j) (l'.list.drop j) = r ∧ Fr b w wr ∧ Box7 wr b (.int .u8 6) (.bool bo) (.int .i64 n) (.string t) (.slice ya y.length yc) (.slice la l.list.length lc) (.slice fa f.list.length fc) ∧ Box7 wr (b + 1) (.int .u8 6) (.bool bo') (.int .i64 n') (.string t') (.slice ya' y'.length yc') (.slice la' l'.list.length lc') (.slice fa' f'.list.length fc')) (fun i _ => l.list.length - (intOf i).toNat)
  case atStart => exact ⟨0, rfl, by omega, by omega, HR.out, HF0.out, HBa.out, HBb.out⟩
  case round =>
    obtain ⟨j, rfl, hj, hj', hre, hfr, hbx, hbx'⟩ := hrel
    have HRe := hide hre
    have HFr := hide hfr
    have HBx := hide hbx
    have HBx' := hide hbx'
    clear hre hfr hbx hbx' HF0 HBa HBb HR
    obtain ⟨k0, k1, k2, k3, k4, k5, k6⟩ := HBx.out.cells
    obtain ⟨g0, g1, g2, g3, g4, g5, g6⟩ := HBx'.out.cells
    by_cases h1 : j < l.list.length
    · by_cases h2 : j < l'.list.length
      · obtain ⟨c, hc⟩ : ∃ c, l.list[j]? = some c := ⟨_, List.getElem?_eq_getElem h1⟩
        obtain ⟨c', hc'⟩ : ∃ c, l'.list[j]? = some c := ⟨_, List.getElem?_eq_getElem h2⟩
        have HNx := hide (cmpL_next l.list l'.list j c c' hc hc')
        rw [HRe.out] at HNx
        have hB0 : Below n₀ w wr := HFr.out.below.mono hn
        have HMw := hide (HM.out.on hB0)
        have HMw' := hide (HM'.out.on hB0)
        have HIc := hide (HI.out c (List.mem_of_getElem? hc) c' (List.mem_of_getElem? hc') wr.drew ((TL.Mem.at l 0 HMw.out j c hc).2.on ((Below.refl n₀ wr).drew)) ((TL.Mem.at l' 0 HMw'.out j c' hc').2.on ((Below.refl n₀ wr).drew)) (by have h9 := HFr.out.size; have h8 : wr.drew.heap.size = wr.heap.size := rfl; omega))
        have HZb := hide (T.cmp_bd c c')
        generalize c.cmp c' = z at *
        have HBd := hide (HBx.out.below (Below.refl _ _).drew)
        have HBd' := hide (HBx'.out.below (Below.refl _ _).drew)
        have HFd := hide HFr.out.drew
        clear hB0
        cases c with
        | mk ck cbo cn ct cya cyc cy cla clc cl cfa cfc cf =>
        cases c' with
        | mk ck' cbo' cn' ct' cya' cyc' cy' cla' clc' cl' cfa' cfc' cf' =>
        obtain ⟨b1, o1, rfl, hb1, c0, c1, c2, c3, c4, c5, c6⟩ := HMw.out.cells hc
        obtain ⟨b2, o2, rfl, hb2, d0, d1, d2, d3, d4, d5, d6⟩ := HMw'.out.cells hc'
        clear hc hc'
        simp only [T.val] at HIc
        go_wp2
        have hq1 : b < wr.drew.heap.size := HBd.out.lt
        have hq2 : b + 1 < wr.drew.heap.size := HBd'.out.lt
        have hq3 : b1 < wr.drew.heap.size := by omega
        have hq4 : b2 < wr.drew.heap.size := by omega
        have HZ : Hid (∀ V, Below wr.drew.heap.size wr.drew V → V.cell? ⟨b, 5, none⟩ = some (.slice (some ⟨b1, o1, none⟩) l.list.length lc) ∧ V.cell? ⟨b + 1, 5, none⟩ = some (.slice (some ⟨b2, o2, none⟩) l'.list.length lc') ∧ V.cell? ⟨b1, o1 + j * 7, none⟩ = some (.int .u8 ck) ∧ V.cell? ⟨b1, o1 + j * 7 + 1, none⟩ = some (.bool cbo) ∧ V.cell? ⟨b1, o1 + j * 7 + 2, none⟩ = some (.int .i64 cn) ∧ V.cell? ⟨b1, o1 + j * 7 + 3, none⟩ = some (.string ct) ∧ V.cell? ⟨b1, o1 + j * 7 + 4, none⟩ = some (.slice cya cy.length cyc) ∧ V.cell? ⟨b1, o1 + j * 7 + 5, none⟩ = some (.slice cla cl.list.length clc) ∧ V.cell? ⟨b1, o1 + j * 7 + 6, none⟩ = some (.slice cfa cf.list.length cfc) ∧ V.cell? ⟨b2, o2 + j * 7, none⟩ = some (.int .u8 ck') ∧ V.cell? ⟨b2, o2 + j * 7 + 1, none⟩ = some (.bool cbo') ∧ V.cell? ⟨b2, o2 + j * 7 + 2, none⟩ = some (.int .i64 cn') ∧ V.cell? ⟨b2, o2 + j * 7 + 3, none⟩ = some (.string ct') ∧ V.cell? ⟨b2, o2 + j * 7 + 4, none⟩ = some (.slice cya' cy'.length cyc') ∧ V.cell? ⟨b2, o2 + j * 7 + 5, none⟩ = some (.slice cla' cl'.list.length clc') ∧ V.cell? ⟨b2, o2 + j * 7 + 6, none⟩ = some (.slice cfa' cf'.list.length cfc')) := fun V hv => ⟨(hv.cell (p := ⟨b, 5, none⟩) hq1).trans k5, (hv.cell (p := ⟨b + 1, 5, none⟩) hq2).trans g5, (hv.cell (p := ⟨b1, o1 + j * 7, none⟩) hq3).trans c0, (hv.cell (p := ⟨b1, o1 + j * 7 + 1, none⟩) hq3).trans c1, (hv.cell (p := ⟨b1, o1 + j * 7 + 2, none⟩) hq3).trans c2, (hv.cell (p := ⟨b1, o1 + j * 7 + 3, none⟩) hq3).trans c3, (hv.cell (p := ⟨b1, o1 + j * 7 + 4, none⟩) hq3).trans c4, (hv.cell (p := ⟨b1, o1 + j * 7 + 5, none⟩) hq3).trans c5, (hv.cell (p := ⟨b1, o1 + j * 7 + 6, none⟩) hq3).trans c6, (hv.cell (p := ⟨b2, o2 + j * 7, none⟩) hq4).trans d0, (hv.cell (p := ⟨b2, o2 + j * 7 + 1, none⟩) hq4).trans d1, (hv.cell (p := ⟨b2, o2 + j * 7 + 2, none⟩) hq4).trans d2, (hv.cell (p := ⟨b2, o2 + j * 7 + 3, none⟩) hq4).trans d3, (hv.cell (p := ⟨b2, o2 + j * 7 + 4, none⟩) hq4).trans d4, (hv.cell (p := ⟨b2, o2 + j * 7 + 5, none⟩) hq4).trans d5, (hv.cell (p := ⟨b2, o2 + j * 7 + 6, none⟩) hq4).trans d6⟩
        go_region_held3 (fun W => W.cell? ⟨b, 5, none⟩ = some (.slice (some ⟨b1, o1, none⟩) l.list.length lc) ∧ W.cell? ⟨b + 1, 5, none⟩ = some (.slice (some ⟨b2, o2, none⟩) l'.list.length lc') ∧ W.cell? ⟨b1, o1 + j * 7, none⟩ = some (.int .u8 ck) ∧ W.cell? ⟨b1, o1 + j * 7 + 1, none⟩ = some (.bool cbo) ∧ W.cell? ⟨b1, o1 + j * 7 + 2, none⟩ = some (.int .i64 cn) ∧ W.cell? ⟨b1, o1 + j * 7 + 3, none⟩ = some (.string ct) ∧ W.cell? ⟨b1, o1 + j * 7 + 4, none⟩ = some (.slice cya cy.length cyc) ∧ W.cell? ⟨b1, o1 + j * 7 + 5, none⟩ = some (.slice cla cl.list.length clc) ∧ W.cell? ⟨b1, o1 + j * 7 + 6, none⟩ = some (.slice cfa cf.list.length cfc) ∧ W.cell? ⟨b2, o2 + j * 7, none⟩ = some (.int .u8 ck') ∧ W.cell? ⟨b2, o2 + j * 7 + 1, none⟩ = some (.bool cbo') ∧ W.cell? ⟨b2, o2 + j * 7 + 2, none⟩ = some (.int .i64 cn') ∧ W.cell? ⟨b2, o2 + j * 7 + 3, none⟩ = some (.string ct') ∧ W.cell? ⟨b2, o2 + j * 7 + 4, none⟩ = some (.slice cya' cy'.length cyc') ∧ W.cell? ⟨b2, o2 + j * 7 + 5, none⟩ = some (.slice cla' cl'.list.length clc') ∧ W.cell? ⟨b2, o2 + j * 7 + 6, none⟩ = some (.slice cfa' cf'.list.length cfc')) ((refine ⟨?_, ?_, ?_, ?_, ?_, ?_, ?_, ?_, ?_, ?_, ?_, ?_, ?_, ?_, ?_, ?_⟩ <;> assumption)) ((first | (go_at_call 20; refine HIc.out.mono ?_; intro e' V hh; obtain ⟨rfl, hb3⟩ := hh; obtain ⟨z0, z1, z2, z3, z4, z5, z6, z7, z8, z9, z10, z11, z12, z13, z14, z15⟩ := HZ.out _ hb3)))
        have HB3 := hide (HBd.out.below hb3)
        have HB3' := hide (HBd'.out.below hb3)
        have HF3 := hide (HFd.out.on hb3)
        clear hb3 z0 z1 z2 z3 z4 z5 z6 z7 z8 z9 z10 z11 z12 z13 z14 z15 c0 c1 c2 c3 c4 c5 c6 d0 d1 d2 d3 d4 d5 d6 k0 k1 k2 k3 k4 k5 k6 g0 g1 g2 g3 g4 g5 g6
        by_cases hz : z = 0
        · subst hz
          rw [if_pos rfl] at HNx
          go_wp2
          go_roundw
          case rel => exact ⟨j + 1, by go_num, by omega, by omega, HNx.out.symm, HF3.out, HB3.out, HB3'.out⟩
          case measure => simp [intOf]; omega
        · rw [if_neg hz] at HNx
          have hzd : (z == 0) = false := by simp [hz]
          clear hz
          go_wp2
          go_ret
          exact ⟨by rw [HNx.out]; rfl, by rw [HBW.out]; exact HF3.out.below⟩
      · have HE := hide (cmpL_end l.list l'.list j hj hj' (by omega))
        rw [HRe.out] at HE
        go_wp2_with fail
        refine (HN.out _).mono ?_
        rintro e V ⟨rfl, rfl⟩
        go_wp2
        go_ret
        exact ⟨by rw [HE.out]; rfl, by rw [HBW.out]; exact HFr.out.below⟩
    · have HE := hide (cmpL_end l.list l'.list j hj hj' (by omega))
      rw [HRe.out] at HE
      go_wp2_with fail
      refine (HN.out _).mono ?_
      rintro e V ⟨rfl, rfl⟩
      go_wp2
      go_ret
      exact ⟨by rw [HE.out]; rfl, by rw [HBW.out]; exact HFr.out.below⟩

theorem TL.ok_mem : ∀ (l : TL), l.ok → ∀ c ∈ l.list, c.ok
  | .nil, _, c, h => by simp [TL.list] at h
  | .cons v r, ⟨h1, h2⟩, c, h => by
    simp only [TL.list, List.mem_cons] at h
    rcases h with rfl | h
    · exact h1
    · exact TL.ok_mem r h2 c h
theorem cmp_gen (n₀ : Nat) : ∀ (N : Nat) (u v : T), u.sz ≤ N → u.ok → v.ok → u.Szd → v.Szd → ∀ w : World, u.Mem n₀ w → v.Mem n₀ w → n₀ ≤ w.heap.size → Calls Try.prog 20 #[u.val, v.val] w fun e w' => e = .returned (.int .i64 (u.cmp v)) ∧ Below w.heap.size w w' := by
  intro N
  induction N with
  | zero => intro u v hu; cases u; simp [T.sz] at hu
  | succ N ih =>
    intro u v hu hou hov hsu hsv w hmu hmv hn
    cases u with
    | mk k bo n t ya yc y la lc l fa fc f =>
    cases v with
    | mk k' bo' n' t' ya' yc' y' la' lc' l' fa' fc' f' =>
    simp only [T.val]
    by_cases hkk : k = k'
    · subst hkk
      have hou' := hou
      simp only [T.ok] at hou
      rcases hou with rfl | rfl | rfl | rfl | rfl | ⟨rfl, hl⟩
      · have e : (T.mk 1 bo n t ya yc y la lc l fa fc f).cmp (T.mk 1 bo' n' t' ya' yc' y' la' lc' l' fa' fc' f') = 0 := by simp [T.cmp]
        rw [e]
        exact cmp_else w 1 bo bo' n n' t t' ya ya' yc yc' y y' la la' lc lc' l l' fa fa' fc fc' f f' (by omega) (by omega) (by omega) (by omega) (by omega) (by omega)
      · exact cmp_bool w bo bo' n n' t t' ya ya' yc yc' y y' la la' lc lc' l l' fa fa' fc fc' f f' _ (by simp [T.cmp])
      · exact cmp_int w bo bo' n n' t t' ya ya' yc yc' y y' la la' lc lc' l l' fa fa' fc fc' f f' _ (by simp [T.cmp])
      · exact cmp_text w bo bo' n n' t t' ya ya' yc yc' y y' la la' lc lc' l l' fa fa' fc fc' f f' _ (by simp [T.cmp])
      · exact cmp_bytes w bo bo' n n' t t' ya ya' yc yc' y y' la la' lc lc' l l' fa fa' fc fc' f f' n₀ hn hmu.1 hmv.1 hmu.2.1 hmv.2.1 hmu.2.2.1 hmv.2.2.1 _ (by simp [T.cmp])
      · have hl' : l'.ok := by simp only [T.ok] at hov; rcases hov with h | h | h | h | h | ⟨_, h⟩ <;> first | exact h | omega
        refine cmp_list w bo bo' n n' t t' ya ya' yc yc' y y' la la' lc lc' l l' fa fa' fc fc' f f' n₀ hn hmu.2.2.2.2.1 hmv.2.2.2.2.1 hmu.2.2.2.2.2.2.1 hmv.2.2.2.2.2.2.1 ?_ _ (by simp [T.cmp, TL.cmp_is])
        intro c hc c' hc' W m1 m2 hW
        have hz := T.kid_sz (T.mk 6 bo n t ya yc y la lc l fa fc f) c (by simp only [T.kids]; exact List.mem_append_left _ hc)
        exact ih c c' (by omega) (TL.ok_mem l hl c hc) (TL.ok_mem l' hl' c' hc') (TL.Szd.at l hsu.2.2.2.1 c hc) (TL.Szd.at l' hsv.2.2.2.1 c' hc') W m1 m2 hW
    · exact cmp_kinds w k k' bo bo' n n' t t' ya ya' yc yc' y y' la la' lc lc' l l' fa fa' fc fc' f f' hsu.1 hsv.1 hkk _ (by simp [T.cmp, hkk])
end Go.Proofs.Ytegoeaofjnpehaa
