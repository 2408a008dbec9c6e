/- Whether two values are the same, two lists of them: contracts, of any without fields. -/
import Derived.Test.YtegoeaofjnpehaaVW
import Derived.Deep.RegionHeld3
namespace Go.Proofs.Ytegoeaofjnpehaa
open Go.RowKit
set_option linter.unusedVariables false

theorem boxes (w : World) (a0 a1 a2 a3 a4 a5 a6 b0 b1 b2 b3 b4 b5 b6 : Value) : Fr w.heap.size w ((w.alloc (.cells #[a0, a1, a2, a3, a4, a5, a6] 41)).alloc (.cells #[b0, b1, b2, b3, b4, b5, b6] 41)) ∧ Box7 ((w.alloc (.cells #[a0, a1, a2, a3, a4, a5, a6] 41)).alloc (.cells #[b0, b1, b2, b3, b4, b5, b6] 41)) w.heap.size a0 a1 a2 a3 a4 a5 a6 ∧ Box7 ((w.alloc (.cells #[a0, a1, a2, a3, a4, a5, a6] 41)).alloc (.cells #[b0, b1, b2, b3, b4, b5, b6] 41)) (w.heap.size + 1) b0 b1 b2 b3 b4 b5 b6 := by
  refine ⟨((Fr.refl w).alloc _).alloc _, (Box7.new w a0 a1 a2 a3 a4 a5 a6).below (below_alloc _ _), ?_⟩
  have := Box7.new (w.alloc (.cells #[a0, a1, a2, a3, a4, a5, a6] 41)) b0 b1 b2 b3 b4 b5 b6
  rwa [World.size_alloc] at this
set_option maxHeartbeats 800000 in
theorem sameb_any (a b : Option Addr) (len len2 cap cap2 : Nat) (xs ys : List Int) (w : World) (hl : xs.length = len) (hl2 : ys.length = len2) (hbig : len ≤ 9223372036854775807) (hbig2 : len2 ≤ 9223372036854775807) (hr : Row w a xs) (hr2 : Row w b ys) :
    Calls Try.prog 16 #[.slice a len cap, .slice b len2 cap2] w fun e w' => e = .returned (.bool (sameB xs ys)) ∧ Below w.heap.size w w' := by
  have HL := hide hl
  have HL2 := hide hl2
  have HR := hide hr
  have HR2 := hide hr2
  clear hl hl2 hr hr2
  by_cases hne : len = len2
  · subst hne
    have hnb : ((len : Int) != (len : Int)) = false := by simp
    go_enter Try.func16, Try.ntmps16
    go_wp2
    go_loopw [5] (fun i wr => ∃ k : Nat, k ≤ len ∧ i = .int .i64 k ∧ (∀ j, j < k → xs.getD j 0 = ys.getD j 0) ∧ Below w.heap.size w wr) (fun i _ => len - (intOf i).toNat)
    case atStart => exact ⟨0, Nat.zero_le _, rfl, fun j hj => by omega, Below.refl _ _⟩
    case round =>
      obtain ⟨k, hk, rfl, hsame, hbel⟩ := hrel
      have HSm := hide hsame
      have HBel := hide hbel
      clear hsame hbel
      by_cases hlt : k < len
      · have hlk : k < xs.length := by have := HL.out; omega
        have hlk2 : k < ys.length := by have := HL2.out; omega
        rcases HR.out.below HBel.out with h0 | ⟨b1, o1, rfl, _, hc1⟩
        · subst h0; simp at hlk
        rcases HR2.out.below HBel.out with h0 | ⟨b2, o2, rfl, _, hc2⟩
        · subst h0; simp at hlk2
        have g1 := hc1 k hlk
        have g2 := hc2 k hlk2
        clear hc1 hc2 hlk hlk2
        by_cases hcc : xs.getD k 0 = ys.getD k 0
        · have HCc := hide hcc
          rw [hcc] at g1
          clear hcc
          generalize ys.getD k 0 = c at g1 g2
          have hbn : (c != c) = false := by simp
          go_wp2
          go_quiet (fail)
          go_wp2
          go_roundw
          case rel => exact ⟨k + 1, by omega, by go_num, fun j hj => by
            by_cases e : j = k
            · subst e; exact HCc.out
            · exact HSm.out j (by omega), below_drewN HBel.out _⟩
          case measure => simp [intOf]; omega
        · have HCc := hide (sameB_at xs ys k hcc)
          have hbn : (xs.getD k 0 != ys.getD k 0) = true := by rw [bne_iff_ne]; exact hcc
          clear hcc
          generalize xs.getD k 0 = c at *
          generalize ys.getD k 0 = d at *
          go_wp2
          go_quiet (fail)
          go_wp2
          go_ret
          exact ⟨by rw [HCc.out]; rfl, below_drewN HBel.out _⟩
      · have HAll := hide (sameB_all xs ys (by rw [HL.out, HL2.out]) (fun i hi => HSm.out i (by have := HL.out; omega)))
        go_wp2
        go_ret
        exact ⟨by rw [HAll.out]; rfl, HBel.out⟩
  · have HS := hide (sameB_len xs ys (by rw [HL.out, HL2.out]; exact hne))
    have hnb : ((len : Int) != (len2 : Int)) = true := by rw [bne_iff_ne]; omega
    go_enter Try.func16, Try.ntmps16
    go_wp2
    go_ret
    exact ⟨by rw [HS.out]; rfl, Below.refl _ _⟩

mutual
/-- are two values the same, but for where they lie? -/
def T.same : T → T → Bool
  | .mk k bo n t _ _ y _ _ l _ _ f, .mk k' bo' n' t' _ _ y' _ _ l' _ _ f' => decide (k = k') && (decide (bo = bo') && (decide (n = n') && (decide (t = t') && (sameB y y' && (l.same l' && f.same f')))))
def TL.same : TL → TL → Bool
  | .nil, .nil => true
  | .cons u r, .cons v s => u.same v && r.same s
  | _, _ => false
def FL.same : FL → FL → Bool
  | .nil, .nil => true
  | .cons a u r, .cons b v s => decide (a = b) && (u.same v && r.same s)
  | _, _ => false
end
def sameL : List T → List T → Bool
  | [], [] => true
  | u :: a, v :: b => u.same v && sameL a b
  | _, _ => false
theorem TL.same_is : ∀ (l m : TL), l.same m = sameL l.list m.list
  | .nil, .nil => by simp [TL.same, TL.list, sameL]
  | .nil, .cons _ _ => by simp [TL.same, TL.list, sameL]
  | .cons _ _, .nil => by simp [TL.same, TL.list, sameL]
  | .cons u r, .cons v s => by simp only [TL.same, TL.list, sameL, TL.same_is r s]
theorem sameL_len : ∀ (l m : List T), l.length ≠ m.length → sameL l m = false
  | [], [], h => by simp at h
  | [], _ :: _, _ => rfl
  | _ :: _, [], _ => rfl
  | u :: a, v :: b, h => by simp only [sameL, sameL_len a b (by simpa using h), Bool.and_false]
theorem sameL_next (l m : List T) (j : Nat) (u v : T) (hu : l[j]? = some u) (hv : m[j]? = some v) : sameL (l.drop j) (m.drop j) = (u.same v && sameL (l.drop (j + 1)) (m.drop (j + 1))) := by
  obtain ⟨hj, rfl⟩ := List.getElem?_eq_some_iff.1 hu
  obtain ⟨hj', rfl⟩ := List.getElem?_eq_some_iff.1 hv
  conv => lhs; rw [List.drop_eq_getElem_cons hj, List.drop_eq_getElem_cons hj']
  rw [sameL]
theorem sameL_end (l m : List T) (j : Nat) (h : l.length = m.length) (hj : l.length ≤ j) : sameL (l.drop j) (m.drop j) = true := by
  rw [List.drop_eq_nil_of_le hj, List.drop_eq_nil_of_le (by omega : m.length ≤ j)]; rfl
mutual
/-- no fields, here and in the lists below. -/
def T.nf : T → Prop
  | .mk _ _ _ _ _ _ _ _ _ l _ _ f => f.list = [] ∧ l.nf
def TL.nf : TL → Prop
  | .nil => True
  | .cons v r => v.nf ∧ r.nf
end
theorem TL.nf_mem : ∀ (l : TL), l.nf → ∀ c ∈ l.list, c.nf
  | .nil, _, c, h => by simp [TL.list] at h
  | .cons v r, ⟨h1, h2⟩, c, h => by
    simp only [TL.list, List.mem_cons] at h
    rcases h with rfl | h
    · exact h1
    · exact TL.nf_mem r h2 c h
theorem FL.nil_of (f : FL) (h : f.list = []) : f = .nil := by
  cases f with
  | nil => rfl
  | cons s v r => simp [FL.list] at h
set_option maxHeartbeats 1600000 in
set_option maxRecDepth 1000000 in
theorem samef_none (fa fa' : Option Addr) (fc fc' : Nat) (w : World) : Calls Try.prog 28 #[.slice fa 0 fc, .slice fa' 0 fc'] w fun e w' => e = .returned (.bool true) ∧ w' = w := by
  go_enter Try.func28, Try.ntmps28
  go_wp2
  go_loopw [5] (fun i wr => i = .int .i64 0 ∧ wr = w) (fun i _ => 0)
  case atStart => exact ⟨rfl, rfl⟩
  case round =>
    obtain ⟨rfl, rfl⟩ := hrel
    go_wp2
    go_ret
    exact ⟨rfl, rfl⟩
set_option maxHeartbeats 3200000 in
set_option maxRecDepth 1000000 in
theorem sames_step (n₀ : Nat) (w : World) (la la' : Option Addr) (lc lc' : Nat) (l l' : TL) (hn : n₀ ≤ w.heap.size) (hm : l.Mem n₀ w la 0) (hm' : l'.Mem n₀ w la' 0) (hll : l.list.length ≤ 9223372036854775807) (hll' : l'.list.length ≤ 9223372036854775807) (hi : ∀ c ∈ l.list, ∀ c' ∈ l'.list, ∀ W, c.Mem n₀ W → c'.Mem n₀ W → n₀ ≤ W.heap.size → Calls Try.prog 15 #[c.val, c'.val] W fun e w' => e = .returned (.bool (c.same c')) ∧ Below W.heap.size W w') (r : Bool) (hr : sameL l.list l'.list = r) :
    Calls Try.prog 12 #[.slice la l.list.length lc, .slice la' l'.list.length lc'] w fun e w' => e = .returned (.bool r) ∧ Below w.heap.size w w' := by
  have HF0 := hide (Fr.refl w)
  have HM := hide hm
  have HM' := hide hm'
  have HI := hide hi
  have HR := hide hr
  clear hm hm' hi hr
  generalize hbw : w.heap.size = b at *
  have HBW := hide hbw
  clear hbw
  by_cases hne : l.list.length = l'.list.length
  · have hnb : ((l.list.length : Int) != (l'.list.length : Int)) = false := by simp [hne]
    have HNe := hide hne
    clear hne
    go_enter Try.func12, Try.ntmps12
    go_wp2
    go_loopw [5] (fun i wr => ∃ (j : Nat), i = .int .i64 (j : Int) ∧ j ≤ l.list.length ∧ sameL (l.list.drop j) (l'.list.drop j) = r ∧ Fr b w wr) (fun i _ => l.list.length - (intOf i).toNat)
    case atStart => exact ⟨0, rfl, by omega, HR.out, HF0.out⟩
    case round =>
      obtain ⟨j, rfl, hj, hre, hfr⟩ := hrel
      have HRe := hide hre
      have HFr := hide hfr
      clear hre hfr HF0 HR
      by_cases h1 : j < l.list.length
      · have h2 : j < l'.list.length := by have := HNe.out; omega
        obtain ⟨c, hc⟩ : ∃ c, l.list[j]? = some c := ⟨_, List.getElem?_eq_getElem h1⟩
        obtain ⟨c', hc'⟩ : ∃ c, l'.list[j]? = some c := ⟨_, List.getElem?_eq_getElem h2⟩
        have HNx := hide (sameL_next l.list l'.list j c c' hc hc')
        rw [HRe.out] at HNx
        have hB0 : Below n₀ w wr := HFr.out.below.mono hn
        have HMw := hide (HM.out.on hB0)
        have HMw' := hide (HM'.out.on hB0)
        have HIc := hide (HI.out c (List.mem_of_getElem? hc) c' (List.mem_of_getElem? hc') wr.drew ((TL.Mem.at l 0 HMw.out j c hc).2.on ((Below.refl n₀ wr).drew)) ((TL.Mem.at l' 0 HMw'.out j c' hc').2.on ((Below.refl n₀ wr).drew)) (by have h9 := HFr.out.size; have h8 : wr.drew.heap.size = wr.heap.size := rfl; omega))
        generalize c.same c' = z at *
        have HFd := hide HFr.out.drew
        clear hB0
        cases c with
        | mk ck cbo cn ct cya cyc cy cla clc cl cfa cfc cf =>
        cases c' with
        | mk ck' cbo' cn' ct' cya' cyc' cy' cla' clc' cl' cfa' cfc' cf' =>
        obtain ⟨b1, o1, rfl, hb1, c0, c1, c2, c3, c4, c5, c6⟩ := HMw.out.cells hc
        obtain ⟨b2, o2, rfl, hb2, d0, d1, d2, d3, d4, d5, d6⟩ := HMw'.out.cells hc'
        clear hc hc'
        simp only [T.val] at HIc
        have hq3 : b1 < wr.drew.heap.size := by have h9 := HFr.out.size; have h8 : wr.drew.heap.size = wr.heap.size := rfl; omega
        have hq4 : b2 < wr.drew.heap.size := by have h9 := HFr.out.size; have h8 : wr.drew.heap.size = wr.heap.size := rfl; omega
        have HZ : Hid (∀ V, Below wr.drew.heap.size wr.drew V → V.cell? ⟨b1, o1 + j * 7, none⟩ = some (.int .u8 ck) ∧ V.cell? ⟨b1, o1 + j * 7 + 1, none⟩ = some (.bool cbo) ∧ V.cell? ⟨b1, o1 + j * 7 + 2, none⟩ = some (.int .i64 cn) ∧ V.cell? ⟨b1, o1 + j * 7 + 3, none⟩ = some (.string ct) ∧ V.cell? ⟨b1, o1 + j * 7 + 4, none⟩ = some (.slice cya cy.length cyc) ∧ V.cell? ⟨b1, o1 + j * 7 + 5, none⟩ = some (.slice cla cl.list.length clc) ∧ V.cell? ⟨b1, o1 + j * 7 + 6, none⟩ = some (.slice cfa cf.list.length cfc) ∧ V.cell? ⟨b2, o2 + j * 7, none⟩ = some (.int .u8 ck') ∧ V.cell? ⟨b2, o2 + j * 7 + 1, none⟩ = some (.bool cbo') ∧ V.cell? ⟨b2, o2 + j * 7 + 2, none⟩ = some (.int .i64 cn') ∧ V.cell? ⟨b2, o2 + j * 7 + 3, none⟩ = some (.string ct') ∧ V.cell? ⟨b2, o2 + j * 7 + 4, none⟩ = some (.slice cya' cy'.length cyc') ∧ V.cell? ⟨b2, o2 + j * 7 + 5, none⟩ = some (.slice cla' cl'.list.length clc') ∧ V.cell? ⟨b2, o2 + j * 7 + 6, none⟩ = some (.slice cfa' cf'.list.length cfc')) := fun V hv => ⟨(hv.cell (p := ⟨b1, o1 + j * 7, none⟩) hq3).trans c0, (hv.cell (p := ⟨b1, o1 + j * 7 + 1, none⟩) hq3).trans c1, (hv.cell (p := ⟨b1, o1 + j * 7 + 2, none⟩) hq3).trans c2, (hv.cell (p := ⟨b1, o1 + j * 7 + 3, none⟩) hq3).trans c3, (hv.cell (p := ⟨b1, o1 + j * 7 + 4, none⟩) hq3).trans c4, (hv.cell (p := ⟨b1, o1 + j * 7 + 5, none⟩) hq3).trans c5, (hv.cell (p := ⟨b1, o1 + j * 7 + 6, none⟩) hq3).trans c6, (hv.cell (p := ⟨b2, o2 + j * 7, none⟩) hq4).trans d0, (hv.cell (p := ⟨b2, o2 + j * 7 + 1, none⟩) hq4).trans d1, (hv.cell (p := ⟨b2, o2 + j * 7 + 2, none⟩) hq4).trans d2, (hv.cell (p := ⟨b2, o2 + j * 7 + 3, none⟩) hq4).trans d3, (hv.cell (p := ⟨b2, o2 + j * 7 + 4, none⟩) hq4).trans d4, (hv.cell (p := ⟨b2, o2 + j * 7 + 5, none⟩) hq4).trans d5, (hv.cell (p := ⟨b2, o2 + j * 7 + 6, none⟩) hq4).trans d6⟩
        go_wp2
        go_region_held3 (fun W => W.cell? ⟨b1, o1 + j * 7, none⟩ = some (.int .u8 ck) ∧ W.cell? ⟨b1, o1 + j * 7 + 1, none⟩ = some (.bool cbo) ∧ W.cell? ⟨b1, o1 + j * 7 + 2, none⟩ = some (.int .i64 cn) ∧ W.cell? ⟨b1, o1 + j * 7 + 3, none⟩ = some (.string ct) ∧ W.cell? ⟨b1, o1 + j * 7 + 4, none⟩ = some (.slice cya cy.length cyc) ∧ W.cell? ⟨b1, o1 + j * 7 + 5, none⟩ = some (.slice cla cl.list.length clc) ∧ W.cell? ⟨b1, o1 + j * 7 + 6, none⟩ = some (.slice cfa cf.list.length cfc) ∧ W.cell? ⟨b2, o2 + j * 7, none⟩ = some (.int .u8 ck') ∧ W.cell? ⟨b2, o2 + j * 7 + 1, none⟩ = some (.bool cbo') ∧ W.cell? ⟨b2, o2 + j * 7 + 2, none⟩ = some (.int .i64 cn') ∧ W.cell? ⟨b2, o2 + j * 7 + 3, none⟩ = some (.string ct') ∧ W.cell? ⟨b2, o2 + j * 7 + 4, none⟩ = some (.slice cya' cy'.length cyc') ∧ W.cell? ⟨b2, o2 + j * 7 + 5, none⟩ = some (.slice cla' cl'.list.length clc') ∧ W.cell? ⟨b2, o2 + j * 7 + 6, none⟩ = some (.slice cfa' cf'.list.length cfc')) ((refine ⟨?_, ?_, ?_, ?_, ?_, ?_, ?_, ?_, ?_, ?_, ?_, ?_, ?_, ?_⟩ <;> assumption)) ((first | (go_at_call 15; refine HIc.out.mono ?_; intro e' V hh; obtain ⟨rfl, hb3⟩ := hh; obtain ⟨z0, z1, z2, z3, z4, z5, z6, z7, z8, z9, z10, z11, z12, z13⟩ := HZ.out _ hb3)))
        have HF3 := hide (HFd.out.on hb3)
        clear hb3 z0 z1 z2 z3 z4 z5 z6 z7 z8 z9 z10 z11 z12 z13 c0 c1 c2 c3 c4 c5 c6 d0 d1 d2 d3 d4 d5 d6 hq3 hq4
        cases z
        · rw [Bool.false_and] at HNx
          go_wp2
          go_ret
          exact ⟨by rw [HNx.out]; rfl, HF3.out.below⟩
        · rw [Bool.true_and] at HNx
          go_wp2
          go_roundw
          case rel => exact ⟨j + 1, by go_num, by omega, HNx.out.symm, HF3.out⟩
          case measure => simp [intOf]; omega
      · have HE := hide (sameL_end l.list l'.list j HNe.out (by omega))
        rw [HRe.out] at HE
        go_wp2
        go_ret
        exact ⟨by rw [HE.out]; rfl, HFr.out.below⟩
  · have HS := hide (sameL_len l.list l'.list hne)
    rw [HR.out] at HS
    have hnb : ((l.list.length : Int) != (l'.list.length : Int)) = true := by rw [bne_iff_ne]; omega
    go_enter Try.func12, Try.ntmps12
    go_wp2
    go_ret
    exact ⟨by rw [HS.out]; rfl, HF0.out.below⟩
set_option maxHeartbeats 3200000 in
set_option maxRecDepth 1000000 in
theorem samev_step (n₀ : Nat) (w : World) (k k' : Int) (bo bo' : Bool) (n n' : Int) (t t' : ByteArray) (ya ya' : Option Addr) (yc yc' : Nat) (y y' : List Int) (la la' : Option Addr) (lc lc' : Nat) (l l' : TL) (fa fa' : Option Addr) (fc fc' : Nat) (f f' : FL) (hn : n₀ ≤ w.heap.size) (r1 : RowN n₀ w ya y) (r2 : RowN n₀ w ya' y') (hy : y.length ≤ 9223372036854775807) (hy' : y'.length ≤ 9223372036854775807)
    (hl : ∀ W, Below n₀ w W → n₀ ≤ W.heap.size → Calls Try.prog 12 #[.slice la l.list.length lc, .slice la' l'.list.length lc'] W fun e w' => e = .returned (.bool (l.same l')) ∧ Below W.heap.size W w')
    (hf : ∀ W, Below n₀ w W → n₀ ≤ W.heap.size → Calls Try.prog 28 #[.slice fa f.list.length fc, .slice fa' f'.list.length fc'] W fun e w' => e = .returned (.bool (f.same f')) ∧ Below W.heap.size W w')
    (r : Bool) (hr : (decide (k = k') && (decide (bo = bo') && (decide (n = n') && (decide (t = t') && (sameB y y' && (l.same l' && f.same f')))))) = r) :
    Calls Try.prog 15 #[.agg #[.int .u8 k, .bool bo, .int .i64 n, .string t, .slice ya y.length yc, .slice la l.list.length lc, .slice fa f.list.length fc], .agg #[.int .u8 k', .bool bo', .int .i64 n', .string t', .slice ya' y'.length yc', .slice la' l'.list.length lc', .slice fa' f'.list.length fc']] w fun e w' => e = .returned (.bool r) ∧ Below w.heap.size w w' := by
  obtain ⟨hf0, hba, hbb⟩ := boxes w (.int .u8 k) (.bool bo) (.int .i64 n) (.string t) (.slice ya y.length yc) (.slice la l.list.length lc) (.slice fa f.list.length fc) (.int .u8 k') (.bool bo') (.int .i64 n') (.string t') (.slice ya' y'.length yc') (.slice la' l'.list.length lc') (.slice fa' f'.list.length fc')
  have HF0 := hide hf0
  have HBa := hide hba
  have HBb := hide hbb
  have HR := hide hr.symm
  have HL := hide hl
  have HFl := hide hf
  have HY := hide (fun W (h : Below n₀ w W) (hs : n₀ ≤ W.heap.size) => sameb_any ya ya' y.length y'.length yc yc' y y' W rfl rfl hy hy' ((r1.on h).row hs) ((r2.on h).row hs))
  clear hf0 hba hbb hr hl hf r1 r2
  by_cases h1 : k = k'
  · subst h1
    have hd1 : (k == k) = true := by simp
    rw [decide_eq_true rfl, Bool.true_and] at HR
    by_cases h2 : bo = bo'
    · subst h2
      rw [decide_eq_true rfl, Bool.true_and] at HR
      have hd2 : (bo == bo) = true := by simp
      by_cases h3 : n = n'
      · subst h3
        rw [decide_eq_true rfl, Bool.true_and] at HR
        have hd3 : (n == n) = true := by simp
        by_cases h4 : t = t'
        · subst h4
          rw [decide_eq_true rfl, Bool.true_and] at HR
          have hd4 := ba_leq t
          have hd4' := ba_beq t
          generalize sameB y y' = s1 at *
          generalize l.same l' = s2 at *
          generalize f.same f' = s3 at *
          go_enter Try.func15, Try.ntmps15
          go_wp2_with fail
          refine (HY.out _ (HF0.out.below.mono hn) (by have := HF0.out.size; omega)).mono ?_
          rintro e W1 ⟨rfl, hb1⟩
          have HF1 := hide (HF0.out.on hb1)
          have HBa1 := hide (HBa.out.below hb1)
          have HBb1 := hide (HBb.out.below hb1)
          clear hb1 HF0 HBa HBb
          obtain ⟨p0, p1, p2, p3, p4, p5, p6⟩ := HBa1.out.cells
          obtain ⟨q0, q1, q2, q3, q4, q5, q6⟩ := HBb1.out.cells
          cases s1
          · rw [Bool.false_and] at HR
            go_wp2
            go_ret
            exact ⟨by rw [HR.out]; rfl, HF1.out.below⟩
          · rw [Bool.true_and] at HR
            go_wp2_with fail
            refine (HL.out _ (HF1.out.below.mono hn) (by have := HF1.out.size; omega)).mono ?_
            rintro e W2 ⟨rfl, hb2⟩
            have HF2 := hide (HF1.out.on hb2)
            have HBa2 := hide (HBa1.out.below hb2)
            have HBb2 := hide (HBb1.out.below hb2)
            clear hb2 HF1 HBa1 HBb1 p0 p1 p2 p3 p4 p5 p6 q0 q1 q2 q3 q4 q5 q6
            obtain ⟨p0, p1, p2, p3, p4, p5, p6⟩ := HBa2.out.cells
            obtain ⟨q0, q1, q2, q3, q4, q5, q6⟩ := HBb2.out.cells
            cases s2
            · rw [Bool.false_and] at HR
              go_wp2
              go_ret
              exact ⟨by rw [HR.out]; rfl, HF2.out.below⟩
            · rw [Bool.true_and] at HR
              go_wp2_with fail
              refine (HFl.out _ (HF2.out.below.mono hn) (by have := HF2.out.size; omega)).mono ?_
              rintro e W3 ⟨rfl, hb3⟩
              have HF3 := hide (HF2.out.on hb3)
              clear hb3
              cases s3
              · go_wp2
                go_ret
                exact ⟨by rw [HR.out]; rfl, HF3.out.below⟩
              · go_wp2
                go_ret
                exact ⟨by rw [HR.out]; rfl, HF3.out.below⟩
        · have hd4 := ba_lne t t' h4
          rw [decide_eq_false h4, Bool.false_and] at HR
          go_enter Try.func15, Try.ntmps15
          go_wp2
          go_ret
          exact ⟨by rw [HR.out]; rfl, HF0.out.below⟩
      · have hd3 : (n == n') = false := by simp [h3]
        rw [decide_eq_false h3, Bool.false_and] at HR
        go_enter Try.func15, Try.ntmps15
        go_wp2
        go_ret
        exact ⟨by rw [HR.out]; rfl, HF0.out.below⟩
    · have hd2 : (bo == bo') = false := by simp [h2]
      rw [decide_eq_false h2, Bool.false_and] at HR
      go_enter Try.func15, Try.ntmps15
      go_wp2
      go_ret
      exact ⟨by rw [HR.out]; rfl, HF0.out.below⟩
  · have hd1 : (k == k') = false := by simp [h1]
    rw [decide_eq_false h1, Bool.false_and] at HR
    go_enter Try.func15, Try.ntmps15
    go_wp2
    go_ret
    exact ⟨by rw [HR.out]; rfl, HF0.out.below⟩
theorem samev_gen (n₀ : Nat) : ∀ (N : Nat) (u v : T), u.sz ≤ N → u.nf → v.nf → ∀ w : World, u.Mem n₀ w → v.Mem n₀ w → n₀ ≤ w.heap.size → Calls Try.prog 15 #[u.val, v.val] w fun e w' => e = .returned (.bool (u.same v)) ∧ Below w.heap.size w w' := by
  intro N
  induction N with
  | zero => intro u v hu; cases u; simp [T.sz] at hu
  | succ N ih =>
    intro u v hu nu nv w hmu hmv hn
    cases u with
    | mk k bo n t ya yc y la lc l fa fc f =>
    cases v with
    | mk k' bo' n' t' ya' yc' y' la' lc' l' fa' fc' f' =>
    simp only [T.val]
    refine samev_step n₀ w k k' bo bo' n n' t t' ya ya' yc yc' y y' la la' lc lc' l l' fa fa' fc fc' f f' hn hmu.1 hmv.1 hmu.2.2.2.1 hmv.2.2.2.1 ?_ ?_ _ (by simp only [T.same])
    · intro W hW hs
      refine sames_step n₀ W la la' lc lc' l l' hs (hmu.2.2.2.2.1.on hW) (hmv.2.2.2.2.1.on hW) hmu.2.2.2.2.2.2.1 hmv.2.2.2.2.2.2.1 ?_ _ (TL.same_is l l').symm
      intro c hc c' hc' W' m1 m2 h'
      have hz := T.kid_sz (T.mk k bo n t ya yc y la lc l fa fc f) c (by simp only [T.kids]; exact List.mem_append_left _ hc)
      exact ih c c' (by omega) (TL.nf_mem l nu.2 c hc) (TL.nf_mem l' nv.2 c' hc') W' m1 m2 h'
    · intro W hW hs
      have e1 := FL.nil_of f nu.1
      have e2 := FL.nil_of f' nv.1
      subst e1
      subst e2
      exact (samef_none fa fa' fc fc' W).mono (fun e w' h => ⟨by rw [h.1]; simp [FL.same], by rw [h.2]; exact Below.refl _ _⟩)
theorem sames_gen (n₀ : Nat) (w : World) (la la' : Option Addr) (lc lc' : Nat) (l l' : TL) (hn : n₀ ≤ w.heap.size) (hm : l.Mem n₀ w la 0) (hm' : l'.Mem n₀ w la' 0) (hll : l.list.length ≤ 9223372036854775807) (hll' : l'.list.length ≤ 9223372036854775807) (nl : ∀ c ∈ l.list, c.nf) (nl' : ∀ c ∈ l'.list, c.nf) (r : Bool) (hr : sameL l.list l'.list = r) :
    Calls Try.prog 12 #[.slice la l.list.length lc, .slice la' l'.list.length lc'] w fun e w' => e = .returned (.bool r) ∧ Below w.heap.size w w' :=
  sames_step n₀ w la la' lc lc' l l' hn hm hm' hll hll' (fun c hc c' hc' W m1 m2 h => samev_gen n₀ c.sz c c' (Nat.le_refl _) (nl c hc) (nl' c' hc') W m1 m2 h) r hr
end Go.Proofs.Ytegoeaofjnpehaa
