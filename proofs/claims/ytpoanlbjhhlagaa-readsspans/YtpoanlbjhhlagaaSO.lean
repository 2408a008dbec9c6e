/- slices.SortFunc of a row of spans. -/
import Derived.Test.YtpoanlbjhhlagaaTG
import Derived.Shelf.SlSortCmp.WholeK
namespace Go.Proofs.Ytpoanlbjhhlagaa
open Go.RowKit Go.Maps Go.Shelf
set_option linter.unusedVariables false

def Try.sortSp_ren : Go.Shelf.Ren := ⟨fun | 6 => 69 | 15 => 75 | 14 => 74 | 28 => 84 | 29 => 85 | 20 => 76 | 21 => 77 | 22 => 78 | 23 => 79 | 24 => 80 | 25 => 81 | 26 => 82 | 27 => 83 | 46 => 86 | 47 => 87 | 48 => 88 | 49 => 89 | 50 => 90 | 57 => 91 | n => n, fun | 22 => 23 | 24 => 65 | 25 => 80 | 3 => 3 | 39 => 108 | 0 => 0 | 53 => 117 | 55 => 115 | 4 => 4 | 46 => 159 | 45 => 158 | 50 => 76 | 5 => 5 | 9 => 9 | 66 => 166 | 70 => 170 | 76 => 172 | 77 => 173 | n => n, fun | n => n⟩
theorem Try.sortSp : Go.Proofs.SlLaysF0.n6 Try.prog Try.sortSp_ren := {
  mixed := by kernel_rfl
  f6 := ⟨Try.f69.name, by decide, Try.func69.trans (congrArg some (by kernel_rfl))⟩
  f14 := ⟨Try.f74.name, by decide, Try.func74.trans (congrArg some (by kernel_rfl))⟩
  f15 := Try.func75.trans (congrArg some (by kernel_rfl))
  f20 := ⟨Try.f76.name, by decide, Try.func76.trans (congrArg some (by kernel_rfl))⟩
  f21 := ⟨Try.f77.name, by decide, Try.func77.trans (congrArg some (by kernel_rfl))⟩
  f22 := ⟨Try.f78.name, by decide, Try.func78.trans (congrArg some (by kernel_rfl))⟩
  f23 := ⟨Try.f79.name, by decide, Try.func79.trans (congrArg some (by kernel_rfl))⟩
  f24 := ⟨Try.f80.name, by decide, Try.func80.trans (congrArg some (by kernel_rfl))⟩
  f25 := ⟨Try.f81.name, by decide, Try.func81.trans (congrArg some (by kernel_rfl))⟩
  f26 := ⟨Try.f82.name, by decide, Try.func82.trans (congrArg some (by kernel_rfl))⟩
  f27 := ⟨Try.f83.name, by decide, Try.func83.trans (congrArg some (by kernel_rfl))⟩
  f28 := Try.func84.trans (congrArg some (by kernel_rfl))
  f29 := Try.func85.trans (congrArg some (by kernel_rfl))
  f46 := ⟨Try.f86.name, by decide, Try.func86.trans (congrArg some (by kernel_rfl))⟩
  f47 := Try.func87.trans (congrArg some (by kernel_rfl))
  f48 := Try.func88.trans (congrArg some (by kernel_rfl))
  f49 := ⟨Try.f89.name, by decide, Try.func89.trans (congrArg some (by kernel_rfl))⟩
  f50 := ⟨Try.f90.name, by decide, Try.func90.trans (congrArg some (by kernel_rfl))⟩
  f57 := ⟨Try.f91.name, by decide, Try.func91.trans (congrArg some (by kernel_rfl))⟩
  t0 := Try.underlying0
  a0 := Try.isAgg0
  z0 := Try.sizeOf0
  v0 := Try.zeroValue0
  t3 := Try.underlying3
  a3 := Try.isAgg3
  z3 := Try.sizeOf3
  v3 := Try.zeroValue3
  t4 := Try.underlying4
  a4 := Try.isAgg4
  z4 := Try.sizeOf4
  v4 := Try.zeroValue4
  t5 := Try.underlying5
  a5 := Try.isAgg5
  z5 := Try.sizeOf5
  v5 := Try.zeroValue5
  t9 := Try.underlying9
  a9 := Try.isAgg9
  z9 := Try.sizeOf9
  v9 := Try.zeroValue9
  t22 := Try.underlying23
  a22 := Try.isAgg23
  z22 := Try.sizeOf23
  v22 := Try.zeroValue23
  t25 := Try.underlying80
  a25 := Try.isAgg80
  z25 := Try.sizeOf80
  v25 := Try.zeroValue80
  t39 := Try.underlying108
  a39 := Try.isAgg108
  z39 := Try.sizeOf108
  v39 := Try.zeroValue108
  t45 := Try.underlying158
  a45 := Try.isAgg158
  z45 := Try.sizeOf158
  v45 := Try.zeroValue158
  t46 := Try.underlying159
  a46 := Try.isAgg159
  z46 := Try.sizeOf159
  v46 := Try.zeroValue159
  t50 := Try.underlying76
  a50 := Try.isAgg76
  z50 := Try.sizeOf76
  v50 := Try.zeroValue76
  t53 := Try.underlying117
  a53 := Try.isAgg117
  z53 := Try.sizeOf117
  v53 := Try.zeroValue117
  t55 := Try.underlying115
  a55 := Try.isAgg115
  z55 := Try.sizeOf115
  v55 := Try.zeroValue115
  t66 := Try.underlying166
  a66 := Try.isAgg166
  z66 := Try.sizeOf166
  v66 := Try.zeroValue166
  t70 := Try.underlying170
  a70 := Try.isAgg170
  z70 := Try.sizeOf170
  v70 := Try.zeroValue170
  t76 := Try.underlying172
  a76 := Try.isAgg172
  z76 := Try.sizeOf172
  v76 := Try.zeroValue172
  t77 := Try.underlying173
  a77 := Try.isAgg173
  z77 := Try.sizeOf173
  v77 := Try.zeroValue173 }
set_option maxHeartbeats 1600000 in
set_option maxRecDepth 1000000 in
theorem byFrom_exact (x y : En) (w : World) (hx : x.Ok w) (hy : y.Ok w) :
    Calls Try.prog 35 #[.agg #[.slice x.ka x.e.key.length x.kc, .slice x.va x.e.val.length x.vc, .bool x.e.del], .agg #[.slice y.ka y.e.key.length y.kc, .slice y.va y.e.val.length y.vc, .bool y.e.del]] w fun e w' => e = .returned (.int .i64 (ordI x.e.key y.e.key)) ∧ w' = (w.alloc (.cells #[.slice x.ka x.e.key.length x.kc, .slice x.va x.e.val.length x.vc, .bool x.e.del] 65)).alloc (.cells #[.slice y.ka y.e.key.length y.kc, .slice y.va y.e.val.length y.vc, .bool y.e.del] 65) := by
  obtain ⟨w1, hw1⟩ : ∃ w1, w1 = w.alloc (.cells #[.slice x.ka x.e.key.length x.kc, .slice x.va x.e.val.length x.vc, .bool x.e.del] 65) := ⟨_, rfl⟩
  have hb1 : Below w.heap.size w w1 := by rw [hw1]; exact below_alloc _ _
  obtain ⟨w2, hw2⟩ : ∃ w2, w2 = w1.alloc (.cells #[.slice y.ka y.e.key.length y.kc, .slice y.va y.e.val.length y.vc, .bool y.e.del] 65) := ⟨_, rfl⟩
  have hb2 : Below w.heap.size w w2 := by rw [hw2]; exact hb1.alloc hb1.size _
  have hs1 : w1.heap.size = w.heap.size + 1 := by rw [hw1]; simp
  have c1 : w2.heap[w.heap.size]? = some (.cells #[.slice x.ka x.e.key.length x.kc, .slice x.va x.e.val.length x.vc, .bool x.e.del] 65 (0, 0)) := by
    rw [hw2, Below.heap_alloc _ _ _ (by omega), hw1]; exact heap_alloc_new w _
  have c2 : w2.heap[w1.heap.size]? = some (.cells #[.slice y.ka y.e.key.length y.kc, .slice y.va y.e.val.length y.vc, .bool y.e.del] 65 (0, 0)) := by rw [hw2]; exact heap_alloc_new w1 _
  have x0 : w2.cell? ⟨w.heap.size, 0, none⟩ = some (.slice x.ka x.e.key.length x.kc) := by simp [World.cell?, c1]
  have y0 : w2.cell? ⟨w1.heap.size, 0, none⟩ = some (.slice y.ka y.e.key.length y.kc) := by simp [World.cell?, c2]
  have HC := hide (compare_any (hx.key.below hb2) (hy.key.below hb2))
  have HB := hide hb2
  clear hx hy hb1 hb2 c1 c2
  rw [hs1] at y0
  clear hs1
  subst hw2
  subst hw1
  go_enter Try.func35, Try.ntmps35
  go_wp2_with (go_at_call 68; refine HC.out.mono ?_; rintro r' w3 ⟨rfl, rfl⟩)
  go_ret
  exact ⟨rfl, rfl⟩

/-- spans of a set's, in one world. -/
abbrev Sp (B : Nat) (w : World) := {x : En // x.Lo B w}
def encS {B : Nat} {w : World} (x : Sp B w) : List Value := x.1.cells
instance sp_inh (B : Nat) (w : World) : Inhabited (Sp B w) := ⟨⟨⟨⟨[], [], false⟩, none, 0, none, 0⟩, Own.nil _, Own.nil _, fun k hk => by simp [Value.ownBlock] at hk, fun k hk => by simp [Value.ownBlock] at hk, by intro c hc; simp at hc, by intro c hc; simp at hc⟩⟩
def cfS {B : Nat} {w : World} (x y : Sp B w) : Int := ordI x.1.e.key y.1.e.key
theorem swoS (B : Nat) (w : World) : Sort.SWO (ltOf (cfS (B := B) (w := w))) where
  irrefl x := by unfold ltOf cfS; rw [ordI_self]; rfl
  trans x y z h1 h2 := by
    unfold ltOf cfS at *
    simp only [decide_eq_true_eq] at *
    exact ordI_trans_lt _ _ _ h1 (Int.le_of_lt h2)
  ntrans x y z h1 h2 := by
    unfold ltOf cfS at *
    simp only [decide_eq_false_iff_not, Int.not_lt] at *
    have a1 := ordI_anti x.1.e.key y.1.e.key
    have a2 := ordI_anti y.1.e.key z.1.e.key
    have a3 := ordI_anti x.1.e.key z.1.e.key
    have := ordI_trans z.1.e.key y.1.e.key x.1.e.key (by omega) (by omega)
    omega
theorem flat_is {B : Nat} {w : World} (d : Array (Sp B w)) : (Sort.flatK encS 3 d).toList = rowc (d.toList.map Subtype.val) := by
  apply List.ext_getElem?
  intro t
  by_cases ht : t < d.size * 3
  · have hk : t / 3 < d.size := by omega
    have hj : t % 3 < 3 := Nat.mod_lt _ (by omega)
    have h1 : (Sort.flatK encS 3 d)[t]! = (encS d[t / 3]!)[t % 3]! := Sort.get_flatK encS 3 d t ht
    have hs : t < (Sort.flatK encS 3 d).size := by simpa using ht
    rw [getElem!_pos _ t hs] at h1
    rw [Array.getElem?_toList, Array.getElem?_eq_getElem hs, h1]
    have hx : (d.toList.map Subtype.val)[t / 3]? = some (d[t / 3]!).1 := by
      rw [List.getElem?_map, Array.getElem?_toList, Array.getElem?_eq_getElem hk, getElem!_pos d _ hk]; rfl
    have hu : ((d[t / 3]!).1.cells)[t % 3]? = some ((encS d[t / 3]!)[t % 3]!) := by
      have hl : t % 3 < (encS d[t / 3]!).length := by show t % 3 < 3; exact hj
      rw [getElem!_pos (encS d[t / 3]!) (t % 3) hl]
      exact List.getElem?_eq_getElem hl
    have := rowc_at hx hu
    rw [show t / 3 * 3 + t % 3 = t by omega] at this
    exact this.symm
  · rw [List.getElem?_eq_none (by simp; omega), List.getElem?_eq_none (by rw [rowc_len]; simp; omega)]
theorem sw_block {B : Nat} {w : World} {g m k : Nat} {dk : Array (Sp B w)} {os : Array Obj} (hk : k < w.heap.size) : (sortWorldK encS 3 w g 0 m dk os).heap[k]? = if g = k then (w.heap[k]?).map (Sort.onCells (Sort.putCells id 0 (Sort.flatK encS 3 dk))) else w.heap[k]? := by
  show ((w.heap.modify g (Sort.onCells (Sort.putCells id 0 (Sort.flatK encS 3 dk)))) ++ os)[k]? = _
  rw [Array.getElem?_append_left (by simpa using hk), Array.getElem?_modify]
theorem Sp.byFrom {B : Nat} {w : World} {g : Nat} (hg : ∃ cur, w.heap[g]? = some (.cells cur 65 (0, 0))) (size : Nat) : CmpLays Try.prog 35 #[] (encS (B := B) (w := w)) 3 cfS g 0 size w := by
  intro m os dk hsz x y
  have hW : ∀ z : Sp B w, z.1.Ok (sortWorldK encS 3 w g 0 m dk os) := fun z => by
    refine (z.2.of_block fun k hk => ?_ : z.1.Lo B _).ok
    obtain ⟨cur, hc⟩ := z.2.u8 hk
    have hlt := z.2.lt hk
    have hne : k ≠ g := fun e => by
      subst e
      obtain ⟨c2, h2⟩ := hg
      rw [hc] at h2; have := obj_type h2; simp at this
    rw [sw_block hlt, if_neg (Ne.symm hne)]
  refine (byFrom_exact x.1 y.1 _ (hW x) (hW y)).mono ?_
  rintro e w' ⟨rfl, rfl⟩
  exact ⟨rfl, 0, _, by rw [Sort.alloc_eq_grow, Sort.alloc_eq_grow, Sort.grow_grow]; rfl⟩
set_option maxHeartbeats 1600000 in
set_option maxRecDepth 1000000 in
theorem sort_any {w : World} {B : Nat} {a : Option Addr} {n c : Nat} {xs : List En} (hl : xs.length = n) (h0 : 0 < n) (hrow : w.ownsRow B 65 3 (.slice a n c) n (rowc xs)) (he : ∀ x ∈ xs, x.Lo B w) (hn : n ≤ 100000) :
    Calls Try.prog 69 #[.slice a n c, .func (.func 35) #[] #[]] w fun e w' => ∃ ys, e = .returned (.tuple #[]) ∧ ys.Perm xs ∧ SrtS (ers ys) ∧ w'.ownsRow B 65 3 (.slice a n c) n (rowc ys) ∧ Mv (fun k => (Value.slice a n c).ownBlock = some k) w w' := by
  rcases hrow.2 with ⟨_, h⟩ | ⟨g, cap, cur, e0, hb, hg, hn', hm, hs, ht⟩
  · omega
  injection e0 with e1 _ e3
  subst e1; subst e3
  obtain ⟨d, hd⟩ : ∃ d : Array (Sp B w), d.toList.map Subtype.val = xs := ⟨(xs.attach.map fun x => (⟨x.1, he x.1 x.2⟩ : Sp B w)).toArray, by simp⟩
  have hdn : d.size = n := by rw [← hl, ← hd]; simp
  have hcs : n * 3 ≤ cur.size := by rw [hs]; omega
  have hH : Sort.HoldsK encS 3 w g 0 d := fun j hj => by
    have hj' : j < n * 3 := by simpa [hdn] using hj
    refine ⟨?_, by simp [World.frozen?, hg]⟩
    have e1 : (cur.toList.take (n * 3))[j]? = (Sort.flatK encS 3 d).toList[j]? := by rw [ht, flat_is, hd]
    rw [List.getElem?_take, if_pos (by omega), Array.getElem?_toList, Array.getElem?_toList, Array.getElem?_eq_getElem hj] at e1
    simp only [World.cell?, hg, Nat.zero_add]
    simp only [Option.isSome_none, Bool.false_eq_true, if_false]
    rw [e1, getElem!_pos _ j hj]
    rfl
  have eg : ∀ args w, (callFunc 35 args).run Try.prog w = .ok (.enter 35 args) w := enters_of Try.func35 (by kernel_rfl) rfl
  have hcon := AnyQ.slices_SortFunc Try.sortSp 3 (fun _ => rfl) (fun _ => rfl) encS (fun _ => rfl) (fun x v hv => by
    have h : v ∈ x.1.cells := hv
    simp only [En.cells, List.mem_cons, List.not_mem_nil, or_false] at h
    rcases h with rfl | rfl | rfl <;> rfl) cfS (swoS B w) 35 #[] g 0 c d w eg (Sp.byFrom ⟨_, hg⟩ d.size) hH (lt_of_block hg) (by omega)
  change Calls Try.prog 69 _ _ _ at hcon
  rw [hdn] at hcon
  refine hcon.mono ?_
  rintro e w' ⟨rfl, d', m, os, hp, hsr, rfl⟩
  have hd'n : d'.size = n := hp.1.trans hdn
  refine ⟨d'.toList.map Subtype.val, rfl, ?_, ?_, ?_, ?_⟩
  · have h := hp.2.2
    rw [show d'.extract 0 n = d' by rw [← hd'n]; simp, show d.extract 0 n = d by rw [← hdn]; simp] at h
    rw [← hd]
    exact h.map _
  · unfold SrtS ers
    rw [List.pairwise_map, List.pairwise_map]
    refine List.pairwise_iff_getElem.2 fun i j hi hj hij => ?_
    have hi' : i < d'.size := by simpa using hi
    have hj' : j < d'.size := by simpa using hj
    have h := hsr i j (Nat.zero_le _) hij (by omega)
    rw [getElem!_pos d' j hj', getElem!_pos d' i hi'] at h
    unfold ltOf cfS at h
    simp only [decide_eq_false_iff_not, Int.not_lt] at h
    have a1 := ordI_anti (d'[j]).1.e.key (d'[i]).1.e.key
    show ordI (d'.toList[i]).1.e.key (d'.toList[j]).1.e.key ≤ 0
    simp only [Array.getElem_toList]
    omega
  · refine ⟨by rw [rowc_len]; simp [hd'n], .inr ⟨g, c, Sort.putCells id 0 (Sort.flatK encS 3 d') cur, rfl, hb, ?_, hn', hm, by simpa [Sort.putCells] using hs, ?_⟩⟩
    · rw [sw_block (lt_of_block hg), if_pos rfl, hg]; rfl
    · rw [← flat_is d']
      apply List.ext_getElem?
      intro j
      rw [List.getElem?_take, Array.getElem?_toList, Array.getElem?_toList]
      by_cases hj : j < n * 3
      · have hjc : j < cur.size := by omega
        have hjf : j < (Sort.flatK encS 3 d').size := by simp [hd'n]; omega
        rw [if_pos hj, Array.getElem?_eq_getElem hjf]
        simp only [Sort.putCells, Array.getElem?_mapIdx, Array.getElem?_eq_getElem hjc, Option.map_some]
        rw [if_pos ⟨Nat.zero_le _, by omega⟩, Nat.sub_zero, getElem!_pos _ j hjf]
        rfl
      · rw [if_neg hj, Array.getElem?_eq_none (by simp [hd'n]; omega)]
  · refine ⟨rfl, rfl, rfl, by show _ ≤ ((w.heap.modify g _) ++ os).size; simp, fun k hk hne => ?_⟩
    have hkg : g ≠ k := fun e => hne (by rw [e]; rfl)
    rw [sw_block hk, if_neg hkg]
end Go.Proofs.Ytpoanlbjhhlagaa
