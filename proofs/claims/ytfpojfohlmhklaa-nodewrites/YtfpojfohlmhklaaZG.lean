/- Contracts of lending entries, of asking whether they are whole, and of writing over them. -/
import Derived.Test.YtfpojfohlmhklaaLE
import Derived.Test.YtfpojfohlmhklaaHB
import Derived.Test.YtfpojfohlmhklaaZB
import Derived.Test.YtfpojfohlmhklaaLB
namespace Go.Proofs.Ytfpojfohlmhklaa
open Go.RowKit
set_option linter.unusedVariables false

/-- an entry whose bytes were lent: each with two bytes behind, in blocks from B on. -/
structure En.Lt (y : En) (B : Nat) (w : World) : Prop where
  key : ∃ g, y.ka = some ⟨g, 0, none⟩ ∧ B ≤ g ∧ Go.Proofs.Ytfpojfohlmhklaa.Own w (.slice (some ⟨g, 0, none⟩) (y.e.key.length + 2) (y.e.key.length + 2)) (y.e.key ++ [91, 92])
  kc : y.kc = y.e.key.length + 2
  val : ∃ g, y.va = some ⟨g, 0, none⟩ ∧ B ≤ g ∧ Go.Proofs.Ytfpojfohlmhklaa.Own w (.slice (some ⟨g, 0, none⟩) (y.e.val.length + 2) (y.e.val.length + 2)) (y.e.val ++ [91, 92])
  vc : y.vc = y.e.val.length + 2
  k8 : Byts y.e.key
  v8 : Byts y.e.val
  page : y.e.page < 4294967296
  size : y.e.size < 4294967296
theorem En.Lt.below {y : En} {B : Nat} {w w' : World} (h : y.Lt B w) (hb : Below w.heap.size w w') : y.Lt B w' := by
  obtain ⟨g, h1, h2, h3⟩ := h.key
  obtain ⟨g', k1, k2, k3⟩ := h.val
  exact ⟨⟨g, h1, h2, h3.below hb⟩, h.kc, ⟨g', k1, k2, k3.below hb⟩, h.vc, h.k8, h.v8, h.page, h.size⟩
theorem own_row {w : World} {g n c : Nat} {zs : List Int} (h : Own w (.slice (some ⟨g, 0, none⟩) n c) zs) : Row w (some ⟨g, 0, none⟩) zs := by
  obtain ⟨a, c', e, _, _, _, hr, _⟩ := h.shape
  cases e
  exact hr
theorem lent_inn {w : World} {g n : Nat} {zs : List Int} (hn : n ≤ 1000000) (hl : zs.length = n) (h : Own w (.slice (some ⟨g, 0, none⟩) (n + 2) (n + 2)) (zs ++ [91, 92])) (h8 : Byts zs) : Inn w (some ⟨g, 0, none⟩) n (n + 2) zs :=
  ⟨hl, by omega, by omega, fun e => (by cases e), Le.row_left (own_row h), h8⟩
theorem En.Lt.ok {y : En} {B : Nat} {w : World} (h : y.Lt B w) (hk : y.e.key.length ≤ 1000000) (hv : y.e.val.length ≤ 1000000) : y.Ok w := by
  obtain ⟨g, h1, h2, h3⟩ := h.key
  obtain ⟨g', k1, k2, k3⟩ := h.val
  refine ⟨?_, ?_, h.page, h.size⟩
  · rw [h1, h.kc]; exact lent_inn hk rfl h3 h.k8
  · rw [k1, h.vc]; exact lent_inn hv rfl k3 h.v8
/-- an entry that stands behind those that were lent. -/
def e77 : En := ⟨⟨[], [], 77, 0⟩, none, 0, none, 0⟩
/-- entries that were lent, under way. -/
structure Ls (B : Nat) (w : World) (g n c : Nat) (ys : List En) : Prop where
  row : w.ownsRow B 67 4 (.slice (some ⟨g, 0, none⟩) n c) n (rowc ys)
  each : ∀ y ∈ ys, y.Lt B w
theorem step_append_fits {P : Program} {ops : Array Oper} (w : World) {o : Oper} {a : Act} {K : Act → World → Prop} {Q : Exit → Act → World → Prop} {E : Prop} (hgd : o.guard = none) (s x : Operand) (t : TypeId)
    (hop : o.op = Op.call { callee := Callee.builtin Builtin.append, args := #[s, x], argTypes := #[t, t] })
    (base : Nat) (e : TypeId) (i : TypeInfo) (size : Nat) (h1 : P.underlying t = some (.slice e)) (h2 : P.info? e = some i) (h4 : i.size = size)
    (g k cap : Nat) (xs : List Value) (hs : a.eval s = .slice (some ⟨g, 0, none⟩) k cap) (hown : w.ownsRow base e size (.slice (some ⟨g, 0, none⟩) k cap) k xs) (ad : Addr) (m c : Nat) (news : List Value) (hx : a.eval x = .slice (some ad) m c) (hn : news.length = m * size)
    (hc : ∀ j u, news[j]? = some u → w.cell? (ad.add j) = some u) (h1c : ∀ u ∈ news, u.oneCell' = true) (b1 : k + m ≤ cap)
    (h : ∀ w', w'.ownsRow base e size (.slice (some ⟨g, 0, none⟩) (k + m) cap) (k + m) (xs ++ news) → w.grownBy w' (some g) → K (a.put o.dst (.slice (some ⟨g, 0, none⟩) (k + m) cap)) w') :
    if Region.wanted o (yielded ops a.tmps) = true then Oper.wp P o a w K Q else E := by
  have hw : Region.wanted o (yielded ops a.tmps) = true := by simp [Region.wanted, hgd]
  rw [if_pos hw]
  obtain ⟨w', hrun, r1, r2⟩ := run_append_fits (P := P) w base t o.type e i size h1 h2 h4 g k cap xs hown ad m c news hn hc h1c b1
  unfold Oper.wp
  simp [execOp, hop, resolve, invoke, builtin, hs, hx, hrun, Result.andThen]
  exact h w' r1 r2
theorem row_u8 {B : Nat} {w w' : World} {g n c : Nat} {cs : List Value} (h : w.ownsRow B 67 4 (.slice (some ⟨g, 0, none⟩) n c) n cs) {b : Nat} {zs : List Int} {m d : Nat} (ho : Own w (.slice (some ⟨b, 0, none⟩) m d) zs) : b ≠ g := by
  intro e
  subst e
  rcases h.2 with ⟨e, _⟩ | ⟨g', cap, cur, e, _, hg, _⟩
  · cases e
  · simp at e
    obtain ⟨rfl, -⟩ := e
    obtain ⟨cur', h2⟩ := ho.u8 (k := b) rfl
    exact type_ne h2 hg
theorem Ls.snoc {B g n c : Nat} {w w' : World} {ys : List En} {y : En} (h : Ls B w g n c ys) (hy : y.Lt B w) (hg : w.grownBy w' (some g)) (hr : w'.ownsRow B 67 4 (.slice (some ⟨g, 0, none⟩) (n + 1) c) (n + 1) (rowc ys ++ y.cells)) : Ls B w' g (n + 1) c (ys ++ [y]) := by
  have stay : ∀ z : En, z.Lt B w → z.Lt B w' := fun z hz => by
    obtain ⟨a, h1, h2, h3⟩ := hz.key
    obtain ⟨b, k1, k2, k3⟩ := hz.val
    refine ⟨⟨a, h1, h2, h3.of_block fun j hj => hg.block j (h3.lt hj) fun e => ?_⟩, hz.kc, ⟨b, k1, k2, k3.of_block fun j hj => hg.block j (k3.lt hj) fun e => ?_⟩, hz.vc, hz.k8, hz.v8, hz.page, hz.size⟩
    · simp [Value.ownBlock] at hj e
      exact row_u8 (w' := w) h.row h3 (by omega)
    · simp [Value.ownBlock] at hj e
      exact row_u8 (w' := w) h.row k3 (by omega)
  refine ⟨by rw [rowc_app, rowc_one]; exact hr, fun z hz => ?_⟩
  rcases List.mem_append.1 hz with hz | hz
  · exact stay z (h.each z hz)
  · simp at hz; subst hz; exact stay z hy
set_option maxHeartbeats 3200000 in
set_option maxRecDepth 1000000 in
theorem lente_any (a : Option Addr) (n c : Nat) (xs : List En) (w : World) (h : Ens w a n c xs) (hn : n ≤ 1000) (hw : wts (ers xs) ≤ 100000) :
    Calls Try.prog 5 #[.slice a n c] w fun e w' => ∃ g ys, e = .returned (.slice (some ⟨g, 0, none⟩) n (n + 1)) ∧ ers ys = ers xs ∧ w.heap.size ≤ g ∧ w'.ownsRow w.heap.size 67 4 (.slice (some ⟨g, 0, none⟩) (n + 1) (n + 1)) (n + 1) (rowc (ys ++ [e77])) ∧ (∀ y ∈ ys, y.Lt w.heap.size w') ∧ Below w.heap.size w w' := by
  obtain ⟨i0, hi, hz0, hz1, hz2⟩ := info_parts Try.infoE
  have HE := hide h
  have HW := hide hw
  clear h hw
  go_enter Try.func5, Try.ntmps5
  go_wp2_with (at_make; refine wpList_make_own _ rfl _ _ 22 rfl w.heap.size 67 i0 _ 4 Try.underlying22 hi hz0 hz1 _ _ _ (n + 1) rfl rfl (by omega) (by rw [hz2]; omega) (by unfold maxLen; omega) (Nat.le_refl _) ?_; intro w0 hown0 hgrow0)
  have HC0 : Hid (Ls w.heap.size w0 w.heap.size 0 (n + 1) []) := hide ⟨by simpa [rowc] using hown0, (by intro y hy; simp at hy)⟩
  have HB0 := hide ((Below.refl w.heap.size w).grown hgrow0 (Nat.le_refl _) (fun k h => by cases h))
  clear hown0 hgrow0
  go_loopw [3, 4] (fun s i wr => ∃ (k : Nat) (ys : List En), k ≤ n ∧ i = .int .i64 (k : Int) ∧ s = .slice (some ⟨w.heap.size, 0, none⟩) k (n + 1) ∧ ers ys = ers (xs.take k) ∧ Ls w.heap.size wr w.heap.size k (n + 1) ys ∧ Below w.heap.size w wr) (fun _ i _ => n - (intOf i).toNat)
  case atStart => exact ⟨0, [], Nat.zero_le _, rfl, rfl, by simp [ers], HC0.out, HB0.out⟩
  case round =>
    obtain ⟨k, ys, hk, rfl, rfl, her, hls, hbl⟩ := hrel
    have HBl := hide hbl
    have HEr := hide her
    have HLs := hide hls
    clear her hls
    by_cases hlt : k < n
    · obtain ⟨x, hx, hok⟩ := (HE.out.below hbl).at hlt
      obtain ⟨b, off, rfl, hbs, c0, c1, c2, c3⟩ := (HE.out.below hbl).cells hx
      have hl := mem_wts hx
      have hkl : x.e.key.length ≤ 100000 := by have := HW.out; omega
      have hvl : x.e.val.length ≤ 100000 := by have := HW.out; omega
      have HSt : Hid (∀ W, Below wr.heap.size wr W → W.cell? ⟨b, off + k * 4, none⟩ = some (.slice x.ka x.e.key.length x.kc) ∧ W.cell? ⟨b, off + k * 4 + 1, none⟩ = some (.slice x.va x.e.val.length x.vc) ∧ W.cell? ⟨b, off + k * 4 + 2, none⟩ = some (.int .u32 (x.e.page : Int)) ∧ W.cell? ⟨b, off + k * 4 + 3, none⟩ = some (.int .u32 (x.e.size : Int))) := hide fun W hW => ⟨cstays hW c0, cstays hW c1, cstays hW c2, cstays hW c3⟩
      have HOk := hide hok
      have HX := hide hx
      have i1 : (0 : Int) ≤ (k : Int) := by omega
      have i2 : (k : Int) < (n : Int) := by omega
      have hbw : b < w.heap.size := by
        rcases HE.out.row with h0 | ⟨b', off', e, hb', -⟩
        · rw [h0] at hx; simp at hx
        · cases e; exact hb'
      have HKc : Hid (Calls Try.prog 18 #[.slice x.ka x.e.key.length x.kc] wr.drew fun e w' => e = .returned (.slice (some ⟨wr.heap.size, 0, none⟩) x.e.key.length (x.e.key.length + 2)) ∧ Own w' (.slice (some ⟨wr.heap.size, 0, none⟩) (x.e.key.length + 2) (x.e.key.length + 2)) (x.e.key ++ [91, 92]) ∧ Below wr.heap.size wr w') := hide ((Le.lent_any x.ka x.e.key.length x.kc x.e.key wr.drew rfl (by omega) hok.key.bare (hok.key.row.below (Below.refl _ _).drew)).mono fun e W ⟨h1, h2, h3⟩ => ⟨h1, h2, (Below.refl _ _).drew.trans h3⟩)
      have HVc : Hid (∀ W, Below wr.heap.size wr W → Calls Try.prog 18 #[.slice x.va x.e.val.length x.vc] W fun e w' => e = .returned (.slice (some ⟨W.heap.size, 0, none⟩) x.e.val.length (x.e.val.length + 2)) ∧ Own w' (.slice (some ⟨W.heap.size, 0, none⟩) (x.e.val.length + 2) (x.e.val.length + 2)) (x.e.val ++ [91, 92]) ∧ Below W.heap.size W w') := hide fun W hW => Le.lent_any x.va x.e.val.length x.vc x.e.val W rfl (by omega) hok.val.bare (hok.val.row.below hW)
      clear hx hok hbl hl c0 c1 c2 c3
      go_wp2
      refine wp_region_noPanic ?_
      refine wp_region_held_drew (S := (fun W => W.cell? ⟨b, off + k * 4, none⟩ = some (.slice x.ka x.e.key.length x.kc) ∧ W.cell? ⟨b, off + k * 4 + 1, none⟩ = some (.slice x.va x.e.val.length x.vc) ∧ W.cell? ⟨b, off + k * 4 + 2, none⟩ = some (.int .u32 (x.e.page : Int)) ∧ W.cell? ⟨b, off + k * 4 + 3, none⟩ = some (.int .u32 (x.e.size : Int)))) (by kernel_rfl) (HSt.out _ (Below.refl _ _).drew) (fun _hS => ?_)
      refine wpAnyH_take (i := 0) (v := ?v0x1) rfl (by kernel_rfl) (by kernel_rfl) (by kernel_rfl) (fun _ _ _ h => h) (Or.inl ⟨by rfl, ?hy0x1⟩) (by assumption) ?rest0x1
      case hy0x1 => (intro w hSw; (try dsimp only at hSw); (first | (go_simp; with_reducible rfl) | go_simp))
      try simp only [Act.put, List.setIfInBounds_toArray]
      refine wpAnyH_take (i := 1) (v := ?v1x2) rfl (by kernel_rfl) (by kernel_rfl) (by kernel_rfl) (fun _ _ _ h => h) (Or.inl ⟨by rfl, ?hy1x2⟩) (by assumption) ?rest1x2
      case hy1x2 => (intro w hSw; (try dsimp only at hSw); (first | (go_simp; with_reducible rfl) | go_simp))
      try simp only [Act.put]
      refine wpAnyH_take (i := 2) (v := ?v2x3) rfl (by kernel_rfl) (by kernel_rfl) (by kernel_rfl) (fun _ _ _ h => h) (Or.inl ⟨by rfl, ?hy2x3⟩) (by assumption) ?rest2x3
      case hy2x3 => (intro w hSw; (try dsimp only at hSw); (first | (go_simp; with_reducible rfl) | go_simp))
      try simp only [Act.put]
      refine wpAnyH_take (i := 3) (v := ?v3x4) rfl (by kernel_rfl) (by kernel_rfl) (by kernel_rfl) (fun _ _ _ h => h) (Or.inl ⟨by rfl, ?hy3x4⟩) (by assumption) ?rest3x4
      case hy3x4 => (intro w hSw; (try dsimp only at hSw); (first | (go_simp; with_reducible rfl) | go_simp))
      try simp only [Act.put]
      refine wpAnyH_take (i := 4) (v := ?v4x5) rfl (by kernel_rfl) (by kernel_rfl) (by kernel_rfl) (fun _ _ _ h => h) (Or.inl ⟨by rfl, ?hy4x5⟩) (by assumption) ?rest4x5
      case hy4x5 => (intro w hSw; (try dsimp only at hSw); (first | (go_simp; with_reducible rfl) | go_simp))
      try simp only [Act.put]
      refine wpAnyH_take (i := 5) (v := ?v5x6) rfl (by kernel_rfl) (by kernel_rfl) (by kernel_rfl) (fun _ _ _ h => h) (Or.inl ⟨by rfl, ?hy5x6⟩) (by assumption) ?rest5x6
      case hy5x6 => (intro w hSw; (try dsimp only at hSw); (first | (go_simp; with_reducible rfl) | go_simp))
      try simp only [Act.put]
      refine wpAnyH_take (i := 6) (v := ?v6x7) rfl (by kernel_rfl) (by kernel_rfl) (by kernel_rfl) (fun _ _ _ h => h) (Or.inl ⟨by rfl, ?hy6x7⟩) (by assumption) ?rest6x7
      case hy6x7 => (intro w hSw; (try dsimp only at hSw); (first | (go_simp; with_reducible rfl) | go_simp))
      try simp only [Act.put]
      refine wpAnyH_take (i := 7) (v := ?v7x8) rfl (by kernel_rfl) (by kernel_rfl) (by kernel_rfl) (fun _ _ _ h => h) (Or.inl ⟨by rfl, ?hy7x8⟩) (by assumption) ?rest7x8
      case hy7x8 => (intro w hSw; (try dsimp only at hSw); (first | (go_simp; with_reducible rfl) | go_simp))
      try simp only [Act.put]
      refine wpAnyH_take (i := 8) (v := ?v8x9) rfl (by kernel_rfl) (by kernel_rfl) (by kernel_rfl) (fun _ _ _ h => h) (Or.inl ⟨by rfl, ?hy8x9⟩) (by assumption) ?rest8x9
      case hy8x9 => (intro w hSw; (try dsimp only at hSw); (first | (go_simp; with_reducible rfl) | go_simp))
      try simp only [Act.put]
      refine wpAnyH_take (i := 9) (v := ?v9x10) rfl (by kernel_rfl) (by kernel_rfl) (by kernel_rfl) (fun _ _ _ h => h) (Or.inl ⟨by rfl, ?hy9x10⟩) (by assumption) ?rest9x10
      case hy9x10 => (intro w hSw; (try dsimp only at hSw); (first | (go_simp; with_reducible rfl) | go_simp))
      try simp only [Act.put]
      refine wpAnyH_take (i := 10) (v := ?v10x11) rfl (by kernel_rfl) (by kernel_rfl) (by kernel_rfl) (fun _ _ _ h => h) (Or.inl ⟨by rfl, ?hy10x11⟩) (by assumption) ?rest10x11
      case hy10x11 => (intro w hSw; (try dsimp only at hSw); (first | (go_simp; with_reducible rfl) | go_simp))
      try simp only [Act.put]
      refine wpAnyH_take (i := 11) (v := ?v11x12) rfl (by kernel_rfl) (by kernel_rfl) (by kernel_rfl) (fun _ _ _ h => h) (Or.inl ⟨by rfl, ?hy11x12⟩) (by assumption) ?rest11x12
      case hy11x12 => (intro w hSw; (try dsimp only at hSw); (first | (go_simp; with_reducible rfl) | go_simp))
      try simp only [Act.put]
      refine wpAnyH_take (i := 12) (v := ?v12x13) rfl (by kernel_rfl) (by kernel_rfl) (by kernel_rfl) (fun _ _ _ h => h) (Or.inl ⟨by rfl, ?hy12x13⟩) (by assumption) ?rest12x13
      case hy12x13 => (intro w hSw; (try dsimp only at hSw); (first | (go_simp; with_reducible rfl) | go_simp))
      try simp only [Act.put]
      refine wpAnyH_take (i := 13) (v := ?v13x14) rfl (by kernel_rfl) (by kernel_rfl) (by kernel_rfl) (fun _ _ _ h => h) (Or.inl ⟨by rfl, ?hy13x14⟩) (by assumption) ?rest13x14
      case hy13x14 => (intro w hSw; (try dsimp only at hSw); (first | (go_simp; with_reducible rfl) | go_simp))
      try simp only [Act.put]
      refine wpAnyH_take (i := 14) (v := ?v14x15) rfl (by kernel_rfl) (by kernel_rfl) (by kernel_rfl) (fun _ _ _ h => h) (Or.inl ⟨by rfl, ?hy14x15⟩) (by assumption) ?rest14x15
      case hy14x15 => (intro w hSw; (try dsimp only at hSw); (first | (go_simp; with_reducible rfl) | go_simp))
      try simp only [Act.put]
      refine wpAnyH_take (i := 15) (v := ?v15x16) rfl (by kernel_rfl) (by kernel_rfl) (by kernel_rfl) (fun _ _ _ h => h) (Or.inl ⟨by rfl, ?hy15x16⟩) (by assumption) ?rest15x16
      case hy15x16 => (intro w hSw; (try dsimp only at hSw); (first | (go_simp; with_reducible rfl) | go_simp))
      try simp only [Act.put]
      refine wpAnyH_take (i := 17) (v := ?v17x17) rfl (by kernel_rfl) (by kernel_rfl) (by kernel_rfl) (fun _ _ _ h => h) (Or.inl ⟨by rfl, ?hy17x17⟩) (by assumption) ?rest17x17
      case hy17x17 => (intro w hSw; (try dsimp only at hSw); (first | (go_simp; with_reducible rfl) | go_simp))
      try simp only [Act.put]
      refine wpAnyH_take (i := 18) (v := ?v18x18) rfl (by kernel_rfl) (by kernel_rfl) (by kernel_rfl) (fun _ _ _ h => h) (Or.inl ⟨by rfl, ?hy18x18⟩) (by assumption) ?rest18x18
      case hy18x18 => (intro w hSw; (try dsimp only at hSw); (first | (go_simp; with_reducible rfl) | go_simp))
      try simp only [Act.put]
      refine wpAnyH_take (i := 19) (v := ?v19x19) rfl (by kernel_rfl) (by kernel_rfl) (by kernel_rfl) (fun _ _ _ h => h) (Or.inl ⟨by rfl, ?hy19x19⟩) (by assumption) ?rest19x19
      case hy19x19 => (intro w hSw; (try dsimp only at hSw); (first | (go_simp; with_reducible rfl) | go_simp))
      try simp only [Act.put]
      refine wpAnyH_take (i := 20) (v := ?v20x20) rfl (by kernel_rfl) (by kernel_rfl) (by kernel_rfl) (fun _ _ _ h => h) (Or.inl ⟨by rfl, ?hy20x20⟩) (by assumption) ?rest20x20
      case hy20x20 => (intro w hSw; (try dsimp only at hSw); (first | (go_simp; with_reducible rfl) | go_simp))
      try simp only [Act.put]
      refine wpAnyH_take (i := 21) (v := ?v21x21) rfl (by kernel_rfl) (by kernel_rfl) (by kernel_rfl) (fun _ _ _ h => h) (Or.inl ⟨by rfl, ?hy21x21⟩) (by assumption) ?rest21x21
      case hy21x21 => (intro w hSw; (try dsimp only at hSw); (first | (go_simp; with_reducible rfl) | go_simp))
      try simp only [Act.put]
      refine wpAnyH_ready (rs := [16]) (by kernel_rfl) (by simp) ?_
      refine AllReadyH.cons rfl (fun K hK => ?_) AllReadyH.nil
      go_simp
      refine HKc.out.mono ?_
      rintro e wK ⟨rfl, hoK, hbK⟩
      have HOK := hide hoK
      have HBK := hide hbK
      clear hoK hbK
      refine hK.out _ _ (by exact HSt.out _ HBK.out) (fun _hS => ?_)
      clear hK K
      try simp only [Act.put, List.setIfInBounds_toArray, List.set_cons_zero, List.set_cons_succ]
      refine wpAnyH_ready (rs := [22]) (by kernel_rfl) (by simp) ?_
      refine AllReadyH.cons rfl (fun K hK => ?_) AllReadyH.nil
      go_simp
      refine (HVc.out wK HBK.out).mono ?_
      rintro e wV ⟨rfl, hoV, hbV⟩
      have HBV : Hid (Below wr.heap.size wr wV) := hide (HBK.out.trans (hbV.mono HBK.out.size))
      have HOV := hide hoV
      have HKV := hide hbV
      clear hoV hbV
      refine hK.out _ _ (by exact HSt.out _ HBV.out) (fun _hS => ?_)
      clear hK K
      try simp only [Act.put, List.setIfInBounds_toArray, List.set_cons_zero, List.set_cons_succ]
      refine wpAnyH_take (i := 23) (v := ?v23x22) rfl (by kernel_rfl) (by kernel_rfl) (by kernel_rfl) (fun _ _ _ h => h) (Or.inl ⟨by rfl, ?hy23x22⟩) (by assumption) ?rest23x22
      case hy23x22 => (intro w hSw; (try dsimp only at hSw); (first | (go_simp; with_reducible rfl) | go_simp))
      try simp only [Act.put, List.setIfInBounds_toArray]
      refine wpAnyH_ready (rs := [24]) (by kernel_rfl) (by simp) ?_
      refine AllReadyH.cons rfl (fun K hK => ?_) AllReadyH.nil
      go_simp
      refine hK.out _ _ (by exact HSt.out _ (HBV.out.trans ((below_alloc _ _).mono HBV.out.size))) (fun _hS => ?_)
      clear hK K
      try simp only [Act.put, List.setIfInBounds_toArray, List.set_cons_zero, List.set_cons_succ]
      have HYl : Hid ((⟨x.e, some ⟨wr.heap.size, 0, none⟩, x.e.key.length + 2, some ⟨wK.heap.size, 0, none⟩, x.e.val.length + 2⟩ : En).Lt w.heap.size (wV.alloc (.cells #[.slice (some ⟨wr.heap.size, 0, none⟩) x.e.key.length (x.e.key.length + 2), .slice (some ⟨wK.heap.size, 0, none⟩) x.e.val.length (x.e.val.length + 2), .int .u32 (x.e.page : Int), .int .u32 (x.e.size : Int)] 67))) := by
        have hs := HBl.out.size
        have hs2 := HBK.out.size
        exact En.Lt.below (w := wV) ⟨⟨_, rfl, hs, HOK.out.below HKV.out⟩, rfl, ⟨_, rfl, by show w.heap.size ≤ wK.heap.size; omega, HOV.out⟩, rfl, HOk.out.key.byts, HOk.out.val.byts, HOk.out.page, HOk.out.size⟩ (below_alloc _ _)
      have HLb : Hid (Ls w.heap.size (wV.alloc (.cells #[.slice (some ⟨wr.heap.size, 0, none⟩) x.e.key.length (x.e.key.length + 2), .slice (some ⟨wK.heap.size, 0, none⟩) x.e.val.length (x.e.val.length + 2), .int .u32 (x.e.page : Int), .int .u32 (x.e.size : Int)] 67)) w.heap.size k (n + 1) ys) := by
        have hb := HBV.out.trans ((below_alloc wV (.cells #[.slice (some ⟨wr.heap.size, 0, none⟩) x.e.key.length (x.e.key.length + 2), .slice (some ⟨wK.heap.size, 0, none⟩) x.e.val.length (x.e.val.length + 2), .int .u32 (x.e.page : Int), .int .u32 (x.e.size : Int)] 67)).mono HBV.out.size)
        exact ⟨row_of_block HLs.out.row fun j hj => hb.block j (by have := HLs.out.row.lt j hj; omega), fun z hz => (HLs.out.each z hz).below hb⟩
      refine wpAnyH_ready (rs := [25]) (by kernel_rfl) (by simp) ?_
      refine AllReadyH.cons rfl (fun K hK => ?_) AllReadyH.nil
      refine step_append_fits _ (by rfl) (.tmp 16) (.tmp 40) 22 (by rfl) w.heap.size 67 i0 4 Try.underlying22 hi hz1 w.heap.size k (n + 1) (rowc ys) (by rfl) HLb.out.row ⟨wV.heap.size, 0, none⟩ 1 1 ((⟨x.e, some ⟨wr.heap.size, 0, none⟩, x.e.key.length + 2, some ⟨wK.heap.size, 0, none⟩, x.e.val.length + 2⟩ : En).cells) (by rfl) (by rfl) (box_news wV (⟨x.e, some ⟨wr.heap.size, 0, none⟩, x.e.key.length + 2, some ⟨wK.heap.size, 0, none⟩, x.e.val.length + 2⟩ : En)) (cells_one (⟨x.e, some ⟨wr.heap.size, 0, none⟩, x.e.key.length + 2, some ⟨wK.heap.size, 0, none⟩, x.e.val.length + 2⟩ : En)) (by omega) ?_
      intro w4 hown4 hg4
      have HS4 : Hid (∀ W, (wV.alloc (.cells #[.slice (some ⟨wr.heap.size, 0, none⟩) x.e.key.length (x.e.key.length + 2), .slice (some ⟨wK.heap.size, 0, none⟩) x.e.val.length (x.e.val.length + 2), .int .u32 (x.e.page : Int), .int .u32 (x.e.size : Int)] 67)).grownBy W (some w.heap.size) → W.cell? ⟨b, off + k * 4, none⟩ = some (.slice x.ka x.e.key.length x.kc) ∧ W.cell? ⟨b, off + k * 4 + 1, none⟩ = some (.slice x.va x.e.val.length x.vc) ∧ W.cell? ⟨b, off + k * 4 + 2, none⟩ = some (.int .u32 (x.e.page : Int)) ∧ W.cell? ⟨b, off + k * 4 + 3, none⟩ = some (.int .u32 (x.e.size : Int))) := hide fun W hW => by
        obtain ⟨q0, q1, q2, q3⟩ := HSt.out _ (HBV.out.trans ((below_alloc wV (.cells #[.slice (some ⟨wr.heap.size, 0, none⟩) x.e.key.length (x.e.key.length + 2), .slice (some ⟨wK.heap.size, 0, none⟩) x.e.val.length (x.e.val.length + 2), .int .u32 (x.e.page : Int), .int .u32 (x.e.size : Int)] 67)).mono HBV.out.size))
        have hne : ∀ j, (some (⟨b, j, none⟩ : Addr).block) ≠ some w.heap.size := fun j e => by simp at e; omega
        exact ⟨hW.cell q0 (hne _), hW.cell q1 (hne _), hW.cell q2 (hne _), hW.cell q3 (hne _)⟩
      have HL4 := hide (HLb.out.snoc HYl.out hg4 hown4)
      have HG4 := hide hg4
      clear hown4 hg4
      refine hK.out _ _ (by exact HS4.out w4 HG4.out) (fun _hS => ?_)
      clear hK K
      try simp only [Act.put, List.setIfInBounds_toArray]
      refine wpAnyH_ready (rs := [26]) (by kernel_rfl) (by simp) ?_
      refine AllReadyH.cons rfl (fun K hK => ?_) AllReadyH.nil
      go_simp
      refine hK.out _ _ (by exact _hS) (fun _hS => ?_)
      clear hK K
      try simp only [Act.put, List.setIfInBounds_toArray, List.set_cons_zero, List.set_cons_succ]
      refine wpAnyH_done (by kernel_rfl) ?_ _
      refine NoPanic.normal ?_
      go_wp2
      go_roundw
      case rel =>
        refine ⟨k + 1, ys ++ [(⟨x.e, some ⟨wr.heap.size, 0, none⟩, x.e.key.length + 2, some ⟨wK.heap.size, 0, none⟩, x.e.val.length + 2⟩ : En)], by omega, by go_num, rfl, ?_, HL4.out, ?_⟩
        · rw [take_at HX.out, ers_app, ers_app, HEr.out]
          simp [ers]
        · exact ((HBl.out.trans (HBV.out.mono HBl.out.size)).alloc (by have := HBl.out.size; have := HBV.out.size; omega) _).grown HG4.out (by have := HBl.out.size; have := HBV.out.size; simp; omega) (fun j hj => by cases hj; exact Nat.le_refl _)
      case measure => simp [intOf]; omega
    · obtain rfl : k = n := by omega
      have HF : Hid (xs.take k = xs) := hide (List.take_of_length_le (by rw [HE.out.len]; exact Nat.le_refl _))
      have hLa : ∀ o, Ls w.heap.size (wr.alloc o) w.heap.size k (k + 1) ys := fun o => ⟨row_of_block HLs.out.row fun j hj => (below_alloc wr o).block j (HLs.out.row.lt j hj).2, fun z hz => (HLs.out.each z hz).below (below_alloc wr o)⟩
      have HLa := hide hLa
      clear hLa
      go_wp2_with (at_builtin; refine wpList_append_fits _ rfl (.tmp 42) (.tmp 44) 22 rfl w.heap.size 67 i0 4 Try.underlying22 hi hz1 w.heap.size k (k + 1) (rowc ys) rfl (HLa.out _).row ⟨wr.heap.size, 0, none⟩ 1 1 e77.cells rfl rfl (box_news wr e77) (cells_one e77) (by omega) ?_; intro w5 hown5 hg5)
      have HS5 := hide hown5
      have HG5 := hide hg5
      clear hown5 hg5
      go_ret
      refine ⟨w.heap.size, ys, rfl, by rw [HEr.out, HF.out], Nat.le_refl _, by rw [rowc_app, rowc_one]; exact HS5.out, fun y hy => ?_, ?_⟩
      · have h := (HLa.out (.cells #[.slice none 0 0, .slice none 0 0, .int .u32 77, .int .u32 0] 67)).each y hy
        obtain ⟨a, h1, h2, h3⟩ := h.key
        obtain ⟨b, k1, k2, k3⟩ := h.val
        refine ⟨⟨a, h1, h2, h3.of_block fun j hj => HG5.out.block j (h3.lt hj) fun e => ?_⟩, h.kc, ⟨b, k1, k2, k3.of_block fun j hj => HG5.out.block j (k3.lt hj) fun e => ?_⟩, h.vc, h.k8, h.v8, h.page, h.size⟩
        · simp [Value.ownBlock] at hj e
          exact row_u8 (w' := w) (HLa.out _).row h3 (by omega)
        · simp [Value.ownBlock] at hj e
          exact row_u8 (w' := w) (HLa.out _).row k3 (by omega)
      · exact (HBl.out.alloc HBl.out.size _).grown HG5.out (by have := HBl.out.size; simp; omega) (fun j hj => by cases hj; exact Nat.le_refl _)
end Go.Proofs.Ytfpojfohlmhklaa
