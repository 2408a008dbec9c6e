/- A set's spans are put together. -/
import Derived.Test.YtpoanlbjhhlagaaSO
namespace Go.Proofs.Ytpoanlbjhhlagaa
open Go.RowKit Go.Maps
set_option linter.unusedVariables false

theorem own_mono {B C t m : Nat} {w : World} {v : Value} {n : Nat} {cs : List Value} (h : w.ownsRow C t m v n cs) (hB : B ≤ C) : w.ownsRow B t m v n cs := by
  refine ⟨h.1, ?_⟩
  rcases h.2 with h2 | ⟨g, cap, cur, e, hg, r⟩
  · exact .inl h2
  · exact .inr ⟨g, cap, cur, e, Nat.le_trans hB hg, r⟩
/-- a set whose spans rise and are apart. -/
def Ss (w : World) (p B : Nat) (L : List Ee) (O E : Nat → Prop) : Prop := ∃ sv xs, Sm w p B sv xs xs.length ∧ (∀ k, U (ers xs) k ↔ U L k) ∧ Apt (ers xs) ∧ xs.length ≤ L.length ∧ (∀ k, O k ↔ So p sv k) ∧ (∀ k, E k ↔ ∃ x ∈ xs, x.has k) ∧ (∀ x ∈ xs, x.e.key.length ≤ 40000 ∧ x.e.val.length ≤ 40000)
theorem Ss.sx {w : World} {p B : Nat} {L : List Ee} {O E : Nat → Prop} (h : Ss w p B L O E) : Sx w p B L O E := by
  obtain ⟨sv, xs, h1, h2, h3, h4, h5, h6, h7⟩ := h
  exact ⟨sv, xs, xs.length, h1, h2, h3.1, Nat.le_refl _, fun _ => h3, h4, h5, h6, h7⟩
theorem Ss.of_block {w w' : World} {p B : Nat} {L : List Ee} {O E : Nat → Prop} (h : Ss w p B L O E) (hb : ∀ k, O k ∨ E k → w'.heap[k]? = w.heap[k]?) : Ss w' p B L O E := by
  obtain ⟨sv, xs, h1, h2, h3, h6, h7, h8, h9⟩ := h
  exact ⟨sv, xs, h1.of_block fun k hk => hb k (hk.elim (fun h => .inl ((h7 k).2 h)) fun h => .inr ((h8 k).2 h)), h2, h3, h6, h7, h8, h9⟩
theorem Ss.below {w w' : World} {p B : Nat} {L : List Ee} {O E : Nat → Prop} (h : Ss w p B L O E) (hb : Below w.heap.size w w') : Ss w' p B L O E :=
  h.of_block fun k hk => hb.block k (hk.elim (fun h1 => (h.sx.olt h1).1) fun h1 => (h.sx.elt h1).1)
theorem Pc.lens {xs : List En} {y : En} {n : Nat} (h : Pc xs y) (hx : ∀ x ∈ xs, x.e.key.length ≤ n ∧ x.e.val.length ≤ n) : y.e.key.length ≤ n ∧ y.e.val.length ≤ n := by
  obtain ⟨⟨x, h1, _, _, a3⟩, ⟨z, h2, _, _, b3⟩⟩ := h
  exact ⟨by rw [a3]; exact (hx x h1).1, by rw [b3]; exact (hx z h2).2⟩
/-- what settling leaves. -/
theorem settle_end {w w2 w3 : World} {p B ap : Nat} {sv v : Value} {xs ys zs : List En} {L : List Ee} {O E : Nat → Prop} (h1 : Sm w p B sv xs ap) (h2 : ∀ k, U (ers xs) k ↔ U L k) (h3 : ∀ x ∈ ers xs, okS x) (h6 : xs.length ≤ L.length) (h7 : ∀ k, O k ↔ So p sv k) (h8 : ∀ k, E k ↔ ∃ x ∈ xs, x.has k) (h9 : ∀ x ∈ xs, x.e.key.length ≤ 40000 ∧ x.e.val.length ≤ 40000)
    (hp : ys.Perm xs) (hs : SrtS (ers ys)) (hm : Mv (fun k => sv.ownBlock = some k) w w2) (hrow : w3.ownsRow w2.heap.size 65 3 v zs.length (rowc zs)) (hz : ers zs = tog (ers ys)) (hpc : ∀ z ∈ zs, Pc ys z) (hb : Below w2.heap.size w2 w3) :
    ∃ O' E', Ss ((w3.setCell ⟨p, 0, none⟩ v).setCell ⟨p, 1, none⟩ (.int .i64 (zs.length : Int))) p B L O' E' ∧ Go1 O w O' ((w3.setCell ⟨p, 0, none⟩ v).setCell ⟨p, 1, none⟩ (.int .i64 (zs.length : Int))) ∧ ∀ k, E' k → E k := by
  have hpw := lt_of_block h1.blk
  have hp2 : w2.heap[p]? = some (.cells #[sv, .int .i64 (ap : Int)] 79 (0, 0)) := (hm.block p hpw h1.sne).trans h1.blk
  have hp3 := (hb.block p (lt_of_block hp2)).trans hp2
  have hB2 : B ≤ w2.heap.size := Nat.le_trans h1.base (Nat.le_of_lt (lt_of_block hp2))
  have hoy : ∀ x ∈ ers ys, okS x := fun x hx => h3 x (by obtain ⟨y, hy, rfl⟩ := List.mem_map.1 hx; exact List.mem_map.2 ⟨y, hp.mem_iff.1 hy, rfl⟩)
  obtain ⟨t1, t2⟩ := tog_apt hoy hs
  have other : ∀ k, k ≠ p → (((w3.setCell ⟨p, 0, none⟩ v).setCell ⟨p, 1, none⟩ (.int .i64 (zs.length : Int))).heap[k]? = w3.heap[k]?) := fun k hk => by rw [set_other _ _ _ _ _ hk, set_other _ _ _ _ _ hk]
  have stay : ∀ x ∈ ys, x.Lo B w3 := fun x hx => by
    have h := h1.each x (hp.mem_iff.1 hx)
    refine (h.of_block fun k hk => ?_ : x.Lo B w2).below hb
    obtain ⟨c, hc⟩ := h.u8 hk
    exact hm.block k (h.lt hk) fun e => h1.not_u8 hc (.inr e)
  have npz : ∀ z ∈ zs, ∀ k, z.has k → k ≠ p := fun z hz' k hk e => by
    subst e
    obtain ⟨c, hc⟩ := ((hpc z hz').lo stay).u8 hk
    rw [hp3] at hc
    have := obj_type hc; simp at this
  have hvp : ∀ k, v.ownBlock = some k → k ≠ p ∧ w2.heap.size ≤ k := fun k hk => by
    have := (row_at hrow hk).1
    have := lt_of_block hp2
    exact ⟨by omega, by omega⟩
  have hall : Mv (fun k => O k) w ((w3.setCell ⟨p, 0, none⟩ v).setCell ⟨p, 1, none⟩ (.int .i64 (zs.length : Int))) := by
    have m1 : Mv (fun k => O k) w w3 := (hm.mono fun k hk => (h7 k).2 (.inr hk)).trans' (Mv.of_below hb)
    exact (m1.setB ((h7 p).2 (.inl rfl)) 0 v).setB ((h7 p).2 (.inl rfl)) 1 _
  refine ⟨fun k => So p v k, fun k => ∃ x ∈ zs, x.has k, ⟨v, zs, ⟨?_, row_of_block (own_mono hrow hB2) fun k hk => other k (hvp k hk).1, fun z hz' => ((hpc z hz').lo stay).of_block fun k hk => other k (npz z hz' k hk), h1.base⟩, fun k => ?_, by rw [hz]; exact t1, ?_, fun k => Iff.rfl, fun k => Iff.rfl, fun z hz' => (hpc z hz').lens fun x hx => h9 x (hp.mem_iff.1 hx)⟩, ⟨hall, fun k hk => ?_⟩, fun k hk => ?_⟩
  · rw [heap_setCell_same _ p 1 _ 79 _ (heap_setCell_same w3 p 0 _ 79 _ hp3)]; rfl
  · rw [hz, t2 k, ← h2 k]; exact U_perm (hp.map _)
  · have e1 := tog_len (ers ys)
    rw [← hz, ers_len, ers_len] at e1
    have := hp.length_eq
    omega
  · rcases hk with rfl | hk
    · exact .inl ((h7 k).2 (.inl rfl))
    · exact .inr (Nat.le_trans hm.size (hvp k hk).2)
  · obtain ⟨z, hz', hk⟩ := hk
    obtain ⟨y, hy, hk⟩ := (hpc z hz').has hk
    exact (h8 k).2 ⟨y, hp.mem_iff.1 hy, hk⟩
abbrev zst0 : Oper := { dst := some 2, op := Op.move (Operand.tmp 0), type := 26, pos := "reads.go:64", after := #[], guard := none }
abbrev zst1 : Oper := { dst := some 3, op := Op.nilCheck (Operand.tmp 2), type := 0, pos := "reads.go:64", after := #[{ on := 0, ground := Ground.data }], guard := none }
abbrev zst2 : Oper := { dst := some 4, op := Op.fieldAddr 79 (Operand.tmp 3) 0, type := 0, pos := "reads.go:64", after := #[{ on := 1, ground := Ground.data }], guard := none }
abbrev zst3 : Oper := { dst := some 5, op := Op.load 23 (Operand.tmp 4), type := 23, pos := "reads.go:64", after := #[{ on := 2, ground := Ground.data }], guard := none }
abbrev zst4 : Oper := { dst := some 6, op := Op.call { callee := Callee.builtin Builtin.len, args := #[Operand.tmp 5], argTypes := #[23] }, type := 3, pos := "reads.go:64", after := #[{ on := 3, ground := Ground.data }], guard := none }
abbrev zst5 : Oper := { dst := some 7, op := Op.move (Operand.tmp 0), type := 26, pos := "reads.go:64", after := #[], guard := none }
abbrev zst6 : Oper := { dst := some 8, op := Op.nilCheck (Operand.tmp 7), type := 0, pos := "reads.go:64", after := #[{ on := 5, ground := Ground.data }], guard := none }
abbrev zst7 : Oper := { dst := some 9, op := Op.fieldAddr 79 (Operand.tmp 8) 1, type := 0, pos := "reads.go:64", after := #[{ on := 6, ground := Ground.data }], guard := none }
abbrev zst8 : Oper := { dst := some 10, op := Op.load 3 (Operand.tmp 9), type := 3, pos := "reads.go:64", after := #[{ on := 7, ground := Ground.data }], guard := none }
abbrev zst9 : Oper := { dst := some 11, op := Op.binOp BinOp.eql 3 (Operand.tmp 6) (Operand.tmp 10) 3, type := 4, pos := "reads.go:64", after := #[{ on := 4, ground := Ground.data }, { on := 8, ground := Ground.data }], guard := none }
set_option maxHeartbeats 3200000 in
set_option maxRecDepth 1000000 in
theorem settle_any {w : World} {p B : Nat} {L : List Ee} {O E : Nat → Prop} (h : Sx w p B L O E) (hn : L.length ≤ 1000) :
    Calls Try.prog 33 #[.pointer (some ⟨p, 0, none⟩)] w fun e w' => e = .returned (.tuple #[]) ∧ ∃ O' E', Ss w' p B L O' E' ∧ Go1 O w O' w' ∧ ∀ k, E' k → E k := by
  obtain ⟨sv, xs, ap, h1, h2, h3, h4, h5, h6, h7, h8, h9⟩ := h
  obtain ⟨a, c, rfl, hens⟩ := h1.ens
  obtain ⟨s0, s1, f0⟩ := cells_two h1.blk
  obtain ⟨n, hnx⟩ : ∃ n, n = xs.length := ⟨_, rfl⟩
  have H1 := hide h1
  have HNX := hide hnx
  by_cases he : xs.length = ap
  · have d1 : ((n : Int) == (ap : Int)) = true := by rw [hnx, he]; simp
    have HF : Hid (Ss w p B L O E) := hide ⟨_, xs, by rw [← he] at h1; exact h1, h2, h5 he.symm, h6, h7, h8, h9⟩
    rw [← hnx] at s0
    clear h1 h2 h3 h4 h5 h6 h7 h8 h9 hens hnx he
    go_enter Try.func33, Try.ntmps33
    go_wp2
    refine wp_region_noPanic ?_
    refine wp_region_held_drew (S := (fun W => W.cell? ⟨p, 0, none⟩ = some (.slice a n c) ∧ W.cell? ⟨p, 1, none⟩ = some (.int .i64 (ap : Int)))) (by kernel_rfl) ⟨s0, s1⟩ (fun _hS => ?_)
    refine wtk (i := 0) (oi := zst0) (v := ?v0x1) rfl ⟨by rfl, ?hy0x1⟩ (by assumption) ?_
    case hy0x1 => (intro w s; (try dsimp only at s); first | (go_simp; with_reducible rfl) | go_simp)
    try simp only [Act.put, zps]
    refine wtk (i := 1) (oi := zst1) (v := ?v1x2) rfl ⟨by rfl, ?hy1x2⟩ (by assumption) ?_
    case hy1x2 => (intro w s; (try dsimp only at s); first | (go_simp; with_reducible rfl) | go_simp)
    try simp only [Act.put, zps]
    refine wtk (i := 2) (oi := zst2) (v := ?v2x3) rfl ⟨by rfl, ?hy2x3⟩ (by assumption) ?_
    case hy2x3 => (intro w s; (try dsimp only at s); first | (go_simp; with_reducible rfl) | go_simp)
    try simp only [Act.put, zps]
    refine wtk (i := 3) (oi := zst3) (v := ?v3x4) rfl ⟨by rfl, ?hy3x4⟩ (by assumption) ?_
    case hy3x4 => (intro w s; (try dsimp only at s); first | (go_simp; with_reducible rfl) | go_simp)
    try simp only [Act.put, zps]
    refine wtk (i := 4) (oi := zst4) (v := ?v4x5) rfl ⟨by rfl, ?hy4x5⟩ (by assumption) ?_
    case hy4x5 => (intro w s; (try dsimp only at s); first | (go_simp; with_reducible rfl) | go_simp)
    try simp only [Act.put, zps]
    refine wtk (i := 5) (oi := zst5) (v := ?v5x6) rfl ⟨by rfl, ?hy5x6⟩ (by assumption) ?_
    case hy5x6 => (intro w s; (try dsimp only at s); first | (go_simp; with_reducible rfl) | go_simp)
    try simp only [Act.put, zps]
    refine wtk (i := 6) (oi := zst6) (v := ?v6x7) rfl ⟨by rfl, ?hy6x7⟩ (by assumption) ?_
    case hy6x7 => (intro w s; (try dsimp only at s); first | (go_simp; with_reducible rfl) | go_simp)
    try simp only [Act.put, zps]
    refine wtk (i := 7) (oi := zst7) (v := ?v7x8) rfl ⟨by rfl, ?hy7x8⟩ (by assumption) ?_
    case hy7x8 => (intro w s; (try dsimp only at s); first | (go_simp; with_reducible rfl) | go_simp)
    try simp only [Act.put, zps]
    refine wtk (i := 8) (oi := zst8) (v := ?v8x9) rfl ⟨by rfl, ?hy8x9⟩ (by assumption) ?_
    case hy8x9 => (intro w s; (try dsimp only at s); first | (go_simp; with_reducible rfl) | go_simp)
    try simp only [Act.put, zps]
    refine wtk (i := 9) (oi := zst9) (v := ?v9x10) rfl ⟨by rfl, ?hy9x10⟩ (by assumption) ?_
    case hy9x10 => (intro w s; (try dsimp only at s); first | (go_simp; with_reducible rfl) | go_simp)
    try simp only [Act.put, zps]
    refine wpAnyH_done (by kernel_rfl) ?_ _
    refine NoPanic.normal ?_
    go_wp2
    refine bodyPost_ret (v := .tuple #[]) ?_ rfl ?_
    · simp [results, Try.results33, go_sem]
    exact ⟨rfl, O, E, HF.out.below (Below.refl _ _).drew, Go1.of_below (Below.refl _ _).drew, fun _ h => h⟩
  · have d1 : ((n : Int) == (ap : Int)) = false := by rw [hnx]; simp; omega
    have h0 : 0 < n := by omega
    have hd := h1.below (Below.refl _ w).drew
    rw [← hnx] at s0
    have HS := hide (sort_any (w := w.drew) hnx.symm h0 (by rw [hnx]; exact hd.row) hd.each (by omega))
    have HEnd := hide (fun (w2 w3 : World) (v : Value) (ys zs : List En) => settle_end (w := w.drew) (w2 := w2) (w3 := w3) (v := v) (ys := ys) (zs := zs) hd h2 h3 h6 h7 h8 h9)
    rw [← hnx] at HEnd
    have HR := hide hd.blk
    rw [← hnx] at HR
    have hnl : n ≤ 1000 := by omega
    have H8 := hide hd.each
    have HSn := hide hd.sne
    have HU8 := hide (fun (k : Nat) (cur : Array Value) (hk : w.drew.heap[k]? = some (.cells cur 5 (0, 0))) => fun e => hd.not_u8 hk (.inr e))
    rw [← hnx] at HSn HU8
    clear h1 h2 h3 h4 h5 h6 h7 h8 h9 hens hnx he hd H1
    go_enter Try.func33, Try.ntmps33
    go_wp2
    refine wp_region_noPanic ?_
    refine wp_region_held_drew (S := (fun W => W.cell? ⟨p, 0, none⟩ = some (.slice a n c) ∧ W.cell? ⟨p, 1, none⟩ = some (.int .i64 (ap : Int)))) (by kernel_rfl) ⟨s0, s1⟩ (fun _hS => ?_)
    refine wtk (i := 0) (oi := zst0) (v := ?v0x11) rfl ⟨by rfl, ?hy0x11⟩ (by assumption) ?_
    case hy0x11 => (intro w s; (try dsimp only at s); first | (go_simp; with_reducible rfl) | go_simp)
    try simp only [Act.put, zps]
    refine wtk (i := 1) (oi := zst1) (v := ?v1x12) rfl ⟨by rfl, ?hy1x12⟩ (by assumption) ?_
    case hy1x12 => (intro w s; (try dsimp only at s); first | (go_simp; with_reducible rfl) | go_simp)
    try simp only [Act.put, zps]
    refine wtk (i := 2) (oi := zst2) (v := ?v2x13) rfl ⟨by rfl, ?hy2x13⟩ (by assumption) ?_
    case hy2x13 => (intro w s; (try dsimp only at s); first | (go_simp; with_reducible rfl) | go_simp)
    try simp only [Act.put, zps]
    refine wtk (i := 3) (oi := zst3) (v := ?v3x14) rfl ⟨by rfl, ?hy3x14⟩ (by assumption) ?_
    case hy3x14 => (intro w s; (try dsimp only at s); first | (go_simp; with_reducible rfl) | go_simp)
    try simp only [Act.put, zps]
    refine wtk (i := 4) (oi := zst4) (v := ?v4x15) rfl ⟨by rfl, ?hy4x15⟩ (by assumption) ?_
    case hy4x15 => (intro w s; (try dsimp only at s); first | (go_simp; with_reducible rfl) | go_simp)
    try simp only [Act.put, zps]
    refine wtk (i := 5) (oi := zst5) (v := ?v5x16) rfl ⟨by rfl, ?hy5x16⟩ (by assumption) ?_
    case hy5x16 => (intro w s; (try dsimp only at s); first | (go_simp; with_reducible rfl) | go_simp)
    try simp only [Act.put, zps]
    refine wtk (i := 6) (oi := zst6) (v := ?v6x17) rfl ⟨by rfl, ?hy6x17⟩ (by assumption) ?_
    case hy6x17 => (intro w s; (try dsimp only at s); first | (go_simp; with_reducible rfl) | go_simp)
    try simp only [Act.put, zps]
    refine wtk (i := 7) (oi := zst7) (v := ?v7x18) rfl ⟨by rfl, ?hy7x18⟩ (by assumption) ?_
    case hy7x18 => (intro w s; (try dsimp only at s); first | (go_simp; with_reducible rfl) | go_simp)
    try simp only [Act.put, zps]
    refine wtk (i := 8) (oi := zst8) (v := ?v8x19) rfl ⟨by rfl, ?hy8x19⟩ (by assumption) ?_
    case hy8x19 => (intro w s; (try dsimp only at s); first | (go_simp; with_reducible rfl) | go_simp)
    try simp only [Act.put, zps]
    refine wtk (i := 9) (oi := zst9) (v := ?v9x20) rfl ⟨by rfl, ?hy9x20⟩ (by assumption) ?_
    case hy9x20 => (intro w s; (try dsimp only at s); first | (go_simp; with_reducible rfl) | go_simp)
    try simp only [Act.put, zps]
    refine wpAnyH_done (by kernel_rfl) ?_ _
    refine NoPanic.normal ?_
    go_wp2_with fail
    refine HS.out.mono ?_
    rintro e w2 ⟨ys, rfl, hperm, hsrt, hrow2, hmv2⟩
    have hlt := lt_of_block HR.out
    have hp2 := (hmv2.block p hlt HSn.out).trans HR.out
    obtain ⟨s0', s1', f0'⟩ := cells_two hp2
    have HP := hide hp2
    have hyn : ys.length = n := by rw [hperm.length_eq]; exact HNX.out.symm
    have hey : ∀ y ∈ ys, y.Ok w2 := fun y hy => by
      have h := H8.out y (hperm.mem_iff.1 hy)
      refine (h.of_block fun k hk => ?_ : y.Lo B w2).ok
      obtain ⟨cur, hc⟩ := h.u8 hk
      exact hmv2.block k (h.lt hk) (HU8.out k cur hc)
    have HT := hide (together_any a n c ys (row_ens hyn hrow2 hey) hnl)
    have HPm := hide hperm
    have HSr := hide hsrt
    have HM2 := hide hmv2
    clear hperm hsrt hrow2 hmv2 hp2 hey
    go_wp2_with fail
    refine HT.out.mono ?_
    rintro e w3 ⟨v, zs, rfl, hown3, hz, hpc, hb3⟩
    have hp3 := (hb3.block p (lt_of_block HP.out)).trans HP.out
    obtain ⟨s0'', s1'', f0''⟩ := cells_two hp3
    have f1'' : w3.frozen? ⟨p, 1, none⟩ = false := by simp [World.frozen?, hp3]
    obtain ⟨a3, c3, rfl, -⟩ := row_shape hown3
    have HFin := hide (HEnd.out w2 w3 _ ys zs HPm.out HSr.out HM2.out hown3 hz hpc hb3)
    clear hown3 hz hpc hb3 hp3
    go_wp2
    go_end0
    obtain ⟨O', E', g1, g2, g3⟩ := HFin.out
    exact ⟨rfl, O', E', g1, (Go1.of_below (Below.refl _ _).drew).trans g2, g3⟩
end Go.Proofs.Ytpoanlbjhhlagaa
