/- A leaf of texts. -/
import Derived.Test.YtjojpohnmfkanaaLA
import Derived.Lib.ConvBytes
namespace Go.Proofs.Ytjojpohnmfkanaa
open Go.RowKit
set_option linter.unusedVariables false

/-- a text's bytes. -/
def sbs (s : ByteArray) : List Int := s.data.toList.map fun b => (b.toNat : Int)
theorem sbs_len (s : ByteArray) : (sbs s).length = s.size := by
  unfold sbs
  rw [List.length_map, Array.length_toList]
  rfl
theorem sbs_at (s : ByteArray) (i : Nat) : (sbs s).getD i 0 = ((s.data.toList.getD i 0).toNat : Int) := by
  unfold sbs
  rw [List.getD_eq_getElem?_getD, List.getD_eq_getElem?_getD, List.getElem?_map]
  cases s.data.toList[i]? <;> rfl
theorem sbs_byts (s : ByteArray) : Byts (sbs s) := by
  intro c hc
  simp only [sbs, List.mem_map] at hc
  obtain ⟨b, _, rfl⟩ := hc
  have := b.toNat_lt
  omega
theorem bw_below (w : World) (s : ByteArray) : Below w.heap.size w (Lib.bytesWorld w 5 s) :=
  ⟨rfl, rfl, rfl, by rw [Lib.bytesWorld_size]; omega, fun k hk => Lib.bytesWorld_at_old w 5 s k hk⟩
theorem bw_inn (w : World) (s : ByteArray) (hs : s.size ≤ 1000) : Inn (Lib.bytesWorld w 5 s) (some ⟨w.heap.size, 0, none⟩) (sbs s).length (grownCap w s.size 0 5) (sbs s) ∧ ∃ cu f, (Lib.bytesWorld w 5 s).heap[w.heap.size]? = some (.cells cu 5 f) := by
  refine ⟨⟨rfl, by rw [sbs_len]; exact grownCap_ge w s.size 0 5, ?_, by (intro e; cases e), ?_, sbs_byts s⟩, _, _, Lib.bytesWorld_at_new w 5 s⟩
  · have := grownCap_le_maxLen w s.size 0 5 (by unfold maxLen; omega)
    unfold maxLen at this; omega
  · refine .inr ⟨w.heap.size, 0, rfl, by rw [Lib.bytesWorld_size]; omega, fun i hi => ?_⟩
    rw [sbs_len] at hi
    rw [Nat.zero_add, Lib.bytesWorld_cell w 5 s i hi, sbs_at]
theorem blk_below {w w' : World} {k : Nat} (h : ∃ cu f, w.heap[k]? = some (.cells cu 5 f)) (hb : Below w.heap.size w w') : ∃ cu f, w'.heap[k]? = some (.cells cu 5 f) := by
  obtain ⟨cu, f, h⟩ := h
  exact ⟨cu, f, (hb.block k (lt_of_block h)).trans h⟩
/-- the entry's bytes lie in blocks of bytes. -/
def En.U8 (y : En) (w : World) : Prop := ∀ b off, (y.ka = some ⟨b, off, none⟩ ∨ y.va = some ⟨b, off, none⟩) → ∃ cu f, w.heap[b]? = some (.cells cu 5 f)
theorem En.U8.below {y : En} {w w' : World} (h : y.U8 w) (hb : Below w.heap.size w w') : y.U8 w' := fun b off e => blk_below (h b off e) hb
theorem inn_keep {w w' : World} {a : Option Addr} {n c : Nat} {zs : List Int} (h : Inn w a n c zs) (hs : w.heap.size ≤ w'.heap.size) (hk : ∀ b off, a = some ⟨b, off, none⟩ → w'.heap[b]? = w.heap[b]?) : Inn w' a n c zs := by
  refine ⟨h.len, h.cap, h.max, h.bare, ?_, h.byts⟩
  rcases h.row with h0 | ⟨b, off, e, hlt, hc⟩
  · exact .inl h0
  · exact .inr ⟨b, off, e, by omega, fun i hi => by rw [← hc i hi]; simp only [World.cell?]; rw [hk b off e]⟩
/-- a list of entries whose row is the call's own. -/
structure Lf (B : Nat) (w : World) (v : Value) (ys : List En) : Prop where
  row : w.ownsRow B 68 4 v ys.length (rowc ys)
  each : ∀ y ∈ ys, y.Ok w
  u8 : ∀ y ∈ ys, y.U8 w
theorem u8_ne {w : World} {k : Nat} {c c' : Array Value} {f : Nat × Nat} (h : w.heap[k]? = some (.cells c 5 f)) (h' : w.heap[k]? = some (.cells c' 68 (0, 0))) : False := by
  rw [h] at h'
  have := congrArg (fun o : Option Obj => match o with | some (.cells _ t _) => t | _ => 0) h'
  simp at this
theorem Lf.block {B : Nat} {w : World} {v : Value} {ys : List En} (h : Lf B w v ys) {k : Nat} (hk : v.ownBlock = some k) : B ≤ k ∧ k < w.heap.size ∧ ∃ cur, w.heap[k]? = some (.cells cur 68 (0, 0)) := by
  rcases h.row.2 with ⟨rfl, _⟩ | ⟨g, cap, cur, rfl, hb, hg, _⟩
  · simp [Value.ownBlock] at hk
  · simp [Value.ownBlock] at hk; subst hk; exact ⟨hb, lt_of_block hg, cur, hg⟩
theorem Lf.noNode {B : Nat} {w : World} {v : Value} {ys : List En} (h : Lf B w v ys) {q : Nat} {c : Array Value} (hq : w.heap[q]? = some (.cells c 25 (0, 0))) : v.ownBlock ≠ some q := fun e => by
  obtain ⟨_, _, cur, h1⟩ := h.block e
  rw [hq] at h1
  have := congrArg (fun o : Option Obj => match o with | some (.cells _ t _) => t | _ => 0) h1
  simp at this
theorem Lf.below {B : Nat} {w w' : World} {v : Value} {ys : List En} (h : Lf B w v ys) (hb : Below w.heap.size w w') : Lf B w' v ys :=
  ⟨row_of_block h.row fun k hk => hb.block k (h.block hk).2.1, fun y hy => (h.each y hy).below hb, fun y hy => (h.u8 y hy).below hb⟩
theorem Lf.ens {B : Nat} {w : World} {v : Value} {ys : List En} (h : Lf B w v ys) : ∃ a c, v = .slice a ys.length c ∧ Ens w a ys.length c ys := by
  rcases h.row.2 with ⟨rfl, h0⟩ | ⟨g, cap, cur, rfl, hb, hg, hn, hm, hcs, htake⟩
  · have e : ys = [] := List.eq_nil_of_length_eq_zero h0
    subst e
    exact ⟨none, 0, rfl, ens_nil w⟩
  · refine ⟨_, _, rfl, rfl, hn, by unfold maxLen at hm; omega, by (intro e; cases e), .inr ⟨g, 0, rfl, lt_of_block hg, fun j u hu => ?_⟩, fun y hy => h.each y hy⟩
    have := h.row.cells (g := g) rfl j u hu
    rwa [Addr.add_lit] at this
theorem Lf.snoc {B : Nat} {w1 w' : World} {v v' : Value} {ys : List En} {y : En} (h : Lf B w1 v ys) (hy : y.Ok w1) (hu : y.U8 w1) (hg : w1.grownBy w' v.ownBlock) (hr : w'.ownsRow B 68 4 v' (ys.length + 1) (rowc ys ++ y.cells)) : Lf B w' v' (ys ++ [y]) := by
  have stay : ∀ (b : Nat) (cu : Array Value) (f : Nat × Nat), w1.heap[b]? = some (.cells cu 5 f) → w'.heap[b]? = w1.heap[b]? := fun b cu f hb => hg.block b (lt_of_block hb) (fun e => by
    obtain ⟨_, _, cur, h1⟩ := h.block e.symm
    exact u8_ne hb h1)
  have ok : ∀ z : En, z.Ok w1 → z.U8 w1 → z.Ok w' ∧ z.U8 w' := fun z h1 h2 => ⟨⟨inn_keep h1.key hg.size (fun b off e => by obtain ⟨cu, f, hb⟩ := h2 b off (.inl e); exact stay b cu f hb), inn_keep h1.val hg.size (fun b off e => by obtain ⟨cu, f, hb⟩ := h2 b off (.inr e); exact stay b cu f hb), h1.page, h1.size⟩, fun b off e => by obtain ⟨cu, f, hb⟩ := h2 b off e; exact ⟨cu, f, (stay b cu f hb).trans hb⟩⟩
  refine ⟨by rw [List.length_append, List.length_singleton, rowc_app, rowc_one]; exact hr, fun z hz => ?_, fun z hz => ?_⟩
  · rcases List.mem_append.1 hz with hz | hz
    · exact (ok z (h.each z hz) (h.u8 z hz)).1
    · simp at hz; subst hz; exact (ok z hy hu).1
  · rcases List.mem_append.1 hz with hz | hz
    · exact (ok z (h.each z hz) (h.u8 z hz)).2
    · simp at hz; subst hz; exact (ok z hy hu).2
theorem Lf.offNode {B q : Nat} {w w' : World} {v : Value} {ys : List En} (h : Lf B w v ys) {c : Array Value} (hq : w.heap[q]? = some (.cells c 25 (0, 0))) (hs : ∀ k, k ≠ q → w'.heap[k]? = w.heap[k]?) (hz : w.heap.size ≤ w'.heap.size) : Lf B w' v ys := by
  have ne : ∀ (b : Nat) (cu : Array Value) (f : Nat × Nat), w.heap[b]? = some (.cells cu 5 f) → b ≠ q := fun b cu f hb e => by
    subst e
    rw [hb] at hq
    have := congrArg (fun o : Option Obj => match o with | some (.cells _ t _) => t | _ => 0) hq
    simp at this
  refine ⟨row_of_block h.row fun k hk => hs k (fun e => h.noNode hq (by rw [hk, e])), fun y hy => ?_, fun y hy b off e => ?_⟩
  · have h1 := h.each y hy
    exact ⟨inn_keep h1.key hz (fun b off e => by obtain ⟨cu, f, hb⟩ := h.u8 y hy b off (.inl e); exact hs b (ne b cu f hb)), inn_keep h1.val hz (fun b off e => by obtain ⟨cu, f, hb⟩ := h.u8 y hy b off (.inr e); exact hs b (ne b cu f hb)), h1.page, h1.size⟩
  · obtain ⟨cu, f, hb⟩ := h.u8 y hy b off e
    exact ⟨cu, f, (hs b (ne b cu f hb)).trans hb⟩
/-- the entries that texts make. -/
def ee (x : ByteArray × ByteArray) : Ee := ⟨sbs x.1, sbs x.2, 0, 0⟩
set_option maxHeartbeats 6400000 in
set_option maxRecDepth 1000000 in
theorem leaf_any (sb so n c : Nat) (ps : List (ByteArray × ByteArray)) (w : World) (hn : n = 2 * ps.length) (hp : ps.length ≤ 1000) (hlt : sb < w.heap.size) (hs : ∀ x ∈ ps, x.1.size ≤ 1000 ∧ x.2.size ≤ 1000)
    (hc : ∀ k x, ps[k]? = some x → w.cell? ⟨sb, so + 2 * k, none⟩ = some (.string x.1) ∧ w.cell? ⟨sb, so + (2 * k + 1), none⟩ = some (.string x.2)) :
    Calls Try.prog 23 #[.slice (some ⟨sb, so, none⟩) n c] w fun e w' => ∃ a cc ys, e = .returned (.agg #[.bool true, .slice a ys.length cc]) ∧ ers ys = ps.map ee ∧ Ens w' a ys.length cc ys ∧ Below w.heap.size w w' := by
  obtain ⟨i0, hi, hz0, hz1, hz2⟩ := info_parts Try.infoE
  obtain ⟨hB, hb0, hb1, hs1⟩ := pair_boxes w (.bool false) (.slice none 0 0) (.bool true) (.slice none 0 0)
  have HB := hide hB
  have HB0 := hide hb0
  have HB1 := hide hb1
  have HS1 := hide hs1
  have HC := hide hc
  have HS := hide hs
  have HNn := hide hn
  have hn2 : n ≤ 2000 := by omega
  clear hB hb0 hb1 hs1 hc hs hn
  go_enter Try.func23, Try.ntmps23
  go_wp2
  generalize (w.alloc (.cells #[.bool false, .slice none 0 0] 25)).alloc (.cells #[.bool true, .slice none 0 0] 25) = w1 at *
  go_loopw [4] (fun i wr => ∃ (k j : Nat) (ys : List En) (a3 : Option Addr) (c3 : Nat), k ≤ ps.length ∧ j = 2 * k ∧ i = .int .i64 (j : Int) ∧ ers ys = (ps.take k).map ee ∧ wr.heap[w.heap.size]? = some (.cells #[.bool false, .slice none 0 0] 25 (0, 0)) ∧ wr.heap[w.heap.size + 1]? = some (.cells #[.bool true, .slice a3 ys.length c3] 25 (0, 0)) ∧ Lf (w.heap.size + 2) wr (.slice a3 ys.length c3) ys ∧ Below w.heap.size w wr ∧ w.heap.size + 2 ≤ wr.heap.size) (fun i _ => n - (intOf i).toNat)
  case atStart => exact ⟨0, 0, [], none, 0, Nat.zero_le _, rfl, rfl, by simp [ers], HB0.out, HB1.out, ⟨⟨rfl, .inl ⟨rfl, rfl⟩⟩, (by intro y hy; simp at hy), (by intro y hy; simp at hy)⟩, HB.out, by rw [HS1.out]; omega⟩
  case round =>
    obtain ⟨k, j, ys, a3, c3, hk, hjk, rfl, her, hx0, hx1, hlf, hbl, hsz⟩ := hrel
    obtain ⟨f0, f1, ff0⟩ := cells_two hx1
    have ff1 := frozen_blk (j := 1) hx1
    have HEr := hide her
    have HX0 := hide hx0
    have HX1 := hide hx1
    have HLf0 := hide hlf
    have HBl := hide hbl
    have HJ := hide hjk
    have hj2 : j ≤ 2000 := by omega
    clear her hx0 hx1 hlf
    by_cases hltk : k < ps.length
    · obtain ⟨⟨s, t⟩, hx⟩ : ∃ x, ps[k]? = some x := ⟨_, List.getElem?_eq_getElem hltk⟩
      have hst := HS.out _ (List.mem_of_getElem? hx)
      have hs1000 : s.size ≤ 1000 := hst.1
      have ht1000 : t.size ≤ 1000 := hst.2
      obtain ⟨q0, q1⟩ := HC.out k _ hx
      rw [← hjk] at q0 q1
      have d1 : (j : Int) + 1 < (n : Int) := by have := HNn.out; omega
      have HSt : Hid (∀ W, Below wr.heap.size wr W → W.cell? ⟨sb, so + j, none⟩ = some (.string s) ∧ W.cell? ⟨sb, so + (j + 1), none⟩ = some (.string t)) := hide fun W hW => ⟨one_below1 (one_below1 q0 hbl) (hW.mono (Nat.le_refl _)), one_below1 (one_below1 q1 hbl) (hW.mono (Nat.le_refl _))⟩
      have hcs : ∀ W, (convert 9 22 (.string s)).run Try.prog W = .ok (.slice (some ⟨W.heap.size, 0, none⟩) (sbs s).length (grownCap W s.size 0 5)) (Lib.bytesWorld W 5 s) := fun W => by rw [sbs_len]; exact Lib.run_convert_string_bytes W 9 22 5 s Try.underlying9 Try.underlying22 Try.underlying5
      have hct : ∀ W, (convert 9 22 (.string t)).run Try.prog W = .ok (.slice (some ⟨W.heap.size, 0, none⟩) (sbs t).length (grownCap W t.size 0 5)) (Lib.bytesWorld W 5 t) := fun W => by rw [sbs_len]; exact Lib.run_convert_string_bytes W 9 22 5 t Try.underlying9 Try.underlying22 Try.underlying5
      have hyl : ys.length ≤ 1000 := by have := congrArg List.length HEr.out; rw [ers_len, List.length_map, List.length_take] at this; omega
      have hsbw : sb < w.heap.size := hlt
      have hob : ∀ i, i < w.heap.size + 2 → (Value.slice a3 ys.length c3).ownBlock ≠ some i := fun i hi e => by have := (HLf0.out.block e).1; omega
      have hq0 := (HSt.out wr (Below.refl _ _)).1
      have hq1 := (HSt.out wr (Below.refl _ _)).2
      have HSt4 : ∀ (W : World), (∀ i, i < wr.heap.size → (Value.slice a3 ys.length c3).ownBlock ≠ some i → W.heap[i]? = wr.heap[i]?) → W.cell? ⟨sb, so + j, none⟩ = some (.string s) ∧ W.cell? ⟨sb, so + (j + 1), none⟩ = some (.string t) := fun W hW => by
        have e := hW sb (by omega) (hob sb (by omega))
        refine ⟨?_, ?_⟩
        · rw [← hq0]; simp only [World.cell?]; rw [e]
        · rw [← hq1]; simp only [World.cell?]; rw [e]
      have HSt5 : ∀ (W : World) (u : Value), (∀ i, i < wr.heap.size → (Value.slice a3 ys.length c3).ownBlock ≠ some i → W.heap[i]? = wr.heap[i]?) → (W.setCell ⟨w.heap.size + 1, 1, none⟩ u).cell? ⟨sb, so + j, none⟩ = some (.string s) ∧ (W.setCell ⟨w.heap.size + 1, 1, none⟩ u).cell? ⟨sb, so + (j + 1), none⟩ = some (.string t) := fun W u hW => by
        have e := hW sb (by omega) (hob sb (by omega))
        have e2 : (W.setCell ⟨w.heap.size + 1, 1, none⟩ u).heap[sb]? = wr.heap[sb]? := (Below.heap_setCell _ _ _ _ (show sb ≠ w.heap.size + 1 by omega)).trans e
        refine ⟨?_, ?_⟩
        · rw [← hq0]; simp only [World.cell?]; rw [e2]
        · rw [← hq1]; simp only [World.cell?]; rw [e2]
      have HS4 := hide HSt4
      have HS5 := hide HSt5
      have i1 : (0 : Int) ≤ (j : Int) := by omega
      have i2 : (j : Int) < (n : Int) := by omega
      have i3 : (0 : Int) ≤ (j : Int) + 1 := by omega
      have hwr : IntKind.i64.wrap ((j : Int) + 1) = (j : Int) + 1 := by rw [IntKind.wrap_i64] <;> omega
      have htn : ((j : Int) + 1).toNat = j + 1 := by omega
      have HX := hide hx
      clear HSt4 HSt5 hq0 hq1 q0 q1 hst hbl hx hjk
      go_wp2
      refine wp_region_noPanic ?_
      refine wp_region_held_drew (S := (fun W => W.cell? ⟨sb, so + j, none⟩ = some (.string s) ∧ W.cell? ⟨sb, so + (j + 1), none⟩ = some (.string t))) (by kernel_rfl) (HSt.out _ (Below.refl _ _).drew) (fun _hS => ?_)
      refine wpAnyH_take (i := 0) (v := ?v0x1) rfl (by kernel_rfl) (by kernel_rfl) (by kernel_rfl) (fun _ _ _ h => h) (Or.inl ⟨by rfl, ?hy0x1⟩) (by assumption) ?rest0x1
      case hy0x1 => (intro w hSw; (try dsimp only at hSw); (first | (go_simp; with_reducible rfl) | go_simp))
      try simp only [Act.put, List.setIfInBounds_toArray]
      refine wpAnyH_take (i := 2) (v := ?v2x2) rfl (by kernel_rfl) (by kernel_rfl) (by kernel_rfl) (fun _ _ _ h => h) (Or.inl ⟨by rfl, ?hy2x2⟩) (by assumption) ?rest2x2
      case hy2x2 => (intro w hSw; (try dsimp only at hSw); (first | (go_simp; with_reducible rfl) | go_simp))
      try simp only [Act.put]
      refine wpAnyH_take (i := 3) (v := ?v3x3) rfl (by kernel_rfl) (by kernel_rfl) (by kernel_rfl) (fun _ _ _ h => h) (Or.inl ⟨by rfl, ?hy3x3⟩) (by assumption) ?rest3x3
      case hy3x3 => (intro w hSw; (try dsimp only at hSw); (first | (go_simp; with_reducible rfl) | go_simp))
      try simp only [Act.put]
      refine wpAnyH_take (i := 4) (v := ?v4x4) rfl (by kernel_rfl) (by kernel_rfl) (by kernel_rfl) (fun _ _ _ h => h) (Or.inl ⟨by rfl, ?hy4x4⟩) (by assumption) ?rest4x4
      case hy4x4 => (intro w hSw; (try dsimp only at hSw); (first | (go_simp; with_reducible rfl) | go_simp))
      try simp only [Act.put]
      refine wpAnyH_take (i := 5) (v := ?v5x5) rfl (by kernel_rfl) (by kernel_rfl) (by kernel_rfl) (fun _ _ _ h => h) (Or.inl ⟨by rfl, ?hy5x5⟩) (by assumption) ?rest5x5
      case hy5x5 => (intro w hSw; (try dsimp only at hSw); (first | (go_simp; with_reducible rfl) | go_simp))
      try simp only [Act.put]
      refine wpAnyH_take (i := 7) (v := ?v7x6) rfl (by kernel_rfl) (by kernel_rfl) (by kernel_rfl) (fun _ _ _ h => h) (Or.inl ⟨by rfl, ?hy7x6⟩) (by assumption) ?rest7x6
      case hy7x6 => (intro w hSw; (try dsimp only at hSw); (first | (go_simp; with_reducible rfl) | go_simp))
      try simp only [Act.put]
      refine wpAnyH_take (i := 8) (v := ?v8x7) rfl (by kernel_rfl) (by kernel_rfl) (by kernel_rfl) (fun _ _ _ h => h) (Or.inl ⟨by rfl, ?hy8x7⟩) (by assumption) ?rest8x7
      case hy8x7 => (intro w hSw; (try dsimp only at hSw); (first | (go_simp; with_reducible rfl) | go_simp))
      try simp only [Act.put]
      refine wpAnyH_take (i := 9) (v := ?v9x8) rfl (by kernel_rfl) (by kernel_rfl) (by kernel_rfl) (fun _ _ _ h => h) (Or.inl ⟨by rfl, ?hy9x8⟩) (by assumption) ?rest9x8
      case hy9x8 => (intro w hSw; (try dsimp only at hSw); (first | (go_simp; with_reducible rfl) | go_simp))
      try simp only [Act.put]
      refine wpAnyH_take (i := 10) (v := ?v10x9) rfl (by kernel_rfl) (by kernel_rfl) (by kernel_rfl) (fun _ _ _ h => h) (Or.inl ⟨by rfl, ?hy10x9⟩) (by assumption) ?rest10x9
      case hy10x9 => (intro w hSw; (try dsimp only at hSw); (first | (go_simp; with_reducible rfl) | go_simp))
      try simp only [Act.put]
      refine wpAnyH_take (i := 11) (v := ?v11x10) rfl (by kernel_rfl) (by kernel_rfl) (by kernel_rfl) (fun _ _ _ h => h) (Or.inl ⟨by rfl, ?hy11x10⟩) (by assumption) ?rest11x10
      case hy11x10 => (intro w hSw; (try dsimp only at hSw); (first | (go_simp; with_reducible rfl) | go_simp))
      try simp only [Act.put]
      refine wpAnyH_ready (rs := [1, 6, 12]) (by kernel_rfl) (by simp) ?_
      refine AllReadyH.cons rfl (fun K hK => ?_) ?_
      · go_simp
        refine hK.out _ _ (by exact _hS) (fun _hS => ?_)
        clear hK K
        try simp only [Act.put, List.setIfInBounds_toArray, List.set_cons_zero, List.set_cons_succ]
        refine wpAnyH_ready (rs := [6, 12]) (by kernel_rfl) (by simp) ?_
        refine AllReadyH.cons rfl (fun K hK => ?_) ?_
        · go_simp
          obtain ⟨wS, hwS⟩ : ∃ x, x = Lib.bytesWorld wr.drew 5 s := ⟨_, rfl⟩
          rw [← hwS]
          have hbS : Below (wr.drew).heap.size (wr.drew) wS := by rw [hwS]; exact bw_below _ _
          have hiS : Inn wS (some ⟨(wr.drew).heap.size, 0, none⟩) (sbs s).length (grownCap (wr.drew) (s).size 0 5) (sbs s) ∧ ∃ cu f, wS.heap[(wr.drew).heap.size]? = some (.cells cu 5 f) := by rw [hwS]; exact bw_inn _ _ (by assumption)
          have HBS : Hid (Below wr.heap.size wr wS) := hide ((Below.refl _ _).drew.trans hbS)
          have HIS := hide hiS
          have HbS := hide hbS
          obtain ⟨n0S, n1S, -⟩ := cells_two ((HBS.out.block _ (lt_of_block HX1.out)).trans HX1.out)
          clear hwS hbS hiS
          refine hK.out _ _ (by exact HSt.out _ HBS.out) (fun _hS => ?_)
          clear hK K
          try simp only [Act.put, List.setIfInBounds_toArray, List.set_cons_zero, List.set_cons_succ]
          refine wpAnyH_ready (rs := [12]) (by kernel_rfl) (by simp) ?_
          refine AllReadyH.cons rfl (fun K hK => ?_) ?_
          · go_simp
            obtain ⟨wT, hwT⟩ : ∃ x, x = Lib.bytesWorld wS 5 t := ⟨_, rfl⟩
            rw [← hwT]
            have hbT : Below (wS).heap.size (wS) wT := by rw [hwT]; exact bw_below _ _
            have hiT : Inn wT (some ⟨(wS).heap.size, 0, none⟩) (sbs t).length (grownCap (wS) (t).size 0 5) (sbs t) ∧ ∃ cu f, wT.heap[(wS).heap.size]? = some (.cells cu 5 f) := by rw [hwT]; exact bw_inn _ _ (by assumption)
            have HBT : Hid (Below wr.heap.size wr wT) := hide (HBS.out.trans (hbT.mono HBS.out.size))
            have HIT := hide hiT
            have HbT := hide hbT
            obtain ⟨n0T, n1T, -⟩ := cells_two ((HBT.out.block _ (lt_of_block HX1.out)).trans HX1.out)
            clear hwT hbT hiT
            refine hK.out _ _ (by exact HSt.out _ HBT.out) (fun _hS => ?_)
            clear hK K
            try simp only [Act.put, List.setIfInBounds_toArray, List.set_cons_zero, List.set_cons_succ]
            refine wpAnyH_take (i := 13) (v := ?v13x11) rfl (by kernel_rfl) (by kernel_rfl) (by kernel_rfl) (fun _ _ _ h => h) (Or.inl ⟨by rfl, ?hy13x11⟩) (by assumption) ?rest13x11
            case hy13x11 => (intro w hSw; (try dsimp only at hSw); (first | (go_simp; with_reducible rfl) | go_simp))
            try simp only [Act.put, List.setIfInBounds_toArray]
            refine wpAnyH_ready (rs := [14]) (by kernel_rfl) (by simp) ?_
            refine AllReadyH.cons rfl (fun K hK => ?_) ?_
            · go_simp
              have n1b := one_below1 n1T (below_alloc wT (.cells #[.slice (some ⟨wr.heap.size, 0, none⟩) (sbs s).length (grownCap (wr.drew) s.size 0 5), .slice (some ⟨(wS).heap.size, 0, none⟩) (sbs t).length (grownCap (wS) t.size 0 5), .int .u32 0, .int .u32 0] 68))
              have HIf := hide (And.intro (HIS.out.1.below HbT.out) (blk_below HIS.out.2 HbT.out))
              refine hK.out _ _ (by exact HSt.out _ (HBT.out.trans ((below_alloc _ _).mono HBT.out.size))) (fun _hS => ?_)
              clear hK K
              try simp only [Act.put, List.setIfInBounds_toArray, List.set_cons_zero, List.set_cons_succ]
              refine wpAnyH_ready (rs := [15]) (by kernel_rfl) (by simp) ?_
              refine AllReadyH.cons rfl (fun K hK => ?_) ?_
              · obtain ⟨y, hy⟩ : ∃ y, y = (⟨⟨sbs s, sbs t, 0, 0⟩, some ⟨(wr.drew).heap.size, 0, none⟩, grownCap (wr.drew) s.size 0 5, some ⟨(wS).heap.size, 0, none⟩, grownCap (wS) t.size 0 5⟩ : En) := ⟨_, rfl⟩
                have hyv : y.Ok wT ∧ y.U8 wT := by rw [hy]; exact ⟨⟨HIf.out.1, HIT.out.1, by simp, by simp⟩, fun b off e => by rcases e with e | e <;> cases e <;> first | exact HIf.out.2 | exact HIT.out.2⟩
                have HNw : Hid (∀ j u, y.cells[j]? = some u → (wT.alloc (.cells #[.slice (some ⟨(wr.drew).heap.size, 0, none⟩) (sbs s).length (grownCap (wr.drew) s.size 0 5), .slice (some ⟨(wS).heap.size, 0, none⟩) (sbs t).length (grownCap (wS) t.size 0 5), .int .u32 0, .int .u32 0] 68)).cell? ((⟨wT.heap.size, 0, none⟩ : Addr).add j) = some u) := by rw [Hid, hy]; exact box_news wT (⟨⟨sbs s, sbs t, 0, 0⟩, some ⟨(wr.drew).heap.size, 0, none⟩, grownCap (wr.drew) s.size 0 5, some ⟨(wS).heap.size, 0, none⟩, grownCap (wS) t.size 0 5⟩ : En)
                have HLf := hide ((HLf0.out.below HBT.out).below (below_alloc wT (.cells #[.slice (some ⟨(wr.drew).heap.size, 0, none⟩) (sbs s).length (grownCap (wr.drew) s.size 0 5), .slice (some ⟨(wS).heap.size, 0, none⟩) (sbs t).length (grownCap (wS) t.size 0 5), .int .u32 0, .int .u32 0] 68)))
                have HYv := hide hyv
                have HYe : Hid (y.e = ⟨sbs s, sbs t, 0, 0⟩) := by rw [Hid, hy]
                have hsz2 : w.heap.size + 2 ≤ wT.heap.size := by have := HBT.out.size; omega
                clear hy hyv
                refine step_append_own _ (by rfl) (.tmp 14) (.tmp 27) 23 (by rfl) (w.heap.size + 2) 68 i0 _ 4 56 Try.underlying23 hi hz0 hz1 hz2 (by rfl) (by omega) (.slice a3 ys.length c3) ys.length (rowc ys) (by rfl) HLf.out.row ⟨wT.heap.size, 0, none⟩ 1 1 y.cells (by rfl) (by rfl) HNw.out (cells_one y) (by unfold maxLen; omega) (by omega) (by simp; omega) ?_
                intro v' w4 hown4 hg4 hn4
                have hL4 := HLf.out.snoc (y := y) (HYv.out.1.below (below_alloc _ _)) (HYv.out.2.below (below_alloc _ _)) hg4 hown4
                obtain ⟨a4, c4, rfl, -⟩ := hL4.ens
                have hxb := (HBT.out.block _ (lt_of_block HX1.out)).trans HX1.out
                have hxa := (below_alloc wT (.cells #[.slice (some ⟨(wr.drew).heap.size, 0, none⟩) (sbs s).length (grownCap (wr.drew) s.size 0 5), .slice (some ⟨(wS).heap.size, 0, none⟩) (sbs t).length (grownCap (wS) t.size 0 5), .int .u32 0, .int .u32 0] 68)).block _ (lt_of_block hxb) |>.trans hxb
                have hx4 := (hg4.block _ (lt_of_block hxa) (fun e => HLf.out.noNode hxa e.symm)).trans hxa
                obtain ⟨t0, t1, tt0⟩ := cells_two hx4
                have tt1 := frozen_blk (j := 1) hx4
                have HX4 := hide hx4
                have HL4 := hide hL4
                have HB4 : Hid (∀ j, j < wr.heap.size → (Value.slice a3 ys.length c3).ownBlock ≠ some j → w4.heap[j]? = wr.heap[j]?) := hide fun j hj h1 => (hg4.block j (by have := HBT.out.size; simp; omega) (fun e => h1 e.symm)).trans (((below_alloc _ _).block j (by have := HBT.out.size; omega)).trans (HBT.out.block j hj))
                have HO4 : Hid (w4.os = wr.os ∧ w4.tape = wr.tape ∧ w4.output = wr.output ∧ wr.heap.size ≤ w4.heap.size) := hide ⟨hg4.os.trans HBT.out.os, hg4.tape.trans HBT.out.tape, hg4.output.trans HBT.out.output, by have h1 := hg4.size; have h2 := HBT.out.size; simp at h1; omega⟩
                clear hown4 hg4 hn4 hL4 hxa hxb hx4
                refine hK.out _ _ (by exact HS4.out _ HB4.out) (fun _hS => ?_)
                clear hK K
                try simp only [Act.put, List.setIfInBounds_toArray]
                refine wpAnyH_take (i := 16) (v := ?v16x12) rfl (by kernel_rfl) (by kernel_rfl) (by kernel_rfl) (fun _ _ _ h => h) (Or.inl ⟨by rfl, ?hy16x12⟩) (by assumption) ?rest16x12
                case hy16x12 => (intro w hSw; (try dsimp only at hSw); (first | (go_simp; with_reducible rfl) | go_simp))
                try simp only [Act.put]
                refine wpAnyH_ready (rs := [17]) (by kernel_rfl) (by simp) ?_
                refine AllReadyH.cons rfl (fun K hK => ?_) ?_
                · go_simp
                  refine hK.out _ _ (by exact HS5.out _ _ HB4.out) (fun _hS => ?_)
                  clear hK K
                  try simp only [Act.put, List.setIfInBounds_toArray, List.set_cons_zero, List.set_cons_succ]
                  refine wpAnyH_done (by kernel_rfl) ?_ _
                  refine NoPanic.normal ?_
                  go_wp2
                  go_roundw
                  case rel =>
                    rw [show ys.length + 1 = (ys ++ [y]).length by simp]
                    refine ⟨k + 1, j + 2, ys ++ [y], a4, c4, by omega, by have := HJ.out; omega, by go_num, ?_, ?_, ?_, ?_, ?_, ?_⟩
                    · rw [take_at HX.out, List.map_append, ers_app, HEr.out]
                      simp [ers, HYe.out, ee]
                    · exact (Below.heap_setCell _ _ _ _ (show w.heap.size ≠ w.heap.size + 1 by omega)).trans ((HB4.out _ (by omega) (hob _ (by omega))).trans HX0.out)
                    · rw [heap_setCell_same _ _ 1 _ 25 _ HX4.out]; rfl
                    · exact HL4.out.offNode HX4.out (fun i hi => Below.heap_setCell _ _ _ _ hi) (by simp [World.setCell])
                    · exact ⟨HO4.out.1.trans HBl.out.os, HO4.out.2.1.trans HBl.out.tape, HO4.out.2.2.1.trans HBl.out.output, by have := HO4.out.2.2.2; simp [World.setCell]; omega, fun i hi' => (Below.heap_setCell _ _ _ _ (show i ≠ w.heap.size + 1 by omega)).trans ((HB4.out i (by omega) (hob i (by omega))).trans (HBl.out.block i hi'))⟩
                    · have := HO4.out.2.2.2; simp [World.setCell]; omega
                  case measure => simp [intOf]; omega
                exact AllReadyH.nil
              exact AllReadyH.nil
            exact AllReadyH.nil
          exact AllReadyH.nil
        refine AllReadyH.cons rfl (fun K hK => ?_) ?_
        · go_simp
          obtain ⟨wT, hwT⟩ : ∃ x, x = Lib.bytesWorld wr.drew 5 t := ⟨_, rfl⟩
          rw [← hwT]
          have hbT : Below (wr.drew).heap.size (wr.drew) wT := by rw [hwT]; exact bw_below _ _
          have hiT : Inn wT (some ⟨(wr.drew).heap.size, 0, none⟩) (sbs t).length (grownCap (wr.drew) (t).size 0 5) (sbs t) ∧ ∃ cu f, wT.heap[(wr.drew).heap.size]? = some (.cells cu 5 f) := by rw [hwT]; exact bw_inn _ _ (by assumption)
          have HBT : Hid (Below wr.heap.size wr wT) := hide ((Below.refl _ _).drew.trans hbT)
          have HIT := hide hiT
          have HbT := hide hbT
          obtain ⟨n0T, n1T, -⟩ := cells_two ((HBT.out.block _ (lt_of_block HX1.out)).trans HX1.out)
          clear hwT hbT hiT
          refine hK.out _ _ (by exact HSt.out _ HBT.out) (fun _hS => ?_)
          clear hK K
          try simp only [Act.put, List.setIfInBounds_toArray, List.set_cons_zero, List.set_cons_succ]
          refine wpAnyH_ready (rs := [6]) (by kernel_rfl) (by simp) ?_
          refine AllReadyH.cons rfl (fun K hK => ?_) ?_
          · go_simp
            obtain ⟨wS, hwS⟩ : ∃ x, x = Lib.bytesWorld wT 5 s := ⟨_, rfl⟩
            rw [← hwS]
            have hbS : Below (wT).heap.size (wT) wS := by rw [hwS]; exact bw_below _ _
            have hiS : Inn wS (some ⟨(wT).heap.size, 0, none⟩) (sbs s).length (grownCap (wT) (s).size 0 5) (sbs s) ∧ ∃ cu f, wS.heap[(wT).heap.size]? = some (.cells cu 5 f) := by rw [hwS]; exact bw_inn _ _ (by assumption)
            have HBS : Hid (Below wr.heap.size wr wS) := hide (HBT.out.trans (hbS.mono HBT.out.size))
            have HIS := hide hiS
            have HbS := hide hbS
            obtain ⟨n0S, n1S, -⟩ := cells_two ((HBS.out.block _ (lt_of_block HX1.out)).trans HX1.out)
            clear hwS hbS hiS
            refine hK.out _ _ (by exact HSt.out _ HBS.out) (fun _hS => ?_)
            clear hK K
            try simp only [Act.put, List.setIfInBounds_toArray, List.set_cons_zero, List.set_cons_succ]
            refine wpAnyH_take (i := 13) (v := ?v13x13) rfl (by kernel_rfl) (by kernel_rfl) (by kernel_rfl) (fun _ _ _ h => h) (Or.inl ⟨by rfl, ?hy13x13⟩) (by assumption) ?rest13x13
            case hy13x13 => (intro w hSw; (try dsimp only at hSw); (first | (go_simp; with_reducible rfl) | go_simp))
            try simp only [Act.put, List.setIfInBounds_toArray]
            refine wpAnyH_ready (rs := [14]) (by kernel_rfl) (by simp) ?_
            refine AllReadyH.cons rfl (fun K hK => ?_) ?_
            · go_simp
              have n1b := one_below1 n1S (below_alloc wS (.cells #[.slice (some ⟨(wT).heap.size, 0, none⟩) (sbs s).length (grownCap (wT) s.size 0 5), .slice (some ⟨wr.heap.size, 0, none⟩) (sbs t).length (grownCap (wr.drew) t.size 0 5), .int .u32 0, .int .u32 0] 68))
              have HIf := hide (And.intro (HIT.out.1.below HbS.out) (blk_below HIT.out.2 HbS.out))
              refine hK.out _ _ (by exact HSt.out _ (HBS.out.trans ((below_alloc _ _).mono HBS.out.size))) (fun _hS => ?_)
              clear hK K
              try simp only [Act.put, List.setIfInBounds_toArray, List.set_cons_zero, List.set_cons_succ]
              refine wpAnyH_ready (rs := [15]) (by kernel_rfl) (by simp) ?_
              refine AllReadyH.cons rfl (fun K hK => ?_) ?_
              · obtain ⟨y, hy⟩ : ∃ y, y = (⟨⟨sbs s, sbs t, 0, 0⟩, some ⟨(wT).heap.size, 0, none⟩, grownCap (wT) s.size 0 5, some ⟨(wr.drew).heap.size, 0, none⟩, grownCap (wr.drew) t.size 0 5⟩ : En) := ⟨_, rfl⟩
                have hyv : y.Ok wS ∧ y.U8 wS := by rw [hy]; exact ⟨⟨HIS.out.1, HIf.out.1, by simp, by simp⟩, fun b off e => by rcases e with e | e <;> cases e <;> first | exact HIS.out.2 | exact HIf.out.2⟩
                have HNw : Hid (∀ j u, y.cells[j]? = some u → (wS.alloc (.cells #[.slice (some ⟨(wT).heap.size, 0, none⟩) (sbs s).length (grownCap (wT) s.size 0 5), .slice (some ⟨(wr.drew).heap.size, 0, none⟩) (sbs t).length (grownCap (wr.drew) t.size 0 5), .int .u32 0, .int .u32 0] 68)).cell? ((⟨wS.heap.size, 0, none⟩ : Addr).add j) = some u) := by rw [Hid, hy]; exact box_news wS (⟨⟨sbs s, sbs t, 0, 0⟩, some ⟨(wT).heap.size, 0, none⟩, grownCap (wT) s.size 0 5, some ⟨(wr.drew).heap.size, 0, none⟩, grownCap (wr.drew) t.size 0 5⟩ : En)
                have HLf := hide ((HLf0.out.below HBS.out).below (below_alloc wS (.cells #[.slice (some ⟨(wT).heap.size, 0, none⟩) (sbs s).length (grownCap (wT) s.size 0 5), .slice (some ⟨(wr.drew).heap.size, 0, none⟩) (sbs t).length (grownCap (wr.drew) t.size 0 5), .int .u32 0, .int .u32 0] 68)))
                have HYv := hide hyv
                have HYe : Hid (y.e = ⟨sbs s, sbs t, 0, 0⟩) := by rw [Hid, hy]
                have hsz2 : w.heap.size + 2 ≤ wS.heap.size := by have := HBS.out.size; omega
                clear hy hyv
                refine step_append_own _ (by rfl) (.tmp 14) (.tmp 27) 23 (by rfl) (w.heap.size + 2) 68 i0 _ 4 56 Try.underlying23 hi hz0 hz1 hz2 (by rfl) (by omega) (.slice a3 ys.length c3) ys.length (rowc ys) (by rfl) HLf.out.row ⟨wS.heap.size, 0, none⟩ 1 1 y.cells (by rfl) (by rfl) HNw.out (cells_one y) (by unfold maxLen; omega) (by omega) (by simp; omega) ?_
                intro v' w4 hown4 hg4 hn4
                have hL4 := HLf.out.snoc (y := y) (HYv.out.1.below (below_alloc _ _)) (HYv.out.2.below (below_alloc _ _)) hg4 hown4
                obtain ⟨a4, c4, rfl, -⟩ := hL4.ens
                have hxb := (HBS.out.block _ (lt_of_block HX1.out)).trans HX1.out
                have hxa := (below_alloc wS (.cells #[.slice (some ⟨(wT).heap.size, 0, none⟩) (sbs s).length (grownCap (wT) s.size 0 5), .slice (some ⟨(wr.drew).heap.size, 0, none⟩) (sbs t).length (grownCap (wr.drew) t.size 0 5), .int .u32 0, .int .u32 0] 68)).block _ (lt_of_block hxb) |>.trans hxb
                have hx4 := (hg4.block _ (lt_of_block hxa) (fun e => HLf.out.noNode hxa e.symm)).trans hxa
                obtain ⟨t0, t1, tt0⟩ := cells_two hx4
                have tt1 := frozen_blk (j := 1) hx4
                have HX4 := hide hx4
                have HL4 := hide hL4
                have HB4 : Hid (∀ j, j < wr.heap.size → (Value.slice a3 ys.length c3).ownBlock ≠ some j → w4.heap[j]? = wr.heap[j]?) := hide fun j hj h1 => (hg4.block j (by have := HBS.out.size; simp; omega) (fun e => h1 e.symm)).trans (((below_alloc _ _).block j (by have := HBS.out.size; omega)).trans (HBS.out.block j hj))
                have HO4 : Hid (w4.os = wr.os ∧ w4.tape = wr.tape ∧ w4.output = wr.output ∧ wr.heap.size ≤ w4.heap.size) := hide ⟨hg4.os.trans HBS.out.os, hg4.tape.trans HBS.out.tape, hg4.output.trans HBS.out.output, by have h1 := hg4.size; have h2 := HBS.out.size; simp at h1; omega⟩
                clear hown4 hg4 hn4 hL4 hxa hxb hx4
                refine hK.out _ _ (by exact HS4.out _ HB4.out) (fun _hS => ?_)
                clear hK K
                try simp only [Act.put, List.setIfInBounds_toArray]
                refine wpAnyH_take (i := 16) (v := ?v16x14) rfl (by kernel_rfl) (by kernel_rfl) (by kernel_rfl) (fun _ _ _ h => h) (Or.inl ⟨by rfl, ?hy16x14⟩) (by assumption) ?rest16x14
                case hy16x14 => (intro w hSw; (try dsimp only at hSw); (first | (go_simp; with_reducible rfl) | go_simp))
                try simp only [Act.put]
                refine wpAnyH_ready (rs := [17]) (by kernel_rfl) (by simp) ?_
                refine AllReadyH.cons rfl (fun K hK => ?_) ?_
                · go_simp
                  refine hK.out _ _ (by exact HS5.out _ _ HB4.out) (fun _hS => ?_)
                  clear hK K
                  try simp only [Act.put, List.setIfInBounds_toArray, List.set_cons_zero, List.set_cons_succ]
                  refine wpAnyH_done (by kernel_rfl) ?_ _
                  refine NoPanic.normal ?_
                  go_wp2
                  go_roundw
                  case rel =>
                    rw [show ys.length + 1 = (ys ++ [y]).length by simp]
                    refine ⟨k + 1, j + 2, ys ++ [y], a4, c4, by omega, by have := HJ.out; omega, by go_num, ?_, ?_, ?_, ?_, ?_, ?_⟩
                    · rw [take_at HX.out, List.map_append, ers_app, HEr.out]
                      simp [ers, HYe.out, ee]
                    · exact (Below.heap_setCell _ _ _ _ (show w.heap.size ≠ w.heap.size + 1 by omega)).trans ((HB4.out _ (by omega) (hob _ (by omega))).trans HX0.out)
                    · rw [heap_setCell_same _ _ 1 _ 25 _ HX4.out]; rfl
                    · exact HL4.out.offNode HX4.out (fun i hi => Below.heap_setCell _ _ _ _ hi) (by simp [World.setCell])
                    · exact ⟨HO4.out.1.trans HBl.out.os, HO4.out.2.1.trans HBl.out.tape, HO4.out.2.2.1.trans HBl.out.output, by have := HO4.out.2.2.2; simp [World.setCell]; omega, fun i hi' => (Below.heap_setCell _ _ _ _ (show i ≠ w.heap.size + 1 by omega)).trans ((HB4.out i (by omega) (hob i (by omega))).trans (HBl.out.block i hi'))⟩
                    · have := HO4.out.2.2.2; simp [World.setCell]; omega
                  case measure => simp [intOf]; omega
                exact AllReadyH.nil
              exact AllReadyH.nil
            exact AllReadyH.nil
          exact AllReadyH.nil
        exact AllReadyH.nil
      refine AllReadyH.cons rfl (fun K hK => ?_) ?_
      · go_simp
        obtain ⟨wS, hwS⟩ : ∃ x, x = Lib.bytesWorld wr.drew 5 s := ⟨_, rfl⟩
        rw [← hwS]
        have hbS : Below (wr.drew).heap.size (wr.drew) wS := by rw [hwS]; exact bw_below _ _
        have hiS : Inn wS (some ⟨(wr.drew).heap.size, 0, none⟩) (sbs s).length (grownCap (wr.drew) (s).size 0 5) (sbs s) ∧ ∃ cu f, wS.heap[(wr.drew).heap.size]? = some (.cells cu 5 f) := by rw [hwS]; exact bw_inn _ _ (by assumption)
        have HBS : Hid (Below wr.heap.size wr wS) := hide ((Below.refl _ _).drew.trans hbS)
        have HIS := hide hiS
        have HbS := hide hbS
        obtain ⟨n0S, n1S, -⟩ := cells_two ((HBS.out.block _ (lt_of_block HX1.out)).trans HX1.out)
        clear hwS hbS hiS
        refine hK.out _ _ (by exact HSt.out _ HBS.out) (fun _hS => ?_)
        clear hK K
        try simp only [Act.put, List.setIfInBounds_toArray, List.set_cons_zero, List.set_cons_succ]
        refine wpAnyH_ready (rs := [1, 12]) (by kernel_rfl) (by simp) ?_
        refine AllReadyH.cons rfl (fun K hK => ?_) ?_
        · go_simp
          refine hK.out _ _ (by exact _hS) (fun _hS => ?_)
          clear hK K
          try simp only [Act.put, List.setIfInBounds_toArray, List.set_cons_zero, List.set_cons_succ]
          refine wpAnyH_ready (rs := [12]) (by kernel_rfl) (by simp) ?_
          refine AllReadyH.cons rfl (fun K hK => ?_) ?_
          · go_simp
            obtain ⟨wT, hwT⟩ : ∃ x, x = Lib.bytesWorld wS 5 t := ⟨_, rfl⟩
            rw [← hwT]
            have hbT : Below (wS).heap.size (wS) wT := by rw [hwT]; exact bw_below _ _
            have hiT : Inn wT (some ⟨(wS).heap.size, 0, none⟩) (sbs t).length (grownCap (wS) (t).size 0 5) (sbs t) ∧ ∃ cu f, wT.heap[(wS).heap.size]? = some (.cells cu 5 f) := by rw [hwT]; exact bw_inn _ _ (by assumption)
            have HBT : Hid (Below wr.heap.size wr wT) := hide (HBS.out.trans (hbT.mono HBS.out.size))
            have HIT := hide hiT
            have HbT := hide hbT
            obtain ⟨n0T, n1T, -⟩ := cells_two ((HBT.out.block _ (lt_of_block HX1.out)).trans HX1.out)
            clear hwT hbT hiT
            refine hK.out _ _ (by exact HSt.out _ HBT.out) (fun _hS => ?_)
            clear hK K
            try simp only [Act.put, List.setIfInBounds_toArray, List.set_cons_zero, List.set_cons_succ]
            refine wpAnyH_take (i := 13) (v := ?v13x15) rfl (by kernel_rfl) (by kernel_rfl) (by kernel_rfl) (fun _ _ _ h => h) (Or.inl ⟨by rfl, ?hy13x15⟩) (by assumption) ?rest13x15
            case hy13x15 => (intro w hSw; (try dsimp only at hSw); (first | (go_simp; with_reducible rfl) | go_simp))
            try simp only [Act.put, List.setIfInBounds_toArray]
            refine wpAnyH_ready (rs := [14]) (by kernel_rfl) (by simp) ?_
            refine AllReadyH.cons rfl (fun K hK => ?_) ?_
            · go_simp
              have n1b := one_below1 n1T (below_alloc wT (.cells #[.slice (some ⟨wr.heap.size, 0, none⟩) (sbs s).length (grownCap (wr.drew) s.size 0 5), .slice (some ⟨(wS).heap.size, 0, none⟩) (sbs t).length (grownCap (wS) t.size 0 5), .int .u32 0, .int .u32 0] 68))
              have HIf := hide (And.intro (HIS.out.1.below HbT.out) (blk_below HIS.out.2 HbT.out))
              refine hK.out _ _ (by exact HSt.out _ (HBT.out.trans ((below_alloc _ _).mono HBT.out.size))) (fun _hS => ?_)
              clear hK K
              try simp only [Act.put, List.setIfInBounds_toArray, List.set_cons_zero, List.set_cons_succ]
              refine wpAnyH_ready (rs := [15]) (by kernel_rfl) (by simp) ?_
              refine AllReadyH.cons rfl (fun K hK => ?_) ?_
              · obtain ⟨y, hy⟩ : ∃ y, y = (⟨⟨sbs s, sbs t, 0, 0⟩, some ⟨(wr.drew).heap.size, 0, none⟩, grownCap (wr.drew) s.size 0 5, some ⟨(wS).heap.size, 0, none⟩, grownCap (wS) t.size 0 5⟩ : En) := ⟨_, rfl⟩
                have hyv : y.Ok wT ∧ y.U8 wT := by rw [hy]; exact ⟨⟨HIf.out.1, HIT.out.1, by simp, by simp⟩, fun b off e => by rcases e with e | e <;> cases e <;> first | exact HIf.out.2 | exact HIT.out.2⟩
                have HNw : Hid (∀ j u, y.cells[j]? = some u → (wT.alloc (.cells #[.slice (some ⟨(wr.drew).heap.size, 0, none⟩) (sbs s).length (grownCap (wr.drew) s.size 0 5), .slice (some ⟨(wS).heap.size, 0, none⟩) (sbs t).length (grownCap (wS) t.size 0 5), .int .u32 0, .int .u32 0] 68)).cell? ((⟨wT.heap.size, 0, none⟩ : Addr).add j) = some u) := by rw [Hid, hy]; exact box_news wT (⟨⟨sbs s, sbs t, 0, 0⟩, some ⟨(wr.drew).heap.size, 0, none⟩, grownCap (wr.drew) s.size 0 5, some ⟨(wS).heap.size, 0, none⟩, grownCap (wS) t.size 0 5⟩ : En)
                have HLf := hide ((HLf0.out.below HBT.out).below (below_alloc wT (.cells #[.slice (some ⟨(wr.drew).heap.size, 0, none⟩) (sbs s).length (grownCap (wr.drew) s.size 0 5), .slice (some ⟨(wS).heap.size, 0, none⟩) (sbs t).length (grownCap (wS) t.size 0 5), .int .u32 0, .int .u32 0] 68)))
                have HYv := hide hyv
                have HYe : Hid (y.e = ⟨sbs s, sbs t, 0, 0⟩) := by rw [Hid, hy]
                have hsz2 : w.heap.size + 2 ≤ wT.heap.size := by have := HBT.out.size; omega
                clear hy hyv
                refine step_append_own _ (by rfl) (.tmp 14) (.tmp 27) 23 (by rfl) (w.heap.size + 2) 68 i0 _ 4 56 Try.underlying23 hi hz0 hz1 hz2 (by rfl) (by omega) (.slice a3 ys.length c3) ys.length (rowc ys) (by rfl) HLf.out.row ⟨wT.heap.size, 0, none⟩ 1 1 y.cells (by rfl) (by rfl) HNw.out (cells_one y) (by unfold maxLen; omega) (by omega) (by simp; omega) ?_
                intro v' w4 hown4 hg4 hn4
                have hL4 := HLf.out.snoc (y := y) (HYv.out.1.below (below_alloc _ _)) (HYv.out.2.below (below_alloc _ _)) hg4 hown4
                obtain ⟨a4, c4, rfl, -⟩ := hL4.ens
                have hxb := (HBT.out.block _ (lt_of_block HX1.out)).trans HX1.out
                have hxa := (below_alloc wT (.cells #[.slice (some ⟨(wr.drew).heap.size, 0, none⟩) (sbs s).length (grownCap (wr.drew) s.size 0 5), .slice (some ⟨(wS).heap.size, 0, none⟩) (sbs t).length (grownCap (wS) t.size 0 5), .int .u32 0, .int .u32 0] 68)).block _ (lt_of_block hxb) |>.trans hxb
                have hx4 := (hg4.block _ (lt_of_block hxa) (fun e => HLf.out.noNode hxa e.symm)).trans hxa
                obtain ⟨t0, t1, tt0⟩ := cells_two hx4
                have tt1 := frozen_blk (j := 1) hx4
                have HX4 := hide hx4
                have HL4 := hide hL4
                have HB4 : Hid (∀ j, j < wr.heap.size → (Value.slice a3 ys.length c3).ownBlock ≠ some j → w4.heap[j]? = wr.heap[j]?) := hide fun j hj h1 => (hg4.block j (by have := HBT.out.size; simp; omega) (fun e => h1 e.symm)).trans (((below_alloc _ _).block j (by have := HBT.out.size; omega)).trans (HBT.out.block j hj))
                have HO4 : Hid (w4.os = wr.os ∧ w4.tape = wr.tape ∧ w4.output = wr.output ∧ wr.heap.size ≤ w4.heap.size) := hide ⟨hg4.os.trans HBT.out.os, hg4.tape.trans HBT.out.tape, hg4.output.trans HBT.out.output, by have h1 := hg4.size; have h2 := HBT.out.size; simp at h1; omega⟩
                clear hown4 hg4 hn4 hL4 hxa hxb hx4
                refine hK.out _ _ (by exact HS4.out _ HB4.out) (fun _hS => ?_)
                clear hK K
                try simp only [Act.put, List.setIfInBounds_toArray]
                refine wpAnyH_take (i := 16) (v := ?v16x16) rfl (by kernel_rfl) (by kernel_rfl) (by kernel_rfl) (fun _ _ _ h => h) (Or.inl ⟨by rfl, ?hy16x16⟩) (by assumption) ?rest16x16
                case hy16x16 => (intro w hSw; (try dsimp only at hSw); (first | (go_simp; with_reducible rfl) | go_simp))
                try simp only [Act.put]
                refine wpAnyH_ready (rs := [17]) (by kernel_rfl) (by simp) ?_
                refine AllReadyH.cons rfl (fun K hK => ?_) ?_
                · go_simp
                  refine hK.out _ _ (by exact HS5.out _ _ HB4.out) (fun _hS => ?_)
                  clear hK K
                  try simp only [Act.put, List.setIfInBounds_toArray, List.set_cons_zero, List.set_cons_succ]
                  refine wpAnyH_done (by kernel_rfl) ?_ _
                  refine NoPanic.normal ?_
                  go_wp2
                  go_roundw
                  case rel =>
                    rw [show ys.length + 1 = (ys ++ [y]).length by simp]
                    refine ⟨k + 1, j + 2, ys ++ [y], a4, c4, by omega, by have := HJ.out; omega, by go_num, ?_, ?_, ?_, ?_, ?_, ?_⟩
                    · rw [take_at HX.out, List.map_append, ers_app, HEr.out]
                      simp [ers, HYe.out, ee]
                    · exact (Below.heap_setCell _ _ _ _ (show w.heap.size ≠ w.heap.size + 1 by omega)).trans ((HB4.out _ (by omega) (hob _ (by omega))).trans HX0.out)
                    · rw [heap_setCell_same _ _ 1 _ 25 _ HX4.out]; rfl
                    · exact HL4.out.offNode HX4.out (fun i hi => Below.heap_setCell _ _ _ _ hi) (by simp [World.setCell])
                    · exact ⟨HO4.out.1.trans HBl.out.os, HO4.out.2.1.trans HBl.out.tape, HO4.out.2.2.1.trans HBl.out.output, by have := HO4.out.2.2.2; simp [World.setCell]; omega, fun i hi' => (Below.heap_setCell _ _ _ _ (show i ≠ w.heap.size + 1 by omega)).trans ((HB4.out i (by omega) (hob i (by omega))).trans (HBl.out.block i hi'))⟩
                    · have := HO4.out.2.2.2; simp [World.setCell]; omega
                  case measure => simp [intOf]; omega
                exact AllReadyH.nil
              exact AllReadyH.nil
            exact AllReadyH.nil
          exact AllReadyH.nil
        refine AllReadyH.cons rfl (fun K hK => ?_) ?_
        · go_simp
          obtain ⟨wT, hwT⟩ : ∃ x, x = Lib.bytesWorld wS 5 t := ⟨_, rfl⟩
          rw [← hwT]
          have hbT : Below (wS).heap.size (wS) wT := by rw [hwT]; exact bw_below _ _
          have hiT : Inn wT (some ⟨(wS).heap.size, 0, none⟩) (sbs t).length (grownCap (wS) (t).size 0 5) (sbs t) ∧ ∃ cu f, wT.heap[(wS).heap.size]? = some (.cells cu 5 f) := by rw [hwT]; exact bw_inn _ _ (by assumption)
          have HBT : Hid (Below wr.heap.size wr wT) := hide (HBS.out.trans (hbT.mono HBS.out.size))
          have HIT := hide hiT
          have HbT := hide hbT
          obtain ⟨n0T, n1T, -⟩ := cells_two ((HBT.out.block _ (lt_of_block HX1.out)).trans HX1.out)
          clear hwT hbT hiT
          refine hK.out _ _ (by exact HSt.out _ HBT.out) (fun _hS => ?_)
          clear hK K
          try simp only [Act.put, List.setIfInBounds_toArray, List.set_cons_zero, List.set_cons_succ]
          refine wpAnyH_take (i := 13) (v := ?v13x17) rfl (by kernel_rfl) (by kernel_rfl) (by kernel_rfl) (fun _ _ _ h => h) (Or.inl ⟨by rfl, ?hy13x17⟩) (by assumption) ?rest13x17
          case hy13x17 => (intro w hSw; (try dsimp only at hSw); (first | (go_simp; with_reducible rfl) | go_simp))
          try simp only [Act.put, List.setIfInBounds_toArray]
          refine wpAnyH_ready (rs := [1, 14]) (by kernel_rfl) (by simp) ?_
          refine AllReadyH.cons rfl (fun K hK => ?_) ?_
          · go_simp
            refine hK.out _ _ (by exact _hS) (fun _hS => ?_)
            clear hK K
            try simp only [Act.put, List.setIfInBounds_toArray, List.set_cons_zero, List.set_cons_succ]
            refine wpAnyH_ready (rs := [14]) (by kernel_rfl) (by simp) ?_
            refine AllReadyH.cons rfl (fun K hK => ?_) ?_
            · go_simp
              have n1b := one_below1 n1T (below_alloc wT (.cells #[.slice (some ⟨wr.heap.size, 0, none⟩) (sbs s).length (grownCap (wr.drew) s.size 0 5), .slice (some ⟨(wS).heap.size, 0, none⟩) (sbs t).length (grownCap (wS) t.size 0 5), .int .u32 0, .int .u32 0] 68))
              have HIf := hide (And.intro (HIS.out.1.below HbT.out) (blk_below HIS.out.2 HbT.out))
              refine hK.out _ _ (by exact HSt.out _ (HBT.out.trans ((below_alloc _ _).mono HBT.out.size))) (fun _hS => ?_)
              clear hK K
              try simp only [Act.put, List.setIfInBounds_toArray, List.set_cons_zero, List.set_cons_succ]
              refine wpAnyH_ready (rs := [15]) (by kernel_rfl) (by simp) ?_
              refine AllReadyH.cons rfl (fun K hK => ?_) ?_
              · obtain ⟨y, hy⟩ : ∃ y, y = (⟨⟨sbs s, sbs t, 0, 0⟩, some ⟨(wr.drew).heap.size, 0, none⟩, grownCap (wr.drew) s.size 0 5, some ⟨(wS).heap.size, 0, none⟩, grownCap (wS) t.size 0 5⟩ : En) := ⟨_, rfl⟩
                have hyv : y.Ok wT ∧ y.U8 wT := by rw [hy]; exact ⟨⟨HIf.out.1, HIT.out.1, by simp, by simp⟩, fun b off e => by rcases e with e | e <;> cases e <;> first | exact HIf.out.2 | exact HIT.out.2⟩
                have HNw : Hid (∀ j u, y.cells[j]? = some u → (wT.alloc (.cells #[.slice (some ⟨(wr.drew).heap.size, 0, none⟩) (sbs s).length (grownCap (wr.drew) s.size 0 5), .slice (some ⟨(wS).heap.size, 0, none⟩) (sbs t).length (grownCap (wS) t.size 0 5), .int .u32 0, .int .u32 0] 68)).cell? ((⟨wT.heap.size, 0, none⟩ : Addr).add j) = some u) := by rw [Hid, hy]; exact box_news wT (⟨⟨sbs s, sbs t, 0, 0⟩, some ⟨(wr.drew).heap.size, 0, none⟩, grownCap (wr.drew) s.size 0 5, some ⟨(wS).heap.size, 0, none⟩, grownCap (wS) t.size 0 5⟩ : En)
                have HLf := hide ((HLf0.out.below HBT.out).below (below_alloc wT (.cells #[.slice (some ⟨(wr.drew).heap.size, 0, none⟩) (sbs s).length (grownCap (wr.drew) s.size 0 5), .slice (some ⟨(wS).heap.size, 0, none⟩) (sbs t).length (grownCap (wS) t.size 0 5), .int .u32 0, .int .u32 0] 68)))
                have HYv := hide hyv
                have HYe : Hid (y.e = ⟨sbs s, sbs t, 0, 0⟩) := by rw [Hid, hy]
                have hsz2 : w.heap.size + 2 ≤ wT.heap.size := by have := HBT.out.size; omega
                clear hy hyv
                refine step_append_own _ (by rfl) (.tmp 14) (.tmp 27) 23 (by rfl) (w.heap.size + 2) 68 i0 _ 4 56 Try.underlying23 hi hz0 hz1 hz2 (by rfl) (by omega) (.slice a3 ys.length c3) ys.length (rowc ys) (by rfl) HLf.out.row ⟨wT.heap.size, 0, none⟩ 1 1 y.cells (by rfl) (by rfl) HNw.out (cells_one y) (by unfold maxLen; omega) (by omega) (by simp; omega) ?_
                intro v' w4 hown4 hg4 hn4
                have hL4 := HLf.out.snoc (y := y) (HYv.out.1.below (below_alloc _ _)) (HYv.out.2.below (below_alloc _ _)) hg4 hown4
                obtain ⟨a4, c4, rfl, -⟩ := hL4.ens
                have hxb := (HBT.out.block _ (lt_of_block HX1.out)).trans HX1.out
                have hxa := (below_alloc wT (.cells #[.slice (some ⟨(wr.drew).heap.size, 0, none⟩) (sbs s).length (grownCap (wr.drew) s.size 0 5), .slice (some ⟨(wS).heap.size, 0, none⟩) (sbs t).length (grownCap (wS) t.size 0 5), .int .u32 0, .int .u32 0] 68)).block _ (lt_of_block hxb) |>.trans hxb
                have hx4 := (hg4.block _ (lt_of_block hxa) (fun e => HLf.out.noNode hxa e.symm)).trans hxa
                obtain ⟨t0, t1, tt0⟩ := cells_two hx4
                have tt1 := frozen_blk (j := 1) hx4
                have HX4 := hide hx4
                have HL4 := hide hL4
                have HB4 : Hid (∀ j, j < wr.heap.size → (Value.slice a3 ys.length c3).ownBlock ≠ some j → w4.heap[j]? = wr.heap[j]?) := hide fun j hj h1 => (hg4.block j (by have := HBT.out.size; simp; omega) (fun e => h1 e.symm)).trans (((below_alloc _ _).block j (by have := HBT.out.size; omega)).trans (HBT.out.block j hj))
                have HO4 : Hid (w4.os = wr.os ∧ w4.tape = wr.tape ∧ w4.output = wr.output ∧ wr.heap.size ≤ w4.heap.size) := hide ⟨hg4.os.trans HBT.out.os, hg4.tape.trans HBT.out.tape, hg4.output.trans HBT.out.output, by have h1 := hg4.size; have h2 := HBT.out.size; simp at h1; omega⟩
                clear hown4 hg4 hn4 hL4 hxa hxb hx4
                refine hK.out _ _ (by exact HS4.out _ HB4.out) (fun _hS => ?_)
                clear hK K
                try simp only [Act.put, List.setIfInBounds_toArray]
                refine wpAnyH_take (i := 16) (v := ?v16x18) rfl (by kernel_rfl) (by kernel_rfl) (by kernel_rfl) (fun _ _ _ h => h) (Or.inl ⟨by rfl, ?hy16x18⟩) (by assumption) ?rest16x18
                case hy16x18 => (intro w hSw; (try dsimp only at hSw); (first | (go_simp; with_reducible rfl) | go_simp))
                try simp only [Act.put]
                refine wpAnyH_ready (rs := [17]) (by kernel_rfl) (by simp) ?_
                refine AllReadyH.cons rfl (fun K hK => ?_) ?_
                · go_simp
                  refine hK.out _ _ (by exact HS5.out _ _ HB4.out) (fun _hS => ?_)
                  clear hK K
                  try simp only [Act.put, List.setIfInBounds_toArray, List.set_cons_zero, List.set_cons_succ]
                  refine wpAnyH_done (by kernel_rfl) ?_ _
                  refine NoPanic.normal ?_
                  go_wp2
                  go_roundw
                  case rel =>
                    rw [show ys.length + 1 = (ys ++ [y]).length by simp]
                    refine ⟨k + 1, j + 2, ys ++ [y], a4, c4, by omega, by have := HJ.out; omega, by go_num, ?_, ?_, ?_, ?_, ?_, ?_⟩
                    · rw [take_at HX.out, List.map_append, ers_app, HEr.out]
                      simp [ers, HYe.out, ee]
                    · exact (Below.heap_setCell _ _ _ _ (show w.heap.size ≠ w.heap.size + 1 by omega)).trans ((HB4.out _ (by omega) (hob _ (by omega))).trans HX0.out)
                    · rw [heap_setCell_same _ _ 1 _ 25 _ HX4.out]; rfl
                    · exact HL4.out.offNode HX4.out (fun i hi => Below.heap_setCell _ _ _ _ hi) (by simp [World.setCell])
                    · exact ⟨HO4.out.1.trans HBl.out.os, HO4.out.2.1.trans HBl.out.tape, HO4.out.2.2.1.trans HBl.out.output, by have := HO4.out.2.2.2; simp [World.setCell]; omega, fun i hi' => (Below.heap_setCell _ _ _ _ (show i ≠ w.heap.size + 1 by omega)).trans ((HB4.out i (by omega) (hob i (by omega))).trans (HBl.out.block i hi'))⟩
                    · have := HO4.out.2.2.2; simp [World.setCell]; omega
                  case measure => simp [intOf]; omega
                exact AllReadyH.nil
              exact AllReadyH.nil
            exact AllReadyH.nil
          refine AllReadyH.cons rfl (fun K hK => ?_) ?_
          · go_simp
            have n1b := one_below1 n1T (below_alloc wT (.cells #[.slice (some ⟨wr.heap.size, 0, none⟩) (sbs s).length (grownCap (wr.drew) s.size 0 5), .slice (some ⟨(wS).heap.size, 0, none⟩) (sbs t).length (grownCap (wS) t.size 0 5), .int .u32 0, .int .u32 0] 68))
            have HIf := hide (And.intro (HIS.out.1.below HbT.out) (blk_below HIS.out.2 HbT.out))
            refine hK.out _ _ (by exact HSt.out _ (HBT.out.trans ((below_alloc _ _).mono HBT.out.size))) (fun _hS => ?_)
            clear hK K
            try simp only [Act.put, List.setIfInBounds_toArray, List.set_cons_zero, List.set_cons_succ]
            refine wpAnyH_ready (rs := [1]) (by kernel_rfl) (by simp) ?_
            refine AllReadyH.cons rfl (fun K hK => ?_) ?_
            · go_simp
              refine hK.out _ _ (by exact _hS) (fun _hS => ?_)
              clear hK K
              try simp only [Act.put, List.setIfInBounds_toArray, List.set_cons_zero, List.set_cons_succ]
              refine wpAnyH_ready (rs := [15]) (by kernel_rfl) (by simp) ?_
              refine AllReadyH.cons rfl (fun K hK => ?_) ?_
              · obtain ⟨y, hy⟩ : ∃ y, y = (⟨⟨sbs s, sbs t, 0, 0⟩, some ⟨(wr.drew).heap.size, 0, none⟩, grownCap (wr.drew) s.size 0 5, some ⟨(wS).heap.size, 0, none⟩, grownCap (wS) t.size 0 5⟩ : En) := ⟨_, rfl⟩
                have hyv : y.Ok wT ∧ y.U8 wT := by rw [hy]; exact ⟨⟨HIf.out.1, HIT.out.1, by simp, by simp⟩, fun b off e => by rcases e with e | e <;> cases e <;> first | exact HIf.out.2 | exact HIT.out.2⟩
                have HNw : Hid (∀ j u, y.cells[j]? = some u → (wT.alloc (.cells #[.slice (some ⟨(wr.drew).heap.size, 0, none⟩) (sbs s).length (grownCap (wr.drew) s.size 0 5), .slice (some ⟨(wS).heap.size, 0, none⟩) (sbs t).length (grownCap (wS) t.size 0 5), .int .u32 0, .int .u32 0] 68)).cell? ((⟨wT.heap.size, 0, none⟩ : Addr).add j) = some u) := by rw [Hid, hy]; exact box_news wT (⟨⟨sbs s, sbs t, 0, 0⟩, some ⟨(wr.drew).heap.size, 0, none⟩, grownCap (wr.drew) s.size 0 5, some ⟨(wS).heap.size, 0, none⟩, grownCap (wS) t.size 0 5⟩ : En)
                have HLf := hide ((HLf0.out.below HBT.out).below (below_alloc wT (.cells #[.slice (some ⟨(wr.drew).heap.size, 0, none⟩) (sbs s).length (grownCap (wr.drew) s.size 0 5), .slice (some ⟨(wS).heap.size, 0, none⟩) (sbs t).length (grownCap (wS) t.size 0 5), .int .u32 0, .int .u32 0] 68)))
                have HYv := hide hyv
                have HYe : Hid (y.e = ⟨sbs s, sbs t, 0, 0⟩) := by rw [Hid, hy]
                have hsz2 : w.heap.size + 2 ≤ wT.heap.size := by have := HBT.out.size; omega
                clear hy hyv
                refine step_append_own _ (by rfl) (.tmp 14) (.tmp 27) 23 (by rfl) (w.heap.size + 2) 68 i0 _ 4 56 Try.underlying23 hi hz0 hz1 hz2 (by rfl) (by omega) (.slice a3 ys.length c3) ys.length (rowc ys) (by rfl) HLf.out.row ⟨wT.heap.size, 0, none⟩ 1 1 y.cells (by rfl) (by rfl) HNw.out (cells_one y) (by unfold maxLen; omega) (by omega) (by simp; omega) ?_
                intro v' w4 hown4 hg4 hn4
                have hL4 := HLf.out.snoc (y := y) (HYv.out.1.below (below_alloc _ _)) (HYv.out.2.below (below_alloc _ _)) hg4 hown4
                obtain ⟨a4, c4, rfl, -⟩ := hL4.ens
                have hxb := (HBT.out.block _ (lt_of_block HX1.out)).trans HX1.out
                have hxa := (below_alloc wT (.cells #[.slice (some ⟨(wr.drew).heap.size, 0, none⟩) (sbs s).length (grownCap (wr.drew) s.size 0 5), .slice (some ⟨(wS).heap.size, 0, none⟩) (sbs t).length (grownCap (wS) t.size 0 5), .int .u32 0, .int .u32 0] 68)).block _ (lt_of_block hxb) |>.trans hxb
                have hx4 := (hg4.block _ (lt_of_block hxa) (fun e => HLf.out.noNode hxa e.symm)).trans hxa
                obtain ⟨t0, t1, tt0⟩ := cells_two hx4
                have tt1 := frozen_blk (j := 1) hx4
                have HX4 := hide hx4
                have HL4 := hide hL4
                have HB4 : Hid (∀ j, j < wr.heap.size → (Value.slice a3 ys.length c3).ownBlock ≠ some j → w4.heap[j]? = wr.heap[j]?) := hide fun j hj h1 => (hg4.block j (by have := HBT.out.size; simp; omega) (fun e => h1 e.symm)).trans (((below_alloc _ _).block j (by have := HBT.out.size; omega)).trans (HBT.out.block j hj))
                have HO4 : Hid (w4.os = wr.os ∧ w4.tape = wr.tape ∧ w4.output = wr.output ∧ wr.heap.size ≤ w4.heap.size) := hide ⟨hg4.os.trans HBT.out.os, hg4.tape.trans HBT.out.tape, hg4.output.trans HBT.out.output, by have h1 := hg4.size; have h2 := HBT.out.size; simp at h1; omega⟩
                clear hown4 hg4 hn4 hL4 hxa hxb hx4
                refine hK.out _ _ (by exact HS4.out _ HB4.out) (fun _hS => ?_)
                clear hK K
                try simp only [Act.put, List.setIfInBounds_toArray]
                refine wpAnyH_take (i := 16) (v := ?v16x19) rfl (by kernel_rfl) (by kernel_rfl) (by kernel_rfl) (fun _ _ _ h => h) (Or.inl ⟨by rfl, ?hy16x19⟩) (by assumption) ?rest16x19
                case hy16x19 => (intro w hSw; (try dsimp only at hSw); (first | (go_simp; with_reducible rfl) | go_simp))
                try simp only [Act.put]
                refine wpAnyH_ready (rs := [17]) (by kernel_rfl) (by simp) ?_
                refine AllReadyH.cons rfl (fun K hK => ?_) ?_
                · go_simp
                  refine hK.out _ _ (by exact HS5.out _ _ HB4.out) (fun _hS => ?_)
                  clear hK K
                  try simp only [Act.put, List.setIfInBounds_toArray, List.set_cons_zero, List.set_cons_succ]
                  refine wpAnyH_done (by kernel_rfl) ?_ _
                  refine NoPanic.normal ?_
                  go_wp2
                  go_roundw
                  case rel =>
                    rw [show ys.length + 1 = (ys ++ [y]).length by simp]
                    refine ⟨k + 1, j + 2, ys ++ [y], a4, c4, by omega, by have := HJ.out; omega, by go_num, ?_, ?_, ?_, ?_, ?_, ?_⟩
                    · rw [take_at HX.out, List.map_append, ers_app, HEr.out]
                      simp [ers, HYe.out, ee]
                    · exact (Below.heap_setCell _ _ _ _ (show w.heap.size ≠ w.heap.size + 1 by omega)).trans ((HB4.out _ (by omega) (hob _ (by omega))).trans HX0.out)
                    · rw [heap_setCell_same _ _ 1 _ 25 _ HX4.out]; rfl
                    · exact HL4.out.offNode HX4.out (fun i hi => Below.heap_setCell _ _ _ _ hi) (by simp [World.setCell])
                    · exact ⟨HO4.out.1.trans HBl.out.os, HO4.out.2.1.trans HBl.out.tape, HO4.out.2.2.1.trans HBl.out.output, by have := HO4.out.2.2.2; simp [World.setCell]; omega, fun i hi' => (Below.heap_setCell _ _ _ _ (show i ≠ w.heap.size + 1 by omega)).trans ((HB4.out i (by omega) (hob i (by omega))).trans (HBl.out.block i hi'))⟩
                    · have := HO4.out.2.2.2; simp [World.setCell]; omega
                  case measure => simp [intOf]; omega
                exact AllReadyH.nil
              exact AllReadyH.nil
            exact AllReadyH.nil
          exact AllReadyH.nil
        exact AllReadyH.nil
      refine AllReadyH.cons rfl (fun K hK => ?_) ?_
      · go_simp
        obtain ⟨wT, hwT⟩ : ∃ x, x = Lib.bytesWorld wr.drew 5 t := ⟨_, rfl⟩
        rw [← hwT]
        have hbT : Below (wr.drew).heap.size (wr.drew) wT := by rw [hwT]; exact bw_below _ _
        have hiT : Inn wT (some ⟨(wr.drew).heap.size, 0, none⟩) (sbs t).length (grownCap (wr.drew) (t).size 0 5) (sbs t) ∧ ∃ cu f, wT.heap[(wr.drew).heap.size]? = some (.cells cu 5 f) := by rw [hwT]; exact bw_inn _ _ (by assumption)
        have HBT : Hid (Below wr.heap.size wr wT) := hide ((Below.refl _ _).drew.trans hbT)
        have HIT := hide hiT
        have HbT := hide hbT
        obtain ⟨n0T, n1T, -⟩ := cells_two ((HBT.out.block _ (lt_of_block HX1.out)).trans HX1.out)
        clear hwT hbT hiT
        refine hK.out _ _ (by exact HSt.out _ HBT.out) (fun _hS => ?_)
        clear hK K
        try simp only [Act.put, List.setIfInBounds_toArray, List.set_cons_zero, List.set_cons_succ]
        refine wpAnyH_ready (rs := [1, 6]) (by kernel_rfl) (by simp) ?_
        refine AllReadyH.cons rfl (fun K hK => ?_) ?_
        · go_simp
          refine hK.out _ _ (by exact _hS) (fun _hS => ?_)
          clear hK K
          try simp only [Act.put, List.setIfInBounds_toArray, List.set_cons_zero, List.set_cons_succ]
          refine wpAnyH_ready (rs := [6]) (by kernel_rfl) (by simp) ?_
          refine AllReadyH.cons rfl (fun K hK => ?_) ?_
          · go_simp
            obtain ⟨wS, hwS⟩ : ∃ x, x = Lib.bytesWorld wT 5 s := ⟨_, rfl⟩
            rw [← hwS]
            have hbS : Below (wT).heap.size (wT) wS := by rw [hwS]; exact bw_below _ _
            have hiS : Inn wS (some ⟨(wT).heap.size, 0, none⟩) (sbs s).length (grownCap (wT) (s).size 0 5) (sbs s) ∧ ∃ cu f, wS.heap[(wT).heap.size]? = some (.cells cu 5 f) := by rw [hwS]; exact bw_inn _ _ (by assumption)
            have HBS : Hid (Below wr.heap.size wr wS) := hide (HBT.out.trans (hbS.mono HBT.out.size))
            have HIS := hide hiS
            have HbS := hide hbS
            obtain ⟨n0S, n1S, -⟩ := cells_two ((HBS.out.block _ (lt_of_block HX1.out)).trans HX1.out)
            clear hwS hbS hiS
            refine hK.out _ _ (by exact HSt.out _ HBS.out) (fun _hS => ?_)
            clear hK K
            try simp only [Act.put, List.setIfInBounds_toArray, List.set_cons_zero, List.set_cons_succ]
            refine wpAnyH_take (i := 13) (v := ?v13x20) rfl (by kernel_rfl) (by kernel_rfl) (by kernel_rfl) (fun _ _ _ h => h) (Or.inl ⟨by rfl, ?hy13x20⟩) (by assumption) ?rest13x20
            case hy13x20 => (intro w hSw; (try dsimp only at hSw); (first | (go_simp; with_reducible rfl) | go_simp))
            try simp only [Act.put, List.setIfInBounds_toArray]
            refine wpAnyH_ready (rs := [14]) (by kernel_rfl) (by simp) ?_
            refine AllReadyH.cons rfl (fun K hK => ?_) ?_
            · go_simp
              have n1b := one_below1 n1S (below_alloc wS (.cells #[.slice (some ⟨(wT).heap.size, 0, none⟩) (sbs s).length (grownCap (wT) s.size 0 5), .slice (some ⟨wr.heap.size, 0, none⟩) (sbs t).length (grownCap (wr.drew) t.size 0 5), .int .u32 0, .int .u32 0] 68))
              have HIf := hide (And.intro (HIT.out.1.below HbS.out) (blk_below HIT.out.2 HbS.out))
              refine hK.out _ _ (by exact HSt.out _ (HBS.out.trans ((below_alloc _ _).mono HBS.out.size))) (fun _hS => ?_)
              clear hK K
              try simp only [Act.put, List.setIfInBounds_toArray, List.set_cons_zero, List.set_cons_succ]
              refine wpAnyH_ready (rs := [15]) (by kernel_rfl) (by simp) ?_
              refine AllReadyH.cons rfl (fun K hK => ?_) ?_
              · obtain ⟨y, hy⟩ : ∃ y, y = (⟨⟨sbs s, sbs t, 0, 0⟩, some ⟨(wT).heap.size, 0, none⟩, grownCap (wT) s.size 0 5, some ⟨(wr.drew).heap.size, 0, none⟩, grownCap (wr.drew) t.size 0 5⟩ : En) := ⟨_, rfl⟩
                have hyv : y.Ok wS ∧ y.U8 wS := by rw [hy]; exact ⟨⟨HIS.out.1, HIf.out.1, by simp, by simp⟩, fun b off e => by rcases e with e | e <;> cases e <;> first | exact HIS.out.2 | exact HIf.out.2⟩
                have HNw : Hid (∀ j u, y.cells[j]? = some u → (wS.alloc (.cells #[.slice (some ⟨(wT).heap.size, 0, none⟩) (sbs s).length (grownCap (wT) s.size 0 5), .slice (some ⟨(wr.drew).heap.size, 0, none⟩) (sbs t).length (grownCap (wr.drew) t.size 0 5), .int .u32 0, .int .u32 0] 68)).cell? ((⟨wS.heap.size, 0, none⟩ : Addr).add j) = some u) := by rw [Hid, hy]; exact box_news wS (⟨⟨sbs s, sbs t, 0, 0⟩, some ⟨(wT).heap.size, 0, none⟩, grownCap (wT) s.size 0 5, some ⟨(wr.drew).heap.size, 0, none⟩, grownCap (wr.drew) t.size 0 5⟩ : En)
                have HLf := hide ((HLf0.out.below HBS.out).below (below_alloc wS (.cells #[.slice (some ⟨(wT).heap.size, 0, none⟩) (sbs s).length (grownCap (wT) s.size 0 5), .slice (some ⟨(wr.drew).heap.size, 0, none⟩) (sbs t).length (grownCap (wr.drew) t.size 0 5), .int .u32 0, .int .u32 0] 68)))
                have HYv := hide hyv
                have HYe : Hid (y.e = ⟨sbs s, sbs t, 0, 0⟩) := by rw [Hid, hy]
                have hsz2 : w.heap.size + 2 ≤ wS.heap.size := by have := HBS.out.size; omega
                clear hy hyv
                refine step_append_own _ (by rfl) (.tmp 14) (.tmp 27) 23 (by rfl) (w.heap.size + 2) 68 i0 _ 4 56 Try.underlying23 hi hz0 hz1 hz2 (by rfl) (by omega) (.slice a3 ys.length c3) ys.length (rowc ys) (by rfl) HLf.out.row ⟨wS.heap.size, 0, none⟩ 1 1 y.cells (by rfl) (by rfl) HNw.out (cells_one y) (by unfold maxLen; omega) (by omega) (by simp; omega) ?_
                intro v' w4 hown4 hg4 hn4
                have hL4 := HLf.out.snoc (y := y) (HYv.out.1.below (below_alloc _ _)) (HYv.out.2.below (below_alloc _ _)) hg4 hown4
                obtain ⟨a4, c4, rfl, -⟩ := hL4.ens
                have hxb := (HBS.out.block _ (lt_of_block HX1.out)).trans HX1.out
                have hxa := (below_alloc wS (.cells #[.slice (some ⟨(wT).heap.size, 0, none⟩) (sbs s).length (grownCap (wT) s.size 0 5), .slice (some ⟨(wr.drew).heap.size, 0, none⟩) (sbs t).length (grownCap (wr.drew) t.size 0 5), .int .u32 0, .int .u32 0] 68)).block _ (lt_of_block hxb) |>.trans hxb
                have hx4 := (hg4.block _ (lt_of_block hxa) (fun e => HLf.out.noNode hxa e.symm)).trans hxa
                obtain ⟨t0, t1, tt0⟩ := cells_two hx4
                have tt1 := frozen_blk (j := 1) hx4
                have HX4 := hide hx4
                have HL4 := hide hL4
                have HB4 : Hid (∀ j, j < wr.heap.size → (Value.slice a3 ys.length c3).ownBlock ≠ some j → w4.heap[j]? = wr.heap[j]?) := hide fun j hj h1 => (hg4.block j (by have := HBS.out.size; simp; omega) (fun e => h1 e.symm)).trans (((below_alloc _ _).block j (by have := HBS.out.size; omega)).trans (HBS.out.block j hj))
                have HO4 : Hid (w4.os = wr.os ∧ w4.tape = wr.tape ∧ w4.output = wr.output ∧ wr.heap.size ≤ w4.heap.size) := hide ⟨hg4.os.trans HBS.out.os, hg4.tape.trans HBS.out.tape, hg4.output.trans HBS.out.output, by have h1 := hg4.size; have h2 := HBS.out.size; simp at h1; omega⟩
                clear hown4 hg4 hn4 hL4 hxa hxb hx4
                refine hK.out _ _ (by exact HS4.out _ HB4.out) (fun _hS => ?_)
                clear hK K
                try simp only [Act.put, List.setIfInBounds_toArray]
                refine wpAnyH_take (i := 16) (v := ?v16x21) rfl (by kernel_rfl) (by kernel_rfl) (by kernel_rfl) (fun _ _ _ h => h) (Or.inl ⟨by rfl, ?hy16x21⟩) (by assumption) ?rest16x21
                case hy16x21 => (intro w hSw; (try dsimp only at hSw); (first | (go_simp; with_reducible rfl) | go_simp))
                try simp only [Act.put]
                refine wpAnyH_ready (rs := [17]) (by kernel_rfl) (by simp) ?_
                refine AllReadyH.cons rfl (fun K hK => ?_) ?_
                · go_simp
                  refine hK.out _ _ (by exact HS5.out _ _ HB4.out) (fun _hS => ?_)
                  clear hK K
                  try simp only [Act.put, List.setIfInBounds_toArray, List.set_cons_zero, List.set_cons_succ]
                  refine wpAnyH_done (by kernel_rfl) ?_ _
                  refine NoPanic.normal ?_
                  go_wp2
                  go_roundw
                  case rel =>
                    rw [show ys.length + 1 = (ys ++ [y]).length by simp]
                    refine ⟨k + 1, j + 2, ys ++ [y], a4, c4, by omega, by have := HJ.out; omega, by go_num, ?_, ?_, ?_, ?_, ?_, ?_⟩
                    · rw [take_at HX.out, List.map_append, ers_app, HEr.out]
                      simp [ers, HYe.out, ee]
                    · exact (Below.heap_setCell _ _ _ _ (show w.heap.size ≠ w.heap.size + 1 by omega)).trans ((HB4.out _ (by omega) (hob _ (by omega))).trans HX0.out)
                    · rw [heap_setCell_same _ _ 1 _ 25 _ HX4.out]; rfl
                    · exact HL4.out.offNode HX4.out (fun i hi => Below.heap_setCell _ _ _ _ hi) (by simp [World.setCell])
                    · exact ⟨HO4.out.1.trans HBl.out.os, HO4.out.2.1.trans HBl.out.tape, HO4.out.2.2.1.trans HBl.out.output, by have := HO4.out.2.2.2; simp [World.setCell]; omega, fun i hi' => (Below.heap_setCell _ _ _ _ (show i ≠ w.heap.size + 1 by omega)).trans ((HB4.out i (by omega) (hob i (by omega))).trans (HBl.out.block i hi'))⟩
                    · have := HO4.out.2.2.2; simp [World.setCell]; omega
                  case measure => simp [intOf]; omega
                exact AllReadyH.nil
              exact AllReadyH.nil
            exact AllReadyH.nil
          exact AllReadyH.nil
        refine AllReadyH.cons rfl (fun K hK => ?_) ?_
        · go_simp
          obtain ⟨wS, hwS⟩ : ∃ x, x = Lib.bytesWorld wT 5 s := ⟨_, rfl⟩
          rw [← hwS]
          have hbS : Below (wT).heap.size (wT) wS := by rw [hwS]; exact bw_below _ _
          have hiS : Inn wS (some ⟨(wT).heap.size, 0, none⟩) (sbs s).length (grownCap (wT) (s).size 0 5) (sbs s) ∧ ∃ cu f, wS.heap[(wT).heap.size]? = some (.cells cu 5 f) := by rw [hwS]; exact bw_inn _ _ (by assumption)
          have HBS : Hid (Below wr.heap.size wr wS) := hide (HBT.out.trans (hbS.mono HBT.out.size))
          have HIS := hide hiS
          have HbS := hide hbS
          obtain ⟨n0S, n1S, -⟩ := cells_two ((HBS.out.block _ (lt_of_block HX1.out)).trans HX1.out)
          clear hwS hbS hiS
          refine hK.out _ _ (by exact HSt.out _ HBS.out) (fun _hS => ?_)
          clear hK K
          try simp only [Act.put, List.setIfInBounds_toArray, List.set_cons_zero, List.set_cons_succ]
          refine wpAnyH_take (i := 13) (v := ?v13x22) rfl (by kernel_rfl) (by kernel_rfl) (by kernel_rfl) (fun _ _ _ h => h) (Or.inl ⟨by rfl, ?hy13x22⟩) (by assumption) ?rest13x22
          case hy13x22 => (intro w hSw; (try dsimp only at hSw); (first | (go_simp; with_reducible rfl) | go_simp))
          try simp only [Act.put, List.setIfInBounds_toArray]
          refine wpAnyH_ready (rs := [1, 14]) (by kernel_rfl) (by simp) ?_
          refine AllReadyH.cons rfl (fun K hK => ?_) ?_
          · go_simp
            refine hK.out _ _ (by exact _hS) (fun _hS => ?_)
            clear hK K
            try simp only [Act.put, List.setIfInBounds_toArray, List.set_cons_zero, List.set_cons_succ]
            refine wpAnyH_ready (rs := [14]) (by kernel_rfl) (by simp) ?_
            refine AllReadyH.cons rfl (fun K hK => ?_) ?_
            · go_simp
              have n1b := one_below1 n1S (below_alloc wS (.cells #[.slice (some ⟨(wT).heap.size, 0, none⟩) (sbs s).length (grownCap (wT) s.size 0 5), .slice (some ⟨wr.heap.size, 0, none⟩) (sbs t).length (grownCap (wr.drew) t.size 0 5), .int .u32 0, .int .u32 0] 68))
              have HIf := hide (And.intro (HIT.out.1.below HbS.out) (blk_below HIT.out.2 HbS.out))
              refine hK.out _ _ (by exact HSt.out _ (HBS.out.trans ((below_alloc _ _).mono HBS.out.size))) (fun _hS => ?_)
              clear hK K
              try simp only [Act.put, List.setIfInBounds_toArray, List.set_cons_zero, List.set_cons_succ]
              refine wpAnyH_ready (rs := [15]) (by kernel_rfl) (by simp) ?_
              refine AllReadyH.cons rfl (fun K hK => ?_) ?_
              · obtain ⟨y, hy⟩ : ∃ y, y = (⟨⟨sbs s, sbs t, 0, 0⟩, some ⟨(wT).heap.size, 0, none⟩, grownCap (wT) s.size 0 5, some ⟨(wr.drew).heap.size, 0, none⟩, grownCap (wr.drew) t.size 0 5⟩ : En) := ⟨_, rfl⟩
                have hyv : y.Ok wS ∧ y.U8 wS := by rw [hy]; exact ⟨⟨HIS.out.1, HIf.out.1, by simp, by simp⟩, fun b off e => by rcases e with e | e <;> cases e <;> first | exact HIS.out.2 | exact HIf.out.2⟩
                have HNw : Hid (∀ j u, y.cells[j]? = some u → (wS.alloc (.cells #[.slice (some ⟨(wT).heap.size, 0, none⟩) (sbs s).length (grownCap (wT) s.size 0 5), .slice (some ⟨(wr.drew).heap.size, 0, none⟩) (sbs t).length (grownCap (wr.drew) t.size 0 5), .int .u32 0, .int .u32 0] 68)).cell? ((⟨wS.heap.size, 0, none⟩ : Addr).add j) = some u) := by rw [Hid, hy]; exact box_news wS (⟨⟨sbs s, sbs t, 0, 0⟩, some ⟨(wT).heap.size, 0, none⟩, grownCap (wT) s.size 0 5, some ⟨(wr.drew).heap.size, 0, none⟩, grownCap (wr.drew) t.size 0 5⟩ : En)
                have HLf := hide ((HLf0.out.below HBS.out).below (below_alloc wS (.cells #[.slice (some ⟨(wT).heap.size, 0, none⟩) (sbs s).length (grownCap (wT) s.size 0 5), .slice (some ⟨(wr.drew).heap.size, 0, none⟩) (sbs t).length (grownCap (wr.drew) t.size 0 5), .int .u32 0, .int .u32 0] 68)))
                have HYv := hide hyv
                have HYe : Hid (y.e = ⟨sbs s, sbs t, 0, 0⟩) := by rw [Hid, hy]
                have hsz2 : w.heap.size + 2 ≤ wS.heap.size := by have := HBS.out.size; omega
                clear hy hyv
                refine step_append_own _ (by rfl) (.tmp 14) (.tmp 27) 23 (by rfl) (w.heap.size + 2) 68 i0 _ 4 56 Try.underlying23 hi hz0 hz1 hz2 (by rfl) (by omega) (.slice a3 ys.length c3) ys.length (rowc ys) (by rfl) HLf.out.row ⟨wS.heap.size, 0, none⟩ 1 1 y.cells (by rfl) (by rfl) HNw.out (cells_one y) (by unfold maxLen; omega) (by omega) (by simp; omega) ?_
                intro v' w4 hown4 hg4 hn4
                have hL4 := HLf.out.snoc (y := y) (HYv.out.1.below (below_alloc _ _)) (HYv.out.2.below (below_alloc _ _)) hg4 hown4
                obtain ⟨a4, c4, rfl, -⟩ := hL4.ens
                have hxb := (HBS.out.block _ (lt_of_block HX1.out)).trans HX1.out
                have hxa := (below_alloc wS (.cells #[.slice (some ⟨(wT).heap.size, 0, none⟩) (sbs s).length (grownCap (wT) s.size 0 5), .slice (some ⟨(wr.drew).heap.size, 0, none⟩) (sbs t).length (grownCap (wr.drew) t.size 0 5), .int .u32 0, .int .u32 0] 68)).block _ (lt_of_block hxb) |>.trans hxb
                have hx4 := (hg4.block _ (lt_of_block hxa) (fun e => HLf.out.noNode hxa e.symm)).trans hxa
                obtain ⟨t0, t1, tt0⟩ := cells_two hx4
                have tt1 := frozen_blk (j := 1) hx4
                have HX4 := hide hx4
                have HL4 := hide hL4
                have HB4 : Hid (∀ j, j < wr.heap.size → (Value.slice a3 ys.length c3).ownBlock ≠ some j → w4.heap[j]? = wr.heap[j]?) := hide fun j hj h1 => (hg4.block j (by have := HBS.out.size; simp; omega) (fun e => h1 e.symm)).trans (((below_alloc _ _).block j (by have := HBS.out.size; omega)).trans (HBS.out.block j hj))
                have HO4 : Hid (w4.os = wr.os ∧ w4.tape = wr.tape ∧ w4.output = wr.output ∧ wr.heap.size ≤ w4.heap.size) := hide ⟨hg4.os.trans HBS.out.os, hg4.tape.trans HBS.out.tape, hg4.output.trans HBS.out.output, by have h1 := hg4.size; have h2 := HBS.out.size; simp at h1; omega⟩
                clear hown4 hg4 hn4 hL4 hxa hxb hx4
                refine hK.out _ _ (by exact HS4.out _ HB4.out) (fun _hS => ?_)
                clear hK K
                try simp only [Act.put, List.setIfInBounds_toArray]
                refine wpAnyH_take (i := 16) (v := ?v16x23) rfl (by kernel_rfl) (by kernel_rfl) (by kernel_rfl) (fun _ _ _ h => h) (Or.inl ⟨by rfl, ?hy16x23⟩) (by assumption) ?rest16x23
                case hy16x23 => (intro w hSw; (try dsimp only at hSw); (first | (go_simp; with_reducible rfl) | go_simp))
                try simp only [Act.put]
                refine wpAnyH_ready (rs := [17]) (by kernel_rfl) (by simp) ?_
                refine AllReadyH.cons rfl (fun K hK => ?_) ?_
                · go_simp
                  refine hK.out _ _ (by exact HS5.out _ _ HB4.out) (fun _hS => ?_)
                  clear hK K
                  try simp only [Act.put, List.setIfInBounds_toArray, List.set_cons_zero, List.set_cons_succ]
                  refine wpAnyH_done (by kernel_rfl) ?_ _
                  refine NoPanic.normal ?_
                  go_wp2
                  go_roundw
                  case rel =>
                    rw [show ys.length + 1 = (ys ++ [y]).length by simp]
                    refine ⟨k + 1, j + 2, ys ++ [y], a4, c4, by omega, by have := HJ.out; omega, by go_num, ?_, ?_, ?_, ?_, ?_, ?_⟩
                    · rw [take_at HX.out, List.map_append, ers_app, HEr.out]
                      simp [ers, HYe.out, ee]
                    · exact (Below.heap_setCell _ _ _ _ (show w.heap.size ≠ w.heap.size + 1 by omega)).trans ((HB4.out _ (by omega) (hob _ (by omega))).trans HX0.out)
                    · rw [heap_setCell_same _ _ 1 _ 25 _ HX4.out]; rfl
                    · exact HL4.out.offNode HX4.out (fun i hi => Below.heap_setCell _ _ _ _ hi) (by simp [World.setCell])
                    · exact ⟨HO4.out.1.trans HBl.out.os, HO4.out.2.1.trans HBl.out.tape, HO4.out.2.2.1.trans HBl.out.output, by have := HO4.out.2.2.2; simp [World.setCell]; omega, fun i hi' => (Below.heap_setCell _ _ _ _ (show i ≠ w.heap.size + 1 by omega)).trans ((HB4.out i (by omega) (hob i (by omega))).trans (HBl.out.block i hi'))⟩
                    · have := HO4.out.2.2.2; simp [World.setCell]; omega
                  case measure => simp [intOf]; omega
                exact AllReadyH.nil
              exact AllReadyH.nil
            exact AllReadyH.nil
          refine AllReadyH.cons rfl (fun K hK => ?_) ?_
          · go_simp
            have n1b := one_below1 n1S (below_alloc wS (.cells #[.slice (some ⟨(wT).heap.size, 0, none⟩) (sbs s).length (grownCap (wT) s.size 0 5), .slice (some ⟨wr.heap.size, 0, none⟩) (sbs t).length (grownCap (wr.drew) t.size 0 5), .int .u32 0, .int .u32 0] 68))
            have HIf := hide (And.intro (HIT.out.1.below HbS.out) (blk_below HIT.out.2 HbS.out))
            refine hK.out _ _ (by exact HSt.out _ (HBS.out.trans ((below_alloc _ _).mono HBS.out.size))) (fun _hS => ?_)
            clear hK K
            try simp only [Act.put, List.setIfInBounds_toArray, List.set_cons_zero, List.set_cons_succ]
            refine wpAnyH_ready (rs := [1]) (by kernel_rfl) (by simp) ?_
            refine AllReadyH.cons rfl (fun K hK => ?_) ?_
            · go_simp
              refine hK.out _ _ (by exact _hS) (fun _hS => ?_)
              clear hK K
              try simp only [Act.put, List.setIfInBounds_toArray, List.set_cons_zero, List.set_cons_succ]
              refine wpAnyH_ready (rs := [15]) (by kernel_rfl) (by simp) ?_
              refine AllReadyH.cons rfl (fun K hK => ?_) ?_
              · obtain ⟨y, hy⟩ : ∃ y, y = (⟨⟨sbs s, sbs t, 0, 0⟩, some ⟨(wT).heap.size, 0, none⟩, grownCap (wT) s.size 0 5, some ⟨(wr.drew).heap.size, 0, none⟩, grownCap (wr.drew) t.size 0 5⟩ : En) := ⟨_, rfl⟩
                have hyv : y.Ok wS ∧ y.U8 wS := by rw [hy]; exact ⟨⟨HIS.out.1, HIf.out.1, by simp, by simp⟩, fun b off e => by rcases e with e | e <;> cases e <;> first | exact HIS.out.2 | exact HIf.out.2⟩
                have HNw : Hid (∀ j u, y.cells[j]? = some u → (wS.alloc (.cells #[.slice (some ⟨(wT).heap.size, 0, none⟩) (sbs s).length (grownCap (wT) s.size 0 5), .slice (some ⟨(wr.drew).heap.size, 0, none⟩) (sbs t).length (grownCap (wr.drew) t.size 0 5), .int .u32 0, .int .u32 0] 68)).cell? ((⟨wS.heap.size, 0, none⟩ : Addr).add j) = some u) := by rw [Hid, hy]; exact box_news wS (⟨⟨sbs s, sbs t, 0, 0⟩, some ⟨(wT).heap.size, 0, none⟩, grownCap (wT) s.size 0 5, some ⟨(wr.drew).heap.size, 0, none⟩, grownCap (wr.drew) t.size 0 5⟩ : En)
                have HLf := hide ((HLf0.out.below HBS.out).below (below_alloc wS (.cells #[.slice (some ⟨(wT).heap.size, 0, none⟩) (sbs s).length (grownCap (wT) s.size 0 5), .slice (some ⟨(wr.drew).heap.size, 0, none⟩) (sbs t).length (grownCap (wr.drew) t.size 0 5), .int .u32 0, .int .u32 0] 68)))
                have HYv := hide hyv
                have HYe : Hid (y.e = ⟨sbs s, sbs t, 0, 0⟩) := by rw [Hid, hy]
                have hsz2 : w.heap.size + 2 ≤ wS.heap.size := by have := HBS.out.size; omega
                clear hy hyv
                refine step_append_own _ (by rfl) (.tmp 14) (.tmp 27) 23 (by rfl) (w.heap.size + 2) 68 i0 _ 4 56 Try.underlying23 hi hz0 hz1 hz2 (by rfl) (by omega) (.slice a3 ys.length c3) ys.length (rowc ys) (by rfl) HLf.out.row ⟨wS.heap.size, 0, none⟩ 1 1 y.cells (by rfl) (by rfl) HNw.out (cells_one y) (by unfold maxLen; omega) (by omega) (by simp; omega) ?_
                intro v' w4 hown4 hg4 hn4
                have hL4 := HLf.out.snoc (y := y) (HYv.out.1.below (below_alloc _ _)) (HYv.out.2.below (below_alloc _ _)) hg4 hown4
                obtain ⟨a4, c4, rfl, -⟩ := hL4.ens
                have hxb := (HBS.out.block _ (lt_of_block HX1.out)).trans HX1.out
                have hxa := (below_alloc wS (.cells #[.slice (some ⟨(wT).heap.size, 0, none⟩) (sbs s).length (grownCap (wT) s.size 0 5), .slice (some ⟨(wr.drew).heap.size, 0, none⟩) (sbs t).length (grownCap (wr.drew) t.size 0 5), .int .u32 0, .int .u32 0] 68)).block _ (lt_of_block hxb) |>.trans hxb
                have hx4 := (hg4.block _ (lt_of_block hxa) (fun e => HLf.out.noNode hxa e.symm)).trans hxa
                obtain ⟨t0, t1, tt0⟩ := cells_two hx4
                have tt1 := frozen_blk (j := 1) hx4
                have HX4 := hide hx4
                have HL4 := hide hL4
                have HB4 : Hid (∀ j, j < wr.heap.size → (Value.slice a3 ys.length c3).ownBlock ≠ some j → w4.heap[j]? = wr.heap[j]?) := hide fun j hj h1 => (hg4.block j (by have := HBS.out.size; simp; omega) (fun e => h1 e.symm)).trans (((below_alloc _ _).block j (by have := HBS.out.size; omega)).trans (HBS.out.block j hj))
                have HO4 : Hid (w4.os = wr.os ∧ w4.tape = wr.tape ∧ w4.output = wr.output ∧ wr.heap.size ≤ w4.heap.size) := hide ⟨hg4.os.trans HBS.out.os, hg4.tape.trans HBS.out.tape, hg4.output.trans HBS.out.output, by have h1 := hg4.size; have h2 := HBS.out.size; simp at h1; omega⟩
                clear hown4 hg4 hn4 hL4 hxa hxb hx4
                refine hK.out _ _ (by exact HS4.out _ HB4.out) (fun _hS => ?_)
                clear hK K
                try simp only [Act.put, List.setIfInBounds_toArray]
                refine wpAnyH_take (i := 16) (v := ?v16x24) rfl (by kernel_rfl) (by kernel_rfl) (by kernel_rfl) (fun _ _ _ h => h) (Or.inl ⟨by rfl, ?hy16x24⟩) (by assumption) ?rest16x24
                case hy16x24 => (intro w hSw; (try dsimp only at hSw); (first | (go_simp; with_reducible rfl) | go_simp))
                try simp only [Act.put]
                refine wpAnyH_ready (rs := [17]) (by kernel_rfl) (by simp) ?_
                refine AllReadyH.cons rfl (fun K hK => ?_) ?_
                · go_simp
                  refine hK.out _ _ (by exact HS5.out _ _ HB4.out) (fun _hS => ?_)
                  clear hK K
                  try simp only [Act.put, List.setIfInBounds_toArray, List.set_cons_zero, List.set_cons_succ]
                  refine wpAnyH_done (by kernel_rfl) ?_ _
                  refine NoPanic.normal ?_
                  go_wp2
                  go_roundw
                  case rel =>
                    rw [show ys.length + 1 = (ys ++ [y]).length by simp]
                    refine ⟨k + 1, j + 2, ys ++ [y], a4, c4, by omega, by have := HJ.out; omega, by go_num, ?_, ?_, ?_, ?_, ?_, ?_⟩
                    · rw [take_at HX.out, List.map_append, ers_app, HEr.out]
                      simp [ers, HYe.out, ee]
                    · exact (Below.heap_setCell _ _ _ _ (show w.heap.size ≠ w.heap.size + 1 by omega)).trans ((HB4.out _ (by omega) (hob _ (by omega))).trans HX0.out)
                    · rw [heap_setCell_same _ _ 1 _ 25 _ HX4.out]; rfl
                    · exact HL4.out.offNode HX4.out (fun i hi => Below.heap_setCell _ _ _ _ hi) (by simp [World.setCell])
                    · exact ⟨HO4.out.1.trans HBl.out.os, HO4.out.2.1.trans HBl.out.tape, HO4.out.2.2.1.trans HBl.out.output, by have := HO4.out.2.2.2; simp [World.setCell]; omega, fun i hi' => (Below.heap_setCell _ _ _ _ (show i ≠ w.heap.size + 1 by omega)).trans ((HB4.out i (by omega) (hob i (by omega))).trans (HBl.out.block i hi'))⟩
                    · have := HO4.out.2.2.2; simp [World.setCell]; omega
                  case measure => simp [intOf]; omega
                exact AllReadyH.nil
              exact AllReadyH.nil
            exact AllReadyH.nil
          exact AllReadyH.nil
        exact AllReadyH.nil
      exact AllReadyH.nil
    · obtain rfl : k = ps.length := by omega
      have hjn : j = n := by have := HNn.out; omega
      subst hjn
      have d1 : ¬ (j : Int) + 1 < (j : Int) := by omega
      obtain ⟨z0, z1, zz0⟩ := cells_two HX0.out
      have zz1 := frozen_blk (j := 1) HX0.out
      obtain ⟨ae, ce, hev, hens⟩ := HLf0.out.ens
      cases hev
      have HEns := hide hens
      clear hens hjk
      go_wp2
      have hf := two_set (u := .bool true) (v := .slice a3 ys.length c3) HX0.out
      obtain ⟨q0, q1, -⟩ := cells_two hf
      refine bodyPost_ret (v := .agg #[.bool true, .slice a3 ys.length c3]) ?_ rfl ?_
      · simp [results, Try.results23, go_sem, q0, q1]
      · obtain ⟨ae, ce, hev, hens⟩ := (HLf0.out.offNode HX0.out (w' := (wr.setCell ⟨w.heap.size, 0, none⟩ (.bool true)).setCell ⟨w.heap.size, 1, none⟩ (.slice a3 ys.length c3)) (fun i hi => two_other hi) (by simp [World.setCell])).ens
        cases hev
        exact ⟨a3, c3, ys, rfl, by rw [HEr.out, List.take_length], hens, (HBl.out.setCell (p := ⟨w.heap.size, 0, none⟩) (Nat.le_refl _) _).setCell (p := ⟨w.heap.size, 1, none⟩) (Nat.le_refl _) _⟩
end Go.Proofs.Ytjojpohnmfkanaa
