/- Copies of entries. -/
import Derived.Test.YtjojpohnmfkanaaFC
import Derived.Laws.Cover3
import Derived.Deep.RegionWith
import Derived.Laws.AppendOwn
namespace Go.Proofs.Ytjojpohnmfkanaa
open Go.RowKit
set_option linter.unusedVariables false

theorem sl_nil (a : Option Addr) (n c : Nat) (W : World) : (binOp .eql 22 (.slice a n c) (.slice none 0 0)).run Try.prog W = .ok (.bool a.isNone) W := by
  simp only [binOp]
  simp [run_equal_slice_nil W 22 5 a n c Try.underlying22]
set_option maxHeartbeats 800000 in
set_option maxRecDepth 1000000 in
theorem clone_any (a : Option Addr) (n c : Nat) (ys : List Int) (w : World) (h : Inn w a n c ys) (hb : n ≤ 100000000) :
    Calls Try.prog 64 #[.slice a n c] w fun e w' => ∃ v, e = .returned v ∧ Made w v ys w' := by
  have hl := h.len
  have hn := h.bare
  have hr := h.row
  clear h
  obtain ⟨i0, hi, hz0, hz1, hz2⟩ := info_parts Try.info5
  have hq := sl_nil a n c
  cases a with
  | none =>
    obtain ⟨rfl, rfl⟩ := hn rfl
    have e : ys = [] := List.eq_nil_of_length_eq_zero hl
    subst e
    simp only [Option.isNone_none] at hq
    clear hn hr hl
    go_enter Try.func64, Try.ntmps64
    go_wp2
    refine bodyPost_ret (results_tmp rfl _ _ _) rfl ?_
    exact ⟨_, rfl, Own.nil _, (by intro k hk; simp [Value.ownBlock] at hk), Below.refl _ _⟩
  | some ad =>
    simp only [Option.isNone_some] at hq
    have HL := hide hl
    have HR := hide hr
    clear hl hr hn
    go_enter Try.func64, Try.ntmps64
    have HO : Hid (Own (w.alloc (.cells #[] 5)) (.slice (some ⟨w.heap.size, 0, none⟩) 0 0) []) := ⟨rfl, .inr ⟨w.heap.size, 0, _, rfl, Nat.zero_le _, heap_alloc_new w _, Nat.le_refl _, Nat.zero_le _, rfl, rfl⟩⟩
    have HS : Hid (Src Try.prog 1 22 (.slice (some ad) n c) n (ys.map (Value.int .u8)) (w.alloc (.cells #[] 5))) := hide (src_row _ _ n c ys HL.out (by intro h; cases h) (HR.out.below (below_alloc _ _)))
    have HB : Hid (([] : List Int).length + n ≤ 140737488355328) := by rw [Hid]; simp; omega
    go_wp2_with (at_builtin; refine wpList_append_src (by rfl) (.tmp 5) (.tmp 6) 22 22 (by rfl) i0 Try.underlying22 hi hz0 hz1 hz2 (.slice (some ⟨w.heap.size, 0, none⟩) 0 0) [] (by rfl) HO.out (.slice (some ad) n c) n ys (by rfl) HS.out HB.out ?_; intro v' w1 hown1 hg1 hf1; obtain ⟨a2, n2, c2, rfl, HN2⟩ := hown1.shape2; have HO1 := hide hown1; have HG1 := hide hg1; have HF1 := hide hf1; clear hown1 hg1 hf1)
    go_ret
    refine ⟨_, rfl, HO1.out, fun k hk => ?_, (below_alloc w _).grown HG1.out (by simp) (fun k hk => by simp [Value.ownBlock] at hk; omega)⟩
    rcases HF1.out k hk with h | h
    · simp [Value.ownBlock] at h; omega
    · simp at h; omega
theorem four_set {W : World} {p t : Nat} {a b c d u v : Value} (h : W.heap[p]? = some (.cells #[a, b, c, d] t (0, 0))) : ((W.setCell ⟨p, 0, none⟩ u).setCell ⟨p, 1, none⟩ v).heap[p]? = some (.cells #[u, v, c, d] t (0, 0)) := by
  have h1 : (W.setCell ⟨p, 0, none⟩ u).heap[p]? = some (.cells #[u, b, c, d] t (0, 0)) := by rw [heap_setCell_same W p 0 _ t _ h]; rfl
  rw [heap_setCell_same _ p 1 _ t _ h1]; rfl
theorem two_other {W : World} {p q i j : Nat} {u v : Value} (h : q ≠ p) : ((W.setCell ⟨p, i, none⟩ u).setCell ⟨p, j, none⟩ v).heap[q]? = W.heap[q]? := by
  rw [Below.heap_setCell _ _ _ _ h, Below.heap_setCell _ _ _ _ h]
theorem put4 {W : World} {q t : Nat} {a b c d x y z u : Value} (h : W.heap[q]? = some (.cells #[x, y, z, u] t (0, 0))) :
    ((((W.setCell ⟨q, 0, none⟩ a).setCell ⟨q, 1, none⟩ b).setCell ⟨q, 2, none⟩ c).setCell ⟨q, 3, none⟩ d).heap[q]? = some (.cells #[a, b, c, d] t (0, 0)) := by
  have h1 := four_set (u := a) (v := b) h
  have h2 : (((W.setCell ⟨q, 0, none⟩ a).setCell ⟨q, 1, none⟩ b).setCell ⟨q, 2, none⟩ c).heap[q]? = some (.cells #[a, b, c, u] t (0, 0)) := by rw [heap_setCell_same _ q 2 _ t _ h1]; rfl
  rw [heap_setCell_same _ q 3 _ t _ h2]; rfl
theorem put4_other {W : World} {q p : Nat} {a b c d : Value} (h : p ≠ q) :
    ((((W.setCell ⟨q, 0, none⟩ a).setCell ⟨q, 1, none⟩ b).setCell ⟨q, 2, none⟩ c).setCell ⟨q, 3, none⟩ d).heap[p]? = W.heap[p]? := by
  rw [Below.heap_setCell _ _ _ _ h, Below.heap_setCell _ _ _ _ h, two_other h]
theorem put4_below {W w : World} {q B : Nat} {a b c d : Value} (hb : Below B w W) (h : B ≤ q) :
    Below B w ((((W.setCell ⟨q, 0, none⟩ a).setCell ⟨q, 1, none⟩ b).setCell ⟨q, 2, none⟩ c).setCell ⟨q, 3, none⟩ d) :=
  (((hb.setCell (p := ⟨q, 0, none⟩) h _).setCell (p := ⟨q, 1, none⟩) h _).setCell (p := ⟨q, 2, none⟩) h _).setCell (p := ⟨q, 3, none⟩) h _
/-- an entry whose bytes lie in blocks of its own, from B on. -/
structure En.Own (x : En) (B : Nat) (w : World) : Prop where
  key : Go.Proofs.Ytjojpohnmfkanaa.Own w (.slice x.ka x.e.key.length x.kc) x.e.key
  val : Go.Proofs.Ytjojpohnmfkanaa.Own w (.slice x.va x.e.val.length x.vc) x.e.val
  kb : ∀ k, (Value.slice x.ka x.e.key.length x.kc).ownBlock = some k → B ≤ k
  vb : ∀ k, (Value.slice x.va x.e.val.length x.vc).ownBlock = some k → B ≤ k
  ne : ∀ k, (Value.slice x.ka x.e.key.length x.kc).ownBlock = some k → (Value.slice x.va x.e.val.length x.vc).ownBlock ≠ some k
  k8 : Byts x.e.key
  v8 : Byts x.e.val
  page : x.e.page < 4294967296
  size : x.e.size < 4294967296
set_option maxHeartbeats 3200000 in
set_option maxRecDepth 1000000 in
theorem centry_any (x : En) (w : World) (h : x.Ok w) (hk : x.e.key.length ≤ 100000000) (hv : x.e.val.length ≤ 100000000) :
    Calls Try.prog 76 #[.agg #[.slice x.ka x.e.key.length x.kc, .slice x.va x.e.val.length x.vc, .int .u32 (x.e.page : Int), .int .u32 (x.e.size : Int)]] w fun e w' => ∃ y : En, e = .returned y.v ∧ y.e = x.e ∧ y.Own w.heap.size w' ∧ Below w.heap.size w w' := by
  obtain ⟨w1, hw1⟩ : ∃ w1, w1 = (w.alloc (.cells #[.slice x.ka x.e.key.length x.kc, .slice x.va x.e.val.length x.vc, .int .u32 (x.e.page : Int), .int .u32 (x.e.size : Int)] 68)).alloc (.cells #[.slice none 0 0, .slice none 0 0, .int .u32 0, .int .u32 0] 68) := ⟨_, rfl⟩
  have hB : Below w.heap.size w w1 := by rw [hw1]; exact two_alloc _ _
  have hb0 : w1.heap[w.heap.size]? = some (.cells #[.slice x.ka x.e.key.length x.kc, .slice x.va x.e.val.length x.vc, .int .u32 (x.e.page : Int), .int .u32 (x.e.size : Int)] 68 (0, 0)) := by rw [hw1]; exact (Below.heap_alloc _ _ _ (by simp)).trans (heap_alloc_new w _)
  have hb1 : w1.heap[w.heap.size + 1]? = some (.cells #[.slice none 0 0, .slice none 0 0, .int .u32 0, .int .u32 0] 68 (0, 0)) := by
    rw [hw1]
    have := heap_alloc_new (w.alloc (.cells #[.slice x.ka x.e.key.length x.kc, .slice x.va x.e.val.length x.vc, .int .u32 (x.e.page : Int), .int .u32 (x.e.size : Int)] 68)) (.cells #[.slice none 0 0, .slice none 0 0, .int .u32 0, .int .u32 0] 68)
    rwa [World.size_alloc] at this
  have hs1 : w1.heap.size = w.heap.size + 2 := by rw [hw1]; simp
  obtain ⟨c0, c1, c2, c3, -⟩ := cells_four hb0
  have HK := hide (fun W (hW : Below w1.heap.size w1 W) => clone_any x.ka x.e.key.length x.kc x.e.key W ((h.key.below hB).below hW) hk)
  have HV := hide (fun W (hW : Below w1.heap.size w1 W) => clone_any x.va x.e.val.length x.vc x.e.val W ((h.val.below hB).below hW) hv)
  have HB := hide hB
  have HB0 := hide hb0
  have HB1 := hide hb1
  have HS1 := hide hs1
  have HOk := hide h
  clear h hB hb0 hb1 hs1
  go_enter Try.func76, Try.ntmps76
  go_wp2
  rw [← hw1]
  clear hw1
  go_region_with (first
    | (go_at_call_of 64 (Value.slice x.ka x.e.key.length x.kc); refine (HK.out _ (Below.refl _ _).drew).mono ?_; rintro e wK ⟨vK, rfl, hmK⟩; obtain ⟨aK, nK, cK, rfl, hnK⟩ := hmK.1.shape2; have HBK := hide ((Below.refl w1.heap.size w1).drew.trans hmK.2.2); obtain ⟨d0, d1, d2, d3, -⟩ := cells_four ((HBK.out.block _ (lt_of_block HB0.out)).trans HB0.out); have HMK := hide hmK; have HNK := hide hnK; clear hmK hnK)
    | (go_at_call_of 64 (Value.slice x.va x.e.val.length x.vc); refine (HV.out _ HBK.out).mono ?_; rintro e wV ⟨vV, rfl, hmV⟩; obtain ⟨aV, nV, cV, rfl, hnV⟩ := hmV.1.shape2; have HBV := hide (HBK.out.trans (hmV.2.2.mono HBK.out.size)); have hbz := (HBV.out.block _ (lt_of_block HB0.out)).trans HB0.out; obtain ⟨e0, e1, e2, e3, ef⟩ := cells_four hbz; have ef0 := ef 0; have ef1 := ef 1; have HBZ := hide hbz; have HMV := hide hmV; have HNV := hide hnV; clear hmV hnV hbz ef))
  all_goals
    have hz := four_set (u := .slice aK nK cK) (v := .slice aV nV cV) HBZ.out
    have hz1 : ((wV.setCell ⟨w.heap.size, 0, none⟩ (.slice aK nK cK)).setCell ⟨w.heap.size, 1, none⟩ (.slice aV nV cV)).heap[w.heap.size + 1]? = some (.cells #[.slice none 0 0, .slice none 0 0, .int .u32 0, .int .u32 0] 68 (0, 0)) := (two_other (by omega)).trans ((HBV.out.block _ (lt_of_block HB1.out)).trans HB1.out)
    have HBz : Hid (Below w.heap.size w ((wV.setCell ⟨w.heap.size, 0, none⟩ (.slice aK nK cK)).setCell ⟨w.heap.size, 1, none⟩ (.slice aV nV cV))) := hide (((HB.out.trans (HBV.out.mono HB.out.size)).setCell (p := ⟨w.heap.size, 0, none⟩) (Nat.le_refl _) _).setCell (p := ⟨w.heap.size, 1, none⟩) (Nat.le_refl _) _)
    have HOz : Hid (∀ q, q ≠ w.heap.size → ((wV.setCell ⟨w.heap.size, 0, none⟩ (.slice aK nK cK)).setCell ⟨w.heap.size, 1, none⟩ (.slice aV nV cV)).heap[q]? = wV.heap[q]?) := hide fun q hq => two_other hq
    generalize (wV.setCell ⟨w.heap.size, 0, none⟩ (.slice aK nK cK)).setCell ⟨w.heap.size, 1, none⟩ (.slice aV nV cV) = W at *
    obtain ⟨g0, g1, g2, g3, gf⟩ := cells_four hz
    obtain ⟨r0, r1, r2, r3, rf⟩ := cells_four hz1
    have rf0 := rf 0
    have rf1 := rf 1
    have rf2 := rf 2
    have rf3 := rf 3
    clear gf rf e0 e1 e2 e3 d0 d1 d2 d3 c0 c1 c2 c3
    go_wp2
    have hf := put4 (a := .slice aK nK cK) (b := .slice aV nV cV) (c := .int .u32 (x.e.page : Int)) (d := .int .u32 (x.e.size : Int)) hz1
    obtain ⟨q0, q1, q2, q3, -⟩ := cells_four hf
    have HNv := hide (HNV.out)
    have hnk : nK = x.e.key.length := HNK.out
    have hnv : nV = x.e.val.length := HNV.out
    subst hnk hnv
    have hlK : ∀ k, (Value.slice aK x.e.key.length cK).ownBlock = some k → w.heap.size + 2 ≤ k ∧ k < wK.heap.size := fun k hk => ⟨by have := HMK.out.2.1 k hk; have := HS1.out; simp at *; omega, HMK.out.1.lt hk⟩
    have hlV : ∀ k, (Value.slice aV x.e.val.length cV).ownBlock = some k → wK.heap.size ≤ k := fun k hk => HMV.out.2.1 k hk
    have hsK : w.heap.size + 2 ≤ wK.heap.size := by have := HBK.out.size; have := HS1.out; omega
    have hst : ∀ k, w.heap.size + 2 ≤ k → ((((W.setCell ⟨w.heap.size + 1, 0, none⟩ (.slice aK x.e.key.length cK)).setCell ⟨w.heap.size + 1, 1, none⟩ (.slice aV x.e.val.length cV)).setCell ⟨w.heap.size + 1, 2, none⟩ (.int .u32 (x.e.page : Int))).setCell ⟨w.heap.size + 1, 3, none⟩ (.int .u32 (x.e.size : Int))).heap[k]? = wV.heap[k]? := fun k hk => (put4_other (by omega)).trans (HOz.out k (by omega))
    refine bodyPost_ret (v := .agg #[.slice aK x.e.key.length cK, .slice aV x.e.val.length cV, .int .u32 (x.e.page : Int), .int .u32 (x.e.size : Int)]) ?_ rfl ?_
    · simp [results, Try.results76, go_sem, q0, q1, q2, q3]
    · refine ⟨⟨x.e, aK, cK, aV, cV⟩, rfl, rfl, ⟨?_, ?_, fun k hk => by have := hlK k hk; omega, fun k hk => by have := hlV k hk; omega, fun k hk e => ?_, HOk.out.key.byts, HOk.out.val.byts, HOk.out.page, HOk.out.size⟩, put4_below HBz.out (by omega)⟩
      · refine (HMK.out.1.below HMV.out.2.2).of_block fun k hk => hst k (hlK k hk).1
      · refine HMV.out.1.of_block fun k hk => hst k (by have := hlV k hk; omega)
      · have h1 := hlK k hk
        have h2 := hlV k e
        omega
end Go.Proofs.Ytjojpohnmfkanaa
/- Copies of lists of entries. -/
namespace Go.Proofs.Ytjojpohnmfkanaa
open Go.RowKit
set_option linter.unusedVariables false

theorem Try.infoE : (Try.prog.info? 68).map (fun i => (i.zero, i.size, i.bytes)) = some (some (.agg #[.slice none 0 0, .slice none 0 0, .int .u32 0, .int .u32 0]), 4, 56) := by kernel_rfl
/-- the entry's bytes lie in block k. -/
def En.has (y : En) (k : Nat) : Prop := (Value.slice y.ka y.e.key.length y.kc).ownBlock = some k ∨ (Value.slice y.va y.e.val.length y.vc).ownBlock = some k
theorem Own.u8 {w : World} {v : Value} {zs : List Int} (h : Own w v zs) {k : Nat} (hk : v.ownBlock = some k) : ∃ cur, w.heap[k]? = some (.cells cur 5 (0, 0)) := by
  rcases h.2 with ⟨rfl, _⟩ | ⟨g, cap, cur, rfl, _, hg, _⟩
  · simp [Value.ownBlock] at hk
  · simp [Value.ownBlock] at hk; subst hk; exact ⟨cur, hg⟩
theorem En.Own.lt {y : En} {B k : Nat} {w : World} (h : y.Own B w) (hk : y.has k) : k < w.heap.size := hk.elim h.key.lt h.val.lt
theorem En.Own.ge {y : En} {B k : Nat} {w : World} (h : y.Own B w) (hk : y.has k) : B ≤ k := hk.elim (h.kb k) (h.vb k)
theorem En.Own.u8 {y : En} {B k : Nat} {w : World} (h : y.Own B w) (hk : y.has k) : ∃ cur, w.heap[k]? = some (.cells cur 5 (0, 0)) := hk.elim h.key.u8 h.val.u8
theorem En.Own.of_block {y : En} {B : Nat} {w w' : World} (h : y.Own B w) (hb : ∀ k, y.has k → w'.heap[k]? = w.heap[k]?) : y.Own B w' :=
  ⟨h.key.of_block fun k hk => hb k (.inl hk), h.val.of_block fun k hk => hb k (.inr hk), h.kb, h.vb, h.ne, h.k8, h.v8, h.page, h.size⟩
theorem En.Own.below {y : En} {B : Nat} {w w' : World} (h : y.Own B w) (hb : Below w.heap.size w w') : y.Own B w' := h.of_block fun k hk => hb.block k (h.lt hk)
theorem En.Own.mono {y : En} {B C : Nat} {w : World} (h : y.Own C w) (hb : B ≤ C) : y.Own B w := ⟨h.key, h.val, fun k hk => Nat.le_trans hb (h.kb k hk), fun k hk => Nat.le_trans hb (h.vb k hk), h.ne, h.k8, h.v8, h.page, h.size⟩
theorem own_inn {w : World} {a : Option Addr} {n c : Nat} {zs : List Int} (h : Own w (.slice a n c) zs) (h8 : Byts zs) : Inn w a n c zs := by
  obtain ⟨a', c', e, h1, h2, h3, h4, _⟩ := h.shape
  cases e
  exact ⟨rfl, h1, by unfold maxLen at h2; omega, h3, h4, h8⟩
theorem En.Own.ok {y : En} {B : Nat} {w : World} (h : y.Own B w) : y.Ok w := ⟨own_inn h.key h.k8, own_inn h.val h.v8, h.page, h.size⟩
/-- a list of entries that is the call's own, from B on: the row, and each entry's bytes, in blocks of their own. -/
structure Cl (B : Nat) (w : World) (v : Value) (ys : List En) : Prop where
  row : w.ownsRow B 68 4 v ys.length (rowc ys)
  each : ∀ y ∈ ys, y.Own B w
  apart : ∀ (i j : Nat) (yi yj : En) (k : Nat), ys[i]? = some yi → ys[j]? = some yj → yi.has k → yj.has k → i = j
theorem Cl.block {B : Nat} {w : World} {v : Value} {ys : List En} (h : Cl B w v ys) {k : Nat} (hk : v.ownBlock = some k) : B ≤ k ∧ k < w.heap.size ∧ ∃ cur, w.heap[k]? = some (.cells cur 68 (0, 0)) := by
  rcases h.row.2 with ⟨rfl, _⟩ | ⟨g, cap, cur, rfl, hb, hg, _⟩
  · simp [Value.ownBlock] at hk
  · simp [Value.ownBlock] at hk; subst hk; exact ⟨hb, lt_of_block hg, cur, hg⟩
theorem type_ne {w : World} {k : Nat} {c c' : Array Value} (h : w.heap[k]? = some (.cells c 5 (0, 0))) (h' : w.heap[k]? = some (.cells c' 68 (0, 0))) : False := by
  rw [h] at h'
  have := congrArg (fun o : Option Obj => match o with | some (.cells _ t _) => t | _ => 0) h'
  simp at this
theorem Cl.apart2 {B : Nat} {w : World} {v : Value} {ys : List En} (h : Cl B w v ys) {y : En} (hy : y ∈ ys) {k : Nat} (hk : y.has k) : v.ownBlock ≠ some k := fun e => by
  obtain ⟨_, _, cur, h1⟩ := h.block e
  obtain ⟨cur', h2⟩ := (h.each y hy).u8 hk
  exact type_ne h2 h1
theorem row_of_block {B : Nat} {w w' : World} {v : Value} {n : Nat} {cs : List Value} (h : w.ownsRow B 68 4 v n cs) (hb : ∀ k, v.ownBlock = some k → w'.heap[k]? = w.heap[k]?) : w'.ownsRow B 68 4 v n cs := by
  refine ⟨h.1, ?_⟩
  rcases h.2 with h2 | ⟨g, cap, cur, rfl, hg, hh, r⟩
  · exact .inl h2
  · exact .inr ⟨g, cap, cur, rfl, hg, by rw [hb g rfl]; exact hh, r⟩
theorem Cl.of_block {B : Nat} {w w' : World} {v : Value} {ys : List En} (h : Cl B w v ys) (hv : ∀ k, v.ownBlock = some k → w'.heap[k]? = w.heap[k]?) (hy : ∀ y ∈ ys, ∀ k, y.has k → w'.heap[k]? = w.heap[k]?) : Cl B w' v ys :=
  ⟨row_of_block h.row hv, fun y hy' => (h.each y hy').of_block (hy y hy'), h.apart⟩
theorem Cl.below {B : Nat} {w w' : World} {v : Value} {ys : List En} (h : Cl B w v ys) (hb : Below w.heap.size w w') : Cl B w' v ys :=
  h.of_block (fun k hk => hb.block k (h.block hk).2.1) (fun y hy k hk => hb.block k ((h.each y hy).lt hk))
theorem Cl.ens {B : Nat} {w : World} {v : Value} {ys : List En} (h : Cl B w v ys) : ∃ a c, v = .slice a ys.length c ∧ Ens w a ys.length c ys := by
  rcases h.row.2 with ⟨rfl, h0⟩ | ⟨g, cap, cur, rfl, hb, hg, hn, hm, hcs, htake⟩
  · have e : ys = [] := List.eq_nil_of_length_eq_zero h0
    subst e
    exact ⟨none, 0, rfl, ens_nil w⟩
  · refine ⟨_, _, rfl, rfl, hn, by unfold maxLen at hm; omega, by (intro e; cases e), .inr ⟨g, 0, rfl, lt_of_block hg, fun j u hu => ?_⟩, fun y hy => (h.each y hy).ok⟩
    have := h.row.cells (g := g) rfl j u hu
    rwa [Addr.add_lit] at this
/-- one more entry, laid behind the others. -/
theorem Cl.snoc {B : Nat} {w w1 w' : World} {v v' : Value} {ys : List En} {y : En} (h : Cl B w v ys) (hB : B ≤ w.heap.size) (hb : Below w.heap.size w w1) (hy : y.Own w.heap.size w1) (hg : w1.grownBy w' v.ownBlock) (hr : w'.ownsRow B 68 4 v' (ys.length + 1) (rowc ys ++ y.cells)) : Cl B w' v' (ys ++ [y]) := by
  have h1 := h.below hb
  have stay : ∀ z k, (z ∈ ys ∨ z = y) → z.has k → w'.heap[k]? = w1.heap[k]? := by
    intro z k hz hk
    rcases hz with hz | rfl
    · exact hg.block k ((h1.each z hz).lt hk) (fun e => h1.apart2 hz hk e.symm)
    · refine hg.block k (hy.lt hk) (fun e => ?_)
      have h3 := (h.block e.symm).2.1
      have h4 := hy.ge hk
      omega
  refine ⟨by rw [List.length_append, List.length_singleton, rowc_app, rowc_one]; exact hr, fun z hz => ?_, fun i j yi yj k hi hj hki hkj => ?_⟩
  · rcases List.mem_append.1 hz with hz | hz
    · exact (h1.each z hz).of_block fun k hk => stay z k (.inl hz) hk
    · simp at hz; subst hz
      exact (hy.mono hB).of_block fun k hk => stay z k (.inr rfl) hk
  · have old : ∀ (i : Nat) (z : En), (ys ++ [y])[i]? = some z → (i < ys.length ∧ ys[i]? = some z) ∨ (i = ys.length ∧ z = y) := by
      intro i z hz
      by_cases hlt : i < ys.length
      · rw [List.getElem?_append_left hlt] at hz; exact .inl ⟨hlt, hz⟩
      · rw [List.getElem?_append_right (by omega)] at hz
        obtain ⟨h0, h1⟩ := List.getElem?_eq_some_iff.1 hz
        simp at h0
        refine .inr ⟨by omega, ?_⟩
        simpa using h1.symm
    rcases old i yi hi with ⟨_, a1⟩ | ⟨a0, rfl⟩ <;> rcases old j yj hj with ⟨_, b1⟩ | ⟨b0, e⟩
    · exact h.apart i j yi yj k a1 b1 hki hkj
    · subst e
      have q1 := (h.each yi (List.mem_of_getElem? a1)).lt hki
      have q2 := hy.ge hkj
      omega
    · have q1 := (h.each yj (List.mem_of_getElem? b1)).lt hkj
      have q2 := hy.ge hki
      omega
    · omega
theorem box_news (w : World) (y : En) : ∀ j u, y.cells[j]? = some u → (w.alloc (.cells #[.slice y.ka y.e.key.length y.kc, .slice y.va y.e.val.length y.vc, .int .u32 (y.e.page : Int), .int .u32 (y.e.size : Int)] 68)).cell? ((⟨w.heap.size, 0, none⟩ : Addr).add j) = some u := by
  intro j u hu
  obtain ⟨b0, b1, b2, b3⟩ := box4 w (.slice y.ka y.e.key.length y.kc) (.slice y.va y.e.val.length y.vc) (.int .u32 (y.e.page : Int)) (.int .u32 (y.e.size : Int)) 68
  rw [Addr.add_lit]
  match j, hu with
  | 0, hu => simp [En.cells] at hu; subst hu; exact b0
  | 1, hu => simp [En.cells] at hu; subst hu; exact b1
  | 2, hu => simp [En.cells] at hu; subst hu; exact b2
  | 3, hu => simp [En.cells] at hu; subst hu; exact b3
  | j + 4, hu => simp [En.cells] at hu
theorem cells_one (y : En) : ∀ u ∈ y.cells, u.oneCell' = true := fun u hu => rowc_one_cell [y] u (by rw [rowc_one]; exact hu)
set_option maxHeartbeats 3200000 in
set_option maxRecDepth 1000000 in
theorem centries_any (a : Option Addr) (n c : Nat) (xs : List En) (w : World) (h : Ens w a n c xs) (hn : n ≤ 1000000) (hw : wts (ers xs) ≤ 1000000) :
    Calls Try.prog 63 #[.slice a n c] w fun e w' => ∃ v ys, e = .returned v ∧ ers ys = ers xs ∧ Cl w.heap.size w' v ys ∧ v.ownBlock.isSome = true ∧ Below w.heap.size w w' := by
  obtain ⟨i0, hi, hz0, hz1, hz2⟩ := info_parts Try.infoE
  have HE := hide h
  have HW := hide hw
  clear h hw
  go_enter Try.func63, Try.ntmps63
  go_wp2_with (at_make; refine wpList_make_own _ rfl _ _ 23 rfl w.heap.size 68 i0 _ 4 Try.underlying23 hi hz0 hz1 _ _ _ n rfl rfl rfl (by rw [hz2]; omega) (by unfold maxLen; omega) (Nat.le_refl _) ?_; intro w0 hown0 hgrow0)
  have HC0 : Hid (Cl w.heap.size w0 (.slice (some ⟨w.heap.size, 0, none⟩) 0 n) []) := hide ⟨by simpa [rowc] using hown0, (by intro y hy; simp at hy), (by intro i j yi yj k hi; simp at hi)⟩
  have HB0 := hide ((Below.refl w.heap.size w).grown hgrow0 (Nat.le_refl _) (fun k h => by cases h))
  clear hown0 hgrow0
  go_loopw [3, 11] (fun s i wr => ∃ (k : Nat) (ys : List En), k ≤ n ∧ i = .int .i64 (k : Int) ∧ ers ys = ers (xs.take k) ∧ Cl w.heap.size wr s ys ∧ s.ownBlock.isSome = true ∧ Below w.heap.size w wr) (fun _ i _ => n - (intOf i).toNat)
  case atStart => exact ⟨0, [], Nat.zero_le _, rfl, by simp [ers], HC0.out, rfl, HB0.out⟩
  case round =>
    obtain ⟨k, ys, hk, rfl, her, hcl, hsome, hbl⟩ := hrel
    obtain ⟨a1, c1, rfl, hens⟩ := hcl.ens
    have HBl := hide hbl
    have HEr := hide her
    have HCl := hide hcl
    have HSo := hide hsome
    clear her hcl hens hsome
    by_cases hlt : k < n
    · obtain ⟨x, hx, hok⟩ := (HE.out.below hbl).at hlt
      obtain ⟨b, off, rfl, hbs, q0, q1, q2, q3⟩ := (HE.out.below hbl).cells hx
      have hl := mem_wts hx
      have hBn := below_alloc wr (.cells #[.slice x.ka x.e.key.length x.kc, .slice x.va x.e.val.length x.vc, .int .u32 (x.e.page : Int), .int .u32 (x.e.size : Int)] 68)
      have HX := hide (centry_any x _ (hok.below hBn) (by have := HW.out; omega) (by have := HW.out; omega))
      have HCl1 := hide (HCl.out.below hBn)
      have HBn := hide (hbl.trans (hBn.mono hbl.size))
      clear hl hok hbl hBn
      go_wp2_with fail
      refine HX.out.mono ?_
      rintro e w2 ⟨y, rfl, hye, hyo, hb2⟩
      simp only [En.v]
      have HYe := hide hye
      have HYo := hide hyo
      have HCl2 := hide (HCl1.out.below hb2)
      have HB2 := hide (HBn.out.trans (hb2.mono HBn.out.size))
      have HW2 := hide hb2
      have HSnoc : Hid (∀ v' w', (w2.alloc (.cells #[.slice y.ka y.e.key.length y.kc, .slice y.va y.e.val.length y.vc, .int .u32 (y.e.page : Int), .int .u32 (y.e.size : Int)] 68)).grownBy w' (Value.slice a1 ys.length c1).ownBlock → w'.ownsRow w.heap.size 68 4 v' (ys.length + 1) (rowc ys ++ y.cells) → Cl w.heap.size w' v' (ys ++ [y])) := hide fun v' w' hg hr =>
        HCl1.out.snoc HBn.out.size (hb2.trans ((below_alloc w2 _).mono hb2.size)) (hyo.below (below_alloc w2 _)) hg hr
      have HEy : Hid (ers (ys ++ [y]) = ers (xs.take (k + 1))) := by rw [Hid, take_at hx, ers_app, ers_app, HEr.out]; simp [ers, hye]
      have HLn : Hid (ys.length = k) := by have := congrArg List.length HEr.out; rw [ers_len, ers_len, List.length_take, HE.out.len] at this; rw [Hid, this]; omega
      have hyl : ys.length ≤ 1000000 := by rw [HLn.out]; omega
      have hsz : w.heap.size ≤ w2.heap.size := HB2.out.size
      clear hye hyo hb2 hx
      go_wp2_with (at_builtin; refine wpList_append_own _ (by rfl) (.tmp 15) (.tmp 18) 23 (by rfl) w.heap.size 68 i0 _ 4 56 Try.underlying23 hi hz0 hz1 hz2 (by rfl) (by omega) (.slice a1 ys.length c1) ys.length (rowc ys) (by rfl) (HCl2.out.below (below_alloc w2 _)).row ⟨w2.heap.size, 0, none⟩ 1 1 y.cells (by rfl) (by rfl) (box_news w2 y) (cells_one y) (by unfold maxLen; omega) (by omega) (by simp; omega) ?_; intro v' w3 hown3 hg3 hn3; have HC3 := hide (HSnoc.out v' w3 hg3 hown3); have HN3 := hide hn3; have HB3 := hide ((HB2.out.alloc hsz _).grown hg3 (by simp; omega) (fun k hk => (HCl2.out.block hk).1)); clear hown3 hg3 hn3)
      go_roundw
      case rel =>
        refine ⟨k + 1, ys ++ [y], by omega, by go_num, HEy.out, HC3.out, ?_, HB3.out⟩
        rcases HC3.out.row.2 with ⟨e, h0⟩ | ⟨g, cap, cur, rfl, _⟩
        · simp at h0
        · rfl
      case measure => simp [intOf]; omega
    · obtain rfl : k = n := by omega
      have HF : Hid (xs.take k = xs) := hide (List.take_of_length_le (by rw [HE.out.len]; exact Nat.le_refl _))
      go_wp2
      go_ret
      exact ⟨_, ys, rfl, by rw [HEr.out, HF.out], HCl.out, HSo.out, HBl.out⟩
end Go.Proofs.Ytjojpohnmfkanaa
