/- A book of entries, told by what it has; what Decode tells, in one form. -/
import Derived.Test.YtjojpohnmfkanaaSM
import Derived.Test.YtjojpohnmfkanaaRN
import Derived.Test.YtjojpohnmfkanaaRM
import Derived.Test.YtjojpohnmfkanaaEG
import Derived.Test.YtjojpohnmfkanaaLE
namespace Go.Proofs.Ytjojpohnmfkanaa
open Go.RowKit
set_option linter.unusedVariables false

theorem own_row {w : World} {g n c : Nat} {zs : List Int} (h : Own w (.slice (some ⟨g, 0, none⟩) n c) zs) : Row w (some ⟨g, 0, none⟩) zs := by
  obtain ⟨a, c', e, _, _, _, hr, _⟩ := h.shape
  cases e
  exact hr
/-- boxes of nodes stay. -/
def Nb (w w' : World) : Prop := ∀ (k : Nat) (cs : Array Value), w.heap[k]? = some (.cells cs 25 (0, 0)) → w'.heap[k]? = some (.cells cs 25 (0, 0))
theorem Nb.of_below {w w' : World} (h : Below w.heap.size w w') : Nb w w' := fun k cs e => (h.block k (lt_of_block e)).trans e
theorem Nb.trans {a b c : World} (h : Nb a b) (k : Nb b c) : Nb a c := fun i cs e => k i cs (h i cs e)
/-- what Decode tells of bytes: a node's entries and 0, or nothing and 90. -/
def DecU (kind : Nat) (zs : List Int) (lf : Bool) (es : List Ee) (er : Nat) : Prop := (er = 0 ∧ IsK kind zs lf es) ∨ (er = 90 ∧ lf = false ∧ es = [] ∧ ∀ leaf es, ¬ IsK kind zs leaf es)
theorem decU_one {kind : Nat} {zs : List Int} {lf lf' : Bool} {es es' : List Ee} {er er' : Nat} (h : DecU kind zs lf es er) (h' : DecU kind zs lf' es' er') : lf = lf' ∧ es = es' ∧ er = er' := by
  rcases h with ⟨rfl, h⟩ | ⟨rfl, rfl, rfl, h⟩
  · rcases h' with ⟨rfl, h'⟩ | ⟨rfl, rfl, rfl, h'⟩
    · exact ⟨(isk_one h h').1, (isk_one h h').2, rfl⟩
    · exact absurd h (h' _ _)
  · rcases h' with ⟨rfl, h'⟩ | ⟨rfl, rfl, rfl, h'⟩
    · exact absurd h' (h _ _)
    · exact ⟨rfl, rfl, rfl⟩
theorem isnode_small {leaf : Bool} {zs : List Int} {es : List Ee} (h : IsNode leaf zs es) : es.length ≤ 1008 ∧ ∀ e ∈ es, e.key.length ≤ 1000000 ∧ e.val.length ≤ 1000000 := by
  obtain ⟨_, hc, h8⟩ := h
  refine ⟨len_small hc, fun e he => ?_⟩
  obtain ⟨h1, _, h3⟩ := rok_of_may (chk_zero hc).1 h8 e he
  refine ⟨by omega, ?_⟩
  cases leaf with
  | true =>
    rcases vok_cases h3 with ⟨_, _, h, _⟩ | ⟨h, _⟩
    · omega
    · rw [h]; simp
  | false => rw [h3.1]; simp
theorem decU_small {kind : Nat} {zs : List Int} {lf : Bool} {es : List Ee} {er : Nat} (h : DecU kind zs lf es er) : es.length ≤ 1008 ∧ (∀ e ∈ es, e.key.length ≤ 1000000 ∧ e.val.length ≤ 1000000) ∧ er < 65536 := by
  rcases h with ⟨rfl, _, h⟩ | ⟨rfl, rfl, rfl, h⟩
  · exact ⟨(isnode_small h).1, (isnode_small h).2, by omega⟩
  · exact ⟨by simp, by simp, by omega⟩
theorem cl_nil (B : Nat) (w : World) : Cl B w (.slice none 0 0) [] := ⟨World.ownsRow_nil _ _ _ _, by simp, by simp⟩
theorem cl_shape {B : Nat} {w : World} {a : Option Addr} {n c : Nat} {ys : List En} (h : Cl B w (.slice a n c) ys) : n = ys.length := by
  obtain ⟨a', c', e, _⟩ := h.ens
  cases e; rfl
theorem dout_u {kind : Nat} {zs : List Int} {w w' : World} {e : Ending} (h : DOut kind zs w e w') : Below w.heap.size w w' ∧ ∃ (lf : Bool) (a2 : Option Addr) (m c2 : Nat) (ys : List En) (er : Nat), e = .returned (.tuple #[.agg #[.bool lf, .slice a2 m c2], .int .u16 (er : Int)]) ∧ ys.length = m ∧ DecU kind zs lf (ers ys) er ∧ Cl w.heap.size w' (.slice a2 m c2) ys := by
  obtain ⟨hb, ⟨lf, a2, n2, c2, ys, rfl, h1, h2⟩ | ⟨rfl, h1⟩⟩ := h
  · exact ⟨hb, lf, a2, n2, c2, ys, 0, rfl, (cl_shape h2).symm, .inl ⟨rfl, h1⟩, h2⟩
  · exact ⟨hb, false, none, 0, 0, [], 90, rfl, rfl, .inr ⟨rfl, rfl, rfl, h1⟩, cl_nil _ _⟩
theorem rdo_u {kind : Nat} {zs : List Int} {w w' : World} {e : Ending} (h : RDO kind zs w e w') : Below w.heap.size w w' ∧ ∃ (lf : Bool) (a2 : Option Addr) (m c2 : Nat) (ys : List En) (er : Nat), e = .returned (.tuple #[.agg #[.bool lf, .slice a2 m c2], .int .u16 (er : Int)]) ∧ ys.length = m ∧ DecU kind zs lf (ers ys) er ∧ Ens w' a2 m c2 ys := by
  obtain ⟨hb, ⟨lf, a2, n2, c2, ys, rfl, h1, h2⟩ | ⟨rfl, h1⟩⟩ := h
  · exact ⟨hb, lf, a2, n2, c2, ys, 0, rfl, h2.len, .inl ⟨rfl, h1⟩, h2⟩
  · exact ⟨hb, false, none, 0, 0, [], 90, rfl, rfl, .inr ⟨rfl, rfl, rfl, h1⟩, ens_nil _⟩
section
open Be
open Bo (Bk Kp blks rft putf putf_same putf_other rft_putf)
/-- a book, all of it from B on. -/
def BkF (f : Nat → Value) (B : Nat) (w : World) (q n0 n9 : Nat) : Prop := ∃ A0 C0 Z0 A9 C9 Z9, Be.Bb w q f n0 A0 C0 Z0 n9 A9 C9 Z9 ∧ B ≤ q ∧ (∀ k, blks (f 0) k → B ≤ k) ∧ (∀ k, blks (f 16) k → B ≤ k) ∧ (∀ k, rft n0 A0 k → B ≤ k) ∧ (∀ k, rft n9 A9 k → B ≤ k) ∧ ∀ i, i < n9 → (Z9 i).length ≤ 1000000
def BkS (B : Nat) (w : World) (q n0 n9 : Nat) : Prop := ∃ f, BkF f B w q n0 n9
theorem Be.Bb.below {w w' : World} {q : Nat} {f : Nat → Value} {n0 : Nat} {A0 : Nat → Option Addr} {C0 : Nat → Nat} {Z0 : Nat → List Int} {n9 : Nat} {A9 : Nat → Option Addr} {C9 : Nat → Nat} {Z9 : Nat → List Be.Q4} (h : Be.Bb w q f n0 A0 C0 Z0 n9 A9 C9 Z9) (hb : Below w.heap.size w w') : Be.Bb w' q f n0 A0 C0 Z0 n9 A9 C9 Z9 :=
  ⟨h.bk.below hb, h.nl, h.byt.below hb, h.row.below hb, h.small⟩
theorem BkS.below {B : Nat} {w w' : World} {q n0 n9 : Nat} (h : BkS B w q n0 n9) (hb : Below w.heap.size w w') : BkS B w' q n0 n9 := by
  obtain ⟨f, A0, C0, Z0, A9, C9, Z9, h1, h2⟩ := h
  exact ⟨f, A0, C0, Z0, A9, C9, Z9, h1.below hb, h2⟩
theorem row_box {w : World} {t s : Nat} {v : Value} {n : Nat} {xs : List Value} (h : w.ownsRow 0 t s v n xs) (ht : t ≠ 25) (k : Nat) (hk : blks v k) (cs : Array Value) : w.heap[k]? ≠ some (.cells cs 25 (0, 0)) := by
  intro e
  rcases h.2 with ⟨rfl, _⟩ | ⟨g, cap, cur, rfl, _, hg, _⟩
  · cases hk
  · cases hk
    rw [hg] at e
    simp at e
    exact ht e.2
theorem book_box {w : World} {q : Nat} {f : Nat → Value} (h : Bk w q f) (cs : Array Value) : w.heap[q]? ≠ some (.cells cs 25 (0, 0)) := by
  intro e
  unfold Bo.Bk at h
  rw [h] at e
  simp at e
/-- entries are put into a book. -/
theorem bks_core (B C q n0 n9 : Nat) (f : Nat → Value) (u w : World) (hb : BkF f B u q n0 n9) (hu : Below u.heap.size u w) (hC : u.heap.size ≤ C ∨ (n0 = 0 ∧ n9 = 0)) (a : Option Addr) (m c : Nat) (ys : List En) (hm : ys.length = m) (hm9 : m ≤ 2000) (hn0 : n0 ≤ 1000000) (hn9 : n9 ≤ 100) (hr : Cl C w (.slice a m c) ys) (hBC : B ≤ C) (hBw : B ≤ w.heap.size) (hL : ∀ e ∈ ers ys, e.key.length ≤ 1000000 ∧ e.val.length ≤ 1000000) :
    Calls Try.prog 10 #[.pointer (some ⟨q, 0, none⟩), .slice a m c] w fun r w' => r = .returned (.tuple #[]) ∧ BkS B w' q (n0 + 2 * m) (n9 + 1) ∧ Kp (fun k => k = q ∨ blks (f 0) k ∨ blks (f 16) k) w w' ∧ Below B w w' ∧ Nb w w' ∧ Cl C w' (.slice a m c) ys := by
  obtain ⟨A0, C0, Z0, A9, C9, Z9, h0, hq, hf0, hf9, hr0, hr9, hz9⟩ := hb
  have hlo0 : ∀ k, rft n0 A0 k → k < u.heap.size := fun k hk => h0.byt.lt k (.inr hk)
  have hlo9 : ∀ k, rft n9 A9 k → k < u.heap.size := fun k hk => h0.row.lt k (.inr hk)
  have hw := h0.below hu
  refine (Be.bookEntries_any q f n0 A0 C0 Z0 n9 A9 C9 Z9 w hw a m c ys hm (by omega) (by omega) (by omega) C hr (fun y hy => hL y.e (List.mem_map_of_mem hy)) ?_ ?_).mono ?_
  · intro k hk hk9
    have h1 := (hr.block hk).1
    rcases hC with hC | ⟨_, rfl⟩
    · have := hlo9 k hk9; omega
    · obtain ⟨i, hi, _⟩ := hk9; omega
  · intro y hy k hk hk0
    have h1 := (hr.each y hy).ge hk
    rcases hC with hC | ⟨rfl, _⟩
    · have := hlo0 k hk0; omega
    · obtain ⟨i, hi, _⟩ := hk0; omega
  · rintro r w' ⟨rfl, f', A', C', Z', g1, g2, g3, g4, g5⟩
    refine ⟨rfl, ⟨f', A', C', Z', _, _, _, g1, hq, ?_, ?_, ?_, ?_, ?_⟩, g3, ?_, ?_, ?_⟩
    · intro k hk
      rcases g4 k hk with h | h
      · exact hf0 k h
      · omega
    · intro k hk
      rcases g5 k hk with h | h
      · exact hf9 k h
      · omega
    · intro k hk
      rcases g2 k hk with h | ⟨y, hy, h⟩
      · exact hr0 k h
      · have := (hr.each y hy).ge h; omega
    · intro k hk
      rcases rft_putf _ _ _ _ hk with h | h
      · exact hr9 k h
      · have := (hr.block ((Be.blks_slice _ m c k).2 h)).1; omega
    · intro i hi
      by_cases e : i = n9
      · subst e; rw [putf_same, Be.q4s_len]; omega
      · rw [putf_other _ _ _ _ e]; exact hz9 i (by omega)
    · refine g3.below ?_ hBw
      rintro k (rfl | h | h)
      · exact hq
      · exact hf0 k h
      · exact hf9 k h
    · intro k cs e
      refine (g3.block k (lt_of_block e) ?_).trans e
      rintro (rfl | h | h)
      · exact book_box hw.bk cs e
      · exact row_box hw.byt.list (by decide) k h cs e
      · exact row_box hw.row.list (by decide) k h cs e
    · refine Be.cl_keep hr g3 ?_ ?_
      · rintro k hk (rfl | h | h)
        · exact Be.book_ne hw.bk (Be.owns_low hr.row) (by decide) hk
        · exact Be.rows_ne hw.byt.list (Be.owns_low hr.row) (by decide) k h hk
        · exact Be.rows_ne hw.row.list (Be.owns_low hr.row) (by decide) k h hk
      · rintro y hy k hk (rfl | h | h)
        · rcases hk with hk | hk
          · exact Be.book_ne hw.bk (hr.each y hy).key (by decide) hk
          · exact Be.book_ne hw.bk (hr.each y hy).val (by decide) hk
        · rcases hk with hk | hk
          · exact Be.rows_ne hw.byt.list (hr.each y hy).key (by decide) k h hk
          · exact Be.rows_ne hw.byt.list (hr.each y hy).val (by decide) k h hk
        · rcases hk with hk | hk
          · exact Be.rows_ne hw.row.list (hr.each y hy).key (by decide) k h hk
          · exact Be.rows_ne hw.row.list (hr.each y hy).val (by decide) k h hk
theorem bks_put (B C q n0 n9 : Nat) (u w : World) (hb : BkS B u q n0 n9) (hu : Below u.heap.size u w) (hC : u.heap.size ≤ C) (a : Option Addr) (m c : Nat) (ys : List En) (hm : ys.length = m) (hm9 : m ≤ 2000) (hn0 : n0 ≤ 1000000) (hn9 : n9 ≤ 100) (hr : Cl C w (.slice a m c) ys) (hBC : B ≤ C) (hBw : B ≤ w.heap.size) (hL : ∀ e ∈ ers ys, e.key.length ≤ 1000000 ∧ e.val.length ≤ 1000000) :
    Calls Try.prog 10 #[.pointer (some ⟨q, 0, none⟩), .slice a m c] w fun r w' => r = .returned (.tuple #[]) ∧ BkS B w' q (n0 + 2 * m) (n9 + 1) ∧ Below B w w' ∧ Nb w w' ∧ Cl C w' (.slice a m c) ys := by
  obtain ⟨f, hf⟩ := hb
  refine (bks_core B C q n0 n9 f u w hf hu (.inl hC) a m c ys hm hm9 hn0 hn9 hr hBC hBw hL).mono ?_
  rintro r w' ⟨rfl, h1, -, h2⟩
  exact ⟨rfl, h1, h2⟩
/-- a book that is asked. -/
theorem bks_own (B q n0 n9 : Nat) (w : World) (hb : BkS B w q n0 n9) (hBw : B ≤ w.heap.size) (hn0 : n0 ≤ 1000000) (hn9 : n9 ≤ 100) :
    Calls Try.prog 14 #[.pointer (some ⟨q, 0, none⟩)] w fun r w' => r = .returned (.bool true) ∧ Below B w w' := by
  obtain ⟨f, A0, C0, Z0, A9, C9, Z9, h0, hq, hf0, hf9, hr0, hr9, hz9⟩ := hb
  refine (Be.bookOwn_any q f n0 A0 C0 Z0 n9 A9 C9 Z9 w h0 (by omega) (by omega) (fun i hi => Nat.le_trans (hz9 i hi) (by omega))).mono ?_
  rintro r w' ⟨rfl, h⟩
  exact ⟨rfl, h.below (fun k hk => hk.elim (hr0 k) (hr9 k)) hBw⟩
theorem bks_new (B : Nat) (w : World) (h : B ≤ w.heap.size) (W : World) (hW : Bk W w.heap.size Bo.nilf) : BkF Bo.nilf B W w.heap.size 0 0 :=
  ⟨fun _ => none, fun _ => 0, fun _ => [], fun _ => none, fun _ => 0, fun _ => [], ⟨hW, fun _ _ _ => rfl, Bo.fam_none W (by decide), Be.fam_none W (by decide), fun i hi => by omega⟩, h, fun k hk => (by cases hk), fun k hk => (by cases hk), fun k ⟨i, hi, _⟩ => (by omega), fun k ⟨i, hi, _⟩ => (by omega), fun i hi => (by omega)⟩
/-- the first entries that are put into a book. -/
theorem bks_first (B C q : Nat) (w : World) (hb : BkF Bo.nilf B w q 0 0) (a : Option Addr) (m c : Nat) (ys : List En) (hm : ys.length = m) (hm9 : m ≤ 2000) (hr : Cl C w (.slice a m c) ys) (hBC : B ≤ C) (hBw : B ≤ w.heap.size) (hqw : q ≤ w.heap.size) (hL : ∀ e ∈ ers ys, e.key.length ≤ 1000000 ∧ e.val.length ≤ 1000000) :
    Calls Try.prog 10 #[.pointer (some ⟨q, 0, none⟩), .slice a m c] w fun r w' => r = .returned (.tuple #[]) ∧ BkS B w' q (2 * m) 1 ∧ Below q w w' ∧ Below B w w' ∧ Nb w w' ∧ Cl C w' (.slice a m c) ys := by
  refine (bks_core B C q 0 0 Bo.nilf w w hb ⟨rfl, rfl, rfl, Nat.le_refl _, fun _ _ => rfl⟩ (.inr ⟨rfl, rfl⟩) a m c ys hm hm9 (by omega) (by omega) hr hBC hBw hL).mono ?_
  rintro r w' ⟨rfl, h1, h2, h3⟩
  rw [Nat.zero_add, Nat.zero_add] at h1
  refine ⟨rfl, h1, h2.below ?_ hqw, h3⟩
  rintro k (rfl | h | h)
  · exact Nat.le_refl _
  · cases h
  · cases h
end
end Go.Proofs.Ytjojpohnmfkanaa
