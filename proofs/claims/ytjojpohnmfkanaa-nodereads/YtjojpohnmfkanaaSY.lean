/- Lists that are laid anew over entries that lie elsewhere; what Encode answers at any node. -/
import Derived.Test.YtjojpohnmfkanaaRD
import Derived.Laws.AppendOwnNone
namespace Go.Proofs.Ytjojpohnmfkanaa
open Go.RowKit
set_option linter.unusedVariables false

theorem encode_any (leaf : Bool) (a : Option Addr) (n c : Nat) (xs : List En) (w : World) (h : Ens w a n c xs) (hn : n ≤ 1000000) (hw : wts (ers xs) ≤ 1000000) :
    Calls Try.prog 13 #[.agg #[.bool leaf, .slice a n c]] w fun e w' => ∃ a2 n2 c2, e = .returned (.tuple #[.slice a2 n2 c2, .int .u16 ((chk leaf (ers xs) : Nat) : Int)]) ∧ (chk leaf (ers xs) = 0 → n2 = nsz leaf (ers xs)) ∧ Below w.heap.size w w' := by
  by_cases hc : chk leaf (ers xs) = 0
  · refine (encode_ok leaf a n c xs w h hc hw).mono ?_
    rintro e w' ⟨v, rfl, hm⟩
    obtain ⟨a2, n2, c2, rfl, hn2⟩ := hm.1.shape2
    refine ⟨a2, n2, c2, by rw [hc]; rfl, fun _ => ?_, hm.2.2⟩
    have := hn2.out
    rw [nenc_length] at this
    exact this
  · refine (encode_no leaf a n c xs w h hn hw hc).mono ?_
    rintro e w' ⟨rfl, hb⟩
    exact ⟨none, 0, 0, rfl, fun h0 => absurd h0 hc, hb⟩
/-- a row of entries, as a list. -/
theorem row_ens {B : Nat} {w : World} {v : Value} {xs : List En} (h : w.ownsRow B 68 4 v xs.length (rowc xs)) (he : ∀ x ∈ xs, x.Ok w) : ∃ a c, v = .slice a xs.length c ∧ Ens w a xs.length c xs := by
  have hr := h
  rcases h.2 with ⟨rfl, h0⟩ | ⟨g, cap, cur, rfl, hb, hg, hn, hm, hcs, htake⟩
  · have e : xs = [] := List.eq_nil_of_length_eq_zero h0
    subst e
    exact ⟨none, 0, rfl, ens_nil w⟩
  · refine ⟨_, _, rfl, rfl, hn, by unfold maxLen at hm; omega, by (intro e; cases e), .inr ⟨g, 0, rfl, lt_of_block hg, fun j u hu => ?_⟩, he⟩
    have := hr.cells (g := g) rfl j u hu
    rwa [Addr.add_lit] at this
theorem row_ens2 {B : Nat} {w : World} {a : Option Addr} {n c : Nat} {xs : List En} (hl : xs.length = n) (h : w.ownsRow B 68 4 (.slice a n c) n (rowc xs)) (he : ∀ x ∈ xs, x.Ok w) : Ens w a n c xs := by
  subst hl
  obtain ⟨a', c', e, h'⟩ := row_ens h he
  cases e
  exact h'
theorem row_base {B : Nat} {w : World} {v : Value} {n : Nat} {cs : List Value} (h : w.ownsRow B 68 4 v n cs) {k : Nat} (hk : v.ownBlock = some k) : B ≤ k ∧ k < w.heap.size := by
  rcases h.2 with ⟨rfl, _⟩ | ⟨g, cap, cur, rfl, hb, hg, _⟩
  · simp [Value.ownBlock] at hk
  · simp [Value.ownBlock] at hk; subst hk; exact ⟨hb, lt_of_block hg⟩
/-- the entries of a list are laid into a new one. -/
theorem app_first {i0 : TypeInfo} (hi : Try.prog.info? 68 = some i0) (hz0 : i0.zero = some (.agg #[.slice none 0 0, .slice none 0 0, .int .u32 0, .int .u32 0])) (hz1 : i0.size = 4) (hz2 : i0.bytes = 56)
    {w : World} {a : Option Addr} {n c : Nat} {xs : List En} (h : Ens w a n c xs) (hn : n ≤ 1000000) :
    ∃ a3 c3 w3, (Builtin.append_ #[23, 23] 23 #[.slice none 0 0, .slice a n c]).run Try.prog w = .ok (.slice a3 n c3) w3 ∧ w3.ownsRow w.heap.size 68 4 (.slice a3 n c3) n (rowc xs) ∧ Below w.heap.size w w3 := by
  have hnil : w.ownsRow w.heap.size 68 4 (.slice none 0 0) 0 [] := ⟨rfl, .inl ⟨rfl, rfl⟩⟩
  have hlen := h.len
  cases ha : a with
  | none =>
    obtain ⟨rfl, rfl⟩ := h.bare ha
    have e : xs = [] := List.eq_nil_of_length_eq_zero hlen
    subst e
    exact ⟨none, 0, w, run_append_owned_none (P := Try.prog) (w := w) w.heap.size 23 23 68 i0 4 Try.underlying23 hi _ 0 [] hnil, hnil, Below.refl _ _⟩
  | some ad =>
    have hnews : ∀ j u, (rowc xs)[j]? = some u → w.cell? (ad.add j) = some u := by
      intro j u hu
      rcases h.row with h0 | ⟨b, off, e, hlt, hc⟩
      · subst h0; simp [rowc] at hu
      · rw [ha] at e; cases e; rw [Addr.add_lit]; exact hc j u hu
    obtain ⟨v', w4, hrun, hown, hg, _⟩ := run_append_own (P := Try.prog) w w.heap.size 23 23 68 i0 _ 4 56 Try.underlying23 hi hz0 hz1 hz2 (by rfl) (by omega) (.slice none 0 0) 0 [] hnil ad n c (rowc xs) (by rw [rowc_len, hlen]) hnews (rowc_one_cell xs) (by unfold maxLen; omega) (by omega) (Nat.le_refl _)
    simp only [Nat.zero_add, List.nil_append] at hown
    have hsh : ∃ a3 c3, v' = .slice a3 n c3 := by
      rcases hown.2 with ⟨rfl, h0⟩ | ⟨g, cap, cur, rfl, _⟩
      · exact ⟨none, 0, by rw [h0]⟩
      · exact ⟨_, _, rfl⟩
    obtain ⟨a3, c3, rfl⟩ := hsh
    exact ⟨a3, c3, w4, hrun, hown, ⟨hg.os, hg.tape, hg.output, hg.size, fun k hk => hg.block k hk (by simp [Value.ownBlock])⟩⟩
/-- an entry is laid behind a list of the call's own. -/
theorem app_second {i0 : TypeInfo} (hi : Try.prog.info? 68 = some i0) (hz0 : i0.zero = some (.agg #[.slice none 0 0, .slice none 0 0, .int .u32 0, .int .u32 0])) (hz1 : i0.size = 4) (hz2 : i0.bytes = 56)
    {w : World} {B q : Nat} {a3 : Option Addr} {n c3 : Nat} {xs : List En} {x : En} (hl : xs.length = n) (h : w.ownsRow B 68 4 (.slice a3 n c3) n (rowc xs)) (hB : B ≤ w.heap.size) (hn : n ≤ 1000000)
    (hnews : ∀ j u, x.cells[j]? = some u → w.cell? ((⟨q, 0, none⟩ : Addr).add j) = some u) :
    ∃ a4 c4 w4, (Builtin.append_ #[23, 23] 23 #[.slice a3 n c3, .slice (some ⟨q, 0, none⟩) 1 1]).run Try.prog w = .ok (.slice a4 (n + 1) c4) w4 ∧ w4.ownsRow B 68 4 (.slice a4 (n + 1) c4) (n + 1) (rowc (xs ++ [x])) ∧ Below B w w4 := by
  obtain ⟨v', w4, hrun, hown, hg, _⟩ := run_append_own (P := Try.prog) w B 23 23 68 i0 _ 4 56 Try.underlying23 hi hz0 hz1 hz2 (by rfl) (by omega) (.slice a3 n c3) n (rowc xs) h ⟨q, 0, none⟩ 1 1 x.cells (by rfl) hnews (cells_one x) (by unfold maxLen; omega) (by omega) hB
  rw [← rowc_one x, ← rowc_app] at hown
  have hsh : ∃ a4 c4, v' = .slice a4 (n + 1) c4 := by
    rcases hown.2 with ⟨rfl, h0⟩ | ⟨g, cap, cur, rfl, _⟩
    · exact absurd h0 (by omega)
    · exact ⟨_, _, rfl⟩
  obtain ⟨a4, c4, rfl⟩ := hsh
  refine ⟨a4, c4, w4, hrun, hown, ⟨hg.os, hg.tape, hg.output, hg.size, fun k hk => hg.block k (by omega) (fun e => ?_)⟩⟩
  have := (row_base h e.symm).1
  omega
theorem ers_snoc (xs : List En) (x : En) : ers (xs ++ [x]) = ers xs ++ [x.e] := by simp [ers]
theorem nsz_snoc (leaf : Bool) (xs : List En) (x : En) : nsz leaf (ers (xs ++ [x])) + 2 = nsz leaf (ers xs) + nsz leaf (ers [x]) := by
  unfold nsz
  rw [ers_snoc, esum_app]
  have : ers [x] = [x.e] := rfl
  rw [this]
  omega
theorem nsz_bound (leaf : Bool) (es : List Ee) (k m : Nat) (h1 : es.length ≤ k) (h2 : wts es ≤ m) : nsz leaf es ≤ 2 + 10 * k + m := by
  have := esum_le leaf es
  unfold nsz
  omega
theorem wts_snoc2 (xs : List En) (x : En) : wts (ers (xs ++ [x])) = wts (ers xs) + (x.e.key.length + x.e.val.length) := by
  rw [ers_snoc, wts_app]
  simp [wts]
theorem wts_one (x : En) : wts (ers [x]) = x.e.key.length + x.e.val.length := by simp [ers, wts]
theorem boxes_enn (w : World) (a b c d e f g h : Value) :
    Below w.heap.size w ((w.alloc (.cells #[a, b, c, d] 68)).alloc (.cells #[e, f] 25)) ∧ Below w.heap.size w (((w.alloc (.cells #[a, b, c, d] 68)).alloc (.cells #[e, f] 25)).alloc (.cells #[g, h] 25)) ∧
    (((w.alloc (.cells #[a, b, c, d] 68)).alloc (.cells #[e, f] 25)).alloc (.cells #[g, h] 25)).heap[w.heap.size]? = some (.cells #[a, b, c, d] 68 (0, 0)) ∧
    (((w.alloc (.cells #[a, b, c, d] 68)).alloc (.cells #[e, f] 25)).alloc (.cells #[g, h] 25)).heap[w.heap.size + 1]? = some (.cells #[e, f] 25 (0, 0)) ∧
    (((w.alloc (.cells #[a, b, c, d] 68)).alloc (.cells #[e, f] 25)).alloc (.cells #[g, h] 25)).heap[w.heap.size + 1 + 1]? = some (.cells #[g, h] 25 (0, 0)) ∧
    (((w.alloc (.cells #[a, b, c, d] 68)).alloc (.cells #[e, f] 25)).alloc (.cells #[g, h] 25)).heap.size = w.heap.size + 3 := by
  have h1 := heap_alloc_new (w.alloc (.cells #[a, b, c, d] 68)) (.cells #[e, f] 25)
  have h2 := heap_alloc_new ((w.alloc (.cells #[a, b, c, d] 68)).alloc (.cells #[e, f] 25)) (.cells #[g, h] 25)
  rw [World.size_alloc] at h1
  rw [World.size_alloc, World.size_alloc] at h2
  exact ⟨two_alloc _ _, (two_alloc _ _).alloc (by simp; omega) _, ((Below.heap_alloc _ _ _ (by simp; omega)).trans (Below.heap_alloc _ _ _ (by simp))).trans (heap_alloc_new w _), (Below.heap_alloc _ _ _ (by simp)).trans h1, h2, by simp⟩
theorem wpList_run_append {P : Program} {w w' : World} {ops : Array Oper} {rest : List Oper} {o : Oper} {a : Act} {Q : Exit → Act → World → Prop} {v u v' : Value} (hgd : o.guard = none) (s x : Operand) (t : TypeId)
    (ho : o.op = .call { callee := .builtin .append, args := #[s, x], argTypes := #[t, t] }) (hs : a.eval s = v) (hx : a.eval x = u) (hrun : (Builtin.append_ #[t, t] o.type #[v, u]).run P w = .ok v' w')
    (h : wpList P ops Q rest (a.put o.dst v') w') : wpList P ops Q (o :: rest) a w := by
  refine wpList_plain hgd fun K hK => ?_
  unfold Oper.wp
  simp [execOp, ho, resolve, invoke, builtin, hs, hx, hrun, Result.andThen]
  exact hK _ _ h
theorem one_set {w : World} {q t : Nat} {a b v : Value} (h : w.heap[q]? = some (.cells #[a, b] t (0, 0))) : (w.setCell ⟨q, 1, none⟩ v).heap[q]? = some (.cells #[a, v] t (0, 0)) := by
  rw [heap_setCell_same w q 1 _ t _ h]; rfl
end Go.Proofs.Ytjojpohnmfkanaa
