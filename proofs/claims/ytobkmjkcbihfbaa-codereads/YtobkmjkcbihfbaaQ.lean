/- What the first calls of a list write; a call of a writer as one of a list that came in says. -/
import Derived.Test.YtobkmjkcbihfbaaL
import Derived.Test.YtobkmjkcbihfbaaP
namespace Go.Proofs.Ytobkmjkcbihfbaa
open Go.RowKit
set_option linter.unusedVariables false

/-- what the first k calls write. -/
def ws (O : Nat → Cal) : Nat → List Int
  | 0 => []
  | k + 1 => ws O k ++ en ((O k).k % 8) (O k).v (O k).bs
theorem ws_long (O : Nat → Cal) (len k : Nat) (hk : k ≤ len) (hv : ∀ r, r < len → (O r).v < 18446744073709551616) (hl : ∀ r, r < len → (O r).bs.length = (O r).l) (hb : len + tot O len ≤ 20000) : (ws O k).length ≤ 10 * k + tot O k := by
  induction k with
  | zero => simp [ws]
  | succ k ih =>
    have h1 := ih (by omega)
    have h2 := tot_mono O (k + 1) len hk
    have h3 := hl k (by omega)
    have h4 : tot O (k + 1) = tot O k + (O k).l := rfl
    have h5 := en_long ((O k).k % 8) (O k).v (O k).bs (hv k (by omega)) (by omega)
    rw [ws, List.length_append]
    omega
theorem en_byts (k v : Nat) (ys : List Int) (h : Byts ys) : Byts (en k v ys) := by
  unfold en
  split
  · exact fb_byts _ _
  split
  · exact fb_byts _ _
  split
  · exact fb_byts _ _
  split
  · exact fb_byts _ _
  split
  · exact vb_byts _
  split
  · exact vb_byts _
  split
  · exact h
  · exact Byts.append (vb_byts _) h
theorem ws_byts (O : Nat → Cal) (len k : Nat) (hk : k ≤ len) (hb : ∀ r, r < len → Byts (O r).bs) : Byts (ws O k) := by
  induction k with
  | zero => intro c hc; simp [ws] at hc
  | succ k ih => rw [ws]; exact Byts.append (ih (by omega)) (en_byts _ _ _ (hb k (by omega)))
theorem ws_begins (O : Nat → Cal) (k len : Nat) (h : k ≤ len) : ∃ t, ws O len = ws O k ++ t := by
  induction len with
  | zero => have : k = 0 := by omega
            subst this; exact ⟨[], by simp⟩
  | succ n ih =>
    by_cases e : k = n + 1
    · subst e; exact ⟨[], by simp⟩
    · obtain ⟨t, ht⟩ := ih (by omega)
      exact ⟨t ++ en ((O n).k % 8) (O n).v (O n).bs, by rw [ws, ht, List.append_assoc]⟩
/-- where the bytes of call k begin. -/
theorem ws_drop (O : Nat → Cal) (k len : Nat) (h : k < len) : ∃ t, (ws O len).drop (ws O k).length = en ((O k).k % 8) (O k).v (O k).bs ++ t := by
  obtain ⟨t, ht⟩ := ws_begins O (k + 1) len h
  exact ⟨t, by rw [ht, ws, List.append_assoc, List.drop_left]⟩
theorem ws_next (O : Nat → Cal) (k : Nat) : (ws O (k + 1)).length = (ws O k).length + (en ((O k).k % 8) (O k).v (O k).bs).length := by rw [ws, List.length_append]
theorem Put.drop {w : World} {p : Nat} {zs es : List Int} {r : Ending} {w' : World} (h : Put w p zs es r w') : ∃ a n c, r = .returned (.slice a n c) ∧ Wr w' p (zs ++ es) ∧ Wrote p w w' := by
  obtain ⟨a, n, c, h1, _, _, _, h2, h3⟩ := h
  exact ⟨a, n, c, h1, h2, h3⟩

/-- a call of a writer, as one of a list of calls that came in says. -/
theorem prep {w1 W : World} {B : Nat} {a0 : Option Addr} {l0 : Nat} {O : Nat → Cal} {k p : Nat} {zs : List Int} (H : Cals w1 a0 l0 O) (hB : w1.heap.size = B) (hb : Below B w1 W) (hn : New B W p) (hw : Wr W p zs) (hlt : k < l0) (hbd : l0 + tot O l0 ≤ 20000) (hz : zs.length ≤ 10000000000) :
    Calls Try.prog 12 #[.pointer (some ⟨p, 0, none⟩), .agg #[.int .u8 ((O k).k : Int), .int .u64 ((O k).v : Int), .int .i64 (O k).n, .slice (O k).a (O k).l (O k).c], .slice (O k).a (O k).l (O k).c] W.drew fun r w' => Put W.drew p zs (en ((O k).k % 8) (O k).v (O k).bs) r w' := by
  have hbelow : Below w1.heap.size w1 W := by rw [hB]; exact hb
  have hap : (O k).bs = [] ∨ ∀ ad, (O k).a = some ad → ¬ foot W.drew p ad.block := by
    rcases Classical.em ((O k).bs = []) with h | h
    · exact .inl h
    · refine .inr fun ad had hf => ?_
      rcases H.inn k hlt ad had with h2 | h2
      · have := hn _ hf
        omega
      · exact h h2
  have hsz : (O k).bs.length ≤ 1000000 := by
    have h2 := tot_mono O (k + 1) l0 (by omega)
    have h3 := H.long k hlt
    have h4 : tot O (k + 1) = tot O k + (O k).l := rfl
    omega
  exact puts_any p (O k).k (O k).v (O k).n (O k).a (O k).l (O k).c (O k).a (O k).l (O k).c zs (O k).bs W.drew hw.drew (H.kind k hlt) (H.num k hlt) (H.long k hlt) (H.long k hlt) (H.bare k hlt) (H.bare k hlt) ((H.row k hlt).below hbelow).drew ((H.row k hlt).below hbelow).drew (H.byts k hlt) hsz (by omega) hap
end Go.Proofs.Ytobkmjkcbihfbaa
