/- What Encode answers at any node, the program's and the document's. -/
import Derived.Test.YtjojpohnmfkanaaZF
import Derived.Test.YtjojpohnmfkanaaX
namespace Go.Proofs.Ytjojpohnmfkanaa
open Go.RowKit
set_option linter.unusedVariables false

/-- what Encode gives: the bytes, or none. -/
def eb (leaf : Bool) (es : List Ee) : List Int := if chk leaf es = 0 then nenc leaf es else []
theorem eb_len (leaf : Bool) (es : List Ee) : (eb leaf es).length ≤ 1008 := by
  unfold eb
  split
  · rename_i h
    rw [nenc_length]
    exact (chk_zero h).2
  · simp
theorem byts_app {xs ys : List Int} (h : Byts xs) (k : Byts ys) : Byts (xs ++ ys) := fun c hc => by
  rcases List.mem_append.1 hc with hc | hc
  · exact h c hc
  · exact k c hc
theorem byts_cons {x : Int} {xs : List Int} (h0 : 0 ≤ x) (h1 : x < 256) (h : Byts xs) : Byts (x :: xs) := fun c hc => by
  rcases List.mem_cons.1 hc with rfl | hc
  · exact ⟨h0, by omega⟩
  · exact h c hc
theorem byts_le (k N : Nat) : Byts (Crc.le k N) := by
  induction k generalizing N with
  | zero => intro c hc; simp [Crc.le] at hc
  | succ k ih => rw [Crc.le]; exact byts_cons (by omega) (by omega) (ih _)
theorem eb_byts (leaf : Bool) (es : List Ee) (h : ∀ e ∈ es, Byts e.key ∧ Byts e.val) : Byts (eb leaf es) := by
  unfold eb
  split
  · rename_i h0
    have hm := mayB_mem (chk_zero h0).1
    refine byts_app (byts_le _ _) fun c hc => ?_
    obtain ⟨e, he, hc⟩ := List.mem_flatMap.1 hc
    obtain ⟨m1, m2, m3⟩ := hm e he
    refine (?_ : Byts (e.enc leaf)) c hc
    unfold Ee.enc
    refine byts_cons (by omega) (by omega) (byts_app (h e he).1 ?_)
    cases leaf with
    | true =>
      have hv := m2 rfl
      by_cases hp : e.page = 0
      · simp only [hp, if_true]
        refine byts_cons (by omega) ?_ (h e he).2
        simp [Ee.valOk, Ee.small, Ee.great, pageOk, hp] at hv
        omega
      · simp only [hp, if_true, if_false]
        exact byts_cons (by omega) (by omega) (byts_app (byts_le _ _) (byts_le _ _))
    | false => simpa using byts_le 4 e.page
  · intro c hc; simp at hc
/-- bytes that were made, in a new block. -/
structure EncO (E : List Int) (w : World) (a : Option Addr) (n c : Nat) (w' : World) : Prop where
  own : Own w' (.slice a n c) E
  new : ∀ k, (Value.slice a n c).ownBlock = some k → w.heap.size ≤ k
  bel : Below w.heap.size w w'
theorem encode_all (leaf : Bool) (a : Option Addr) (n c : Nat) (xs : List En) (w : World) (h : Ens w a n c xs) (hn : n ≤ 1000000) (hw : wts (ers xs) ≤ 1000000) :
    Calls Try.prog 13 #[.agg #[.bool leaf, .slice a n c]] w fun e w' => ∃ a2 c2, e = .returned (.tuple #[.slice a2 (eb leaf (ers xs)).length c2, .int .u16 ((chk leaf (ers xs) : Nat) : Int)]) ∧ EncO (eb leaf (ers xs)) w a2 (eb leaf (ers xs)).length c2 w' := by
  by_cases hc : chk leaf (ers xs) = 0
  · refine (encode_ok leaf a n c xs w h hc hw).mono ?_
    rintro e w' ⟨v, rfl, h1, h2, h3⟩
    obtain ⟨a2, n2, c2, rfl, hn2⟩ := h1.shape2
    obtain rfl := hn2.out
    have he : eb leaf (ers xs) = nenc leaf (ers xs) := if_pos hc
    rw [he]
    exact ⟨a2, c2, by rw [hc]; rfl, h1, h2, h3⟩
  · refine (encode_no leaf a n c xs w h hn hw hc).mono ?_
    rintro e w' ⟨rfl, hb⟩
    have he : eb leaf (ers xs) = [] := if_neg hc
    rw [he]
    exact ⟨none, 0, rfl, Own.nil _, (by intro k hk; simp [Value.ownBlock] at hk), hb⟩
theorem rencode_all (leaf : Bool) (a : Option Addr) (n c : Nat) (xs : List En) (w : World) (h : Ens w a n c xs) (hn : n ≤ 1000000) (hw : wts (ers xs) ≤ 1000000) :
    Calls Try.prog 21 #[.agg #[.bool leaf, .slice a n c]] w fun e w' => ∃ a2 c2, e = .returned (.tuple #[.slice a2 (eb leaf (ers xs)).length c2, .int .u16 ((chk leaf (ers xs) : Nat) : Int)]) ∧ EncO (eb leaf (ers xs)) w a2 (eb leaf (ers xs)).length c2 w' := by
  by_cases hc : chk leaf (ers xs) = 0
  · refine (rencode_ok leaf a n c xs w h hc hw).mono ?_
    rintro e w' ⟨v, rfl, h1, h2, h3⟩
    obtain ⟨a2, n2, c2, rfl, hn2⟩ := h1.shape2
    obtain rfl := hn2.out
    have he : eb leaf (ers xs) = nenc leaf (ers xs) := if_pos hc
    rw [he]
    exact ⟨a2, c2, by rw [hc]; rfl, h1, h2, h3⟩
  · refine (rencode_no leaf a n c xs w h hn hw hc).mono ?_
    rintro e w' ⟨rfl, hb⟩
    have he : eb leaf (ers xs) = [] := if_neg hc
    rw [he]
    exact ⟨none, 0, rfl, Own.nil _, (by intro k hk; simp [Value.ownBlock] at hk), hb⟩
end Go.Proofs.Ytjojpohnmfkanaa
