/- What Encode, Check and Size answer at a node that was lent, and at one that came in. -/
import Derived.Test.YtfpojfohlmhklaaZF
import Derived.Test.YtfpojfohlmhklaaZI
import Derived.Test.YtfpojfohlmhklaaGO
import Derived.Test.YtfpojfohlmhklaaKN
import Derived.Test.YtfpojfohlmhklaaMU
import Derived.Test.YtfpojfohlmhklaaFR
namespace Go.Proofs.Ytfpojfohlmhklaa
open Go.RowKit
set_option linter.unusedVariables false

/-- what Encode gives: the bytes, or none. -/
def eb (leaf : Bool) (es : List Ee) : List Int := if chk leaf es = 0 then nenc leaf es else []
theorem eb_len (leaf : Bool) (es : List Ee) : (eb leaf es).length ≤ 1008 := by
  unfold eb
  split
  · rename_i h
    rw [nenc_length]
    exact (chk_zero h).2
  · simp
theorem byts_app {xs ys : List Int} (h : Byts xs) (k : Byts ys) : Byts (xs ++ ys) := fun c hc => by
  rcases List.mem_append.1 hc with hc | hc
  · exact h c hc
  · exact k c hc
theorem byts_cons {x : Int} {xs : List Int} (h0 : 0 ≤ x) (h1 : x < 256) (h : Byts xs) : Byts (x :: xs) := fun c hc => by
  rcases List.mem_cons.1 hc with rfl | hc
  · exact ⟨h0, by omega⟩
  · exact h c hc
theorem byts_le (k N : Nat) : Byts (Crc.le k N) := by
  induction k generalizing N with
  | zero => intro c hc; simp [Crc.le] at hc
  | succ k ih => rw [Crc.le]; exact byts_cons (by omega) (by omega) (ih _)
theorem eb_byts (leaf : Bool) (es : List Ee) (h : ∀ e ∈ es, Byts e.key ∧ Byts e.val) : Byts (eb leaf es) := by
  unfold eb
  split
  · rename_i h0
    have hm := mayB_mem (chk_zero h0).1
    refine byts_app (byts_le _ _) fun c hc => ?_
    obtain ⟨e, he, hc⟩ := List.mem_flatMap.1 hc
    obtain ⟨m1, m2, m3⟩ := hm e he
    refine (?_ : Byts (e.enc leaf)) c hc
    unfold Ee.enc
    refine byts_cons (by omega) (by omega) (byts_app (h e he).1 ?_)
    cases leaf with
    | true =>
      have hv := m2 rfl
      by_cases hp : e.page = 0
      · simp only [hp, if_true]
        refine byts_cons (by omega) ?_ (h e he).2
        simp [Ee.valOk, Ee.small, Ee.great, pageOk, hp] at hv
        omega
      · simp only [hp, if_true, if_false]
        exact byts_cons (by omega) (by omega) (byts_app (byts_le _ _) (byts_le _ _))
    | false => simpa using byts_le 4 e.page
  · intro c hc; simp at hc
/-- bytes that were made, in a new block. -/
structure EncO (E : List Int) (w : World) (a : Option Addr) (n c : Nat) (w' : World) : Prop where
  own : Own w' (.slice a n c) E
  new : ∀ k, (Value.slice a n c).ownBlock = some k → w.heap.size ≤ k
  bel : Below w.heap.size w w'
theorem encode_all (leaf : Bool) (a : Option Addr) (n c : Nat) (xs : List En) (w : World) (h : Ens w a n c xs) (hn : n ≤ 1000000) (hw : wts (ers xs) ≤ 1000000) :
    Calls Try.prog 6 #[.agg #[.bool leaf, .slice a n c]] w fun e w' => ∃ a2 c2, e = .returned (.tuple #[.slice a2 (eb leaf (ers xs)).length c2, .int .u16 ((chk leaf (ers xs) : Nat) : Int)]) ∧ EncO (eb leaf (ers xs)) w a2 (eb leaf (ers xs)).length c2 w' := by
  by_cases hc : chk leaf (ers xs) = 0
  · refine (encode_ok leaf a n c xs w h hc hw).mono ?_
    rintro e w' ⟨v, rfl, h1, h2, h3⟩
    obtain ⟨a2, n2, c2, rfl, hn2⟩ := h1.shape2
    obtain rfl := hn2.out
    have he : eb leaf (ers xs) = nenc leaf (ers xs) := if_pos hc
    rw [he]
    exact ⟨a2, c2, by rw [hc]; rfl, h1, h2, h3⟩
  · refine (encode_no leaf a n c xs w h hn hw hc).mono ?_
    rintro e w' ⟨rfl, hb⟩
    have he : eb leaf (ers xs) = [] := if_neg hc
    rw [he]
    exact ⟨none, 0, rfl, Own.nil _, (by intro k hk; simp [Value.ownBlock] at hk), hb⟩
theorem rencode_all (leaf : Bool) (a : Option Addr) (n c : Nat) (xs : List En) (w : World) (h : Ens w a n c xs) (hn : n ≤ 1000000) (hw : wts (ers xs) ≤ 1000000) :
    Calls Try.prog 11 #[.agg #[.bool leaf, .slice a n c]] w fun e w' => ∃ a2 c2, e = .returned (.tuple #[.slice a2 (eb leaf (ers xs)).length c2, .int .u16 ((chk leaf (ers xs) : Nat) : Int)]) ∧ EncO (eb leaf (ers xs)) w a2 (eb leaf (ers xs)).length c2 w' := by
  by_cases hc : chk leaf (ers xs) = 0
  · refine (rencode_ok leaf a n c xs w h hc hw).mono ?_
    rintro e w' ⟨v, rfl, h1, h2, h3⟩
    obtain ⟨a2, n2, c2, rfl, hn2⟩ := h1.shape2
    obtain rfl := hn2.out
    have he : eb leaf (ers xs) = nenc leaf (ers xs) := if_pos hc
    rw [he]
    exact ⟨a2, c2, by rw [hc]; rfl, h1, h2, h3⟩
  · refine (rencode_no leaf a n c xs w h hn hw hc).mono ?_
    rintro e w' ⟨rfl, hb⟩
    have he : eb leaf (ers xs) = [] := if_neg hc
    rw [he]
    exact ⟨none, 0, rfl, Own.nil _, (by intro k hk; simp [Value.ownBlock] at hk), hb⟩
/-- what the document answers at a node that lies in w. -/
structure Rn (leaf : Bool) (a : Option Addr) (n c K Z L : Nat) (E : List Int) (w : World) : Prop where
  enc : ∀ W, Below w.heap.size w W → Calls Try.prog 11 #[.agg #[.bool leaf, .slice a n c]] W fun e w' => ∃ a2 c2, e = .returned (.tuple #[.slice a2 L c2, .int .u16 (K : Int)]) ∧ EncO E W a2 L c2 w'
  chk : ∀ W, Below w.heap.size w W → Calls Try.prog 14 #[.agg #[.bool leaf, .slice a n c]] W fun e w' => e = .returned (.int .u16 (K : Int)) ∧ Below W.heap.size W w'
  siz : ∀ W, Below w.heap.size w W → Calls Try.prog 15 #[.agg #[.bool leaf, .slice a n c]] W fun e w' => e = .returned (.int .i64 (Z : Int)) ∧ Below W.heap.size W w'
theorem rn_of {leaf : Bool} {a : Option Addr} {n c : Nat} {xs : List En} {w : World} (h : Ens w a n c xs) (hn : n ≤ 500) (hw : wts (ers xs) ≤ 20000) : Rn leaf a n c (Go.Proofs.Ytfpojfohlmhklaa.chk leaf (ers xs)) (nsz leaf (ers xs)) (eb leaf (ers xs)).length (eb leaf (ers xs)) w :=
  ⟨fun W hW => rencode_all leaf a n c xs W (h.below hW) (by omega) (by omega), fun W hW => rcheck_any leaf a n c xs W (h.below hW) (by omega) (by omega), fun W hW => rsize_any leaf a n c xs W (h.below hW) (by omega) (by omega)⟩
theorem ens_lent {B g n : Nat} {ys : List En} {w : World} (hr : w.ownsRow B 67 4 (.slice (some ⟨g, 0, none⟩) (n + 1) (n + 1)) (n + 1) (rowc (ys ++ [e77]))) (hy : ∀ y ∈ ys, y.Lt B w) (hl : ys.length = n) (hn : n ≤ 1000) (hw : wts (ers ys) ≤ 100000) : Ens w (some ⟨g, 0, none⟩) n (n + 1) ys := by
  have hcell : ∀ j u, (rowc (ys ++ [e77]))[j]? = some u → w.cell? ⟨g, j, none⟩ = some u := fun j u hu => by
    have := hr.cells (g := g) rfl j u hu
    rwa [Addr.add_lit, Nat.zero_add] at this
  have c77 : w.cell? ⟨g, n * 4 + 2, none⟩ = some (.int .u32 77) := hcell _ _ (rowc_at (x := e77) (by rw [List.getElem?_append_right (by omega)]; simp [hl]) rfl)
  refine ⟨hl, by omega, by omega, fun e => (by cases e), .inr ⟨g, 0, rfl, World.block_lt_of_cell? w _ c77, fun j u hu => ?_⟩, fun y hm => (hy y hm).ok ?_ ?_⟩
  · rw [Nat.zero_add]
    exact hcell j u (by rw [rowc_app, List.getElem?_append_left (by rw [rowc_len]; have := (List.getElem?_eq_some_iff.1 hu).1; rw [rowc_len] at this; exact this)]; exact hu)
  · have := wts_mem (e := y.e) (es := ers ys) (List.mem_map.2 ⟨y, hm, rfl⟩); omega
  · have := wts_mem (e := y.e) (es := ers ys) (List.mem_map.2 ⟨y, hm, rfl⟩); omega
theorem own_kp {f : Nat → Prop} {w w' : World} {v : Value} {zs : List Int} (h : Own w v zs) (k : Bo.Kp f w w') (hf : ∀ j, v.ownBlock = some j → ¬ f j) : Own w' v zs :=
  h.of_block fun j hj => k.block j (h.lt hj) (hf j hj)
theorem En.Lt.kp {y : En} {B q : Nat} {w w' : World} (h : y.Lt B w) (k : Bo.Kp (fun j => j = q) w w') (hq : q < B ∨ w.heap.size ≤ q) : y.Lt B w' := by
  obtain ⟨g, h1, h2, h3⟩ := h.key
  obtain ⟨g', k1, k2, k3⟩ := h.val
  refine ⟨⟨g, h1, h2, own_kp h3 k fun j hj => ?_⟩, h.kc, ⟨g', k1, k2, own_kp k3 k fun j hj => ?_⟩, h.vc, h.k8, h.v8, h.page, h.size⟩
  · have := h3.lt hj
    simp [Value.ownBlock] at hj
    omega
  · have := k3.lt hj
    simp [Value.ownBlock] at hj
    omega
/-- what is known of a list that was lent: the program's answers, that it is whole, and that it may be written over. -/
structure Ldd (leaf : Bool) (a : Option Addr) (n c g q B K Z L : Nat) (E : List Int) (w : World) : Prop where
  enc : ∀ W, Bo.Kp (fun j => j = q) w W → Calls Try.prog 6 #[.agg #[.bool leaf, .slice (some ⟨g, 0, none⟩) n (n + 1)]] W fun e w' => ∃ a2 c2, e = .returned (.tuple #[.slice a2 L c2, .int .u16 (K : Int)]) ∧ EncO E W a2 L c2 w'
  chk : ∀ W, Bo.Kp (fun j => j = q) w W → Calls Try.prog 7 #[.agg #[.bool leaf, .slice (some ⟨g, 0, none⟩) n (n + 1)]] W fun e w' => e = .returned (.int .u16 (K : Int)) ∧ Below W.heap.size W w'
  siz : ∀ W, Bo.Kp (fun j => j = q) w W → Calls Try.prog 8 #[.agg #[.bool leaf, .slice (some ⟨g, 0, none⟩) n (n + 1)]] W fun e w' => e = .returned (.int .i64 (Z : Int)) ∧ Below W.heap.size W w'
  whole : ∀ W, Bo.Kp (fun j => j = q) w W → Calls Try.prog 9 #[.slice (some ⟨g, 0, none⟩) n (n + 1), .slice a n c] W fun e w' => e = .returned (.bool true) ∧ Below W.heap.size W w'
  spoil : ∀ W, Bo.Kp (fun j => j = q) w W → Calls Try.prog 10 #[.slice (some ⟨g, 0, none⟩) n (n + 1)] W fun e w' => e = .returned (.tuple #[]) ∧ Bo.Kp (fun k => B ≤ k ∧ k < w.heap.size) W w'
theorem lent_all (leaf : Bool) (a : Option Addr) (n c : Nat) (xs : List En) (w0 w : World) (h : Ens w0 a n c xs) (hw0 : Below w0.heap.size w0 w) (hn : n ≤ 500) (hw : wts (ers xs) ≤ 20000) :
    Calls Try.prog 5 #[.slice a n c] w fun e w' => ∃ g, e = .returned (.slice (some ⟨g, 0, none⟩) n (n + 1)) ∧ (∀ q, w0.heap.size ≤ q → (q < w.heap.size ∨ w'.heap.size ≤ q) → Ldd leaf a n c g q w.heap.size (chk leaf (ers xs)) (nsz leaf (ers xs)) (eb leaf (ers xs)).length (eb leaf (ers xs)) w') ∧ Below w.heap.size w w' := by
  refine (lente_any a n c xs w (h.below hw0) (by omega) (by omega)).mono ?_
  rintro e w' ⟨g, ys, rfl, he, hg, hr, hy, hb⟩
  have hl : ys.length = n := by have := congrArg List.length he; rw [ers_len, ers_len, h.len] at this; exact this
  have hgl : g < w'.heap.size := (hr.lt g rfl).2
  refine ⟨g, rfl, fun q hq0 hq1 => ?_, hb⟩
  have hR : ∀ W, Bo.Kp (fun j => j = q) w' W → W.ownsRow w.heap.size 67 4 (.slice (some ⟨g, 0, none⟩) (n + 1) (n + 1)) (n + 1) (rowc (ys ++ [e77])) := fun W hW => row_of_block hr fun k hk => hW.block k (hr.lt k hk).2 (by simp [Value.ownBlock] at hk; omega)
  have hY : ∀ W, Bo.Kp (fun j => j = q) w' W → ∀ y ∈ ys, y.Lt w.heap.size W := fun W hW y hm => (hy y hm).kp hW hq1
  have hE : ∀ W, Bo.Kp (fun j => j = q) w' W → Ens W (some ⟨g, 0, none⟩) n (n + 1) ys := fun W hW => ens_lent (hR W hW) (hY W hW) hl (by omega) (by rw [he]; omega)
  have hX : ∀ W, Bo.Kp (fun j => j = q) w' W → Ens W a n c xs := fun W hW => h.below (hw0.trans ((hb.mono hw0.size).trans (hW.below (fun k hk => by omega) (by have := hw0.size; have := hb.size; omega))))
  refine ⟨fun W hW => ?_, fun W hW => ?_, fun W hW => ?_, fun W hW => ?_, fun W hW => ?_⟩
  · have := encode_all leaf (some ⟨g, 0, none⟩) n (n + 1) ys W (hE W hW) (by omega) (by rw [he]; omega)
    rw [he] at this
    exact this
  · have := check_any leaf (some ⟨g, 0, none⟩) n (n + 1) ys W (hE W hW) (by omega) (by rw [he]; omega)
    rw [he] at this
    exact this
  · have := size_any leaf (some ⟨g, 0, none⟩) n (n + 1) ys W (hE W hW) (by omega) (by rw [he]; omega)
    rw [he] at this
    exact this
  · exact wholee_any w.heap.size g a n c xs ys W (hR W hW) (hY W hW) (hX W hW) he (by omega) (by omega)
  · exact spoile_any w.heap.size g n ys W _ (hR W hW) (fun y hm => ((hy y hm).sp (f := fun k => w.heap.size ≤ k ∧ k < w'.heap.size) (fun k h1 h2 => ⟨h1, h2⟩)).kp hW hq1) (fun y hm => ⟨(hy y hm).kc, (hy y hm).vc⟩) hl (by omega) (by rw [he]; omega) ⟨hg, hgl⟩
theorem own_inn2 {w : World} {a : Option Addr} {n c : Nat} {E : List Int} (h : Own w (.slice a n c) E) (h8 : Byts E) : Inn w a n c E := by
  obtain ⟨a', c', e, h1, h2, h3, h4, _⟩ := h.shape
  cases e
  exact ⟨rfl, h1, by unfold maxLen at h2; omega, h3, h4, h8⟩
end Go.Proofs.Ytfpojfohlmhklaa
