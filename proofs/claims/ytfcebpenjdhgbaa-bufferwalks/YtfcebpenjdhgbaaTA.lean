/- A buffer told by what it says: New, Put, Delete, Len, Mark. -/
import Derived.Test.YtfcebpenjdhgbaaMA
namespace Go.Proofs.Ytfcebpenjdhgbaa
open Go.RowKit Go.Maps
set_option linter.unusedVariables false

/-- a buffer at p that says es, behind n Puts and Deletes; what it said ahead of each of them; the blocks that it writes. -/
def St (w : World) (p B : Nat) (es : List Ee) (n : Nat) (hs : List (List Ee)) (O : Nat → Prop) : Prop := ∃ sv uv xs us hh, Bh w p B sv uv xs us hh ∧ ers xs = es ∧ us.length = n ∧ hh.map ers = hs ∧ (∀ k, O k ↔ Bo p sv uv k) ∧ Ris es ∧ ∀ l ∈ hs, Ris l
section
variable {w w' : World} {p B n : Nat} {es : List Ee} {hs : List (List Ee)} {O : Nat → Prop}
theorem St.below (h : St w p B es n hs O) (hb : Below w.heap.size w w') : St w' p B es n hs O := by
  obtain ⟨sv, uv, xs, us, hh, h1, h2⟩ := h
  exact ⟨sv, uv, xs, us, hh, h1.below hb, h2⟩
theorem St.lt (h : St w p B es n hs O) {k : Nat} (hk : O k) : k < w.heap.size := by
  obtain ⟨sv, uv, xs, us, hh, h1, _, _, _, h5, _⟩ := h
  exact h1.bf.lt ((h5 k).1 hk)
theorem St.ge (h : St w p B es n hs O) {k : Nat} (hk : O k) : B ≤ k := by
  obtain ⟨sv, uv, xs, us, hh, h1, _, _, _, h5, _⟩ := h
  exact h1.bf.ge ((h5 k).1 hk)
theorem St.plt (h : St w p B es n hs O) : p < w.heap.size ∧ B ≤ p ∧ O p := by
  obtain ⟨sv, uv, xs, us, hh, h1, _, _, _, h5, _⟩ := h
  exact ⟨lt_of_block h1.bf.blk, h1.bf.base, (h5 p).2 (.inl rfl)⟩
end
def SayOut (w : World) (p B : Nat) (es : List Ee) (n : Nat) (hs : List (List Ee)) (O : Nat → Prop) (e : Ee) (r : Ending) (w' : World) : Prop :=
  r = .returned (.tuple #[]) ∧ ∃ O', St w' p B (put es e) (n + 1) (hs ++ [es]) O' ∧ Go1 O w O' w'
theorem bo_go {w w' : World} {p : Nat} {sv uv sv' uv' : Value} {O : Nat → Prop} (h5 : ∀ k, O k ↔ Bo p sv uv k) (hg : Go1 (Bo p sv uv) w (Bo p sv' uv') w') : Go1 O w (Bo p sv' uv') w' :=
  ⟨hg.mv.mono fun k hk => (h5 k).2 hk, fun k hk => (hg.own k hk).imp (h5 k).2 id⟩
theorem say_any {w : World} {p B n : Nat} {es : List Ee} {hs : List (List Ee)} {O : Nat → Prop} (h : St w p B es n hs O) (y : En) (hy : y.Own B w) (hn : n ≤ 900000) (hm : es.length ≤ 900000) :
    Calls Try.prog 35 #[.pointer (some ⟨p, 0, none⟩), .agg #[.slice y.ka y.e.key.length y.kc, .slice y.va y.e.val.length y.vc, .bool y.e.del]] w (SayOut w p B es n hs O y.e) := by
  obtain ⟨sv, uv, xs, us, hh, h1, rfl, rfl, rfl, h5, h6, h7⟩ := h
  have hB : B ≤ w.heap.size := by have := h1.bf.base; have := lt_of_block h1.bf.blk; omega
  have fin : ∀ i xs' sv' uv' u w', At (pge y.e.key) xs i → xs' = putAt xs i y → Bh w' p B sv' uv' xs' (us ++ [u]) (hh ++ [xs]) → Go1 (Bo p sv uv) w (Bo p sv' uv') w' → SayOut w p B (ers xs) us.length (hh.map ers) O y.e (.returned (.tuple #[])) w' := by
    intro i xs' sv' uv' u w' hat hx hb hg
    refine ⟨rfl, Bo p sv' uv', ⟨sv', uv', xs', us ++ [u], hh ++ [xs], hb, ?_, by simp, by simp, fun k => Iff.rfl, ris_put h6, fun l hl => ?_⟩, bo_go h5 hg⟩
    · rw [hx, put_at h6 hat]
    · rcases List.mem_append.1 hl with hl | hl
      · exact h7 l hl
      · simp at hl; subst hl; exact h6
  -- whether something was said of the key is the same wherever a search comes to
  by_cases hth : (lk (ers xs) y.e.key).isSome = true
  · refine (say_old h1 y hy hB (by rwa [ers_len] at hm) hn (fun i hat => ?_)).mono ?_
    · have := lk_at h6 hat
      by_cases ht : ther xs i y.e.key = true
      · exact ht
      · rw [if_neg ht] at this; rw [this] at hth; cases hth
    · rintro r w' ⟨rfl, i, sv', uv', u, hat, hb, hg⟩
      refine fin i _ sv' uv' u w' hat ?_ hb hg
      have := lk_at h6 hat
      by_cases ht : ther xs i y.e.key = true
      · rw [putAt, if_pos ht]
      · rw [if_neg ht] at this; rw [this] at hth; cases hth
  · have hno : ∀ i, At (pge y.e.key) xs i → ther xs i y.e.key = false := fun i hat => by
      have := lk_at h6 hat
      by_cases ht : ther xs i y.e.key = true
      · rw [if_pos ht] at this
        exfalso
        refine hth ?_
        rw [this]
        have hil : i < xs.length := by
          unfold ther at ht
          split at ht
          · rename_i x hx; exact (List.getElem?_eq_some_iff.1 hx).1
          · cases ht
        rw [List.getElem?_eq_getElem hil]; rfl
      · simpa using ht
    refine (say_new h1 y hy hB (by rwa [ers_len] at hm) hn hno).mono ?_
    rintro r w' ⟨rfl, i, sv', uv', u, hat, hb, hg⟩
    refine fin i _ sv' uv' u w' hat ?_ hb hg
    rw [putAt, hno i hat]
    rfl
set_option maxHeartbeats 1600000 in
set_option maxRecDepth 1000000 in
theorem put_any {w : World} {p B n : Nat} {es : List Ee} {hs : List (List Ee)} {O : Nat → Prop} (h : St w p B es n hs O) (ka va : Option Addr) (kn kc vn vc : Nat) (key val : List Int) (hk : Inn w ka kn kc key) (hv : Inn w va vn vc val) (hkl : kn ≤ 140737488351232) (hvl : vn ≤ 140737488351232) (hn : n ≤ 900000) (hm : es.length ≤ 900000) :
    Calls Try.prog 20 #[.pointer (some ⟨p, 0, none⟩), .slice ka kn kc, .slice va vn vc] w (SayOut w p B es n hs O ⟨key, val, false⟩) := by
  have HK := hide (clone_any ka kn kc key w hk hkl)
  have HV := hide (fun W (hW : Below w.heap.size w W) => clone_any va vn vc val W (hv.below hW) hvl)
  have hBp := h.plt
  have HS := hide h
  have K8 := hide hk.byts
  have V8 := hide hv.byts
  clear h hk hv
  go_enter Try.func20, Try.ntmps20
  go_wp2_with (first
    | (go_at_call_of 36 (Value.slice va vn vc); refine (HV.out _ HB1.out).mono ?_; rintro e w2 ⟨vV, rfl, hmV⟩; obtain ⟨aV, nV, cV, rfl, hnV⟩ := hmV.1.shape2; have HM2 := hide hmV; have HN2 := hide hnV; clear hmV hnV)
    | (go_at_call_of 36 (Value.slice ka kn kc); refine HK.out.mono ?_; rintro e w1 ⟨vK, rfl, hmK⟩; obtain ⟨aK, nK, cK, rfl, hnK⟩ := hmK.1.shape2; have HM1 := hide hmK; have HN1 := hide hnK; have HB1 := hide hmK.2.2; clear hmK hnK)
    | fail)
  have hnk : nK = key.length := HN1.out
  have hnv : nV = val.length := HN2.out
  subst hnk hnv
  have hwB : B ≤ w.heap.size := by omega
  have hB2 : Below w.heap.size w w2 := HB1.out.trans (HM2.out.2.2.mono HB1.out.size)
  have hy : (⟨⟨key, val, false⟩, aK, cK, aV, cV⟩ : En).Own B w2 := ⟨HM1.out.1.below HM2.out.2.2, HM2.out.1, fun k hk => Nat.le_trans hwB (HM1.out.2.1 k hk), fun k hk => Nat.le_trans hwB (Nat.le_trans HB1.out.size (HM2.out.2.1 k hk)), fun k hk e => by
    have h1 := HM1.out.1.lt hk
    have h2 := HM2.out.2.1 k e
    omega, K8.out, V8.out⟩
  refine (say_any (HS.out.below hB2) ⟨⟨key, val, false⟩, aK, cK, aV, cV⟩ hy hn hm).mono ?_
  rintro e w3 ⟨rfl, O', hst, hgo⟩
  have HST := hide hst
  have HGO := hide ((Go1.of_below hB2).trans hgo)
  clear hst hgo hy hB2
  go_wp2
  go_end0
  exact ⟨rfl, O', HST.out, HGO.out⟩
set_option maxHeartbeats 1600000 in
set_option maxRecDepth 1000000 in
theorem delete_key {w : World} {p B n : Nat} {es : List Ee} {hs : List (List Ee)} {O : Nat → Prop} (h : St w p B es n hs O) (ka : Option Addr) (kn kc : Nat) (key : List Int) (hk : Inn w ka kn kc key) (hkl : kn ≤ 140737488351232) (hn : n ≤ 900000) (hm : es.length ≤ 900000) :
    Calls Try.prog 21 #[.pointer (some ⟨p, 0, none⟩), .slice ka kn kc] w (SayOut w p B es n hs O ⟨key, [], true⟩) := by
  have HK := hide (clone_any ka kn kc key w hk hkl)
  have hBp := h.plt
  have HS := hide h
  have K8 := hide hk.byts
  clear h hk
  go_enter Try.func21, Try.ntmps21
  go_wp2_with (first
    | (go_at_call_of 36 (Value.slice ka kn kc); refine HK.out.mono ?_; rintro e w1 ⟨vK, rfl, hmK⟩; obtain ⟨aK, nK, cK, rfl, hnK⟩ := hmK.1.shape2; have HM1 := hide hmK; have HN1 := hide hnK; have HB1 := hide hmK.2.2; clear hmK hnK)
    | fail)
  have hnk : nK = key.length := HN1.out
  subst hnk
  have hwB : B ≤ w.heap.size := by omega
  have hy : (⟨⟨key, [], true⟩, aK, cK, none, 0⟩ : En).Own B w1 := ⟨HM1.out.1, Own.nil _, fun k hk => Nat.le_trans hwB (HM1.out.2.1 k hk), fun k hk => by simp [Value.ownBlock] at hk, fun k hk e => by simp [Value.ownBlock] at e, K8.out, by intro c hc; simp at hc⟩
  refine (say_any (HS.out.below HB1.out) ⟨⟨key, [], true⟩, aK, cK, none, 0⟩ hy hn hm).mono ?_
  rintro e w3 ⟨rfl, O', hst, hgo⟩
  have HST := hide hst
  have HGO := hide ((Go1.of_below HB1.out).trans hgo)
  clear hst hgo hy
  go_wp2
  go_end0
  exact ⟨rfl, O', HST.out, HGO.out⟩
set_option maxHeartbeats 800000 in
theorem new_any (w : World) : Calls Try.prog 19 #[] w fun e w' => e = .returned (.pointer (some ⟨w.heap.size, 0, none⟩)) ∧ St w' w.heap.size w.heap.size [] 0 [] (fun k => k = w.heap.size) ∧ Below w.heap.size w w' ∧ w.heap.size < w'.heap.size := by
  go_enter Try.func19, Try.ntmps19
  go_wp2
  go_ret
  have hb := below_alloc w (.cells #[.slice none 0 0, .slice none 0 0] 59)
  refine ⟨rfl, ⟨.slice none 0 0, .slice none 0 0, [], [], [], ⟨⟨heap_alloc_new w _, ⟨rfl, .inl ⟨rfl, rfl⟩⟩, ⟨rfl, .inl ⟨rfl, rfl⟩⟩, by intro x hx; simp at hx, Nat.le_refl _⟩, rfl, by intro k u hu; simp at hu, by intro l hl; simp at hl⟩, rfl, rfl, rfl, fun k => ?_, ris_nil, by intro l hl; simp at hl⟩, hb, by simp⟩
  simp [Bo, Value.ownBlock]
theorem St.cells {w : World} {p B n : Nat} {es : List Ee} {hs : List (List Ee)} {O : Nat → Prop} (h : St w p B es n hs O) : ∃ a c a' c', w.cell? ⟨p, 0, none⟩ = some (.slice a es.length c) ∧ w.cell? ⟨p, 1, none⟩ = some (.slice a' n c') := by
  obtain ⟨sv, uv, xs, us, hh, h1, rfl, rfl, rfl, h5, h6, h7⟩ := h
  obtain ⟨a, c, rfl, _⟩ := row_shape h1.bf.said
  obtain ⟨a', c', rfl, _⟩ := row_shape h1.bf.undo
  obtain ⟨c0, c1, _⟩ := cells_two h1.bf.blk
  exact ⟨a, c, a', c', by rw [ers_len]; exact c0, c1⟩
set_option maxHeartbeats 800000 in
theorem len_any {w : World} {p B n : Nat} {es : List Ee} {hs : List (List Ee)} {O : Nat → Prop} (h : St w p B es n hs O) : Calls Try.prog 22 #[.pointer (some ⟨p, 0, none⟩)] w fun e w' => e = .returned (.int .i64 (es.length : Int)) ∧ w' = w := by
  obtain ⟨a, c, a', c', c0, c1⟩ := h.cells
  clear h
  generalize es.length = m at *
  go_enter Try.func22, Try.ntmps22
  go_wp2
  go_ret
  exact ⟨rfl, rfl⟩
set_option maxHeartbeats 800000 in
theorem mark_any {w : World} {p B n : Nat} {es : List Ee} {hs : List (List Ee)} {O : Nat → Prop} (h : St w p B es n hs O) : Calls Try.prog 23 #[.pointer (some ⟨p, 0, none⟩)] w fun e w' => e = .returned (.int .i64 (n : Int)) ∧ w' = w := by
  obtain ⟨a, c, a', c', c0, c1⟩ := h.cells
  clear h
  go_enter Try.func23, Try.ntmps23
  go_wp2
  go_ret
  exact ⟨rfl, rfl⟩
end Go.Proofs.Ytfcebpenjdhgbaa
