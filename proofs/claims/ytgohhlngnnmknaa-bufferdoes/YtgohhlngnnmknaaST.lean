/- A buffer told by what it says, with the blocks that its entries lie in. -/
import Derived.Test.YtgohhlngnnmknaaBH
namespace Go.Proofs.Ytgohhlngnnmknaa
open Go.RowKit Go.Maps
set_option linter.unusedVariables false

/-- the blocks that the bytes of all its entries lie in, also of those of before. -/
def EB (xs : List En) (hh : List (List En)) (k : Nat) : Prop := ∃ l ∈ hh ++ [xs], ∃ x ∈ l, x.has k
def St2 (w : World) (p B : Nat) (es : List Ee) (n : Nat) (hs : List (List Ee)) (O E : Nat → Prop) : Prop := ∃ sv uv xs us hh, Bh w p B sv uv xs us hh ∧ ers xs = es ∧ us.length = n ∧ hh.map ers = hs ∧ (∀ k, O k ↔ Bo p sv uv k) ∧ Ris es ∧ (∀ l ∈ hs, Ris l) ∧ ∀ k, E k ↔ EB xs hh k
section
variable {w w' : World} {p B n : Nat} {es : List Ee} {hs : List (List Ee)} {O E : Nat → Prop}
theorem St2.st (h : St2 w p B es n hs O E) : St w p B es n hs O := by
  obtain ⟨sv, uv, xs, us, hh, h1, h2, h3, h4, h5, h6, h7, h8⟩ := h
  exact ⟨sv, uv, xs, us, hh, h1, h2, h3, h4, h5, h6, h7⟩
theorem St2.below (h : St2 w p B es n hs O E) (hb : Below w.heap.size w w') : St2 w' p B es n hs O E := by
  obtain ⟨sv, uv, xs, us, hh, h1, h2⟩ := h
  exact ⟨sv, uv, xs, us, hh, h1.below hb, h2⟩
theorem St2.plt (h : St2 w p B es n hs O E) : p < w.heap.size ∧ B ≤ p ∧ O p := h.st.plt
theorem St2.elt (h : St2 w p B es n hs O E) {k : Nat} (hk : E k) : k < w.heap.size ∧ ∃ c, w.heap[k]? = some (.cells c 5 (0, 0)) := by
  obtain ⟨sv, uv, xs, us, hh, h1, h2, h3, h4, h5, h6, h7, h8⟩ := h
  obtain ⟨l, hl, x, hx, hk⟩ := (h8 k).1 hk
  have ho : x.Own B w := by
    rcases List.mem_append.1 hl with hl | hl
    · exact h1.olds l hl x hx
    · simp at hl; subst hl; exact h1.bf.each x hx
  exact ⟨ho.lt hk, ho.u8 hk⟩
/-- blocks of others are none of a buffer's boxes. -/
def FT (w : World) (k : Nat) : Prop := ∀ cs t, w.heap[k]? = some (.cells cs t (0, 0)) → t ≠ 25 ∧ t ≠ 3 ∧ (t = 85 → cs.size ≠ 3)
theorem St2.foreign (h : St2 w p B es n hs O E) {F : Nat → Prop} (hm : Mv F w w') (hF : ∀ k, F k → k < w.heap.size → ¬ O k ∧ ¬ E k ∧ FT w k) : St2 w' p B es n hs O E := by
  obtain ⟨sv, uv, xs, us, hh, h1, h2, h3, h4, h5, h6, h7, h8⟩ := h
  have st : ∀ k, k < w.heap.size → (O k ∨ E k) → w'.heap[k]? = w.heap[k]? := fun k hk ho => hm.block k hk fun hf => ho.elim (hF k hf hk).1 (hF k hf hk).2.1
  have own : ∀ l ∈ hh ++ [xs], ∀ x ∈ l, x.Own B w → x.Own B w' := fun l hl x hx ho => ho.of_block fun k hk => st k (ho.lt hk) (.inr ((h8 k).2 ⟨l, hl, x, hx, hk⟩))
  have bx : ∀ (k : Nat) (cs : Array Value) (t : TypeId), w.heap[k]? = some (.cells cs t (0, 0)) → (t = 25 ∨ t = 3 ∨ (t = 85 ∧ cs.size = 3)) → w'.heap[k]? = some (.cells cs t (0, 0)) := fun k cs t hk ht => (hm.block k (lt_of_block hk) fun hf => by
    obtain ⟨_, _, h9⟩ := hF k hf (lt_of_block hk)
    obtain ⟨a1, a2, a3⟩ := h9 cs t hk
    rcases ht with h | h | ⟨h, hs⟩
    · exact a1 h
    · exact a2 h
    · exact a3 h hs).trans hk
  refine ⟨sv, uv, xs, us, hh, ⟨h1.bf.of_block fun k hk => ?_, h1.len, fun k u hk => ?_, fun l hl x hx => own l (List.mem_append.2 (.inl hl)) x hx (h1.olds l hl x hx)⟩, h2, h3, h4, h5, h6, h7, h8⟩
  · rcases hk with hk | ⟨x, hx, hk⟩
    · exact st k (h1.bf.lt hk) (.inl ((h5 k).2 hk))
    · exact st k ((h1.bf.each x hx).lt hk) (.inr ((h8 k).2 ⟨xs, by simp, x, hx, hk⟩))
  · obtain ⟨a, b, ha, hb, hU⟩ := h1.und k u hk
    refine ⟨a, b, ha, hb, ?_⟩
    rcases hU with ⟨ob, bb, ab, i, old, e, g1, g2, g3, g4, g5, g6⟩ | ⟨bb, ab, i, e, g2, g3, g4, g5⟩
    · exact .inl ⟨ob, bb, ab, i, old, e, bx _ _ _ g1 (.inr (.inr ⟨rfl, rfl⟩)), bx _ _ _ g2 (.inl rfl), bx _ _ _ g3 (.inr (.inl rfl)), g4, g5, g6⟩
    · exact .inr ⟨bb, ab, i, e, bx _ _ _ g2 (.inl rfl), bx _ _ _ g3 (.inr (.inl rfl)), g4, g5⟩
end
def SayOut2 (w : World) (p B : Nat) (es : List Ee) (n : Nat) (hs : List (List Ee)) (O E N : Nat → Prop) (e : Ee) (r : Ending) (w' : World) : Prop :=
  r = .returned (.tuple #[]) ∧ ∃ O' E', St2 w' p B (put es e) (n + 1) (hs ++ [es]) O' E' ∧ Go1 O w O' w' ∧ ∀ k, E' k → E k ∨ N k
theorem St2.new {w : World} {p B : Nat} (h : St w p B [] 0 [] (fun k => k = p)) : ∃ E, St2 w p B [] 0 [] (fun k => k = p) E ∧ ∀ k, ¬ E k := by
  obtain ⟨sv, uv, xs, us, hh, h1, h2, h3, h4, h5, h6, h7⟩ := h
  refine ⟨EB xs hh, ⟨sv, uv, xs, us, hh, h1, h2, h3, h4, h5, h6, h7, fun k => Iff.rfl⟩, fun k hk => ?_⟩
  have e1 : xs = [] := by simpa [ers] using h2
  have e2 : hh = [] := by simpa using h4
  subst e1 e2
  obtain ⟨l, hl, x, hx, _⟩ := hk
  simp at hl
  subst hl
  simp at hx
theorem say2_any {w : World} {p B n : Nat} {es : List Ee} {hs : List (List Ee)} {O E : Nat → Prop} (h : St2 w p B es n hs O E) (y : En) (hy : y.Own B w) (hn : n ≤ 900000) (hm : es.length ≤ 900000) :
    Calls Try.prog 67 #[.pointer (some ⟨p, 0, none⟩), .agg #[.slice y.ka y.e.key.length y.kc, .slice y.va y.e.val.length y.vc, .bool y.e.del]] w (SayOut2 w p B es n hs O E y.has y.e) := by
  obtain ⟨sv, uv, xs, us, hh, h1, rfl, rfl, rfl, h5, h6, h7, h8⟩ := h
  have hB : B ≤ w.heap.size := by have := h1.bf.base; have := lt_of_block h1.bf.blk; omega
  have fin : ∀ i xs' sv' uv' u w', At (pge y.e.key) xs i → xs' = putAt xs i y → Bh w' p B sv' uv' xs' (us ++ [u]) (hh ++ [xs]) → Go1 (Bo p sv uv) w (Bo p sv' uv') w' → SayOut2 w p B (ers xs) us.length (hh.map ers) O E y.has y.e (.returned (.tuple #[])) w' := by
    intro i xs' sv' uv' u w' hat hx hb hg
    refine ⟨rfl, Bo p sv' uv', EB xs' (hh ++ [xs]), ⟨sv', uv', xs', us ++ [u], hh ++ [xs], hb, ?_, by simp, by simp, fun k => Iff.rfl, ris_put h6, fun l hl => ?_, fun k => Iff.rfl⟩, bo_go h5 hg, fun k hk => ?_⟩
    · rw [hx, put_at h6 hat]
    · rcases List.mem_append.1 hl with hl | hl
      · exact h7 l hl
      · simp at hl; subst hl; exact h6
    · obtain ⟨l, hl, x, hx', hk⟩ := hk
      rcases List.mem_append.1 hl with hl | hl
      · exact .inl ((h8 k).2 ⟨l, hl, x, hx', hk⟩)
      · simp at hl
        subst hl
        have hm : x = y ∨ x ∈ xs := by
          rw [hx] at hx'
          rw [(putAt_tl xs i y hat.1).1] at hx'
          rcases List.mem_append.1 hx' with h9 | h9
          · exact .inr (List.mem_of_mem_take h9)
          · rcases List.mem_cons.1 h9 with h9 | h9
            · exact .inl h9
            · exact .inr (List.mem_of_mem_drop h9)
        rcases hm with rfl | hm
        · exact .inr hk
        · exact .inl ((h8 k).2 ⟨xs, by simp, x, hm, hk⟩)
  -- whether something was said of the key is the same wherever a search comes to
  by_cases hth : (lk (ers xs) y.e.key).isSome = true
  · refine (say_old h1 y hy hB (by rwa [ers_len] at hm) hn (fun i hat => ?_)).mono ?_
    · have := lk_at h6 hat
      by_cases ht : ther xs i y.e.key = true
      · exact ht
      · rw [if_neg ht] at this; rw [this] at hth; cases hth
    · rintro r w' ⟨rfl, i, sv', uv', u, hat, hb, hg⟩
      refine fin i _ sv' uv' u w' hat ?_ hb hg
      have := lk_at h6 hat
      by_cases ht : ther xs i y.e.key = true
      · rw [putAt, if_pos ht]
      · rw [if_neg ht] at this; rw [this] at hth; cases hth
  · have hno : ∀ i, At (pge y.e.key) xs i → ther xs i y.e.key = false := fun i hat => by
      have := lk_at h6 hat
      by_cases ht : ther xs i y.e.key = true
      · rw [if_pos ht] at this
        exfalso
        refine hth ?_
        rw [this]
        have hil : i < xs.length := by
          unfold ther at ht
          split at ht
          · rename_i x hx; exact (List.getElem?_eq_some_iff.1 hx).1
          · cases ht
        rw [List.getElem?_eq_getElem hil]; rfl
      · simpa using ht
    refine (say_new h1 y hy hB (by rwa [ers_len] at hm) hn hno).mono ?_
    rintro r w' ⟨rfl, i, sv', uv', u, hat, hb, hg⟩
    refine fin i _ sv' uv' u w' hat ?_ hb hg
    rw [putAt, hno i hat]
    rfl
set_option maxHeartbeats 1600000 in
set_option maxRecDepth 1000000 in
theorem put2_any {w : World} {p B n : Nat} {es : List Ee} {hs : List (List Ee)} {O E : Nat → Prop} (h : St2 w p B es n hs O E) (ka va : Option Addr) (kn kc vn vc : Nat) (key val : List Int) (hk : Inn w ka kn kc key) (hv : Inn w va vn vc val) (hkl : kn ≤ 140737488351232) (hvl : vn ≤ 140737488351232) (hn : n ≤ 900000) (hm : es.length ≤ 900000) :
    Calls Try.prog 14 #[.pointer (some ⟨p, 0, none⟩), .slice ka kn kc, .slice va vn vc] w (SayOut2 w p B es n hs O E (fun k => w.heap.size ≤ k) ⟨key, val, false⟩) := by
  have HK := hide (clone_any ka kn kc key w hk hkl)
  have HV := hide (fun W (hW : Below w.heap.size w W) => clone_any va vn vc val W (hv.below hW) hvl)
  have hBp := h.plt
  have HS := hide h
  have K8 := hide hk.byts
  have V8 := hide hv.byts
  clear h hk hv
  go_enter Try.func14, Try.ntmps14
  go_wp2_with (first
    | (go_at_call_of 68 (Value.slice va vn vc); refine (HV.out _ HB1.out).mono ?_; rintro e w2 ⟨vV, rfl, hmV⟩; obtain ⟨aV, nV, cV, rfl, hnV⟩ := hmV.1.shape2; have HM2 := hide hmV; have HN2 := hide hnV; clear hmV hnV)
    | (go_at_call_of 68 (Value.slice ka kn kc); refine HK.out.mono ?_; rintro e w1 ⟨vK, rfl, hmK⟩; obtain ⟨aK, nK, cK, rfl, hnK⟩ := hmK.1.shape2; have HM1 := hide hmK; have HN1 := hide hnK; have HB1 := hide hmK.2.2; clear hmK hnK)
    | fail)
  have hnk : nK = key.length := HN1.out
  have hnv : nV = val.length := HN2.out
  subst hnk hnv
  have hwB : B ≤ w.heap.size := by omega
  have hB2 : Below w.heap.size w w2 := HB1.out.trans (HM2.out.2.2.mono HB1.out.size)
  have hy : (⟨⟨key, val, false⟩, aK, cK, aV, cV⟩ : En).Own B w2 := ⟨HM1.out.1.below HM2.out.2.2, HM2.out.1, fun k hk => Nat.le_trans hwB (HM1.out.2.1 k hk), fun k hk => Nat.le_trans hwB (Nat.le_trans HB1.out.size (HM2.out.2.1 k hk)), fun k hk e => by
    have h1 := HM1.out.1.lt hk
    have h2 := HM2.out.2.1 k e
    omega, K8.out, V8.out⟩
  refine (say2_any (HS.out.below hB2) ⟨⟨key, val, false⟩, aK, cK, aV, cV⟩ hy hn hm).mono ?_
  rintro e w3 ⟨rfl, O', E', hst, hgo, hee⟩
  have HST := hide hst
  have HGO := hide ((Go1.of_below hB2).trans hgo)
  have HEE : Hid (∀ k, E' k → E k ∨ w.heap.size ≤ k) := hide fun k hk => (hee k hk).imp id fun h9 => h9.elim (fun h => HM1.out.2.1 k h) (fun h => Nat.le_trans HB1.out.size (HM2.out.2.1 k h))
  clear hst hgo hy hB2 hee
  go_wp2
  go_end0
  exact ⟨rfl, O', E', HST.out, HGO.out, HEE.out⟩
set_option maxHeartbeats 1600000 in
set_option maxRecDepth 1000000 in
theorem delete2_any {w : World} {p B n : Nat} {es : List Ee} {hs : List (List Ee)} {O E : Nat → Prop} (h : St2 w p B es n hs O E) (ka : Option Addr) (kn kc : Nat) (key : List Int) (hk : Inn w ka kn kc key) (hkl : kn ≤ 140737488351232) (hn : n ≤ 900000) (hm : es.length ≤ 900000) :
    Calls Try.prog 15 #[.pointer (some ⟨p, 0, none⟩), .slice ka kn kc] w (SayOut2 w p B es n hs O E (fun k => w.heap.size ≤ k) ⟨key, [], true⟩) := by
  have HK := hide (clone_any ka kn kc key w hk hkl)
  have hBp := h.plt
  have HS := hide h
  have K8 := hide hk.byts
  clear h hk
  go_enter Try.func15, Try.ntmps15
  go_wp2_with (first
    | (go_at_call_of 68 (Value.slice ka kn kc); refine HK.out.mono ?_; rintro e w1 ⟨vK, rfl, hmK⟩; obtain ⟨aK, nK, cK, rfl, hnK⟩ := hmK.1.shape2; have HM1 := hide hmK; have HN1 := hide hnK; have HB1 := hide hmK.2.2; clear hmK hnK)
    | fail)
  have hnk : nK = key.length := HN1.out
  subst hnk
  have hwB : B ≤ w.heap.size := by omega
  have hy : (⟨⟨key, [], true⟩, aK, cK, none, 0⟩ : En).Own B w1 := ⟨HM1.out.1, Own.nil _, fun k hk => Nat.le_trans hwB (HM1.out.2.1 k hk), fun k hk => by simp [Value.ownBlock] at hk, fun k hk e => by simp [Value.ownBlock] at e, K8.out, by intro c hc; simp at hc⟩
  refine (say2_any (HS.out.below HB1.out) ⟨⟨key, [], true⟩, aK, cK, none, 0⟩ hy hn hm).mono ?_
  rintro e w3 ⟨rfl, O', E', hst, hgo, hee⟩
  have HST := hide hst
  have HGO := hide ((Go1.of_below HB1.out).trans hgo)
  have HEE : Hid (∀ k, E' k → E k ∨ w.heap.size ≤ k) := hide fun k hk => (hee k hk).imp id fun h9 => h9.elim (fun h => HM1.out.2.1 k h) (fun h => by simp [Value.ownBlock] at h)
  clear hst hgo hy hee
  go_wp2
  go_end0
  exact ⟨rfl, O', E', HST.out, HGO.out, HEE.out⟩
theorem back2_any {w : World} {p B n m : Nat} {es : List Ee} {hs : List (List Ee)} {O E : Nat → Prop} (h : St2 w p B es n hs O E) (hm : m ≤ n) (hn : n ≤ 900000) (hle : ∀ k l, m < k → (hs ++ [es])[k]? = some l → l.length ≤ 1000000) :
    Calls Try.prog 33 #[.pointer (some ⟨p, 0, none⟩), .int .i64 (m : Int)] w fun e w' => e = .returned (.int .u16 0) ∧ ∃ O' E' es', (hs ++ [es])[m]? = some es' ∧ St2 w' p B es' m (hs.take m) O' E' ∧ Go1 O w O' w' ∧ ∀ k, E' k → E k := by
  have hM := mark_any h.st
  obtain ⟨sv, uv, xs, us, hh, h1, rfl, h3, rfl, h5, h6, h7, h8⟩ := h
  have hall : hh.map ers ++ [ers xs] = (hh ++ [xs]).map ers := by simp
  rw [hall] at hle
  have hhl : hh.length = n := by rw [h1.len, h3]
  by_cases hlt : m < n
  · refine (back_lt h1 hM h3 hlt hn (fun k l hk hl => by have := hle k (ers l) hk (by rw [List.getElem?_map, hl]; rfl); rwa [ers_len] at this)).mono ?_
    rintro e w' ⟨rfl, l, sv', uv', hl, hbf, ho1, ho2, hmv⟩
    have hbo : ∀ k, Bo p sv' uv' k ↔ Bo p sv uv k := fun k => by unfold Bo; rw [ho1, ho2]
    have hlm : l ∈ hh := by
      have : (hh ++ [xs])[m]? = hh[m]? := List.getElem?_append_left (by omega)
      rw [this] at hl
      exact List.mem_of_getElem? hl
    refine ⟨rfl, Bo p sv' uv', EB l (hh.take m), ers l, by rw [hall, List.getElem?_map, hl]; rfl, ⟨sv', uv', l, us.take m, hh.take m, ⟨hbf, ?_, fun k u hk => ?_, fun l' hl' x hx => h1.bf.own_move hmv (h1.olds l' (List.mem_of_mem_take hl') x hx)⟩, rfl, ?_, by rw [List.map_take], fun k => Iff.rfl, h7 _ (List.mem_map.2 ⟨l, hlm, rfl⟩), fun l' hl' => h7 l' (List.mem_of_mem_take hl'), fun k => Iff.rfl⟩, ⟨hmv.mono fun k hk => (h5 k).2 hk, fun k hk => .inl ((h5 k).2 ((hbo k).1 hk))⟩, fun k hk => ?_⟩
    · rw [List.length_take, List.length_take, hhl, h3]
    · have hkm : k < m := by
        have := (List.getElem?_eq_some_iff.1 hk).1
        rw [List.length_take] at this; omega
      rw [List.getElem?_take_of_lt hkm] at hk
      obtain ⟨a, b, ha, hb, hU⟩ := h1.und k u hk
      have hst : ∀ j, j ≤ m → (hh.take m ++ [l])[j]? = (hh ++ [xs])[j]? := fun j hj => by
        by_cases hjm : j < m
        · rw [List.getElem?_append_left (by rw [List.length_take]; omega), List.getElem?_take_of_lt hjm, List.getElem?_append_left (by omega)]
        · obtain rfl : j = m := by omega
          rw [hl, List.getElem?_append_right (by rw [List.length_take]; omega), List.length_take, Nat.min_eq_left (by omega), Nat.sub_self]
          rfl
      exact ⟨a, b, (hst k (by omega)).trans ha, (hst (k + 1) (by omega)).trans hb, hU.move h1.bf hmv (fun j hj => .inl (by rw [← ho1]; exact hj))⟩
    · rw [List.length_take, h3]; omega
    · obtain ⟨l', hl', x, hx, hk⟩ := hk
      refine (h8 k).2 ⟨l', ?_, x, hx, hk⟩
      rcases List.mem_append.1 hl' with h9 | h9
      · exact List.mem_append.2 (.inl (List.mem_of_mem_take h9))
      · simp at h9; subst h9; exact List.mem_append.2 (.inl hlm)
  · obtain rfl : m = n := by omega
    refine (back_eq h1 hM h3 hn).mono ?_
    rintro e w' ⟨rfl, uv', hbf, ho2, hmv⟩
    have hbo : ∀ k, Bo p sv uv' k ↔ Bo p sv uv k := fun k => by unfold Bo; rw [ho2]
    refine ⟨rfl, Bo p sv uv', EB xs hh, ers xs, by rw [List.getElem?_append_right (by simp; omega)]; simp [hhl], ⟨sv, uv', xs, us, hh, ⟨hbf, h1.len, fun k u hk => ?_, fun l' hl' x hx => h1.bf.own_move hmv (h1.olds l' hl' x hx)⟩, rfl, h3, by rw [List.take_of_length_le (by simp; omega)], fun k => Iff.rfl, h6, fun l' hl' => h7 l' (List.mem_of_mem_take hl'), fun k => Iff.rfl⟩, ⟨hmv.mono fun k hk => (h5 k).2 hk, fun k hk => .inl ((h5 k).2 ((hbo k).1 hk))⟩, fun k hk => (h8 k).2 hk⟩
    obtain ⟨a, b, ha, hb, hU⟩ := h1.und k u hk
    exact ⟨a, b, ha, hb, hU.move h1.bf hmv (fun j hj => .inl hj)⟩
end Go.Proofs.Ytgohhlngnnmknaa
