/- A buffer told by what it says: New, Put, Delete, Len, Mark. -/
import Derived.Test.YtgohhlngnnmknaaMA
namespace Go.Proofs.Ytgohhlngnnmknaa
open Go.RowKit Go.Maps
set_option linter.unusedVariables false

/-- a buffer at p that says es, behind n Puts and Deletes; what it said ahead of each of them; the blocks that it writes. -/
def St (w : World) (p B : Nat) (es : List Ee) (n : Nat) (hs : List (List Ee)) (O : Nat → Prop) : Prop := ∃ sv uv xs us hh, Bh w p B sv uv xs us hh ∧ ers xs = es ∧ us.length = n ∧ hh.map ers = hs ∧ (∀ k, O k ↔ Bo p sv uv k) ∧ Ris es ∧ ∀ l ∈ hs, Ris l
section
variable {w w' : World} {p B n : Nat} {es : List Ee} {hs : List (List Ee)} {O : Nat → Prop}
theorem St.below (h : St w p B es n hs O) (hb : Below w.heap.size w w') : St w' p B es n hs O := by
  obtain ⟨sv, uv, xs, us, hh, h1, h2⟩ := h
  exact ⟨sv, uv, xs, us, hh, h1.below hb, h2⟩
theorem St.lt (h : St w p B es n hs O) {k : Nat} (hk : O k) : k < w.heap.size := by
  obtain ⟨sv, uv, xs, us, hh, h1, _, _, _, h5, _⟩ := h
  exact h1.bf.lt ((h5 k).1 hk)
theorem St.ge (h : St w p B es n hs O) {k : Nat} (hk : O k) : B ≤ k := by
  obtain ⟨sv, uv, xs, us, hh, h1, _, _, _, h5, _⟩ := h
  exact h1.bf.ge ((h5 k).1 hk)
theorem St.plt (h : St w p B es n hs O) : p < w.heap.size ∧ B ≤ p ∧ O p := by
  obtain ⟨sv, uv, xs, us, hh, h1, _, _, _, h5, _⟩ := h
  exact ⟨lt_of_block h1.bf.blk, h1.bf.base, (h5 p).2 (.inl rfl)⟩
end
def SayOut (w : World) (p B : Nat) (es : List Ee) (n : Nat) (hs : List (List Ee)) (O : Nat → Prop) (e : Ee) (r : Ending) (w' : World) : Prop :=
  r = .returned (.tuple #[]) ∧ ∃ O', St w' p B (put es e) (n + 1) (hs ++ [es]) O' ∧ Go1 O w O' w'
theorem bo_go {w w' : World} {p : Nat} {sv uv sv' uv' : Value} {O : Nat → Prop} (h5 : ∀ k, O k ↔ Bo p sv uv k) (hg : Go1 (Bo p sv uv) w (Bo p sv' uv') w') : Go1 O w (Bo p sv' uv') w' :=
  ⟨hg.mv.mono fun k hk => (h5 k).2 hk, fun k hk => (hg.own k hk).imp (h5 k).2 id⟩
theorem say_any {w : World} {p B n : Nat} {es : List Ee} {hs : List (List Ee)} {O : Nat → Prop} (h : St w p B es n hs O) (y : En) (hy : y.Own B w) (hn : n ≤ 900000) (hm : es.length ≤ 900000) :
    Calls Try.prog 67 #[.pointer (some ⟨p, 0, none⟩), .agg #[.slice y.ka y.e.key.length y.kc, .slice y.va y.e.val.length y.vc, .bool y.e.del]] w (SayOut w p B es n hs O y.e) := by
  obtain ⟨sv, uv, xs, us, hh, h1, rfl, rfl, rfl, h5, h6, h7⟩ := h
  have hB : B ≤ w.heap.size := by have := h1.bf.base; have := lt_of_block h1.bf.blk; omega
  have fin : ∀ i xs' sv' uv' u w', At (pge y.e.key) xs i → xs' = putAt xs i y → Bh w' p B sv' uv' xs' (us ++ [u]) (hh ++ [xs]) → Go1 (Bo p sv uv) w (Bo p sv' uv') w' → SayOut w p B (ers xs) us.length (hh.map ers) O y.e (.returned (.tuple #[])) w' := by
    intro i xs' sv' uv' u w' hat hx hb hg
    refine ⟨rfl, Bo p sv' uv', ⟨sv', uv', xs', us ++ [u], hh ++ [xs], hb, ?_, by simp, by simp, fun k => Iff.rfl, ris_put h6, fun l hl => ?_⟩, bo_go h5 hg⟩
    · rw [hx, put_at h6 hat]
    · rcases List.mem_append.1 hl with hl | hl
      · exact h7 l hl
      · simp at hl; subst hl; exact h6
  -- whether something was said of the key is the same wherever a search comes to
  by_cases hth : (lk (ers xs) y.e.key).isSome = true
  · refine (say_old h1 y hy hB (by rwa [ers_len] at hm) hn (fun i hat => ?_)).mono ?_
    · have := lk_at h6 hat
      by_cases ht : ther xs i y.e.key = true
      · exact ht
      · rw [if_neg ht] at this; rw [this] at hth; cases hth
    · rintro r w' ⟨rfl, i, sv', uv', u, hat, hb, hg⟩
      refine fin i _ sv' uv' u w' hat ?_ hb hg
      have := lk_at h6 hat
      by_cases ht : ther xs i y.e.key = true
      · rw [putAt, if_pos ht]
      · rw [if_neg ht] at this; rw [this] at hth; cases hth
  · have hno : ∀ i, At (pge y.e.key) xs i → ther xs i y.e.key = false := fun i hat => by
      have := lk_at h6 hat
      by_cases ht : ther xs i y.e.key = true
      · rw [if_pos ht] at this
        exfalso
        refine hth ?_
        rw [this]
        have hil : i < xs.length := by
          unfold ther at ht
          split at ht
          · rename_i x hx; exact (List.getElem?_eq_some_iff.1 hx).1
          · cases ht
        rw [List.getElem?_eq_getElem hil]; rfl
      · simpa using ht
    refine (say_new h1 y hy hB (by rwa [ers_len] at hm) hn hno).mono ?_
    rintro r w' ⟨rfl, i, sv', uv', u, hat, hb, hg⟩
    refine fin i _ sv' uv' u w' hat ?_ hb hg
    rw [putAt, hno i hat]
    rfl
set_option maxHeartbeats 1600000 in
set_option maxRecDepth 1000000 in
theorem put_any {w : World} {p B n : Nat} {es : List Ee} {hs : List (List Ee)} {O : Nat → Prop} (h : St w p B es n hs O) (ka va : Option Addr) (kn kc vn vc : Nat) (key val : List Int) (hk : Inn w ka kn kc key) (hv : Inn w va vn vc val) (hkl : kn ≤ 140737488351232) (hvl : vn ≤ 140737488351232) (hn : n ≤ 900000) (hm : es.length ≤ 900000) :
    Calls Try.prog 14 #[.pointer (some ⟨p, 0, none⟩), .slice ka kn kc, .slice va vn vc] w (SayOut w p B es n hs O ⟨key, val, false⟩) := by
  have HK := hide (clone_any ka kn kc key w hk hkl)
  have HV := hide (fun W (hW : Below w.heap.size w W) => clone_any va vn vc val W (hv.below hW) hvl)
  have hBp := h.plt
  have HS := hide h
  have K8 := hide hk.byts
  have V8 := hide hv.byts
  clear h hk hv
  go_enter Try.func14, Try.ntmps14
  go_wp2_with (first
    | (go_at_call_of 68 (Value.slice va vn vc); refine (HV.out _ HB1.out).mono ?_; rintro e w2 ⟨vV, rfl, hmV⟩; obtain ⟨aV, nV, cV, rfl, hnV⟩ := hmV.1.shape2; have HM2 := hide hmV; have HN2 := hide hnV; clear hmV hnV)
    | (go_at_call_of 68 (Value.slice ka kn kc); refine HK.out.mono ?_; rintro e w1 ⟨vK, rfl, hmK⟩; obtain ⟨aK, nK, cK, rfl, hnK⟩ := hmK.1.shape2; have HM1 := hide hmK; have HN1 := hide hnK; have HB1 := hide hmK.2.2; clear hmK hnK)
    | fail)
  have hnk : nK = key.length := HN1.out
  have hnv : nV = val.length := HN2.out
  subst hnk hnv
  have hwB : B ≤ w.heap.size := by omega
  have hB2 : Below w.heap.size w w2 := HB1.out.trans (HM2.out.2.2.mono HB1.out.size)
  have hy : (⟨⟨key, val, false⟩, aK, cK, aV, cV⟩ : En).Own B w2 := ⟨HM1.out.1.below HM2.out.2.2, HM2.out.1, fun k hk => Nat.le_trans hwB (HM1.out.2.1 k hk), fun k hk => Nat.le_trans hwB (Nat.le_trans HB1.out.size (HM2.out.2.1 k hk)), fun k hk e => by
    have h1 := HM1.out.1.lt hk
    have h2 := HM2.out.2.1 k e
    omega, K8.out, V8.out⟩
  refine (say_any (HS.out.below hB2) ⟨⟨key, val, false⟩, aK, cK, aV, cV⟩ hy hn hm).mono ?_
  rintro e w3 ⟨rfl, O', hst, hgo⟩
  have HST := hide hst
  have HGO := hide ((Go1.of_below hB2).trans hgo)
  clear hst hgo hy hB2
  go_wp2
  go_end0
  exact ⟨rfl, O', HST.out, HGO.out⟩
set_option maxHeartbeats 1600000 in
set_option maxRecDepth 1000000 in
theorem delete_key {w : World} {p B n : Nat} {es : List Ee} {hs : List (List Ee)} {O : Nat → Prop} (h : St w p B es n hs O) (ka : Option Addr) (kn kc : Nat) (key : List Int) (hk : Inn w ka kn kc key) (hkl : kn ≤ 140737488351232) (hn : n ≤ 900000) (hm : es.length ≤ 900000) :
    Calls Try.prog 15 #[.pointer (some ⟨p, 0, none⟩), .slice ka kn kc] w (SayOut w p B es n hs O ⟨key, [], true⟩) := by
  have HK := hide (clone_any ka kn kc key w hk hkl)
  have hBp := h.plt
  have HS := hide h
  have K8 := hide hk.byts
  clear h hk
  go_enter Try.func15, Try.ntmps15
  go_wp2_with (first
    | (go_at_call_of 68 (Value.slice ka kn kc); refine HK.out.mono ?_; rintro e w1 ⟨vK, rfl, hmK⟩; obtain ⟨aK, nK, cK, rfl, hnK⟩ := hmK.1.shape2; have HM1 := hide hmK; have HN1 := hide hnK; have HB1 := hide hmK.2.2; clear hmK hnK)
    | fail)
  have hnk : nK = key.length := HN1.out
  subst hnk
  have hwB : B ≤ w.heap.size := by omega
  have hy : (⟨⟨key, [], true⟩, aK, cK, none, 0⟩ : En).Own B w1 := ⟨HM1.out.1, Own.nil _, fun k hk => Nat.le_trans hwB (HM1.out.2.1 k hk), fun k hk => by simp [Value.ownBlock] at hk, fun k hk e => by simp [Value.ownBlock] at e, K8.out, by intro c hc; simp at hc⟩
  refine (say_any (HS.out.below HB1.out) ⟨⟨key, [], true⟩, aK, cK, none, 0⟩ hy hn hm).mono ?_
  rintro e w3 ⟨rfl, O', hst, hgo⟩
  have HST := hide hst
  have HGO := hide ((Go1.of_below HB1.out).trans hgo)
  clear hst hgo hy
  go_wp2
  go_end0
  exact ⟨rfl, O', HST.out, HGO.out⟩
set_option maxHeartbeats 800000 in
theorem new_any (w : World) : Calls Try.prog 5 #[] w fun e w' => e = .returned (.pointer (some ⟨w.heap.size, 0, none⟩)) ∧ St w' w.heap.size w.heap.size [] 0 [] (fun k => k = w.heap.size) ∧ Below w.heap.size w w' ∧ w.heap.size < w'.heap.size := by
  go_enter Try.func5, Try.ntmps5
  go_wp2
  go_ret
  have hb := below_alloc w (.cells #[.slice none 0 0, .slice none 0 0] 69)
  refine ⟨rfl, ⟨.slice none 0 0, .slice none 0 0, [], [], [], ⟨⟨heap_alloc_new w _, ⟨rfl, .inl ⟨rfl, rfl⟩⟩, ⟨rfl, .inl ⟨rfl, rfl⟩⟩, by intro x hx; simp at hx, Nat.le_refl _⟩, rfl, by intro k u hu; simp at hu, by intro l hl; simp at hl⟩, rfl, rfl, rfl, fun k => ?_, ris_nil, by intro l hl; simp at hl⟩, hb, by simp⟩
  simp [Bo, Value.ownBlock]
theorem St.cells {w : World} {p B n : Nat} {es : List Ee} {hs : List (List Ee)} {O : Nat → Prop} (h : St w p B es n hs O) : ∃ a c a' c', w.cell? ⟨p, 0, none⟩ = some (.slice a es.length c) ∧ w.cell? ⟨p, 1, none⟩ = some (.slice a' n c') := by
  obtain ⟨sv, uv, xs, us, hh, h1, rfl, rfl, rfl, h5, h6, h7⟩ := h
  obtain ⟨a, c, rfl, _⟩ := row_shape h1.bf.said
  obtain ⟨a', c', rfl, _⟩ := row_shape h1.bf.undo
  obtain ⟨c0, c1, _⟩ := cells_two h1.bf.blk
  exact ⟨a, c, a', c', by rw [ers_len]; exact c0, c1⟩
set_option maxHeartbeats 800000 in
theorem len_any {w : World} {p B n : Nat} {es : List Ee} {hs : List (List Ee)} {O : Nat → Prop} (h : St w p B es n hs O) : Calls Try.prog 20 #[.pointer (some ⟨p, 0, none⟩)] w fun e w' => e = .returned (.int .i64 (es.length : Int)) ∧ w' = w := by
  obtain ⟨a, c, a', c', c0, c1⟩ := h.cells
  clear h
  generalize es.length = m at *
  go_enter Try.func20, Try.ntmps20
  go_wp2
  go_ret
  exact ⟨rfl, rfl⟩
set_option maxHeartbeats 800000 in
theorem mark_any {w : World} {p B n : Nat} {es : List Ee} {hs : List (List Ee)} {O : Nat → Prop} (h : St w p B es n hs O) : Calls Try.prog 21 #[.pointer (some ⟨p, 0, none⟩)] w fun e w' => e = .returned (.int .i64 (n : Int)) ∧ w' = w := by
  obtain ⟨a, c, a', c', c0, c1⟩ := h.cells
  clear h
  go_enter Try.func21, Try.ntmps21
  go_wp2
  go_ret
  exact ⟨rfl, rfl⟩
end Go.Proofs.Ytgohhlngnnmknaa
/- What a buffer tells: one change, all changes, in memory of their own. -/
namespace Go.Proofs.Ytgohhlngnnmknaa
open Go.RowKit Go.Maps
set_option linter.unusedVariables false

/-- a list of entries that is the call's own, from B on: the row, and each entry's bytes, in blocks of their own. -/
structure Cl (B : Nat) (w : World) (v : Value) (ys : List En) : Prop where
  row : w.ownsRow B 85 3 v ys.length (rowc ys)
  each : ∀ y ∈ ys, y.Own B w
  apart : ∀ (i j : Nat) (yi yj : En) (k : Nat), ys[i]? = some yi → ys[j]? = some yj → yi.has k → yj.has k → i = j
theorem Cl.block {B : Nat} {w : World} {v : Value} {ys : List En} (h : Cl B w v ys) {k : Nat} (hk : v.ownBlock = some k) : B ≤ k ∧ k < w.heap.size ∧ ∃ cur, w.heap[k]? = some (.cells cur 85 (0, 0)) := by
  rcases h.row.2 with ⟨rfl, _⟩ | ⟨g, cap, cur, rfl, hb, hg, _⟩
  · simp [Value.ownBlock] at hk
  · simp [Value.ownBlock] at hk; subst hk; exact ⟨hb, lt_of_block hg, cur, hg⟩
theorem type_ne {w : World} {k : Nat} {c c' : Array Value} (h : w.heap[k]? = some (.cells c 5 (0, 0))) (h' : w.heap[k]? = some (.cells c' 85 (0, 0))) : False := by
  rw [h] at h'
  have := congrArg (fun o : Option Obj => match o with | some (.cells _ t _) => t | _ => 0) h'
  simp at this
theorem Cl.apart2 {B : Nat} {w : World} {v : Value} {ys : List En} (h : Cl B w v ys) {y : En} (hy : y ∈ ys) {k : Nat} (hk : y.has k) : v.ownBlock ≠ some k := fun e => by
  obtain ⟨_, _, cur, h1⟩ := h.block e
  obtain ⟨cur', h2⟩ := (h.each y hy).u8 hk
  exact type_ne h2 h1
theorem Cl.of_block {B : Nat} {w w' : World} {v : Value} {ys : List En} (h : Cl B w v ys) (hv : ∀ k, v.ownBlock = some k → w'.heap[k]? = w.heap[k]?) (hy : ∀ y ∈ ys, ∀ k, y.has k → w'.heap[k]? = w.heap[k]?) : Cl B w' v ys :=
  ⟨row_of_block h.row hv, fun y hy' => (h.each y hy').of_block (hy y hy'), h.apart⟩
theorem Cl.below {B : Nat} {w w' : World} {v : Value} {ys : List En} (h : Cl B w v ys) (hb : Below w.heap.size w w') : Cl B w' v ys :=
  h.of_block (fun k hk => hb.block k (h.block hk).2.1) (fun y hy k hk => hb.block k ((h.each y hy).lt hk))
theorem Cl.ens {B : Nat} {w : World} {v : Value} {ys : List En} (h : Cl B w v ys) : ∃ a c, v = .slice a ys.length c ∧ Ens w a ys.length c ys := by
  rcases h.row.2 with ⟨rfl, h0⟩ | ⟨g, cap, cur, rfl, hb, hg, hn, hm, hcs, htake⟩
  · have e : ys = [] := List.eq_nil_of_length_eq_zero h0
    subst e
    exact ⟨none, 0, rfl, ens_nil w⟩
  · refine ⟨_, _, rfl, rfl, hn, by unfold maxLen at hm; omega, by (intro e; cases e), .inr ⟨g, 0, rfl, lt_of_block hg, fun j u hu => ?_⟩, fun y hy => (h.each y hy).ok⟩
    have := h.row.cells (g := g) rfl j u hu
    rwa [Addr.add_lit] at this
/-- one more entry, laid behind the others. -/
theorem Cl.snoc {B : Nat} {w w1 w' : World} {v v' : Value} {ys : List En} {y : En} (h : Cl B w v ys) (hB : B ≤ w.heap.size) (hb : Below w.heap.size w w1) (hy : y.Own w.heap.size w1) (hg : w1.grownBy w' v.ownBlock) (hr : w'.ownsRow B 85 3 v' (ys.length + 1) (rowc ys ++ y.cells)) : Cl B w' v' (ys ++ [y]) := by
  have h1 := h.below hb
  have stay : ∀ z k, (z ∈ ys ∨ z = y) → z.has k → w'.heap[k]? = w1.heap[k]? := by
    intro z k hz hk
    rcases hz with hz | rfl
    · exact hg.block k ((h1.each z hz).lt hk) (fun e => h1.apart2 hz hk e.symm)
    · refine hg.block k (hy.lt hk) (fun e => ?_)
      have h3 := (h.block e.symm).2.1
      have h4 := hy.ge hk
      omega
  refine ⟨by rw [List.length_append, List.length_singleton, rowc_app, rowc_one]; exact hr, fun z hz => ?_, fun i j yi yj k hi hj hki hkj => ?_⟩
  · rcases List.mem_append.1 hz with hz | hz
    · exact (h1.each z hz).of_block fun k hk => stay z k (.inl hz) hk
    · simp at hz; subst hz
      exact (hy.mono hB).of_block fun k hk => stay z k (.inr rfl) hk
  · have old : ∀ (i : Nat) (z : En), (ys ++ [y])[i]? = some z → (i < ys.length ∧ ys[i]? = some z) ∨ (i = ys.length ∧ z = y) := by
      intro i z hz
      by_cases hlt : i < ys.length
      · rw [List.getElem?_append_left hlt] at hz; exact .inl ⟨hlt, hz⟩
      · rw [List.getElem?_append_right (by omega)] at hz
        obtain ⟨h0, h1⟩ := List.getElem?_eq_some_iff.1 hz
        simp at h0
        refine .inr ⟨by omega, ?_⟩
        simpa using h1.symm
    rcases old i yi hi with ⟨_, a1⟩ | ⟨a0, rfl⟩ <;> rcases old j yj hj with ⟨_, b1⟩ | ⟨b0, e⟩
    · exact h.apart i j yi yj k a1 b1 hki hkj
    · subst e
      have q1 := (h.each yi (List.mem_of_getElem? a1)).lt hki
      have q2 := hy.ge hkj
      omega
    · have q1 := (h.each yj (List.mem_of_getElem? b1)).lt hkj
      have q2 := hy.ge hki
      omega
    · omega

def zeE : Ee := ⟨[], [], false⟩
def TellOut (w : World) (o : Option Ee) (r : Ending) (w' : World) : Prop := ∃ y : En, r = .returned (.tuple #[.agg #[.slice y.ka y.e.key.length y.kc, .slice y.va y.e.val.length y.vc, .bool y.e.del], .bool o.isSome]) ∧ y.e = o.getD zeE ∧ y.Own w.heap.size w' ∧ Below w.heap.size w w'
theorem zero_own (w : World) (B : Nat) : (⟨zeE, none, 0, none, 0⟩ : En).Own B w := ⟨Own.nil _, Own.nil _, fun k hk => by simp [Value.ownBlock] at hk, fun k hk => by simp [Value.ownBlock] at hk, fun k hk => by simp [Value.ownBlock] at hk, by intro c hc; simp [zeE] at hc, by intro c hc; simp [zeE] at hc⟩
theorem tell_zero {w w' : World} (hb : Below w.heap.size w w') : TellOut w none (.returned (.tuple #[.agg #[.slice none 0 0, .slice none 0 0, .bool false], .bool false])) w' := ⟨⟨zeE, none, 0, none, 0⟩, rfl, rfl, zero_own _ _, hb⟩
theorem En.Own.move {y : En} {B : Nat} {w w' : World} (h : y.Own B w) (hb : ∀ k, B ≤ k → k < w.heap.size → w'.heap[k]? = w.heap[k]?) : y.Own B w' := h.of_block fun k hk => hb k (h.ge hk) (h.lt hk)
set_option maxHeartbeats 1600000 in
set_option maxRecDepth 1000000 in
theorem tell_at {w : World} {p B : Nat} {sv uv : Value} {xs : List En} {us : List Value} (h : Bf w p B sv uv xs us) (k : Nat) (hn : xs.length ≤ 1000000) (hk : k ≤ 1000000) (hw : ∀ x ∈ xs, x.e.key.length ≤ 140737488351232 ∧ x.e.val.length ≤ 140737488351232) (o : Option Ee) (ho : (xs[k]?).map En.e = o) :
    Calls Try.prog 75 #[.pointer (some ⟨p, 0, none⟩), .int .i64 (k : Int)] w (TellOut w o) := by
  obtain ⟨w1, hw1⟩ : ∃ w1, w1 = w.alloc (.cells #[.slice none 0 0, .slice none 0 0, .bool false] 85) := ⟨_, rfl⟩
  have hB1 : Below w.heap.size w w1 := by rw [hw1]; exact below_alloc _ _
  have hb1 : w1.heap[w.heap.size]? = some (.cells #[.slice none 0 0, .slice none 0 0, .bool false] 85 (0, 0)) := by rw [hw1]; exact heap_alloc_new w _
  have hf1 := h.below hB1
  obtain ⟨a, c, rfl, hE⟩ := hf1.ens
  obtain ⟨s0, s1, f0⟩ := cells_two hf1.blk
  obtain ⟨z0, z1, z2, zf⟩ := cells_three hb1
  have zf0 := zf 0
  have zf1 := zf 1
  have zf2 := zf 2
  have HB1 := hide hB1
  have Hb1 := hide hb1
  have HW := hide hw
  have hsz : w1.heap.size = w.heap.size + 1 := by rw [hw1]; simp
  have d0 : ¬ ((k : Int) < 0) := by omega
  have d0' : (0 : Int) ≤ (k : Int) := by omega
  clear h hf1 zf hB1 hb1 hw
  by_cases hlt : k < xs.length
  · obtain ⟨x, hx, hok⟩ := hE.at hlt
    obtain ⟨b, off, rfl, hbs, c0, c1, c2⟩ := hE.cells hx
    have hcap := hE.cap
    have hmax := hE.max
    have HC := hide (centry_any x w1 hok (HW.out x (List.mem_of_getElem? hx)).1 (HW.out x (List.mem_of_getElem? hx)).2)
    rw [hx] at ho
    have HO := hide ho
    clear ho
    have d1 : ¬ ((xs.length : Int) ≤ (k : Int)) := by omega
    have d2 : (k : Int) < (xs.length : Int) := by omega
    clear hE hok hx
    subst hw1
    go_enter Try.func75, Try.ntmps75
    go_wp2_with (go_at_call 41; refine HC.out.mono ?_; rintro e w2 ⟨y, rfl, hye, hyo, hb2⟩; simp only [En.v]; have hz := (hb2.block _ (lt_of_block Hb1.out)).trans Hb1.out; obtain ⟨g0, g1, g2, gf⟩ := cells_three hz; have gf0 := gf 0; have gf1 := gf 1; have gf2 := gf 2; have HZ := hide hz; have HYe := hide hye; have HYo := hide hyo; have HB2 := hide hb2; clear hz gf hye hyo hb2)
    have hf := put3 (a := .slice y.ka y.e.key.length y.kc) (b := .slice y.va y.e.val.length y.vc) (c := .bool y.e.del) HZ.out
    obtain ⟨q0, q1, q2, -⟩ := cells_three hf
    have hoo : o = some x.e := HO.out.symm
    refine bodyPost_ret (v := .tuple #[.agg #[.slice y.ka y.e.key.length y.kc, .slice y.va y.e.val.length y.vc, .bool y.e.del], .bool true]) ?_ rfl ?_
    · simp [results, Try.results75, go_sem, q0, q1, q2]
    · subst hoo
      exact ⟨y, rfl, HYe.out, (HYo.out.move fun k hk1 hk2 => put3_other (by omega)).mono (by omega), put3_below (HB1.out.trans (HB2.out.mono HB1.out.size)) (Nat.le_refl _)⟩
  · have hoo : o = none := by rw [← ho, List.getElem?_eq_none (by omega)]; rfl
    subst hoo
    have d1 : (xs.length : Int) ≤ (k : Int) := by omega
    clear hE ho
    subst hw1
    go_enter Try.func75, Try.ntmps75
    go_wp2
    refine bodyPost_ret (v := .tuple #[.agg #[.slice none 0 0, .slice none 0 0, .bool false], .bool false]) ?_ rfl ?_
    · simp [results, Try.results75, go_sem, z0, z1, z2]
    · exact tell_zero HB1.out
set_option maxHeartbeats 1600000 in
set_option maxRecDepth 1000000 in
theorem get_in {w : World} {p B : Nat} {sv uv : Value} {xs : List En} {us : List Value} (h : Bf w p B sv uv xs us) (hr : Ris (ers xs)) (ka : Option Addr) (kn kc : Nat) (key : List Int) (hk : Inn w ka kn kc key) (hn : xs.length ≤ 900000) (hw : ∀ x ∈ xs, x.e.key.length ≤ 140737488351232 ∧ x.e.val.length ≤ 140737488351232) :
    Calls Try.prog 26 #[.pointer (some ⟨p, 0, none⟩), .slice ka kn kc] w (TellOut w (lk (ers xs) key)) := by
  obtain ⟨w1, hw1⟩ : ∃ w1, w1 = w.alloc (.cells #[.slice none 0 0, .slice none 0 0, .bool false] 85) := ⟨_, rfl⟩
  have hB1 : Below w.heap.size w w1 := by rw [hw1]; exact below_alloc _ _
  have hb1 : w1.heap[w.heap.size]? = some (.cells #[.slice none 0 0, .slice none 0 0, .bool false] 85 (0, 0)) := by rw [hw1]; exact heap_alloc_new w _
  have HF := hide (find_any (h.below hB1) ka kn kc key (hk.below hB1) (by omega))
  have HB1 := hide hB1
  have Hb1 := hide hb1
  have HH := hide h
  have HR := hide hr
  have hsz : w1.heap.size = w.heap.size + 1 := by rw [hw1]; simp
  obtain ⟨z0, z1, z2, -⟩ := cells_three hb1
  have HT := hide (fun W (hW : Below w.heap.size w W) (i : Nat) (hi : i ≤ 1000000) (o : Option Ee) (ho : (xs[i]?).map En.e = o) => tell_at (h.below hW) i (by omega) hi hw o ho)
  obtain ⟨o, ho⟩ : ∃ o, o = lk (ers xs) key := ⟨_, rfl⟩
  rw [← ho]
  have HO := hide ho
  clear h hr hk hw hB1 hb1 ho
  subst hw1
  go_enter Try.func26, Try.ntmps26
  go_wp2_with fail
  refine HF.out.mono ?_
  rintro e w2 ⟨i, rfl, hat, hb2⟩
  have HB2 := hide hb2
  have hlk := lk_at HR.out hat
  have hil : i ≤ xs.length := hat.1
  have hz2 := (hb2.block _ (lt_of_block Hb1.out)).trans Hb1.out
  obtain ⟨g0, g1, g2, gf⟩ := cells_three hz2
  have gf0 := gf 0
  have gf1 := gf 1
  have gf2 := gf 2
  have HZ := hide hz2
  clear hb2 hat gf hz2
  rcases Bool.eq_false_or_eq_true (ther xs i key) with ht | ht
  · rw [ht, if_pos rfl, ← HO.out] at hlk
    have HTl := hide (HT.out w2 (HB1.out.trans (HB2.out.mono HB1.out.size)) i (by omega) o hlk.symm)
    rw [ht]
    clear hlk ht HT
    go_wp2_with (go_at_call 75; refine HTl.out.mono ?_; rintro e w3 ⟨y, rfl, hye, hyo, hb3⟩; have hz := (hb3.block _ (lt_of_block HZ.out)).trans HZ.out; clear g0 g1 g2 gf0 gf1 gf2; obtain ⟨g0, g1, g2, gf⟩ := cells_three hz; have gf0 := gf 0; have gf1 := gf 1; have gf2 := gf 2; have HZ3 := hide hz; have HYe := hide hye; have HYo := hide hyo; have HB3 := hide hb3; clear hz gf hye hyo hb3)
    have hf := put3 (a := .slice y.ka y.e.key.length y.kc) (b := .slice y.va y.e.val.length y.vc) (c := .bool y.e.del) HZ3.out
    obtain ⟨q0, q1, q2, -⟩ := cells_three hf
    refine bodyPost_ret (v := .tuple #[.agg #[.slice y.ka y.e.key.length y.kc, .slice y.va y.e.val.length y.vc, .bool y.e.del], .bool o.isSome]) ?_ rfl ?_
    · simp [results, Try.results26, go_sem, q0, q1, q2]
    · have h12 : w.heap.size + 1 ≤ w2.heap.size := by have := HB2.out.size; omega
      exact ⟨y, rfl, HYe.out, (HYo.out.move fun k hk1 hk2 => put3_other (by omega)).mono (by omega), put3_below (HB1.out.trans ((HB2.out.trans (HB3.out.mono HB2.out.size)).mono HB1.out.size)) (Nat.le_refl _)⟩
  · rw [ht] at hlk
    rw [ht]
    have hoo : o = none := by rw [HO.out, hlk]; rfl
    subst hoo
    clear hlk ht HT
    go_wp2
    have hf := put3 (a := .slice none 0 0) (b := .slice none 0 0) (c := .bool false) HZ.out
    obtain ⟨q0, q1, q2, -⟩ := cells_three hf
    refine bodyPost_ret (v := .tuple #[.agg #[.slice none 0 0, .slice none 0 0, .bool false], .bool false]) ?_ rfl ?_
    · simp [results, Try.results26, go_sem, q0, q1, q2]
    · exact tell_zero (put3_below (HB1.out.trans (HB2.out.mono HB1.out.size)) (Nat.le_refl _))
end Go.Proofs.Ytgohhlngnnmknaa
/- All changes of a buffer, in memory of their own. -/
namespace Go.Proofs.Ytgohhlngnnmknaa
open Go.RowKit Go.Maps
set_option linter.unusedVariables false

theorem box_news (w : World) (y : En) : ∀ j u, y.cells[j]? = some u → (w.alloc (.cells #[.slice y.ka y.e.key.length y.kc, .slice y.va y.e.val.length y.vc, .bool y.e.del] 85)).cell? ((⟨w.heap.size, 0, none⟩ : Addr).add j) = some u := box_at (heap_alloc_new w _)
set_option maxHeartbeats 3200000 in
set_option maxRecDepth 1000000 in
theorem changes_in {w : World} {p B : Nat} {sv uv : Value} {xs : List En} {us : List Value} (hbf : Bf w p B sv uv xs us) (hn : xs.length ≤ 900000) (hw : ∀ x ∈ xs, x.e.key.length ≤ 140737488351232 ∧ x.e.val.length ≤ 140737488351232) :
    Calls Try.prog 9 #[.pointer (some ⟨p, 0, none⟩)] w fun e w' => ∃ ys, e = .returned (.slice (some ⟨w.heap.size, 0, none⟩) xs.length xs.length) ∧ ers ys = ers xs ∧ Cl w.heap.size w' (.slice (some ⟨w.heap.size, 0, none⟩) xs.length xs.length) ys ∧ Below w.heap.size w w' := by
  obtain ⟨i0, hi, hz0, hz1, hz2⟩ := info_parts Try.infoE
  obtain ⟨a, c, rfl, h⟩ := hbf.ens
  obtain ⟨s0, s1, f0⟩ := cells_two hbf.blk
  have HBF := hide hbf
  obtain ⟨n, hnx⟩ : ∃ n, n = xs.length := ⟨_, rfl⟩
  rw [← hnx] at h hn s0 ⊢
  have HNX := hide hnx
  have HE := hide h
  have HW := hide hw
  clear h hw hbf hnx
  go_enter Try.func9, Try.ntmps9
  go_wp2_with (at_make; refine wpList_make_own _ rfl _ _ 30 rfl w.heap.size 85 i0 _ 3 Try.underlying30 hi hz0 hz1 _ _ _ n rfl rfl rfl (by rw [hz2]; omega) (by unfold maxLen; omega) (Nat.le_refl _) ?_; intro w0 hown0 hgrow0; have s2 := (cells_two ((hgrow0.block _ (lt_of_block HBF.out.blk) (by simp)).trans HBF.out.blk)).1; rw [← HNX.out] at s2)
  have HC0 : Hid (Cl w.heap.size w0 (.slice (some ⟨w.heap.size, 0, none⟩) 0 n) []) := hide ⟨by simpa [rowc] using hown0, (by intro y hy; simp at hy), (by intro i j yi yj k hi; simp at hi)⟩
  have HB0 := hide ((Below.refl w.heap.size w).grown hgrow0 (Nat.le_refl _) (fun k h => by cases h))
  clear hown0 hgrow0
  go_loopw [3, 17] (fun s i wr => ∃ (k : Nat) (ys : List En), k ≤ n ∧ i = .int .i64 (k : Int) ∧ s = .slice (some ⟨w.heap.size, 0, none⟩) k n ∧ ers ys = ers (xs.take k) ∧ Cl w.heap.size wr (.slice (some ⟨w.heap.size, 0, none⟩) k n) ys ∧ Below w.heap.size w wr) (fun _ i _ => n - (intOf i).toNat)
  case atStart => exact ⟨0, [], Nat.zero_le _, rfl, rfl, by simp [ers], HC0.out, HB0.out⟩
  case round =>
    obtain ⟨k, ys, hk, rfl, rfl, her, hcl, hbl⟩ := hrel
    have HBl := hide hbl
    have HEr := hide her
    have HCl := hide hcl
    clear her hcl
    by_cases hlt : k < n
    · obtain ⟨x, hx, hok⟩ := (HE.out.below hbl).at hlt
      obtain ⟨b, off, rfl, hbs, q0, q1, q2⟩ := (HE.out.below hbl).cells hx
      have hl := HW.out x (List.mem_of_getElem? hx)
      have hBn := below_alloc wr (.cells #[.slice x.ka x.e.key.length x.kc, .slice x.va x.e.val.length x.vc, .bool x.e.del] 85)
      have HX := hide (centry_any x _ (hok.below hBn) hl.1 hl.2)
      have HCl1 := hide (HCl.out.below hBn)
      have HBn := hide (hbl.trans (hBn.mono hbl.size))
      clear hl hok hbl hBn
      go_wp2_with fail
      refine HX.out.mono ?_
      rintro e w2 ⟨y, rfl, hye, hyo, hb2⟩
      simp only [En.v]
      have HYe := hide hye
      have HYo := hide hyo
      have HCl2 := hide (HCl1.out.below hb2)
      have HB2 := hide (HBn.out.trans (hb2.mono HBn.out.size))
      have HW2 := hide hb2
      have HEy : Hid (ers (ys ++ [y]) = ers (xs.take (k + 1))) := by rw [Hid, take_at hx, ers_app, ers_app, HEr.out]; simp [ers, hye]
      have HLn : Hid (ys.length = k) := by have := congrArg List.length HEr.out; rw [ers_len, ers_len, List.length_take, HE.out.len] at this; rw [Hid, this]; omega
      have hyl : ys.length ≤ 1000000 := by rw [HLn.out]; omega
      have hsz : w.heap.size ≤ w2.heap.size := HB2.out.size
      have hrow := (HCl2.out.below (below_alloc w2 (.cells #[.slice y.ka y.e.key.length y.kc, .slice y.va y.e.val.length y.vc, .bool y.e.del] 85))).row
      rw [HLn.out] at hrow
      obtain ⟨w3, run3, hown3, hg3⟩ := run_append_fits (P := Try.prog) (w2.alloc (.cells #[.slice y.ka y.e.key.length y.kc, .slice y.va y.e.val.length y.vc, .bool y.e.del] 85)) w.heap.size 30 30 85 i0 3 Try.underlying30 hi hz1 w.heap.size k n (rowc ys) hrow ⟨w2.heap.size, 0, none⟩ 1 1 y.cells (by rfl) (box_news w2 y) (cells_one y) (by omega)
      have HC3 := hide (HCl1.out.snoc (v' := .slice (some ⟨w.heap.size, 0, none⟩) (k + 1) n) (w' := w3) HBn.out.size (hb2.trans ((below_alloc w2 _).mono hb2.size)) (hyo.below (below_alloc w2 _)) hg3 (by rw [HLn.out]; exact hown3))
      have HB3 := hide ((HB2.out.alloc hsz _).grown hg3 (by simp; omega) (fun k hk => by cases hk; exact Nat.le_refl _))
      clear hye hyo hb2 hx hown3 hg3 hrow
      go_wp2_with (at_builtin; refine wpList_run_append (by rfl) (.tmp 21) (.tmp 24) 30 (by rfl) (by rfl) (by rfl) run3 ?_)
      go_roundw
      case rel =>
        exact ⟨k + 1, ys ++ [y], by omega, by go_num, by rfl, HEy.out, HC3.out, HB3.out⟩
      case measure => simp [intOf]; omega
    · obtain rfl : k = n := by omega
      have HF : Hid (xs.take k = xs) := hide (List.take_of_length_le (by rw [HE.out.len]; exact Nat.le_refl _))
      go_wp2
      go_ret
      exact ⟨ys, rfl, by rw [HEr.out, HF.out], HCl.out, HBl.out⟩
end Go.Proofs.Ytgohhlngnnmknaa
/- What a buffer says, told by its state. -/
namespace Go.Proofs.Ytgohhlngnnmknaa
open Go.RowKit Go.Maps
set_option linter.unusedVariables false

section
variable {w : World} {p B n : Nat} {es : List Ee} {hs : List (List Ee)} {O : Nat → Prop}
theorem St.ris (h : St w p B es n hs O) : Ris es := by
  obtain ⟨sv, uv, xs, us, hh, h1, h2, h3, h4, h5, h6, h7⟩ := h
  exact h6
theorem changes_st (h : St w p B es n hs O) (hn : es.length ≤ 900000) (hw : ∀ e ∈ es, e.key.length ≤ 140737488351232 ∧ e.val.length ≤ 140737488351232) :
    Calls Try.prog 9 #[.pointer (some ⟨p, 0, none⟩)] w fun e w' => ∃ ys, e = .returned (.slice (some ⟨w.heap.size, 0, none⟩) es.length es.length) ∧ ers ys = es ∧ Cl w.heap.size w' (.slice (some ⟨w.heap.size, 0, none⟩) es.length es.length) ys ∧ Below w.heap.size w w' := by
  obtain ⟨sv, uv, xs, us, hh, h1, rfl, h3, h4, h5, h6, h7⟩ := h
  rw [ers_len] at hn ⊢
  exact changes_in h1.bf hn fun x hx => hw x.e (List.mem_map.2 ⟨x, hx, rfl⟩)
theorem get_st (h : St w p B es n hs O) (ka : Option Addr) (kn kc : Nat) (key : List Int) (hk : Inn w ka kn kc key) (hn : es.length ≤ 900000) (hw : ∀ e ∈ es, e.key.length ≤ 140737488351232 ∧ e.val.length ≤ 140737488351232) :
    Calls Try.prog 26 #[.pointer (some ⟨p, 0, none⟩), .slice ka kn kc] w (TellOut w (lk es key)) := by
  obtain ⟨sv, uv, xs, us, hh, h1, rfl, h3, h4, h5, h6, h7⟩ := h
  rw [ers_len] at hn
  exact get_in h1.bf h6 ka kn kc key hk hn fun x hx => hw x.e (List.mem_map.2 ⟨x, hx, rfl⟩)
end
end Go.Proofs.Ytgohhlngnnmknaa
