/- What a buffer tells: one change, all changes, in memory of their own. -/
import Derived.Test.YtjccfbjdngjhfaaTA
namespace Go.Proofs.Ytjccfbjdngjhfaa
open Go.RowKit Go.Maps
set_option linter.unusedVariables false

/-- a list of entries that is the call's own, from B on: the row, and each entry's bytes, in blocks of their own. -/
structure Cl (B : Nat) (w : World) (v : Value) (ys : List En) : Prop where
  row : w.ownsRow B 41 3 v ys.length (rowc ys)
  each : ∀ y ∈ ys, y.Own B w
  apart : ∀ (i j : Nat) (yi yj : En) (k : Nat), ys[i]? = some yi → ys[j]? = some yj → yi.has k → yj.has k → i = j
theorem Cl.block {B : Nat} {w : World} {v : Value} {ys : List En} (h : Cl B w v ys) {k : Nat} (hk : v.ownBlock = some k) : B ≤ k ∧ k < w.heap.size ∧ ∃ cur, w.heap[k]? = some (.cells cur 41 (0, 0)) := by
  rcases h.row.2 with ⟨rfl, _⟩ | ⟨g, cap, cur, rfl, hb, hg, _⟩
  · simp [Value.ownBlock] at hk
  · simp [Value.ownBlock] at hk; subst hk; exact ⟨hb, lt_of_block hg, cur, hg⟩
theorem type_ne {w : World} {k : Nat} {c c' : Array Value} (h : w.heap[k]? = some (.cells c 5 (0, 0))) (h' : w.heap[k]? = some (.cells c' 41 (0, 0))) : False := by
  rw [h] at h'
  have := congrArg (fun o : Option Obj => match o with | some (.cells _ t _) => t | _ => 0) h'
  simp at this
theorem Cl.apart2 {B : Nat} {w : World} {v : Value} {ys : List En} (h : Cl B w v ys) {y : En} (hy : y ∈ ys) {k : Nat} (hk : y.has k) : v.ownBlock ≠ some k := fun e => by
  obtain ⟨_, _, cur, h1⟩ := h.block e
  obtain ⟨cur', h2⟩ := (h.each y hy).u8 hk
  exact type_ne h2 h1
theorem Cl.of_block {B : Nat} {w w' : World} {v : Value} {ys : List En} (h : Cl B w v ys) (hv : ∀ k, v.ownBlock = some k → w'.heap[k]? = w.heap[k]?) (hy : ∀ y ∈ ys, ∀ k, y.has k → w'.heap[k]? = w.heap[k]?) : Cl B w' v ys :=
  ⟨row_of_block h.row hv, fun y hy' => (h.each y hy').of_block (hy y hy'), h.apart⟩
theorem Cl.below {B : Nat} {w w' : World} {v : Value} {ys : List En} (h : Cl B w v ys) (hb : Below w.heap.size w w') : Cl B w' v ys :=
  h.of_block (fun k hk => hb.block k (h.block hk).2.1) (fun y hy k hk => hb.block k ((h.each y hy).lt hk))
theorem Cl.ens {B : Nat} {w : World} {v : Value} {ys : List En} (h : Cl B w v ys) : ∃ a c, v = .slice a ys.length c ∧ Ens w a ys.length c ys := by
  rcases h.row.2 with ⟨rfl, h0⟩ | ⟨g, cap, cur, rfl, hb, hg, hn, hm, hcs, htake⟩
  · have e : ys = [] := List.eq_nil_of_length_eq_zero h0
    subst e
    exact ⟨none, 0, rfl, ens_nil w⟩
  · refine ⟨_, _, rfl, rfl, hn, by unfold maxLen at hm; omega, by (intro e; cases e), .inr ⟨g, 0, rfl, lt_of_block hg, fun j u hu => ?_⟩, fun y hy => (h.each y hy).ok⟩
    have := h.row.cells (g := g) rfl j u hu
    rwa [Addr.add_lit] at this
/-- one more entry, laid behind the others. -/
theorem Cl.snoc {B : Nat} {w w1 w' : World} {v v' : Value} {ys : List En} {y : En} (h : Cl B w v ys) (hB : B ≤ w.heap.size) (hb : Below w.heap.size w w1) (hy : y.Own w.heap.size w1) (hg : w1.grownBy w' v.ownBlock) (hr : w'.ownsRow B 41 3 v' (ys.length + 1) (rowc ys ++ y.cells)) : Cl B w' v' (ys ++ [y]) := by
  have h1 := h.below hb
  have stay : ∀ z k, (z ∈ ys ∨ z = y) → z.has k → w'.heap[k]? = w1.heap[k]? := by
    intro z k hz hk
    rcases hz with hz | rfl
    · exact hg.block k ((h1.each z hz).lt hk) (fun e => h1.apart2 hz hk e.symm)
    · refine hg.block k (hy.lt hk) (fun e => ?_)
      have h3 := (h.block e.symm).2.1
      have h4 := hy.ge hk
      omega
  refine ⟨by rw [List.length_append, List.length_singleton, rowc_app, rowc_one]; exact hr, fun z hz => ?_, fun i j yi yj k hi hj hki hkj => ?_⟩
  · rcases List.mem_append.1 hz with hz | hz
    · exact (h1.each z hz).of_block fun k hk => stay z k (.inl hz) hk
    · simp at hz; subst hz
      exact (hy.mono hB).of_block fun k hk => stay z k (.inr rfl) hk
  · have old : ∀ (i : Nat) (z : En), (ys ++ [y])[i]? = some z → (i < ys.length ∧ ys[i]? = some z) ∨ (i = ys.length ∧ z = y) := by
      intro i z hz
      by_cases hlt : i < ys.length
      · rw [List.getElem?_append_left hlt] at hz; exact .inl ⟨hlt, hz⟩
      · rw [List.getElem?_append_right (by omega)] at hz
        obtain ⟨h0, h1⟩ := List.getElem?_eq_some_iff.1 hz
        simp at h0
        refine .inr ⟨by omega, ?_⟩
        simpa using h1.symm
    rcases old i yi hi with ⟨_, a1⟩ | ⟨a0, rfl⟩ <;> rcases old j yj hj with ⟨_, b1⟩ | ⟨b0, e⟩
    · exact h.apart i j yi yj k a1 b1 hki hkj
    · subst e
      have q1 := (h.each yi (List.mem_of_getElem? a1)).lt hki
      have q2 := hy.ge hkj
      omega
    · have q1 := (h.each yj (List.mem_of_getElem? b1)).lt hkj
      have q2 := hy.ge hki
      omega
    · omega

def zeE : Ee := ⟨[], [], false⟩
def TellOut (w : World) (o : Option Ee) (r : Ending) (w' : World) : Prop := ∃ y : En, r = .returned (.tuple #[.agg #[.slice y.ka y.e.key.length y.kc, .slice y.va y.e.val.length y.vc, .bool y.e.del], .bool o.isSome]) ∧ y.e = o.getD zeE ∧ y.Own w.heap.size w' ∧ Below w.heap.size w w'
theorem zero_own (w : World) (B : Nat) : (⟨zeE, none, 0, none, 0⟩ : En).Own B w := ⟨Own.nil _, Own.nil _, fun k hk => by simp [Value.ownBlock] at hk, fun k hk => by simp [Value.ownBlock] at hk, fun k hk => by simp [Value.ownBlock] at hk, by intro c hc; simp [zeE] at hc, by intro c hc; simp [zeE] at hc⟩
theorem tell_zero {w w' : World} (hb : Below w.heap.size w w') : TellOut w none (.returned (.tuple #[.agg #[.slice none 0 0, .slice none 0 0, .bool false], .bool false])) w' := ⟨⟨zeE, none, 0, none, 0⟩, rfl, rfl, zero_own _ _, hb⟩
theorem En.Own.move {y : En} {B : Nat} {w w' : World} (h : y.Own B w) (hb : ∀ k, B ≤ k → k < w.heap.size → w'.heap[k]? = w.heap[k]?) : y.Own B w' := h.of_block fun k hk => hb k (h.ge hk) (h.lt hk)
set_option maxHeartbeats 1600000 in
set_option maxRecDepth 1000000 in
theorem tell_at {w : World} {p B : Nat} {sv uv : Value} {xs : List En} {us : List Value} (h : Bf w p B sv uv xs us) (k : Nat) (hn : xs.length ≤ 1000000) (hk : k ≤ 1000000) (hw : ∀ x ∈ xs, x.e.key.length ≤ 100000000 ∧ x.e.val.length ≤ 100000000) (o : Option Ee) (ho : (xs[k]?).map En.e = o) :
    Calls Try.prog 28 #[.pointer (some ⟨p, 0, none⟩), .int .i64 (k : Int)] w (TellOut w o) := by
  obtain ⟨w1, hw1⟩ : ∃ w1, w1 = w.alloc (.cells #[.slice none 0 0, .slice none 0 0, .bool false] 41) := ⟨_, rfl⟩
  have hB1 : Below w.heap.size w w1 := by rw [hw1]; exact below_alloc _ _
  have hb1 : w1.heap[w.heap.size]? = some (.cells #[.slice none 0 0, .slice none 0 0, .bool false] 41 (0, 0)) := by rw [hw1]; exact heap_alloc_new w _
  have hf1 := h.below hB1
  obtain ⟨a, c, rfl, hE⟩ := hf1.ens
  obtain ⟨s0, s1, f0⟩ := cells_two hf1.blk
  obtain ⟨z0, z1, z2, zf⟩ := cells_three hb1
  have zf0 := zf 0
  have zf1 := zf 1
  have zf2 := zf 2
  have HB1 := hide hB1
  have Hb1 := hide hb1
  have HW := hide hw
  have hsz : w1.heap.size = w.heap.size + 1 := by rw [hw1]; simp
  have d0 : ¬ ((k : Int) < 0) := by omega
  have d0' : (0 : Int) ≤ (k : Int) := by omega
  clear h hf1 zf hB1 hb1 hw
  by_cases hlt : k < xs.length
  · obtain ⟨x, hx, hok⟩ := hE.at hlt
    obtain ⟨b, off, rfl, hbs, c0, c1, c2⟩ := hE.cells hx
    have hcap := hE.cap
    have hmax := hE.max
    have HC := hide (centry_any x w1 hok (HW.out x (List.mem_of_getElem? hx)).1 (HW.out x (List.mem_of_getElem? hx)).2)
    rw [hx] at ho
    have HO := hide ho
    clear ho
    have d1 : ¬ ((xs.length : Int) ≤ (k : Int)) := by omega
    have d2 : (k : Int) < (xs.length : Int) := by omega
    clear hE hok hx
    subst hw1
    go_enter Try.func28, Try.ntmps28
    go_wp2_with (go_at_call 22; refine HC.out.mono ?_; rintro e w2 ⟨y, rfl, hye, hyo, hb2⟩; simp only [En.v]; have hz := (hb2.block _ (lt_of_block Hb1.out)).trans Hb1.out; obtain ⟨g0, g1, g2, gf⟩ := cells_three hz; have gf0 := gf 0; have gf1 := gf 1; have gf2 := gf 2; have HZ := hide hz; have HYe := hide hye; have HYo := hide hyo; have HB2 := hide hb2; clear hz gf hye hyo hb2)
    have hf := put3 (a := .slice y.ka y.e.key.length y.kc) (b := .slice y.va y.e.val.length y.vc) (c := .bool y.e.del) HZ.out
    obtain ⟨q0, q1, q2, -⟩ := cells_three hf
    have hoo : o = some x.e := HO.out.symm
    refine bodyPost_ret (v := .tuple #[.agg #[.slice y.ka y.e.key.length y.kc, .slice y.va y.e.val.length y.vc, .bool y.e.del], .bool true]) ?_ rfl ?_
    · simp [results, Try.results28, go_sem, q0, q1, q2]
    · subst hoo
      exact ⟨y, rfl, HYe.out, (HYo.out.move fun k hk1 hk2 => put3_other (by omega)).mono (by omega), put3_below (HB1.out.trans (HB2.out.mono HB1.out.size)) (Nat.le_refl _)⟩
  · have hoo : o = none := by rw [← ho, List.getElem?_eq_none (by omega)]; rfl
    subst hoo
    have d1 : (xs.length : Int) ≤ (k : Int) := by omega
    clear hE ho
    subst hw1
    go_enter Try.func28, Try.ntmps28
    go_wp2
    refine bodyPost_ret (v := .tuple #[.agg #[.slice none 0 0, .slice none 0 0, .bool false], .bool false]) ?_ rfl ?_
    · simp [results, Try.results28, go_sem, z0, z1, z2]
    · exact tell_zero HB1.out
set_option maxHeartbeats 1600000 in
set_option maxRecDepth 1000000 in
theorem get_in {w : World} {p B : Nat} {sv uv : Value} {xs : List En} {us : List Value} (h : Bf w p B sv uv xs us) (hr : Ris (ers xs)) (ka : Option Addr) (kn kc : Nat) (key : List Int) (hk : Inn w ka kn kc key) (hn : xs.length ≤ 900000) (hw : ∀ x ∈ xs, x.e.key.length ≤ 100000000 ∧ x.e.val.length ≤ 100000000) :
    Calls Try.prog 15 #[.pointer (some ⟨p, 0, none⟩), .slice ka kn kc] w (TellOut w (lk (ers xs) key)) := by
  obtain ⟨w1, hw1⟩ : ∃ w1, w1 = w.alloc (.cells #[.slice none 0 0, .slice none 0 0, .bool false] 41) := ⟨_, rfl⟩
  have hB1 : Below w.heap.size w w1 := by rw [hw1]; exact below_alloc _ _
  have hb1 : w1.heap[w.heap.size]? = some (.cells #[.slice none 0 0, .slice none 0 0, .bool false] 41 (0, 0)) := by rw [hw1]; exact heap_alloc_new w _
  have HF := hide (find_any (h.below hB1) ka kn kc key (hk.below hB1) (by omega))
  have HB1 := hide hB1
  have Hb1 := hide hb1
  have HH := hide h
  have HR := hide hr
  have hsz : w1.heap.size = w.heap.size + 1 := by rw [hw1]; simp
  obtain ⟨z0, z1, z2, -⟩ := cells_three hb1
  have HT := hide (fun W (hW : Below w.heap.size w W) (i : Nat) (hi : i ≤ 1000000) (o : Option Ee) (ho : (xs[i]?).map En.e = o) => tell_at (h.below hW) i (by omega) hi hw o ho)
  obtain ⟨o, ho⟩ : ∃ o, o = lk (ers xs) key := ⟨_, rfl⟩
  rw [← ho]
  have HO := hide ho
  clear h hr hk hw hB1 hb1 ho
  subst hw1
  go_enter Try.func15, Try.ntmps15
  go_wp2_with fail
  refine HF.out.mono ?_
  rintro e w2 ⟨i, rfl, hat, hb2⟩
  have HB2 := hide hb2
  have hlk := lk_at HR.out hat
  have hil : i ≤ xs.length := hat.1
  have hz2 := (hb2.block _ (lt_of_block Hb1.out)).trans Hb1.out
  obtain ⟨g0, g1, g2, gf⟩ := cells_three hz2
  have gf0 := gf 0
  have gf1 := gf 1
  have gf2 := gf 2
  have HZ := hide hz2
  clear hb2 hat gf hz2
  rcases Bool.eq_false_or_eq_true (ther xs i key) with ht | ht
  · rw [ht, if_pos rfl, ← HO.out] at hlk
    have HTl := hide (HT.out w2 (HB1.out.trans (HB2.out.mono HB1.out.size)) i (by omega) o hlk.symm)
    rw [ht]
    clear hlk ht HT
    go_wp2_with (go_at_call 28; refine HTl.out.mono ?_; rintro e w3 ⟨y, rfl, hye, hyo, hb3⟩; have hz := (hb3.block _ (lt_of_block HZ.out)).trans HZ.out; clear g0 g1 g2 gf0 gf1 gf2; obtain ⟨g0, g1, g2, gf⟩ := cells_three hz; have gf0 := gf 0; have gf1 := gf 1; have gf2 := gf 2; have HZ3 := hide hz; have HYe := hide hye; have HYo := hide hyo; have HB3 := hide hb3; clear hz gf hye hyo hb3)
    have hf := put3 (a := .slice y.ka y.e.key.length y.kc) (b := .slice y.va y.e.val.length y.vc) (c := .bool y.e.del) HZ3.out
    obtain ⟨q0, q1, q2, -⟩ := cells_three hf
    refine bodyPost_ret (v := .tuple #[.agg #[.slice y.ka y.e.key.length y.kc, .slice y.va y.e.val.length y.vc, .bool y.e.del], .bool o.isSome]) ?_ rfl ?_
    · simp [results, Try.results15, go_sem, q0, q1, q2]
    · have h12 : w.heap.size + 1 ≤ w2.heap.size := by have := HB2.out.size; omega
      exact ⟨y, rfl, HYe.out, (HYo.out.move fun k hk1 hk2 => put3_other (by omega)).mono (by omega), put3_below (HB1.out.trans ((HB2.out.trans (HB3.out.mono HB2.out.size)).mono HB1.out.size)) (Nat.le_refl _)⟩
  · rw [ht] at hlk
    rw [ht]
    have hoo : o = none := by rw [HO.out, hlk]; rfl
    subst hoo
    clear hlk ht HT
    go_wp2
    have hf := put3 (a := .slice none 0 0) (b := .slice none 0 0) (c := .bool false) HZ.out
    obtain ⟨q0, q1, q2, -⟩ := cells_three hf
    refine bodyPost_ret (v := .tuple #[.agg #[.slice none 0 0, .slice none 0 0, .bool false], .bool false]) ?_ rfl ?_
    · simp [results, Try.results15, go_sem, q0, q1, q2]
    · exact tell_zero (put3_below (HB1.out.trans (HB2.out.mono HB1.out.size)) (Nat.le_refl _))
end Go.Proofs.Ytjccfbjdngjhfaa
