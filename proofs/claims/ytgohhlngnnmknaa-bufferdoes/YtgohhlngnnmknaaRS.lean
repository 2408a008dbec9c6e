/- The document's own buffer: what is seen of pairs through it. -/
import Derived.Test.YtgohhlngnnmknaaE
import Derived.Test.YtgohhlngnnmknaaRC
import Derived.Test.YtgohhlngnnmknaaPD
namespace Go.Proofs.Ytgohhlngnnmknaa
open Go.RowKit Go.Maps
set_option linter.unusedVariables false
abbrev zorsx1 : Oper := { dst := some 82, op := Op.move (Operand.tmp 5), type := 22, pos := "ref.go:116", after := #[], guard := none }
abbrev zorsx2 : Oper := { dst := some 83, op := Op.move (Operand.tmp 6), type := 30, pos := "ref.go:116", after := #[], guard := none }
abbrev zorsx3 : Oper := { dst := some 84, op := Op.move (Operand.tmp 7), type := 3, pos := "ref.go:116", after := #[], guard := none }
abbrev zorsx4 : Oper := { dst := some 85, op := Op.indexAddr 30 (Operand.tmp 83) (Operand.tmp 84), type := 0, pos := "ref.go:116", after := #[{ on := 1, ground := Ground.data }, { on := 2, ground := Ground.data }], guard := none }
abbrev zorsx5 : Oper := { dst := some 86, op := Op.fieldAddr 85 (Operand.tmp 85) 0, type := 0, pos := "ref.go:116", after := #[{ on := 3, ground := Ground.data }], guard := none }
abbrev zorsx6 : Oper := { dst := some 87, op := Op.load 60 (Operand.tmp 86), type := 60, pos := "ref.go:116", after := #[{ on := 4, ground := Ground.data }], guard := none }
abbrev zorsx7 : Oper := { dst := some 88, op := Op.move (Operand.tmp 6), type := 30, pos := "ref.go:116", after := #[], guard := none }
abbrev zorsx8 : Oper := { dst := some 89, op := Op.move (Operand.tmp 7), type := 3, pos := "ref.go:116", after := #[], guard := none }
abbrev zorsx9 : Oper := { dst := some 90, op := Op.indexAddr 30 (Operand.tmp 88) (Operand.tmp 89), type := 0, pos := "ref.go:116", after := #[{ on := 6, ground := Ground.data }, { on := 7, ground := Ground.data }], guard := none }
abbrev zorsx10 : Oper := { dst := some 91, op := Op.fieldAddr 85 (Operand.tmp 90) 1, type := 0, pos := "ref.go:116", after := #[{ on := 8, ground := Ground.data }], guard := none }
abbrev zorsx11 : Oper := { dst := some 92, op := Op.load 60 (Operand.tmp 91), type := 60, pos := "ref.go:116", after := #[{ on := 9, ground := Ground.data }], guard := none }
abbrev zorsx12 : Oper := { dst := some 93, op := Op.build 74 #[(0, Operand.tmp 87), (1, Operand.tmp 92)], type := 74, pos := "ref.go:116", after := #[{ on := 5, ground := Ground.data }, { on := 10, ground := Ground.data }], guard := none }
abbrev zorsx13 : Oper := { dst := some 94, op := Op.buildSlice 22 1 #[(0, Operand.tmp 93)], type := 22, pos := "ref.go:116", after := #[{ on := 11, ground := Ground.data }], guard := none }
abbrev zorsx14 : Oper := { dst := some 95, op := Op.call { callee := Callee.builtin Builtin.append, args := #[Operand.tmp 82, Operand.tmp 94], argTypes := #[22, 22] }, type := 22, pos := "ref.go:116", after := #[{ on := 0, ground := Ground.data }, { on := 12, ground := Ground.data }], guard := none }
abbrev zorsx15 : Oper := { dst := some 5, op := Op.assign (Operand.tmp 95), type := 22, pos := "ref.go:116", after := #[{ on := 13, ground := Ground.data }, { on := 13, ground := Ground.chain }, { on := 0, ground := Ground.phase }, { on := 1, ground := Ground.phase }, { on := 2, ground := Ground.phase }, { on := 3, ground := Ground.phase }, { on := 4, ground := Ground.phase }, { on := 5, ground := Ground.phase }, { on := 6, ground := Ground.phase }, { on := 7, ground := Ground.phase }, { on := 8, ground := Ground.phase }, { on := 9, ground := Ground.phase }, { on := 10, ground := Ground.phase }, { on := 11, ground := Ground.phase }, { on := 12, ground := Ground.phase }, { on := 13, ground := Ground.phase }], guard := none }

/-- what is put of a change. -/
def kp (e : Ee) : List Ee := if e.del then [] else [e]
/-- pairs as changes change them, both rising. -/
def mg : List Ee → List Ee → List Ee
  | [], us => us
  | e :: es, [] => kp e ++ mg es []
  | e :: es, u :: us => if ordI u.key e.key < 0 then u :: mg (e :: es) us else kp e ++ mg es (if u.key = e.key then us else u :: us)
termination_by es us => es.length + us.length
decreasing_by all_goals (simp_wf; try (split <;> simp_all <;> omega))
theorem mg_nil (us : List Ee) : mg [] us = us := by rw [mg]
theorem mg_end (e : Ee) (es : List Ee) : mg (e :: es) [] = kp e ++ mg es [] := by rw [mg]
theorem mg_lt {e u : Ee} (es us : List Ee) (h : ordI u.key e.key < 0) : mg (e :: es) (u :: us) = u :: mg (e :: es) us := by rw [mg, if_pos h]
theorem mg_eq {e u : Ee} (es us : List Ee) (h : u.key = e.key) : mg (e :: es) (u :: us) = kp e ++ mg es us := by rw [mg, if_neg (by rw [h, ordI_self]; omega), if_pos h]
theorem mg_gt {e u : Ee} (es us : List Ee) (h : ¬ ordI u.key e.key < 0) (hne : ¬ u.key = e.key) : mg (e :: es) (u :: us) = kp e ++ mg es (u :: us) := by rw [mg, if_neg h, if_neg hne]
/-- the cells of pairs. -/
def pcl (x : En) : List Value := [.slice x.ka x.e.key.length x.kc, .slice x.va x.e.val.length x.vc]
def prc (xs : List En) : List Value := xs.flatMap pcl
theorem prc_app (xs ys : List En) : prc (xs ++ ys) = prc xs ++ prc ys := by simp [prc]
theorem prc_one (x : En) : prc [x] = pcl x := by simp [prc]
theorem prc_len (xs : List En) : (prc xs).length = xs.length * 2 := by
  induction xs with
  | nil => rfl
  | cons x xs ih =>
    have : prc (x :: xs) = pcl x ++ prc xs := by simp [prc]
    rw [this, List.length_append, ih, List.length_cons]
    simp only [pcl, List.length_cons, List.length_nil]; omega
theorem pcl_cell (x : En) : ∀ u ∈ pcl x, u.oneCell' = true := by
  intro u hu
  simp only [pcl, List.mem_cons, List.not_mem_nil, or_false] at hu
  rcases hu with rfl | rfl <;> rfl
theorem prc_at {xs : List En} {k : Nat} {x : En} (h : xs[k]? = some x) {j : Nat} {u : Value} (hu : (pcl x)[j]? = some u) : (prc xs)[k * 2 + j]? = some u := by
  induction xs generalizing k with
  | nil => simp at h
  | cons y ys ih =>
    have e : prc (y :: ys) = pcl y ++ prc ys := by simp [prc]
    have hj : j < 2 := by have := (List.getElem?_eq_some_iff.1 hu).1; simpa [pcl] using this
    have hl : (pcl y).length = 2 := rfl
    rw [e]
    cases k with
    | zero =>
      simp at h
      subst h
      rw [List.getElem?_append_left (by rw [hl]; omega), Nat.zero_mul, Nat.zero_add]
      exact hu
    | succ k =>
      rw [List.getElem?_append_right (by rw [hl]; omega), hl, show (k + 1) * 2 + j - 2 = k * 2 + j by omega]
      exact ih (by simpa using h)
/-- pairs that are laid out in a row of the call's own. -/
structure Rp (W0 : World) (v : Value) (q : Nat) (vs : List En) (W : World) : Prop where
  row : Rof W 74 2 v q (prc vs)
  new : ∀ b, v.ownBlock = some b → W0.heap.size ≤ b
  on : Below W0.heap.size W0 W
  each : ∀ y ∈ vs, y.Ok W0
theorem Rp.below {W0 W W' : World} {v : Value} {q : Nat} {vs : List En} (h : Rp W0 v q vs W) (hb : Below W.heap.size W W') : Rp W0 v q vs W' := ⟨h.row.below hb, h.new, h.on.trans (hb.mono h.on.size), h.each⟩
theorem Rp.len {W0 W : World} {v : Value} {q : Nat} {vs : List En} (h : Rp W0 v q vs W) : vs.length = q := by
  have := h.row.1
  rw [prc_len] at this; omega
theorem Rp.snoc {W0 W W1 W2 : World} {v v' : Value} {q : Nat} {vs : List En} {y : En} (h : Rp W0 v q vs W) (hb : Below W.heap.size W W1) (hy : y.Ok W0) (hr : Rof W2 74 2 v' (q + 1) (prc vs ++ pcl y)) (hg : W1.grownBy W2 v.ownBlock) (hf : ∀ k, v'.ownBlock = some k → v.ownBlock = some k ∨ W1.heap.size ≤ k) : Rp W0 v' (q + 1) (vs ++ [y]) W2 := by
  have hs : W0.heap.size ≤ W1.heap.size := Nat.le_trans h.on.size hb.size
  refine ⟨by rw [prc_app, prc_one]; exact hr, fun b hb' => ?_, (h.on.trans (hb.mono h.on.size)).grown hg hs (fun k hk => h.new k hk), fun z hz => ?_⟩
  · rcases hf b hb' with h1 | h1
    · exact h.new b h1
    · omega
  · rcases List.mem_append.1 hz with hz | hz
    · exact h.each z hz
    · simp at hz; subst hz; exact hy
theorem Rp.prs {W0 W : World} {v : Value} {q : Nat} {vs : List En} (h : Rp W0 v q vs W) : ∃ a c, v = .slice a q c ∧ Prs W a q c vs := by
  have hl := h.len
  rcases h.row.2 with ⟨rfl, h0⟩ | ⟨g, o, cap, cur, rfl, hg, hn, hm, _⟩
  · subst h0
    exact ⟨none, 0, rfl, hl, fun _ => ⟨rfl, rfl⟩, Nat.le_refl _, by omega, .inl (List.eq_nil_of_length_eq_zero hl), fun y hy => (h.each y hy).below h.on⟩
  · refine ⟨_, cap, rfl, hl, (by intro e; cases e), hn, by unfold maxLen at hm; omega, .inr ⟨g, o, rfl, lt_of_block hg, fun k x hx => ⟨?_, ?_⟩⟩, fun y hy => (h.each y hy).below h.on⟩
    · exact h.row.cell (j := k * 2) (prc_at (j := 0) hx rfl)
    · have := h.row.cell (j := k * 2 + 1) (prc_at (j := 1) hx rfl)
      rwa [← Nat.add_assoc] at this
theorem pbox_news (w : World) (y : En) : ∀ j u, (pcl y)[j]? = some u → (w.alloc (.cells #[.slice y.ka y.e.key.length y.kc, .slice y.va y.e.val.length y.vc] 74)).cell? ((⟨w.heap.size, 0, none⟩ : Addr).add j) = some u := by
  intro j u h
  rw [Addr.add_lit, World.cell?_alloc_at _ _ _ _ rfl, Nat.zero_add]
  rw [← h]; simp [pcl]
theorem pbox_src (W : World) (x : En) : Src Try.prog 2 22 (.slice (some ⟨W.heap.size, 0, none⟩) 1 1) 1 (pcl x) (W.alloc (.cells #[.slice x.ka x.e.key.length x.kc, .slice x.va x.e.val.length x.vc] 74)) :=
  Src.ofSlice _ Try.underlying22 ⟨W.heap.size, 0, none⟩ 1 1 (pcl x) rfl (pbox_news W x) (pcl_cell x)
theorem infoP : (Try.prog.info? 74).map (fun i => (i.zero, i.size, i.bytes)) = some (some (.agg #[.slice none 0 0, .slice none 0 0]), 2, 48) := by kernel_rfl
/-- what is still to come, behind k changes and i pairs. -/
theorem mg_u {es us : List Ee} {k i : Nat} {e u : Ee} (he : es[k]? = some e) (hu : us[i]? = some u) (h : ordI u.key e.key < 0) : mg (es.drop k) (us.drop i) = u :: mg (es.drop k) (us.drop (i + 1)) := by
  rw [drop_at he, drop_at hu, mg_lt _ _ h]
theorem mg_k {es us : List Ee} {k i : Nat} {u : Ee} (hk : es.length ≤ k) (hu : us[i]? = some u) : mg (es.drop k) (us.drop i) = u :: mg (es.drop k) (us.drop (i + 1)) := by
  rw [List.drop_of_length_le hk, mg_nil, mg_nil, drop_at hu]
theorem mg_both {es us : List Ee} {k i : Nat} {e u : Ee} (he : es[k]? = some e) (hu : us[i]? = some u) (h : u.key = e.key) : mg (es.drop k) (us.drop i) = kp e ++ mg (es.drop (k + 1)) (us.drop (i + 1)) := by
  rw [drop_at he, drop_at hu, mg_eq _ _ h]
theorem mg_e {es us : List Ee} {k i : Nat} {e u : Ee} (he : es[k]? = some e) (hu : us[i]? = some u) (h : ¬ ordI u.key e.key < 0) (hne : ¬ u.key = e.key) : mg (es.drop k) (us.drop i) = kp e ++ mg (es.drop (k + 1)) (us.drop i) := by
  rw [drop_at he, drop_at hu, mg_gt _ _ h hne]
theorem mg_i {es us : List Ee} {k i : Nat} {e : Ee} (he : es[k]? = some e) (hi : us.length ≤ i) : mg (es.drop k) (us.drop i) = kp e ++ mg (es.drop (k + 1)) (us.drop i) := by
  rw [drop_at he, List.drop_of_length_le hi, mg_end]
theorem kp_del {e : Ee} (h : e.del = true) : kp e = [] := by simp [kp, h]
theorem kp_put {e : Ee} (h : e.del = false) : kp e = [e] := by simp [kp, h]
/-- what Seen of it lays out. -/
def SeenOut (w : World) (xs us : List En) (r : Ending) (w' : World) : Prop := ∃ W0 v q vs, r = .returned v ∧ Below w.heap.size w W0 ∧ Rp W0 v q vs w' ∧ ers vs = mg ((ers xs).foldl put []) (ers us) ∧ ∀ y ∈ vs, y ∈ xs ∨ y ∈ us
/-- behind k changes and i pairs. -/
def Sn (W0 : World) (us ys : List En) (i k : Nat) (v : Value) (W : World) : Prop := ∃ q vs, Rp W0 v q vs W ∧ q ≤ i + k ∧ ers vs ++ mg ((ers ys).drop k) ((ers us).drop i) = mg (ers ys) (ers us) ∧ ∀ y ∈ vs, y ∈ ys ∨ y ∈ us
/-- what lies below W0 stays; so does the row of the changes. -/
theorem rp_on {W0 W : World} {v : Value} {q : Nat} {vs : List En} (h : Rp W0 v q vs W) : Below W0.heap.size W0 W := h.on
theorem sn_u {W0 W : World} {us ys : List En} {i k q : Nat} {v : Value} {vs : List En} {u : En} (h : Rp W0 v (q + 1) (vs ++ [u]) W) (hq : q ≤ i + k) (his : ers vs ++ mg ((ers ys).drop k) ((ers us).drop i) = mg (ers ys) (ers us)) (hsub : ∀ y ∈ vs, y ∈ ys ∨ y ∈ us) (hu : us[i]? = some u) (hs : mg ((ers ys).drop k) ((ers us).drop i) = u.e :: mg ((ers ys).drop k) ((ers us).drop (i + 1))) : Sn W0 us ys (i + 1) k v W := by
  refine ⟨q + 1, vs ++ [u], h, by omega, ?_, fun z hz => ?_⟩
  · rw [← his, hs, ers_app]
    simp [ers]
  · rcases List.mem_append.1 hz with hz | hz
    · exact hsub z hz
    · simp at hz; subst hz; exact .inr (List.mem_of_getElem? hu)
theorem sn_del {W0 W : World} {us ys : List En} {i i' k q : Nat} {v : Value} {vs : List En} (h : Rp W0 v q vs W) (hq : q ≤ i + k) (his : ers vs ++ mg ((ers ys).drop k) ((ers us).drop i) = mg (ers ys) (ers us)) (hsub : ∀ y ∈ vs, y ∈ ys ∨ y ∈ us) (hi : i ≤ i') (hs : mg ((ers ys).drop k) ((ers us).drop i) = mg ((ers ys).drop (k + 1)) ((ers us).drop i')) : Sn W0 us ys i' (k + 1) v W :=
  ⟨q, vs, h, by omega, by rw [← his, hs], hsub⟩
theorem sn_put {W0 W : World} {us ys : List En} {i i' k q : Nat} {v : Value} {vs : List En} {y : En} (h : Rp W0 v (q + 1) (vs ++ [y]) W) (hq : q ≤ i + k) (his : ers vs ++ mg ((ers ys).drop k) ((ers us).drop i) = mg (ers ys) (ers us)) (hsub : ∀ y ∈ vs, y ∈ ys ∨ y ∈ us) (hy : ys[k]? = some y) (hi : i ≤ i') (hs : mg ((ers ys).drop k) ((ers us).drop i) = y.e :: mg ((ers ys).drop (k + 1)) ((ers us).drop i')) : Sn W0 us ys i' (k + 1) v W := by
  refine ⟨q + 1, vs ++ [y], h, by omega, ?_, fun z hz => ?_⟩
  · rw [← his, hs, ers_app]
    simp [ers]
  · rcases List.mem_append.1 hz with hz | hz
    · exact hsub z hz
    · simp at hz; subst hz; exact .inl (List.mem_of_getElem? hy)
set_option maxHeartbeats 12800000 in
set_option maxRecDepth 1000000 in
theorem rseen_any {w : World} {p n c m d : Nat} {a b : Option Addr} {xs us : List En} (hp : w.cell? ⟨p, 0, none⟩ = some (.slice a n c)) (h : Ens w a n c xs) (hn : n ≤ 900000) (hu : Prs w b m d us) (hm : m ≤ 900000) :
    Calls Try.prog 23 #[.pointer (some ⟨p, 0, none⟩), .slice b m d] w (SeenOut w xs us) := by
  obtain ⟨i0, hi, hz0, hz1, hz2⟩ := info_parts infoP
  have HC := hide (rchanges_any hp h hn)
  have HE := hide h
  have HU := hide hu
  clear hp h hu
  go_enter Try.func23, Try.ntmps23
  go_wp2_with fail
  refine HC.out.mono ?_
  rintro e w0 ⟨cv, nc, ys, rfl, hrc⟩
  have hyl := hrc.len
  have hnc : nc ≤ 900000 := by
    have h2 := congrArg List.length hrc.is
    have h3 := fold_len ((ers xs).take n)
    rw [ers_len] at h2
    rw [List.length_take, ers_len] at h3
    have := HE.out.len
    omega
  obtain ⟨a0, c0, rfl, -⟩ := hrc.row.shape
  have HRc := hide hrc
  have HU0 := hide (HU.out.below hrc.below)
  have HEs : Hid (∀ y ∈ ys, y.Ok w0) := fun y hy => (HE.out.below hrc.below).each y (hrc.sub y hy)
  have HR0 : Hid (Rp w0 (.slice none 0 0) 0 [] w0) := ⟨Rof.nil _ _ _, (by intro k hk; simp [Value.ownBlock] at hk), Below.refl _ _, by simp⟩
  clear hrc HC
  go_wp2
  go_loopw [5, 7, 8] (fun o_ k_ i_ wr => ∃ i k : Nat, i ≤ m ∧ k ≤ nc ∧ k_ = .int .i64 (k : Int) ∧ i_ = .int .i64 (i : Int) ∧ Sn w0 us ys i k o_ wr) (fun _ k_ i_ _ => (m - (intOf i_).toNat) + (nc - (intOf k_).toNat))
  case atStart => exact ⟨0, 0, Nat.zero_le _, Nat.zero_le _, rfl, rfl, 0, [], HR0.out, Nat.le_refl _, by simp [ers], by simp⟩
  case round =>
    obtain ⟨i, k, hi', hk, rfl, rfl, q, vs, hrp, hq, his, hsub⟩ := hrel
    obtain ⟨ao, co, rfl, -⟩ := hrp.row.shape
    have HRpr := hide hrp
    have HQ := hide hq
    have HIs := hide his
    have HSub := hide hsub
    have j1 : (0 : Int) ≤ (i : Int) := by omega
    have j2 : (0 : Int) ≤ (k : Int) := by omega
    clear hrp his hsub
    by_cases hk1 : k < nc
    · have fk : (k : Int) < (nc : Int) := by omega
      have fe : ((k : Int) == (nc : Int)) = false := by simp; omega
      obtain ⟨g, o, c1, e_, -⟩ := HRc.out.row.lies (by omega)
      cases e_
      obtain ⟨y, hy⟩ : ∃ y, ys[k]? = some y := ⟨_, List.getElem?_eq_getElem (by omega)⟩
      have HYa := hide hy
      have HYk := hide (HEs.out y (List.mem_of_getElem? hy))
      have z0c := HRc.out.row.cell (rowc_at (j := 0) hy rfl)
      have z1c := HRc.out.row.cell (rowc_at (j := 1) hy rfl)
      have z2c := HRc.out.row.cell (rowc_at (j := 2) hy rfl)
      simp only [Nat.add_zero, ← Nat.add_assoc] at z0c z1c z2c
      have z0r := one_below1 z0c HRpr.out.on
      have z1r := one_below1 z1c HRpr.out.on
      have z2r := one_below1 z2c HRpr.out.on
      have Z0 := hide z0c
      have Z1 := hide z1c
      clear z0c z1c z2c
      have he := ers_at hy
      clear hy
      by_cases hi1 : i < m
      · have fi : (i : Int) < (m : Int) := by omega
        obtain ⟨u, b2, o2, hu, e_, -, u0s, u1s, huk⟩ := HU0.out.at hi1
        cases e_
        have u0r := one_below1 u0s HRpr.out.on
        have u1r := one_below1 u1s HRpr.out.on
        have HUa := hide hu
        have HUk := hide huk
        have heu := ers_at hu
        have l1 := text_less u.e.key y.e.key huk.key.byts HYk.out.key.byts
        have e1 := text_eq u.e.key y.e.key huk.key.byts HYk.out.key.byts
        have t1 : ∀ q, (convert 60 9 (.slice u.ka u.e.key.length u.kc)).run Try.prog (wr.drewN q) = .ok (.string (bk u.e.key)) (wr.drewN q) := fun q => text_inn ((HUk.out.below HRpr.out.on).key.below (below_drewN (Below.refl _ _) q))
        have t2 : ∀ q, (convert 60 9 (.slice y.ka y.e.key.length y.kc)).run Try.prog (wr.drewN q) = .ok (.string (bk y.e.key)) (wr.drewN q) := fun q => text_inn ((HYk.out.below HRpr.out.on).key.below (below_drewN (Below.refl _ _) q))
        have k0 : ∀ q, (wr.drewN q).cell? ⟨b2, o2 + i * 2, none⟩ = some (.slice u.ka u.e.key.length u.kc) := fun q => u0r
        have k1 : ∀ q, (wr.drewN q).cell? ⟨g, o + k * 3, none⟩ = some (.slice y.ka y.e.key.length y.kc) := fun q => z0r
        clear u0s u1s huk hu
        by_cases hlt : ordI u.e.key y.e.key < 0
        · rw [decide_eq_true hlt] at l1
          have HStep := hide (mg_u (es := ers ys) (us := ers us) he heu hlt)
          clear hlt e1 he heu
          go_wp2
          go_quiet (fail)
          have HBn := hide (below_drewN (Below.refl wr.heap.size wr) nq)
          have HRp := hide (HRpr.out.below HBn.out)
          have u0 := one_below1 u0r HBn.out
          have u1 := one_below1 u1r HBn.out
          have z0 := one_below1 z0r HBn.out
          have z1 := one_below1 z1r HBn.out
          have z2 := one_below1 z2r HBn.out
          have HUn := hide (HUk.out.below (rp_on HRp.out))
          have HYn := hide (HYk.out.below (rp_on HRp.out))
          clear t1 t2 k0 k1 u0r u1r z0r z1r z2r l1 HBn HRpr
          generalize wr.drewN nq = wn at *
          go_wp2_with (at_builtin; refine wpList_append_off (by rfl) (.tmp 46) (.tmp 51) 22 22 74 (by rfl) i0 _ 2 Try.underlying22 hi hz0 hz1 (by rfl) (by omega) (.slice ao q co) q (prc vs) (by rfl) (HRp.out.row.below (below_alloc _ _)) (.slice (some ⟨wn.heap.size, 0, none⟩) 1 1) 1 (pcl u) (by rfl) (pbox_src wn u) (by rw [hz2]; omega) (by omega) ?_; intro v2 w2 hr2 hg2 hf2; obtain ⟨a2, c2, rfl, -⟩ := hr2.shape; have H2 := hide (HRp.out.snoc (below_alloc wn _) HUk.out hr2 hg2 hf2); clear hr2 hg2 hf2)
          have HS2 := hide (sn_u H2.out HQ.out HIs.out HSub.out HUa.out HStep.out)
          go_roundw
          case rel => exact ⟨i + 1, k, by omega, by omega, by go_num, by go_num, HS2.out⟩
          case measure => simp [intOf]; omega
        · rw [decide_eq_false hlt] at l1
          by_cases heq : u.e.key = y.e.key
          · rw [decide_eq_true heq] at e1
            have HStep := hide (mg_both (es := ers ys) (us := ers us) he heu heq)
            clear hlt heq he heu
            by_cases hdel : y.e.del = true
            · have HDel := hide hdel
              go_wp2
              go_quiet (fail)
              have HBn := hide (below_drewN (Below.refl wr.heap.size wr) nq)
              have HRp := hide (HRpr.out.below HBn.out)
              have u0 := one_below1 u0r HBn.out
              have u1 := one_below1 u1r HBn.out
              have z0 := one_below1 z0r HBn.out
              have z1 := one_below1 z1r HBn.out
              have z2 := one_below1 z2r HBn.out
              have HUn := hide (HUk.out.below (rp_on HRp.out))
              have HYn := hide (HYk.out.below (rp_on HRp.out))
              clear t1 t2 k0 k1 u0r u1r z0r z1r z2r l1 HBn HRpr
              generalize wr.drewN nq = wn at *
              have t1 : ∀ q, (convert 60 9 (.slice u.ka u.e.key.length u.kc)).run Try.prog (wn.drewN q) = .ok (.string (bk u.e.key)) (wn.drewN q) := fun q => text_inn (HUn.out.key.below (below_drewN (Below.refl _ _) q))
              have t2 : ∀ q, (convert 60 9 (.slice y.ka y.e.key.length y.kc)).run Try.prog (wn.drewN q) = .ok (.string (bk y.e.key)) (wn.drewN q) := fun q => text_inn (HYn.out.key.below (below_drewN (Below.refl _ _) q))
              have k0 : ∀ q, (wn.drewN q).cell? ⟨b2, o2 + i * 2, none⟩ = some (.slice u.ka u.e.key.length u.kc) := fun q => u0
              have k1 : ∀ q, (wn.drewN q).cell? ⟨g, o + k * 3, none⟩ = some (.slice y.ka y.e.key.length y.kc) := fun q => z0
              go_wp2
              go_quiet (fail)
              have HBm := hide (below_drewN (Below.refl wn.heap.size wn) nq)
              replace HRp := hide (HRp.out.below HBm.out)
              replace z0 := one_below1 z0 HBm.out
              replace z1 := one_below1 z1 HBm.out
              replace z2 := one_below1 z2 HBm.out
              clear t1 t2 k0 k1 u0 u1 e1 HUn HYn HBm
              generalize wn.drewN nq = wm at *
              rw [hdel] at z2
              go_wp2
              have HS2 := hide (sn_del (i' := i + 1) HRp.out HQ.out HIs.out HSub.out (by omega) (HStep.out.trans (by rw [kp_del HDel.out]; rfl)))
              go_roundw
              case rel => exact ⟨i + 1, k + 1, by omega, by omega, by go_num, by go_num, HS2.out⟩
              case measure => simp [intOf]; omega
            · have hdel : y.e.del = false := by simpa using hdel
              have HDel := hide hdel
              go_wp2
              go_quiet (fail)
              have HBn := hide (below_drewN (Below.refl wr.heap.size wr) nq)
              have HRp := hide (HRpr.out.below HBn.out)
              have u0 := one_below1 u0r HBn.out
              have u1 := one_below1 u1r HBn.out
              have z0 := one_below1 z0r HBn.out
              have z1 := one_below1 z1r HBn.out
              have z2 := one_below1 z2r HBn.out
              have HUn := hide (HUk.out.below (rp_on HRp.out))
              have HYn := hide (HYk.out.below (rp_on HRp.out))
              clear t1 t2 k0 k1 u0r u1r z0r z1r z2r l1 HBn HRpr
              generalize wr.drewN nq = wn at *
              have t1 : ∀ q, (convert 60 9 (.slice u.ka u.e.key.length u.kc)).run Try.prog (wn.drewN q) = .ok (.string (bk u.e.key)) (wn.drewN q) := fun q => text_inn (HUn.out.key.below (below_drewN (Below.refl _ _) q))
              have t2 : ∀ q, (convert 60 9 (.slice y.ka y.e.key.length y.kc)).run Try.prog (wn.drewN q) = .ok (.string (bk y.e.key)) (wn.drewN q) := fun q => text_inn (HYn.out.key.below (below_drewN (Below.refl _ _) q))
              have k0 : ∀ q, (wn.drewN q).cell? ⟨b2, o2 + i * 2, none⟩ = some (.slice u.ka u.e.key.length u.kc) := fun q => u0
              have k1 : ∀ q, (wn.drewN q).cell? ⟨g, o + k * 3, none⟩ = some (.slice y.ka y.e.key.length y.kc) := fun q => z0
              go_wp2
              go_quiet (fail)
              have HBm := hide (below_drewN (Below.refl wn.heap.size wn) nq)
              replace HRp := hide (HRp.out.below HBm.out)
              replace z0 := one_below1 z0 HBm.out
              replace z1 := one_below1 z1 HBm.out
              replace z2 := one_below1 z2 HBm.out
              clear t1 t2 k0 k1 u0 u1 e1 HUn HYn HBm
              generalize wn.drewN nq = wm at *
              rw [hdel] at z2
              go_wp2
              refine wp_region_noPanic ?_
              refine wp_region_held_drew (S := (fun W => W.cell? ⟨g, o + k * 3, none⟩ = some (.slice y.ka y.e.key.length y.kc) ∧ W.cell? ⟨g, o + k * 3 + 1, none⟩ = some (.slice y.va y.e.val.length y.vc))) (by kernel_rfl) ⟨z0, z1⟩ (fun _hS => ?_)
              refine wtk (i := 0) (oi := zorsx1) (v := ?v0x101) rfl ⟨by rfl, ?hy0x101⟩ (by assumption) ?_
              case hy0x101 => (intro w s; (try dsimp only at s); first | (go_simp; with_reducible rfl) | go_simp)
              try simp only [Act.put, zps]
              refine wtk (i := 1) (oi := zorsx2) (v := ?v1x102) rfl ⟨by rfl, ?hy1x102⟩ (by assumption) ?_
              case hy1x102 => (intro w s; (try dsimp only at s); first | (go_simp; with_reducible rfl) | go_simp)
              try simp only [Act.put, zps]
              refine wtk (i := 2) (oi := zorsx3) (v := ?v2x103) rfl ⟨by rfl, ?hy2x103⟩ (by assumption) ?_
              case hy2x103 => (intro w s; (try dsimp only at s); first | (go_simp; with_reducible rfl) | go_simp)
              try simp only [Act.put, zps]
              refine wtk (i := 3) (oi := zorsx4) (v := ?v3x104) rfl ⟨by rfl, ?hy3x104⟩ (by assumption) ?_
              case hy3x104 => (intro w s; (try dsimp only at s); first | (go_simp; with_reducible rfl) | go_simp)
              try simp only [Act.put, zps]
              refine wtk (i := 4) (oi := zorsx5) (v := ?v4x105) rfl ⟨by rfl, ?hy4x105⟩ (by assumption) ?_
              case hy4x105 => (intro w s; (try dsimp only at s); first | (go_simp; with_reducible rfl) | go_simp)
              try simp only [Act.put, zps]
              refine wtk (i := 5) (oi := zorsx6) (v := ?v5x106) rfl ⟨by rfl, ?hy5x106⟩ (by assumption) ?_
              case hy5x106 => (intro w s; (try dsimp only at s); first | (go_simp; with_reducible rfl) | go_simp)
              try simp only [Act.put, zps]
              refine wtk (i := 6) (oi := zorsx7) (v := ?v6x107) rfl ⟨by rfl, ?hy6x107⟩ (by assumption) ?_
              case hy6x107 => (intro w s; (try dsimp only at s); first | (go_simp; with_reducible rfl) | go_simp)
              try simp only [Act.put, zps]
              refine wtk (i := 7) (oi := zorsx8) (v := ?v7x108) rfl ⟨by rfl, ?hy7x108⟩ (by assumption) ?_
              case hy7x108 => (intro w s; (try dsimp only at s); first | (go_simp; with_reducible rfl) | go_simp)
              try simp only [Act.put, zps]
              refine wtk (i := 8) (oi := zorsx9) (v := ?v8x109) rfl ⟨by rfl, ?hy8x109⟩ (by assumption) ?_
              case hy8x109 => (intro w s; (try dsimp only at s); first | (go_simp; with_reducible rfl) | go_simp)
              try simp only [Act.put, zps]
              refine wtk (i := 9) (oi := zorsx10) (v := ?v9x110) rfl ⟨by rfl, ?hy9x110⟩ (by assumption) ?_
              case hy9x110 => (intro w s; (try dsimp only at s); first | (go_simp; with_reducible rfl) | go_simp)
              try simp only [Act.put, zps]
              refine wtk (i := 10) (oi := zorsx11) (v := ?v10x111) rfl ⟨by rfl, ?hy10x111⟩ (by assumption) ?_
              case hy10x111 => (intro w s; (try dsimp only at s); first | (go_simp; with_reducible rfl) | go_simp)
              try simp only [Act.put, zps]
              refine wtk (i := 11) (oi := zorsx12) (v := ?v11x112) rfl ⟨by rfl, ?hy11x112⟩ (by assumption) ?_
              case hy11x112 => (intro w s; (try dsimp only at s); first | (go_simp; with_reducible rfl) | go_simp)
              try simp only [Act.put, zps]
              have a0_ := one_below1 (w := wm.drew) z0 (below_alloc wm.drew (.cells #[.slice y.ka y.e.key.length y.kc, .slice y.va y.e.val.length y.vc] 74))
              have a1_ := one_below1 (w := wm.drew) z1 (below_alloc wm.drew (.cells #[.slice y.ka y.e.key.length y.kc, .slice y.va y.e.val.length y.vc] 74))
              refine wpAnyH_ready (rs := [12]) (by kernel_rfl) (by simp) ?_
              refine AllReadyH.cons (o := zorsx13) rfl (fun K hK => ?_) (AllReadyH.nil)
              go_simp
              refine hK.out _ _ ?_ (fun _hS => ?_)
              · exact ⟨a0_, a1_⟩
              clear hK K
              try simp only [Act.put, zps]
              refine wpAnyH_ready (rs := [13]) (by kernel_rfl) (by simp) ?_
              refine AllReadyH.cons (o := zorsx14) rfl (fun K hK => ?_) (AllReadyH.nil)
              refine step_of rfl ?_
              refine wp_append_off (.tmp 82) (.tmp 94) 22 22 74 rfl i0 _ 2 Try.underlying22 hi hz0 hz1 (by rfl) (by omega) (.slice ao q co) q (prc vs) rfl (HRp.out.row.below ((Below.refl _ _).drew.trans (below_alloc wm.drew _))) (.slice (some ⟨wm.heap.size, 0, none⟩) 1 1) 1 (pcl y) rfl (pbox_src wm.drew y) (by rw [hz2]; omega) (by omega) ?_
              intro v2 w2 hr2 hg2 hf2
              obtain ⟨a2, c2, rfl, -⟩ := hr2.shape
              have H2 := hide (HRp.out.snoc ((Below.refl _ _).drew.trans (below_alloc wm.drew _)) HYk.out hr2 hg2 hf2)
              have b0_ := one_below1 Z0.out H2.out.on
              have b1_ := one_below1 Z1.out H2.out.on
              clear hr2 hg2 hf2
              go_simp
              refine hK.out _ _ ?_ (fun _hS => ?_)
              · exact ⟨b0_, b1_⟩
              clear hK K
              try simp only [Act.put, zps]
              refine wtk (i := 14) (oi := zorsx15) (v := ?v14x113) rfl ⟨by rfl, ?hy14x113⟩ (by assumption) ?_
              case hy14x113 => (intro w s; (try dsimp only at s); first | (go_simp; with_reducible rfl) | go_simp)
              try simp only [Act.put, zps]
              refine wpAnyH_done (by kernel_rfl) ?_ _
              refine NoPanic.normal ?_
              go_wp2
              have HS2 := hide (sn_put (i' := i + 1) H2.out HQ.out HIs.out HSub.out HYa.out (by omega) (HStep.out.trans (by rw [kp_put HDel.out]; rfl)))
              go_roundw
              case rel => exact ⟨i + 1, k + 1, by omega, by omega, by go_num, by go_num, HS2.out⟩
              case measure => simp [intOf]; omega
          · rw [decide_eq_false heq] at e1
            have HStep := hide (mg_e (es := ers ys) (us := ers us) he heu hlt heq)
            clear hlt heq he heu
            by_cases hdel : y.e.del = true
            · have HDel := hide hdel
              go_wp2
              go_quiet (fail)
              have HBn := hide (below_drewN (Below.refl wr.heap.size wr) nq)
              have HRp := hide (HRpr.out.below HBn.out)
              have u0 := one_below1 u0r HBn.out
              have u1 := one_below1 u1r HBn.out
              have z0 := one_below1 z0r HBn.out
              have z1 := one_below1 z1r HBn.out
              have z2 := one_below1 z2r HBn.out
              have HUn := hide (HUk.out.below (rp_on HRp.out))
              have HYn := hide (HYk.out.below (rp_on HRp.out))
              clear t1 t2 k0 k1 u0r u1r z0r z1r z2r l1 HBn HRpr
              generalize wr.drewN nq = wn at *
              have t1 : ∀ q, (convert 60 9 (.slice u.ka u.e.key.length u.kc)).run Try.prog (wn.drewN q) = .ok (.string (bk u.e.key)) (wn.drewN q) := fun q => text_inn (HUn.out.key.below (below_drewN (Below.refl _ _) q))
              have t2 : ∀ q, (convert 60 9 (.slice y.ka y.e.key.length y.kc)).run Try.prog (wn.drewN q) = .ok (.string (bk y.e.key)) (wn.drewN q) := fun q => text_inn (HYn.out.key.below (below_drewN (Below.refl _ _) q))
              have k0 : ∀ q, (wn.drewN q).cell? ⟨b2, o2 + i * 2, none⟩ = some (.slice u.ka u.e.key.length u.kc) := fun q => u0
              have k1 : ∀ q, (wn.drewN q).cell? ⟨g, o + k * 3, none⟩ = some (.slice y.ka y.e.key.length y.kc) := fun q => z0
              go_wp2
              go_quiet (fail)
              have HBm := hide (below_drewN (Below.refl wn.heap.size wn) nq)
              replace HRp := hide (HRp.out.below HBm.out)
              replace z0 := one_below1 z0 HBm.out
              replace z1 := one_below1 z1 HBm.out
              replace z2 := one_below1 z2 HBm.out
              clear t1 t2 k0 k1 u0 u1 e1 HUn HYn HBm
              generalize wn.drewN nq = wm at *
              rw [hdel] at z2
              go_wp2
              have HS2 := hide (sn_del (i' := i) HRp.out HQ.out HIs.out HSub.out (by omega) (HStep.out.trans (by rw [kp_del HDel.out]; rfl)))
              go_roundw
              case rel => exact ⟨i, k + 1, by omega, by omega, by go_num, by go_num, HS2.out⟩
              case measure => simp [intOf]; omega
            · have hdel : y.e.del = false := by simpa using hdel
              have HDel := hide hdel
              go_wp2
              go_quiet (fail)
              have HBn := hide (below_drewN (Below.refl wr.heap.size wr) nq)
              have HRp := hide (HRpr.out.below HBn.out)
              have u0 := one_below1 u0r HBn.out
              have u1 := one_below1 u1r HBn.out
              have z0 := one_below1 z0r HBn.out
              have z1 := one_below1 z1r HBn.out
              have z2 := one_below1 z2r HBn.out
              have HUn := hide (HUk.out.below (rp_on HRp.out))
              have HYn := hide (HYk.out.below (rp_on HRp.out))
              clear t1 t2 k0 k1 u0r u1r z0r z1r z2r l1 HBn HRpr
              generalize wr.drewN nq = wn at *
              have t1 : ∀ q, (convert 60 9 (.slice u.ka u.e.key.length u.kc)).run Try.prog (wn.drewN q) = .ok (.string (bk u.e.key)) (wn.drewN q) := fun q => text_inn (HUn.out.key.below (below_drewN (Below.refl _ _) q))
              have t2 : ∀ q, (convert 60 9 (.slice y.ka y.e.key.length y.kc)).run Try.prog (wn.drewN q) = .ok (.string (bk y.e.key)) (wn.drewN q) := fun q => text_inn (HYn.out.key.below (below_drewN (Below.refl _ _) q))
              have k0 : ∀ q, (wn.drewN q).cell? ⟨b2, o2 + i * 2, none⟩ = some (.slice u.ka u.e.key.length u.kc) := fun q => u0
              have k1 : ∀ q, (wn.drewN q).cell? ⟨g, o + k * 3, none⟩ = some (.slice y.ka y.e.key.length y.kc) := fun q => z0
              go_wp2
              go_quiet (fail)
              have HBm := hide (below_drewN (Below.refl wn.heap.size wn) nq)
              replace HRp := hide (HRp.out.below HBm.out)
              replace z0 := one_below1 z0 HBm.out
              replace z1 := one_below1 z1 HBm.out
              replace z2 := one_below1 z2 HBm.out
              clear t1 t2 k0 k1 u0 u1 e1 HUn HYn HBm
              generalize wn.drewN nq = wm at *
              rw [hdel] at z2
              go_wp2
              refine wp_region_noPanic ?_
              refine wp_region_held_drew (S := (fun W => W.cell? ⟨g, o + k * 3, none⟩ = some (.slice y.ka y.e.key.length y.kc) ∧ W.cell? ⟨g, o + k * 3 + 1, none⟩ = some (.slice y.va y.e.val.length y.vc))) (by kernel_rfl) ⟨z0, z1⟩ (fun _hS => ?_)
              refine wtk (i := 0) (oi := zorsx1) (v := ?v0x201) rfl ⟨by rfl, ?hy0x201⟩ (by assumption) ?_
              case hy0x201 => (intro w s; (try dsimp only at s); first | (go_simp; with_reducible rfl) | go_simp)
              try simp only [Act.put, zps]
              refine wtk (i := 1) (oi := zorsx2) (v := ?v1x202) rfl ⟨by rfl, ?hy1x202⟩ (by assumption) ?_
              case hy1x202 => (intro w s; (try dsimp only at s); first | (go_simp; with_reducible rfl) | go_simp)
              try simp only [Act.put, zps]
              refine wtk (i := 2) (oi := zorsx3) (v := ?v2x203) rfl ⟨by rfl, ?hy2x203⟩ (by assumption) ?_
              case hy2x203 => (intro w s; (try dsimp only at s); first | (go_simp; with_reducible rfl) | go_simp)
              try simp only [Act.put, zps]
              refine wtk (i := 3) (oi := zorsx4) (v := ?v3x204) rfl ⟨by rfl, ?hy3x204⟩ (by assumption) ?_
              case hy3x204 => (intro w s; (try dsimp only at s); first | (go_simp; with_reducible rfl) | go_simp)
              try simp only [Act.put, zps]
              refine wtk (i := 4) (oi := zorsx5) (v := ?v4x205) rfl ⟨by rfl, ?hy4x205⟩ (by assumption) ?_
              case hy4x205 => (intro w s; (try dsimp only at s); first | (go_simp; with_reducible rfl) | go_simp)
              try simp only [Act.put, zps]
              refine wtk (i := 5) (oi := zorsx6) (v := ?v5x206) rfl ⟨by rfl, ?hy5x206⟩ (by assumption) ?_
              case hy5x206 => (intro w s; (try dsimp only at s); first | (go_simp; with_reducible rfl) | go_simp)
              try simp only [Act.put, zps]
              refine wtk (i := 6) (oi := zorsx7) (v := ?v6x207) rfl ⟨by rfl, ?hy6x207⟩ (by assumption) ?_
              case hy6x207 => (intro w s; (try dsimp only at s); first | (go_simp; with_reducible rfl) | go_simp)
              try simp only [Act.put, zps]
              refine wtk (i := 7) (oi := zorsx8) (v := ?v7x208) rfl ⟨by rfl, ?hy7x208⟩ (by assumption) ?_
              case hy7x208 => (intro w s; (try dsimp only at s); first | (go_simp; with_reducible rfl) | go_simp)
              try simp only [Act.put, zps]
              refine wtk (i := 8) (oi := zorsx9) (v := ?v8x209) rfl ⟨by rfl, ?hy8x209⟩ (by assumption) ?_
              case hy8x209 => (intro w s; (try dsimp only at s); first | (go_simp; with_reducible rfl) | go_simp)
              try simp only [Act.put, zps]
              refine wtk (i := 9) (oi := zorsx10) (v := ?v9x210) rfl ⟨by rfl, ?hy9x210⟩ (by assumption) ?_
              case hy9x210 => (intro w s; (try dsimp only at s); first | (go_simp; with_reducible rfl) | go_simp)
              try simp only [Act.put, zps]
              refine wtk (i := 10) (oi := zorsx11) (v := ?v10x211) rfl ⟨by rfl, ?hy10x211⟩ (by assumption) ?_
              case hy10x211 => (intro w s; (try dsimp only at s); first | (go_simp; with_reducible rfl) | go_simp)
              try simp only [Act.put, zps]
              refine wtk (i := 11) (oi := zorsx12) (v := ?v11x212) rfl ⟨by rfl, ?hy11x212⟩ (by assumption) ?_
              case hy11x212 => (intro w s; (try dsimp only at s); first | (go_simp; with_reducible rfl) | go_simp)
              try simp only [Act.put, zps]
              have a0_ := one_below1 (w := wm.drew) z0 (below_alloc wm.drew (.cells #[.slice y.ka y.e.key.length y.kc, .slice y.va y.e.val.length y.vc] 74))
              have a1_ := one_below1 (w := wm.drew) z1 (below_alloc wm.drew (.cells #[.slice y.ka y.e.key.length y.kc, .slice y.va y.e.val.length y.vc] 74))
              refine wpAnyH_ready (rs := [12]) (by kernel_rfl) (by simp) ?_
              refine AllReadyH.cons (o := zorsx13) rfl (fun K hK => ?_) (AllReadyH.nil)
              go_simp
              refine hK.out _ _ ?_ (fun _hS => ?_)
              · exact ⟨a0_, a1_⟩
              clear hK K
              try simp only [Act.put, zps]
              refine wpAnyH_ready (rs := [13]) (by kernel_rfl) (by simp) ?_
              refine AllReadyH.cons (o := zorsx14) rfl (fun K hK => ?_) (AllReadyH.nil)
              refine step_of rfl ?_
              refine wp_append_off (.tmp 82) (.tmp 94) 22 22 74 rfl i0 _ 2 Try.underlying22 hi hz0 hz1 (by rfl) (by omega) (.slice ao q co) q (prc vs) rfl (HRp.out.row.below ((Below.refl _ _).drew.trans (below_alloc wm.drew _))) (.slice (some ⟨wm.heap.size, 0, none⟩) 1 1) 1 (pcl y) rfl (pbox_src wm.drew y) (by rw [hz2]; omega) (by omega) ?_
              intro v2 w2 hr2 hg2 hf2
              obtain ⟨a2, c2, rfl, -⟩ := hr2.shape
              have H2 := hide (HRp.out.snoc ((Below.refl _ _).drew.trans (below_alloc wm.drew _)) HYk.out hr2 hg2 hf2)
              have b0_ := one_below1 Z0.out H2.out.on
              have b1_ := one_below1 Z1.out H2.out.on
              clear hr2 hg2 hf2
              go_simp
              refine hK.out _ _ ?_ (fun _hS => ?_)
              · exact ⟨b0_, b1_⟩
              clear hK K
              try simp only [Act.put, zps]
              refine wtk (i := 14) (oi := zorsx15) (v := ?v14x213) rfl ⟨by rfl, ?hy14x213⟩ (by assumption) ?_
              case hy14x213 => (intro w s; (try dsimp only at s); first | (go_simp; with_reducible rfl) | go_simp)
              try simp only [Act.put, zps]
              refine wpAnyH_done (by kernel_rfl) ?_ _
              refine NoPanic.normal ?_
              go_wp2
              have HS2 := hide (sn_put (i' := i) H2.out HQ.out HIs.out HSub.out HYa.out (by omega) (HStep.out.trans (by rw [kp_put HDel.out]; rfl)))
              go_roundw
              case rel => exact ⟨i, k + 1, by omega, by omega, by go_num, by go_num, HS2.out⟩
              case measure => simp [intOf]; omega
      · have fi : ¬ (i : Int) < (m : Int) := by omega
        have hul := HU0.out.len
        have HStep := hide (mg_i (es := ers ys) (us := ers us) (i := i) he (by rw [ers_len]; omega))
        clear he
        by_cases hdel : y.e.del = true
        · have HDel := hide hdel
          go_wp2
          go_quiet (fail)
          have HBn := hide (below_drewN (Below.refl wr.heap.size wr) nq)
          have HRp := hide (HRpr.out.below HBn.out)
          have z0 := one_below1 z0r HBn.out
          have z1 := one_below1 z1r HBn.out
          have z2 := one_below1 z2r HBn.out
          clear z0r z1r z2r HBn HRpr
          generalize wr.drewN nq = wn at *
          go_wp2
          go_quiet (fail)
          have HBm := hide (below_drewN (Below.refl wn.heap.size wn) nq)
          replace HRp := hide (HRp.out.below HBm.out)
          replace z0 := one_below1 z0 HBm.out
          replace z1 := one_below1 z1 HBm.out
          replace z2 := one_below1 z2 HBm.out
          clear  HBm
          generalize wn.drewN nq = wm at *
          rw [hdel] at z2
          go_wp2
          have HS2 := hide (sn_del (i' := i) HRp.out HQ.out HIs.out HSub.out (by omega) (HStep.out.trans (by rw [kp_del HDel.out]; rfl)))
          go_roundw
          case rel => exact ⟨i, k + 1, by omega, by omega, by go_num, by go_num, HS2.out⟩
          case measure => simp [intOf]; omega
        · have hdel : y.e.del = false := by simpa using hdel
          have HDel := hide hdel
          go_wp2
          go_quiet (fail)
          have HBn := hide (below_drewN (Below.refl wr.heap.size wr) nq)
          have HRp := hide (HRpr.out.below HBn.out)
          have z0 := one_below1 z0r HBn.out
          have z1 := one_below1 z1r HBn.out
          have z2 := one_below1 z2r HBn.out
          clear z0r z1r z2r HBn HRpr
          generalize wr.drewN nq = wn at *
          go_wp2
          go_quiet (fail)
          have HBm := hide (below_drewN (Below.refl wn.heap.size wn) nq)
          replace HRp := hide (HRp.out.below HBm.out)
          replace z0 := one_below1 z0 HBm.out
          replace z1 := one_below1 z1 HBm.out
          replace z2 := one_below1 z2 HBm.out
          clear  HBm
          generalize wn.drewN nq = wm at *
          rw [hdel] at z2
          go_wp2
          refine wp_region_noPanic ?_
          refine wp_region_held_drew (S := (fun W => W.cell? ⟨g, o + k * 3, none⟩ = some (.slice y.ka y.e.key.length y.kc) ∧ W.cell? ⟨g, o + k * 3 + 1, none⟩ = some (.slice y.va y.e.val.length y.vc))) (by kernel_rfl) ⟨z0, z1⟩ (fun _hS => ?_)
          refine wtk (i := 0) (oi := zorsx1) (v := ?v0x301) rfl ⟨by rfl, ?hy0x301⟩ (by assumption) ?_
          case hy0x301 => (intro w s; (try dsimp only at s); first | (go_simp; with_reducible rfl) | go_simp)
          try simp only [Act.put, zps]
          refine wtk (i := 1) (oi := zorsx2) (v := ?v1x302) rfl ⟨by rfl, ?hy1x302⟩ (by assumption) ?_
          case hy1x302 => (intro w s; (try dsimp only at s); first | (go_simp; with_reducible rfl) | go_simp)
          try simp only [Act.put, zps]
          refine wtk (i := 2) (oi := zorsx3) (v := ?v2x303) rfl ⟨by rfl, ?hy2x303⟩ (by assumption) ?_
          case hy2x303 => (intro w s; (try dsimp only at s); first | (go_simp; with_reducible rfl) | go_simp)
          try simp only [Act.put, zps]
          refine wtk (i := 3) (oi := zorsx4) (v := ?v3x304) rfl ⟨by rfl, ?hy3x304⟩ (by assumption) ?_
          case hy3x304 => (intro w s; (try dsimp only at s); first | (go_simp; with_reducible rfl) | go_simp)
          try simp only [Act.put, zps]
          refine wtk (i := 4) (oi := zorsx5) (v := ?v4x305) rfl ⟨by rfl, ?hy4x305⟩ (by assumption) ?_
          case hy4x305 => (intro w s; (try dsimp only at s); first | (go_simp; with_reducible rfl) | go_simp)
          try simp only [Act.put, zps]
          refine wtk (i := 5) (oi := zorsx6) (v := ?v5x306) rfl ⟨by rfl, ?hy5x306⟩ (by assumption) ?_
          case hy5x306 => (intro w s; (try dsimp only at s); first | (go_simp; with_reducible rfl) | go_simp)
          try simp only [Act.put, zps]
          refine wtk (i := 6) (oi := zorsx7) (v := ?v6x307) rfl ⟨by rfl, ?hy6x307⟩ (by assumption) ?_
          case hy6x307 => (intro w s; (try dsimp only at s); first | (go_simp; with_reducible rfl) | go_simp)
          try simp only [Act.put, zps]
          refine wtk (i := 7) (oi := zorsx8) (v := ?v7x308) rfl ⟨by rfl, ?hy7x308⟩ (by assumption) ?_
          case hy7x308 => (intro w s; (try dsimp only at s); first | (go_simp; with_reducible rfl) | go_simp)
          try simp only [Act.put, zps]
          refine wtk (i := 8) (oi := zorsx9) (v := ?v8x309) rfl ⟨by rfl, ?hy8x309⟩ (by assumption) ?_
          case hy8x309 => (intro w s; (try dsimp only at s); first | (go_simp; with_reducible rfl) | go_simp)
          try simp only [Act.put, zps]
          refine wtk (i := 9) (oi := zorsx10) (v := ?v9x310) rfl ⟨by rfl, ?hy9x310⟩ (by assumption) ?_
          case hy9x310 => (intro w s; (try dsimp only at s); first | (go_simp; with_reducible rfl) | go_simp)
          try simp only [Act.put, zps]
          refine wtk (i := 10) (oi := zorsx11) (v := ?v10x311) rfl ⟨by rfl, ?hy10x311⟩ (by assumption) ?_
          case hy10x311 => (intro w s; (try dsimp only at s); first | (go_simp; with_reducible rfl) | go_simp)
          try simp only [Act.put, zps]
          refine wtk (i := 11) (oi := zorsx12) (v := ?v11x312) rfl ⟨by rfl, ?hy11x312⟩ (by assumption) ?_
          case hy11x312 => (intro w s; (try dsimp only at s); first | (go_simp; with_reducible rfl) | go_simp)
          try simp only [Act.put, zps]
          have a0_ := one_below1 (w := wm.drew) z0 (below_alloc wm.drew (.cells #[.slice y.ka y.e.key.length y.kc, .slice y.va y.e.val.length y.vc] 74))
          have a1_ := one_below1 (w := wm.drew) z1 (below_alloc wm.drew (.cells #[.slice y.ka y.e.key.length y.kc, .slice y.va y.e.val.length y.vc] 74))
          refine wpAnyH_ready (rs := [12]) (by kernel_rfl) (by simp) ?_
          refine AllReadyH.cons (o := zorsx13) rfl (fun K hK => ?_) (AllReadyH.nil)
          go_simp
          refine hK.out _ _ ?_ (fun _hS => ?_)
          · exact ⟨a0_, a1_⟩
          clear hK K
          try simp only [Act.put, zps]
          refine wpAnyH_ready (rs := [13]) (by kernel_rfl) (by simp) ?_
          refine AllReadyH.cons (o := zorsx14) rfl (fun K hK => ?_) (AllReadyH.nil)
          refine step_of rfl ?_
          refine wp_append_off (.tmp 82) (.tmp 94) 22 22 74 rfl i0 _ 2 Try.underlying22 hi hz0 hz1 (by rfl) (by omega) (.slice ao q co) q (prc vs) rfl (HRp.out.row.below ((Below.refl _ _).drew.trans (below_alloc wm.drew _))) (.slice (some ⟨wm.heap.size, 0, none⟩) 1 1) 1 (pcl y) rfl (pbox_src wm.drew y) (by rw [hz2]; omega) (by omega) ?_
          intro v2 w2 hr2 hg2 hf2
          obtain ⟨a2, c2, rfl, -⟩ := hr2.shape
          have H2 := hide (HRp.out.snoc ((Below.refl _ _).drew.trans (below_alloc wm.drew _)) HYk.out hr2 hg2 hf2)
          have b0_ := one_below1 Z0.out H2.out.on
          have b1_ := one_below1 Z1.out H2.out.on
          clear hr2 hg2 hf2
          go_simp
          refine hK.out _ _ ?_ (fun _hS => ?_)
          · exact ⟨b0_, b1_⟩
          clear hK K
          try simp only [Act.put, zps]
          refine wtk (i := 14) (oi := zorsx15) (v := ?v14x313) rfl ⟨by rfl, ?hy14x313⟩ (by assumption) ?_
          case hy14x313 => (intro w s; (try dsimp only at s); first | (go_simp; with_reducible rfl) | go_simp)
          try simp only [Act.put, zps]
          refine wpAnyH_done (by kernel_rfl) ?_ _
          refine NoPanic.normal ?_
          go_wp2
          have HS2 := hide (sn_put (i' := i) H2.out HQ.out HIs.out HSub.out HYa.out (by omega) (HStep.out.trans (by rw [kp_put HDel.out]; rfl)))
          go_roundw
          case rel => exact ⟨i, k + 1, by omega, by omega, by go_num, by go_num, HS2.out⟩
          case measure => simp [intOf]; omega
    · obtain rfl : k = nc := by omega
      have fk : ¬ (k : Int) < (k : Int) := by omega
      have fe : ((k : Int) == (k : Int)) = true := by simp
      by_cases hi1 : i < m
      · have fi : (i : Int) < (m : Int) := by omega
        obtain ⟨u, b2, o2, hu, e_, -, u0s, u1s, huk⟩ := HU0.out.at hi1
        cases e_
        have u0r := one_below1 u0s HRpr.out.on
        have u1r := one_below1 u1s HRpr.out.on
        have HUa := hide hu
        have HUk := hide huk
        have HStep := hide (mg_k (es := ers ys) (us := ers us) (k := k) (i := i) (by rw [ers_len]; omega) (ers_at hu))
        clear u0s u1s huk hu
        go_wp2
        go_quiet (fail)
        have HBn := hide (below_drewN (Below.refl wr.heap.size wr) nq)
        have HRp := hide (HRpr.out.below HBn.out)
        have u0 := one_below1 u0r HBn.out
        have u1 := one_below1 u1r HBn.out
        clear u0r u1r HBn HRpr
        generalize wr.drewN nq = wn at *
        go_wp2_with (at_builtin; refine wpList_append_off (by rfl) (.tmp 46) (.tmp 51) 22 22 74 (by rfl) i0 _ 2 Try.underlying22 hi hz0 hz1 (by rfl) (by omega) (.slice ao q co) q (prc vs) (by rfl) (HRp.out.row.below (below_alloc _ _)) (.slice (some ⟨wn.heap.size, 0, none⟩) 1 1) 1 (pcl u) (by rfl) (pbox_src wn u) (by rw [hz2]; omega) (by omega) ?_; intro v2 w2 hr2 hg2 hf2; obtain ⟨a2, c2, rfl, -⟩ := hr2.shape; have H2 := hide (HRp.out.snoc (below_alloc wn _) HUk.out hr2 hg2 hf2); clear hr2 hg2 hf2)
        have HS2 := hide (sn_u H2.out HQ.out HIs.out HSub.out HUa.out HStep.out)
        go_roundw
        case rel => exact ⟨i + 1, k, by omega, by omega, by go_num, by go_num, HS2.out⟩
        case measure => simp [intOf]; omega
      · obtain rfl : i = m := by omega
        have fi : ¬ (i : Int) < (i : Int) := by omega
        go_wp2
        go_ret
        have hul := HU0.out.len
        have h1 := HIs.out
        rw [List.drop_of_length_le (by rw [ers_len]; omega), mg_nil, List.drop_of_length_le (by rw [ers_len]; omega), List.append_nil, HRc.out.is, List.take_of_length_le (by rw [ers_len, HE.out.len]; exact Nat.le_refl _)] at h1
        exact ⟨w0, _, q, vs, rfl, HRc.out.below, HRpr.out, h1, fun z hz => (HSub.out z hz).imp (fun h => HRc.out.sub z h) id⟩
end Go.Proofs.Ytgohhlngnnmknaa
