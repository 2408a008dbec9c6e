/- The document's own buffer: Changes. -/
import Derived.Test.YtgohhlngnnmknaaRA
namespace Go.Proofs.Ytgohhlngnnmknaa
open Go.RowKit Go.Maps
set_option linter.unusedVariables false

theorem Rof.below {w w' : World} {e : TypeId} {sz n : Nat} {v : Value} {xs : List Value} (h : Rof w e sz v n xs) (hb : Below w.heap.size w w') : Rof w' e sz v n xs := h.keep fun k hk => hb.block k (h.lt hk)
theorem below_grown {B : Nat} {w w1 w2 : World} {r : Option Nat} (h : Below B w w1) (hB : B ≤ w1.heap.size) (hg : w1.grownBy w2 r) (hr : ∀ k, r = some k → B ≤ k) : Below B w w2 := h.grown hg hB hr
/-- where the key is, or would be: what stands behind. -/
def tl (ys : List En) (i : Nat) (key : List Int) : Nat := if ther ys i key then i + 1 else i
theorem putAt_tl (ys : List En) (i : Nat) (x : En) (hi : i ≤ ys.length) : putAt ys i x = ys.take i ++ x :: ys.drop (tl ys i x.e.key) ∧ i ≤ tl ys i x.e.key ∧ tl ys i x.e.key ≤ ys.length := by
  unfold putAt tl
  by_cases h : ther ys i x.e.key = true
  · have hil : i < ys.length := by
      unfold ther at h
      split at h
      · rename_i z hz; exact (List.getElem?_eq_some_iff.1 hz).1
      · cases h
    simp only [h, if_true]
    exact ⟨by rw [List.set_eq_take_append_cons_drop, if_pos hil], by omega, by omega⟩
  · simp only [h]
    exact ⟨rfl, Nat.le_refl _, hi⟩
/-- what Changes of it lays out: a row of the entries said last, by rising keys. -/
structure Rc (w0 : World) (xs : List En) (k : Nat) (v : Value) (m : Nat) (ys : List En) (W : World) : Prop where
  row : Rof W 85 3 v m (rowc ys)
  sub : ∀ y ∈ ys, y ∈ xs
  is : ers ys = ((ers xs).take k).foldl put []
  new : ∀ b, v.ownBlock = some b → w0.heap.size ≤ b
  below : Below w0.heap.size w0 W
theorem Rc.len {w0 W : World} {xs ys : List En} {k m : Nat} {v : Value} (h : Rc w0 xs k v m ys W) : ys.length = m := by
  have := h.row.1
  rw [rowc_len] at this; omega
theorem fold_ris (l : List Ee) : Ris (l.foldl put []) := by
  have gen : ∀ (l acc : List Ee), Ris acc → Ris (l.foldl put acc) := by
    intro l
    induction l with
    | nil => intro acc h; exact h
    | cons x t ih => intro acc h; exact ih _ (ris_put h)
  exact gen l [] ris_nil
theorem fold_len (l : List Ee) : (l.foldl put []).length ≤ l.length := by
  have gen : ∀ (l acc : List Ee), (l.foldl put acc).length ≤ acc.length + l.length := by
    intro l
    induction l with
    | nil => intro acc; simp
    | cons x t ih => intro acc; have := ih (put acc x); have := (put_len acc x).1; simp only [List.foldl_cons, List.length_cons]; omega
  simpa using gen l []
theorem Rc.on {w0 W W' : World} {xs ys : List En} {k m : Nat} {v : Value} (h : Rc w0 xs k v m ys W) (hb : Below W.heap.size W W') : Rc w0 xs k v m ys W' := ⟨h.row.below hb, h.sub, h.is, h.new, h.below.trans (hb.mono h.below.size)⟩
theorem Rc.ris {w0 W : World} {xs ys : List En} {k m : Nat} {v : Value} (h : Rc w0 xs k v m ys W) : Ris (ers ys) := by rw [h.is]; exact fold_ris _
theorem Rc.next {w0 W W' : World} {xs ys : List En} {k m i t : Nat} {v v' : Value} {x : En} (h : Rc w0 xs k v m ys W) (hx : xs[k]? = some x) (hat : At (pge x.e.key) ys i) (ht : tl ys i x.e.key = t) (hr : Rof W' 85 3 v' (i + 1 + (m - t)) (rowc (ys.take i) ++ x.cells ++ rowc (ys.drop t))) (hn : ∀ b, v'.ownBlock = some b → w0.heap.size ≤ b) (hb : Below w0.heap.size w0 W') :
    Rc w0 xs (k + 1) v' (i + 1 + (m - t)) (putAt ys i x) W' := by
  have hl := h.len
  obtain ⟨e1, e2, e3⟩ := putAt_tl ys i x hat.1
  rw [ht] at e1
  refine ⟨?_, fun y hy => ?_, ?_, hn, hb⟩
  · rw [e1, rowc_app]
    have : rowc (x :: ys.drop t) = x.cells ++ rowc (ys.drop t) := by simp [rowc]
    rw [this, ← List.append_assoc]
    exact hr
  · rw [e1] at hy
    rcases List.mem_append.1 hy with hy | hy
    · exact h.sub y (List.mem_of_mem_take hy)
    · rcases List.mem_cons.1 hy with rfl | hy
      · exact List.mem_of_getElem? hx
      · exact h.sub y (List.mem_of_mem_drop hy)
  · rw [put_at h.ris hat, h.is, take_at (ers_at hx), List.foldl_append]
    rfl
theorem box_src (W : World) (x : En) : Src Try.prog 3 30 (.slice (some ⟨W.heap.size, 0, none⟩) 1 1) 1 x.cells (W.alloc (.cells #[.slice x.ka x.e.key.length x.kc, .slice x.va x.e.val.length x.vc, .bool x.e.del] 85)) :=
  Src.ofSlice _ Try.underlying30 ⟨W.heap.size, 0, none⟩ 1 1 x.cells rfl (box_news W x) (cells_one x)
structure Rn (w W : World) (v : Value) (n : Nat) (cs : List Value) (W' : World) : Prop where
  low : Below w.heap.size w W'
  row : Rof W' 85 3 v n cs
  new : ∀ b, v.ownBlock = some b → W.heap.size ≤ b
  on : Below W.heap.size W W'
theorem rc_one {w W W1 w1 : World} {xs ys : List En} {k m j : Nat} {v v1 : Value} {cs : List Value} (h : Rc w xs k v m ys W) (hb : Below W.heap.size W W1) (hr : Rof w1 85 3 v1 j cs) (hg : W1.grownBy w1 (Value.slice none 0 0).ownBlock) (hf : ∀ k, v1.ownBlock = some k → (Value.slice none 0 0).ownBlock = some k ∨ W1.heap.size ≤ k) : Rn w W v1 j cs w1 := by
  have hb1 : Below W.heap.size W w1 := hb.grown hg hb.size (fun k hk => by simp [Value.ownBlock] at hk)
  refine ⟨h.below.trans (hb1.mono h.below.size), hr, fun b hb' => ?_, hb1⟩
  rcases hf b hb' with h1 | h1
  · simp [Value.ownBlock] at h1
  · have := hb.size; omega
theorem rc_two {w W W1 w1 w2 : World} {j n : Nat} {v1 v2 : Value} {cs cs' : List Value} (h : Rn w W v1 j cs w1) (hb : Below w1.heap.size w1 W1) (hW : w.heap.size ≤ W.heap.size) (hr : Rof w2 85 3 v2 n cs') (hg : W1.grownBy w2 v1.ownBlock) (hf : ∀ k, v2.ownBlock = some k → v1.ownBlock = some k ∨ W1.heap.size ≤ k) : Rn w W v2 n cs' w2 := by
  have hs : W.heap.size ≤ W1.heap.size := Nat.le_trans h.on.size hb.size
  have hb1 : Below W.heap.size W w2 := (h.on.trans (hb.mono h.on.size)).grown hg hs (fun k hk => h.new k hk)
  refine ⟨(h.low.trans (hb.mono h.low.size)).grown hg (by omega) (fun k hk => Nat.le_trans hW (h.new k hk)), hr, fun b hb' => ?_, hb1⟩
  rcases hf b hb' with h1 | h1
  · exact h.new b h1
  · omega
theorem tl_end {ys : List En} {j : Nat} (key : List Int) (h : ys.length ≤ j) : tl ys j key = j := by
  unfold tl ther
  rw [List.getElem?_eq_none h]
  rfl
theorem tl_at {ys : List En} {j : Nat} {y : En} {key : List Int} (h : ys[j]? = some y) : tl ys j key = if y.e.key = key then j + 1 else j := by
  unfold tl ther
  rw [h]
  by_cases hk : y.e.key = key <;> simp [hk]
theorem at_of {ys : List En} {j : Nat} {key : List Int} (hj : j ≤ ys.length) (hlo : ∀ q z, q < j → ys[q]? = some z → ordI z.e.key key < 0) (hhi : ∀ z, ys[j]? = some z → ¬ ordI z.e.key key < 0) : At (pge key) ys j := by
  refine ⟨hj, fun x h0 hx => ?_, fun x hx => ?_⟩
  · have := hlo (j - 1) x (by omega) hx
    simp only [pge, decide_eq_false_iff_not]; omega
  · have := hhi x hx
    simp only [pge, decide_eq_true_eq]; omega
theorem rn_on {w W W1 W2 : World} {v : Value} {n : Nat} {cs : List Value} (h : Rn w W v n cs W1) (hW : w.heap.size ≤ W.heap.size) (hb : Below W1.heap.size W1 W2) : Rn w W v n cs W2 := ⟨h.low.trans (hb.mono h.low.size), h.row.below hb, h.new, h.on.trans (hb.mono h.on.size)⟩
theorem one_below1 {w W : World} {q j : Nat} {v : Value} (hq : w.cell? ⟨q, j, none⟩ = some v) (hb : Below w.heap.size w W) : W.cell? ⟨q, j, none⟩ = some v := (hb.cell (p := ⟨q, j, none⟩) (World.block_lt_of_cell? w _ hq)).trans hq
set_option maxHeartbeats 6400000 in
set_option maxRecDepth 1000000 in
theorem rchanges_any {w : World} {p : Nat} {a : Option Addr} {n c : Nat} {xs : List En} (hp : w.cell? ⟨p, 0, none⟩ = some (.slice a n c)) (h : Ens w a n c xs) (hn : n ≤ 900000) :
    Calls Try.prog 12 #[.pointer (some ⟨p, 0, none⟩)] w fun e w' => ∃ v m ys, e = .returned v ∧ Rc w xs n v m ys w' := by
  obtain ⟨i0, hi, hz0, hz1, hz2⟩ := info_parts infoE2
  have HP := hide hp
  have HE := hide h
  have HR0 : Hid (Rc w xs 0 (.slice none 0 0) 0 [] w) := ⟨Rof.nil _ _ _, by simp, by simp [ers], by (intro b hb; simp [Value.ownBlock] at hb), Below.refl _ _⟩
  clear hp h
  go_enter Try.func12, Try.ntmps12
  go_wp2
  go_loopw [3, 4] (fun s i wr => ∃ (k m : Nat) (ys : List En), k ≤ n ∧ i = .int .i64 (k : Int) ∧ Rc w xs k s m ys wr) (fun _ i _ => n - (intOf i).toNat)
  case atStart => exact ⟨0, 0, [], Nat.zero_le _, rfl, HR0.out⟩
  case round =>
    obtain ⟨k, m, ys, hk, rfl, hrc⟩ := hrel
    have HRc := hide hrc
    have c0 : wr.cell? ⟨p, 0, none⟩ = some (.slice a n c) := one_below HP.out hrc.below
    have hml : m ≤ k := by
      have h1 := hrc.len
      have h2 := congrArg List.length hrc.is
      have h3 := fold_len ((ers xs).take k)
      rw [ers_len] at h2
      rw [List.length_take] at h3
      omega
    clear hrc
    by_cases hlt : k < n
    · obtain ⟨x, hx, hok⟩ := (HE.out.below HRc.out.below).at hlt
      obtain ⟨b, off, rfl, hbs, q0, q1, q2⟩ := (HE.out.below HRc.out.below).cells hx
      have d1 : (k : Int) < (n : Int) := by omega
      have HX := hide hx
      have HOk := hide hok
      clear hx hok
      obtain ⟨a0, cap, rfl, hcap, hmax, ha0, hspot⟩ := HRc.out.row.shape
      have hyl := HRc.out.len
      have d2 : (0 : Int) ≤ (k : Int) := by omega
      go_wp2
      go_loopw [5] (fun at_ wr' => ∃ j : Nat, j ≤ m ∧ at_ = .int .i64 (j : Int) ∧ Below wr.heap.size wr wr' ∧ ∀ q z, q < j → ys[q]? = some z → ordI z.e.key x.e.key < 0) (fun at_ _ => m - (intOf at_).toNat)
      case atStart => exact ⟨0, Nat.zero_le _, rfl, Below.refl _ _, fun q z hq => by omega⟩
      case round =>
        obtain ⟨j, hj, rfl, hbq, hlo⟩ := hrel
        have HRw := hide (HRc.out.on hbq)
        have HLo := hide hlo
        have HBq := hide hbq
        have HOkq := hide (HOk.out.below hbq)
        have c0q := one_below c0 hbq
        have HE1 := hide ((HE.out.below HRw.out.below).cells HX.out)
        obtain ⟨b_, off_, e_, hbs1, r0, r1, r2⟩ := HE1.out
        cases e_
        clear hlo hbq c0 q0 q1 q2 HE1 hbs1
        have f2 : (0 : Int) ≤ (j : Int) := by omega
        by_cases hjm : j < m
        · obtain ⟨g, o, cap', e_, -⟩ := HRw.out.row.lies (by omega)
          cases e_
          have hjl : j < ys.length := by omega
          obtain ⟨y, hy⟩ : ∃ y, ys[j]? = some y := ⟨_, List.getElem?_eq_getElem hjl⟩
          have s0 : wr.cell? ⟨g, o + j * 3, none⟩ = some (.slice y.ka y.e.key.length y.kc) := HRw.out.row.cell (rowc_at (j := 0) hy rfl)
          have hyo : y.Ok wr := (HE.out.below HRw.out.below).each y (HRw.out.sub y (List.mem_of_getElem? hy))
          have HYq := hide hyo
          have t1 : ∀ q, (convert 60 9 (.slice y.ka y.e.key.length y.kc)).run Try.prog (wr.drewN q) = .ok (.string (bk y.e.key)) (wr.drewN q) := fun q => text_inn (HYq.out.key.below (below_drewN (Below.refl _ _) q))
          have t2 : ∀ q, (convert 60 9 (.slice x.ka x.e.key.length x.kc)).run Try.prog (wr.drewN q) = .ok (.string (bk x.e.key)) (wr.drewN q) := fun q => text_inn (HOkq.out.key.below (below_drewN (Below.refl _ _) q))
          have k0 : ∀ q, (wr.drewN q).cell? ⟨g, o + j * 3, none⟩ = some (.slice y.ka y.e.key.length y.kc) := fun q => s0
          have k1 : ∀ q, (wr.drewN q).cell? ⟨b, off + k * 3, none⟩ = some (.slice x.ka x.e.key.length x.kc) := fun q => r0
          have k2 : ∀ q, (wr.drewN q).cell? ⟨p, 0, none⟩ = some (.slice (some ⟨b, off, none⟩) n c) := fun q => c0q
          have l1 := text_less y.e.key x.e.key hyo.key.byts HOkq.out.key.byts
          have e1 := text_eq y.e.key x.e.key hyo.key.byts HOkq.out.key.byts
          have HY := hide hy
          have f1 : (j : Int) < (m : Int) := by omega
          by_cases hlt2 : ordI y.e.key x.e.key < 0
          · rw [decide_eq_true hlt2] at l1
            have HLt := hide hlt2
            clear hlt2 hyo hy e1 s0 r0 r1 r2 c0q
            go_wp2
            go_quiet (fail)
            have HBn := hide (below_drewN HBq.out nq)
            clear t1 t2 k0 k1 k2 l1
            generalize wr.drewN nq = wn at *
            go_wp2
            go_roundw
            case rel => exact ⟨j + 1, by omega, by go_num, HBn.out, fun q z hq hz => by
              by_cases hqj : q = j
              · subst hqj
                rw [HY.out] at hz
                cases hz
                exact HLt.out
              · exact HLo.out q z (by omega) hz⟩
            case measure => simp [intOf]; omega
          · rw [decide_eq_false hlt2] at l1
            have HAt : Hid (At (pge x.e.key) ys j) := at_of (by omega) HLo.out (fun z hz => by
              rw [hy] at hz; cases hz; exact hlt2)
            clear hlt2 hyo hy
            go_wp2
            go_quiet (fail)
            have HBn := hide (below_drewN (Below.refl wr.heap.size wr) nq)
            have HRW := hide (HRw.out.on HBn.out)
            have HYo := hide (HYq.out.below HBn.out)
            have HOkn := hide (HOkq.out.below HBn.out)
            replace s0 := one_below1 s0 HBn.out
            replace r0 := one_below1 r0 HBn.out
            replace r1 := one_below1 r1 HBn.out
            replace r2 := one_below1 r2 HBn.out
            have c0n := one_below1 c0q HBn.out
            clear t1 t2 k0 k1 k2 l1 c0q HRw HYq HOkq HRc HOk HLo HBq HBn
            generalize wr.drewN nq = wn at *
            by_cases heq : y.e.key = x.e.key
            · rw [decide_eq_true heq] at e1
              have HTl : Hid (tl ys j x.e.key = j + 1) := by rw [Hid, tl_at HY.out, if_pos heq]
              clear heq
              by_cases hce : cap = j + 1
              · subst hce
                have HS1 : Hid (Src Try.prog 3 30 (.slice (some ⟨g, o, none⟩) j (j + 1)) j (rowc (ys.take j)) wn) := by
                  have h0 := HRW.out.row.src (P := Try.prog) (tx := 30) (k := j) (by omega) (j + 1) Try.underlying30 (rowc_one_cell ys)
                  rwa [← rowc_take] at h0
                have HS3 : Hid (∀ W', Below wn.heap.size wn W' → Src Try.prog 3 30 (.slice (some ⟨g, o, none⟩) 0 0) 0 (rowc (ys.drop (j + 1))) W') := fun W' hW => by
                  have e : ys.drop (j + 1) = [] := List.drop_of_length_le (by omega)
                  rw [e]
                  exact Src.ofSlice W' Try.underlying30 ⟨g, o, none⟩ 0 _ [] rfl (by simp) (by simp)
                have wj : IntKind.i64.wrap ((j : Int) + 1) = (j : Int) + 1 := by rw [IntKind.wrap_i64]; omega
                have e3 : (j : Int) + 1 ≤ (m : Int) := by omega
                have e4 : (0 : Int) ≤ (j : Int) + 1 := by omega
                have e5 : ((j : Int) + 1).toNat = j + 1 := by omega
                have e6 : (j : Int) ≤ ((j + 1) : Int) := by omega
                go_wp2_with (first | (at_builtin; refine wpList_append_off (by rfl) (.tmp 40) (.tmp 43) 30 30 85 (by rfl) i0 _ 3 Try.underlying30 hi hz0 hz1 (by rfl) (by omega) (.slice none 0 0) 0 [] (by rfl) (Rof.nil _ _ _) (.slice (some ⟨g, o, none⟩) j (j + 1)) j (rowc (ys.take j)) (by rfl) HS1.out (by rw [hz2]; omega) (by omega) ?_; intro v1 w1 hr1 hg1 hf1; have hr1' : Rof w1 85 3 v1 j (rowc (ys.take j)) := (by simpa only [Nat.zero_add, List.nil_append] using hr1); obtain ⟨a1, c1, rfl, -⟩ := hr1'.shape; have H1 := hide (rc_one HRW.out (Below.refl _ _) hr1' hg1 hf1); have p0 := one_below1 r0 H1.out.on; have p1 := one_below1 r1 H1.out.on; have p2 := one_below1 r2 H1.out.on; have g0 := one_below1 c0n H1.out.on; clear hr1 hr1' hg1 hf1 r1 r2) | (at_builtin; refine wpList_append_off (by rfl) (.tmp 45) (.tmp 53) 30 30 85 (by rfl) i0 _ 3 Try.underlying30 hi hz0 hz1 (by rfl) (by omega) (.slice a1 j c1) j (rowc (ys.take j)) (by rfl) (H1.out.row.below (below_alloc _ _)) (.slice (some ⟨w1.heap.size, 0, none⟩) 1 1) 1 x.cells (by rfl) (box_src w1 x) (by rw [hz2]; omega) (by omega) ?_; intro v2 w2 hr2 hg2 hf2; obtain ⟨a2, c2, rfl, -⟩ := hr2.shape; have H2 := hide (rc_two H1.out (below_alloc _ _) HRW.out.below.size hr2 hg2 hf2); have s2 : ∀ q, (w2.drewN q).cell? ⟨g, o + j * 3, none⟩ = some (.slice y.ka y.e.key.length y.kc) := fun q => one_below1 s0 (below_drewN H2.out.on q); have r02 : ∀ q, (w2.drewN q).cell? ⟨b, off + k * 3, none⟩ = some (.slice x.ka x.e.key.length x.kc) := fun q => one_below1 r0 (below_drewN H2.out.on q); have c02 : ∀ q, (w2.drewN q).cell? ⟨p, 0, none⟩ = some _ := fun q => one_below1 c0n (below_drewN H2.out.on q); have t12 : ∀ q, (convert 60 9 (.slice y.ka y.e.key.length y.kc)).run Try.prog (w2.drewN q) = .ok (.string (bk y.e.key)) (w2.drewN q) := fun q => text_inn (HYo.out.key.below (below_drewN H2.out.on q)); have t22 : ∀ q, (convert 60 9 (.slice x.ka x.e.key.length x.kc)).run Try.prog (w2.drewN q) = .ok (.string (bk x.e.key)) (w2.drewN q) := fun q => text_inn (HOkn.out.key.below (below_drewN H2.out.on q)); clear s0 r0 c0n; clear hr2 hg2 hf2 p0 p1 p2 g0))
                go_quiet (fail)
                have H2w := hide (rn_on H2.out HRW.out.below.size (below_drewN (Below.refl _ _) nq))
                clear s2 r02 c02 t12 t22 e1
                generalize w2.drewN nq = wm at *
                go_wp2_with ((at_builtin; refine wpList_append_off (by rfl) (.tmp 79) (.tmp 82) 30 30 85 (by rfl) i0 _ 3 Try.underlying30 hi hz0 hz1 (by rfl) (by omega) (.slice a2 (j + 1) c2) (j + 1) (rowc (ys.take j) ++ x.cells) (by rfl) H2w.out.row (.slice (some ⟨g, o, none⟩) 0 0) 0 (rowc (ys.drop (j + 1))) (by rfl) (HS3.out _ H2w.out.on) (by rw [hz2]; omega) (by omega) ?_; intro v3 w3 hr3 hg3 hf3; obtain ⟨a3, c3, rfl, -⟩ := hr3.shape; have H3 := hide (rc_two H2w.out (Below.refl _ _) HRW.out.below.size hr3 hg3 hf3); clear hr3 hg3 hf3))
                have HN := hide (HRW.out.next HX.out HAt.out HTl.out (by first | exact H3.out.row | (simpa using H3.out.row; done) | (have h0 : m - (j + 1) = 0 := (by omega); rw [h0]; exact H3.out.row)) (fun b hb => Nat.le_trans HRW.out.below.size (H3.out.new b hb)) H3.out.low)
                go_roundw
                case rel => exact ⟨k + 1, _, _, by omega, by go_num, HN.out⟩
                case measure => simp [intOf]; omega
              · skip
                have HS1 : Hid (Src Try.prog 3 30 (.slice (some ⟨g, o, none⟩) j cap) j (rowc (ys.take j)) wn) := by
                  have h0 := HRW.out.row.src (P := Try.prog) (tx := 30) (k := j) (by omega) cap Try.underlying30 (rowc_one_cell ys)
                  rwa [← rowc_take] at h0
                have HS3 : Hid (∀ W', Below wn.heap.size wn W' → Src Try.prog 3 30 (.slice (some ⟨g, o + (j + 1) * 3, none⟩) (m - (j + 1)) (cap - (j + 1))) (m - (j + 1)) (rowc (ys.drop (j + 1))) W') := fun W' hW => by
                  have h1 := (HRW.out.row.below hW).drop (k := (j + 1)) (by omega)
                  rw [← rowc_drop] at h1
                  have h2 := h1.src (P := Try.prog) (tx := 30) (k := (m - (j + 1))) (Nat.le_refl _) (cap - (j + 1)) Try.underlying30 (rowc_one_cell _)
                  rwa [List.take_of_length_le (by rw [h1.1]; exact Nat.le_refl _)] at h2
                have ec : ¬ cap = j + 1 := fun e => hce e
                have wj : IntKind.i64.wrap ((j : Int) + 1) = (j : Int) + 1 := by rw [IntKind.wrap_i64]; omega
                have e3 : (j : Int) + 1 ≤ (m : Int) := by omega
                have e4 : (0 : Int) ≤ (j : Int) + 1 := by omega
                have e5 : ((j : Int) + 1).toNat = j + 1 := by omega
                have e6 : (j : Int) ≤ (cap : Int) := by omega
                go_wp2_with (first | (at_builtin; refine wpList_append_off (by rfl) (.tmp 40) (.tmp 43) 30 30 85 (by rfl) i0 _ 3 Try.underlying30 hi hz0 hz1 (by rfl) (by omega) (.slice none 0 0) 0 [] (by rfl) (Rof.nil _ _ _) (.slice (some ⟨g, o, none⟩) j cap) j (rowc (ys.take j)) (by rfl) HS1.out (by rw [hz2]; omega) (by omega) ?_; intro v1 w1 hr1 hg1 hf1; have hr1' : Rof w1 85 3 v1 j (rowc (ys.take j)) := (by simpa only [Nat.zero_add, List.nil_append] using hr1); obtain ⟨a1, c1, rfl, -⟩ := hr1'.shape; have H1 := hide (rc_one HRW.out (Below.refl _ _) hr1' hg1 hf1); have p0 := one_below1 r0 H1.out.on; have p1 := one_below1 r1 H1.out.on; have p2 := one_below1 r2 H1.out.on; have g0 := one_below1 c0n H1.out.on; clear hr1 hr1' hg1 hf1 r1 r2) | (at_builtin; refine wpList_append_off (by rfl) (.tmp 45) (.tmp 53) 30 30 85 (by rfl) i0 _ 3 Try.underlying30 hi hz0 hz1 (by rfl) (by omega) (.slice a1 j c1) j (rowc (ys.take j)) (by rfl) (H1.out.row.below (below_alloc _ _)) (.slice (some ⟨w1.heap.size, 0, none⟩) 1 1) 1 x.cells (by rfl) (box_src w1 x) (by rw [hz2]; omega) (by omega) ?_; intro v2 w2 hr2 hg2 hf2; obtain ⟨a2, c2, rfl, -⟩ := hr2.shape; have H2 := hide (rc_two H1.out (below_alloc _ _) HRW.out.below.size hr2 hg2 hf2); have s2 : ∀ q, (w2.drewN q).cell? ⟨g, o + j * 3, none⟩ = some (.slice y.ka y.e.key.length y.kc) := fun q => one_below1 s0 (below_drewN H2.out.on q); have r02 : ∀ q, (w2.drewN q).cell? ⟨b, off + k * 3, none⟩ = some (.slice x.ka x.e.key.length x.kc) := fun q => one_below1 r0 (below_drewN H2.out.on q); have c02 : ∀ q, (w2.drewN q).cell? ⟨p, 0, none⟩ = some _ := fun q => one_below1 c0n (below_drewN H2.out.on q); have t12 : ∀ q, (convert 60 9 (.slice y.ka y.e.key.length y.kc)).run Try.prog (w2.drewN q) = .ok (.string (bk y.e.key)) (w2.drewN q) := fun q => text_inn (HYo.out.key.below (below_drewN H2.out.on q)); have t22 : ∀ q, (convert 60 9 (.slice x.ka x.e.key.length x.kc)).run Try.prog (w2.drewN q) = .ok (.string (bk x.e.key)) (w2.drewN q) := fun q => text_inn (HOkn.out.key.below (below_drewN H2.out.on q)); clear s0 r0 c0n; clear hr2 hg2 hf2 p0 p1 p2 g0))
                go_quiet (fail)
                have H2w := hide (rn_on H2.out HRW.out.below.size (below_drewN (Below.refl _ _) nq))
                clear s2 r02 c02 t12 t22 e1
                generalize w2.drewN nq = wm at *
                go_wp2_with ((at_builtin; refine wpList_append_off (by rfl) (.tmp 79) (.tmp 82) 30 30 85 (by rfl) i0 _ 3 Try.underlying30 hi hz0 hz1 (by rfl) (by omega) (.slice a2 (j + 1) c2) (j + 1) (rowc (ys.take j) ++ x.cells) (by rfl) H2w.out.row (.slice (some ⟨g, o + (j + 1) * 3, none⟩) (m - (j + 1)) (cap - (j + 1))) (m - (j + 1)) (rowc (ys.drop (j + 1))) (by rfl) (HS3.out _ H2w.out.on) (by rw [hz2]; omega) (by omega) ?_; intro v3 w3 hr3 hg3 hf3; obtain ⟨a3, c3, rfl, -⟩ := hr3.shape; have H3 := hide (rc_two H2w.out (Below.refl _ _) HRW.out.below.size hr3 hg3 hf3); clear hr3 hg3 hf3))
                have HN := hide (HRW.out.next HX.out HAt.out HTl.out (by first | exact H3.out.row | (simpa using H3.out.row; done) | (have h0 : m - (j + 1) = 0 := (by omega); rw [h0]; exact H3.out.row)) (fun b hb => Nat.le_trans HRW.out.below.size (H3.out.new b hb)) H3.out.low)
                go_roundw
                case rel => exact ⟨k + 1, _, _, by omega, by go_num, HN.out⟩
                case measure => simp [intOf]; omega
            · rw [decide_eq_false heq] at e1
              have HTl : Hid (tl ys j x.e.key = j) := by rw [Hid, tl_at HY.out, if_neg heq]
              clear heq
              have HS1 : Hid (Src Try.prog 3 30 (.slice (some ⟨g, o, none⟩) j cap) j (rowc (ys.take j)) wn) := by
                have h0 := HRW.out.row.src (P := Try.prog) (tx := 30) (k := j) (by omega) cap Try.underlying30 (rowc_one_cell ys)
                rwa [← rowc_take] at h0
              have HS3 : Hid (∀ W', Below wn.heap.size wn W' → Src Try.prog 3 30 (.slice (some ⟨g, o + j * 3, none⟩) (m - j) (cap - j)) (m - j) (rowc (ys.drop j)) W') := fun W' hW => by
                have h1 := (HRW.out.row.below hW).drop (k := j) (by omega)
                rw [← rowc_drop] at h1
                have h2 := h1.src (P := Try.prog) (tx := 30) (k := (m - j)) (Nat.le_refl _) (cap - j) Try.underlying30 (rowc_one_cell _)
                rwa [List.take_of_length_le (by rw [h1.1]; exact Nat.le_refl _)] at h2
              have e3 : (j : Int) ≤ (m : Int) := by omega
              have e6 : (j : Int) ≤ (cap : Int) := by omega
              have ec : ¬ cap = j := by omega
              go_wp2_with (first | (at_builtin; refine wpList_append_off (by rfl) (.tmp 40) (.tmp 43) 30 30 85 (by rfl) i0 _ 3 Try.underlying30 hi hz0 hz1 (by rfl) (by omega) (.slice none 0 0) 0 [] (by rfl) (Rof.nil _ _ _) (.slice (some ⟨g, o, none⟩) j cap) j (rowc (ys.take j)) (by rfl) HS1.out (by rw [hz2]; omega) (by omega) ?_; intro v1 w1 hr1 hg1 hf1; have hr1' : Rof w1 85 3 v1 j (rowc (ys.take j)) := (by simpa only [Nat.zero_add, List.nil_append] using hr1); obtain ⟨a1, c1, rfl, -⟩ := hr1'.shape; have H1 := hide (rc_one HRW.out (Below.refl _ _) hr1' hg1 hf1); have p0 := one_below1 r0 H1.out.on; have p1 := one_below1 r1 H1.out.on; have p2 := one_below1 r2 H1.out.on; have g0 := one_below1 c0n H1.out.on; clear hr1 hr1' hg1 hf1 r1 r2) | (at_builtin; refine wpList_append_off (by rfl) (.tmp 45) (.tmp 53) 30 30 85 (by rfl) i0 _ 3 Try.underlying30 hi hz0 hz1 (by rfl) (by omega) (.slice a1 j c1) j (rowc (ys.take j)) (by rfl) (H1.out.row.below (below_alloc _ _)) (.slice (some ⟨w1.heap.size, 0, none⟩) 1 1) 1 x.cells (by rfl) (box_src w1 x) (by rw [hz2]; omega) (by omega) ?_; intro v2 w2 hr2 hg2 hf2; obtain ⟨a2, c2, rfl, -⟩ := hr2.shape; have H2 := hide (rc_two H1.out (below_alloc _ _) HRW.out.below.size hr2 hg2 hf2); have s2 : ∀ q, (w2.drewN q).cell? ⟨g, o + j * 3, none⟩ = some (.slice y.ka y.e.key.length y.kc) := fun q => one_below1 s0 (below_drewN H2.out.on q); have r02 : ∀ q, (w2.drewN q).cell? ⟨b, off + k * 3, none⟩ = some (.slice x.ka x.e.key.length x.kc) := fun q => one_below1 r0 (below_drewN H2.out.on q); have c02 : ∀ q, (w2.drewN q).cell? ⟨p, 0, none⟩ = some _ := fun q => one_below1 c0n (below_drewN H2.out.on q); have t12 : ∀ q, (convert 60 9 (.slice y.ka y.e.key.length y.kc)).run Try.prog (w2.drewN q) = .ok (.string (bk y.e.key)) (w2.drewN q) := fun q => text_inn (HYo.out.key.below (below_drewN H2.out.on q)); have t22 : ∀ q, (convert 60 9 (.slice x.ka x.e.key.length x.kc)).run Try.prog (w2.drewN q) = .ok (.string (bk x.e.key)) (w2.drewN q) := fun q => text_inn (HOkn.out.key.below (below_drewN H2.out.on q)); clear s0 r0 c0n; clear hr2 hg2 hf2 p0 p1 p2 g0))
              go_quiet (fail)
              have H2w := hide (rn_on H2.out HRW.out.below.size (below_drewN (Below.refl _ _) nq))
              clear s2 r02 c02 t12 t22 e1
              generalize w2.drewN nq = wm at *
              go_wp2_with ((at_builtin; refine wpList_append_off (by rfl) (.tmp 79) (.tmp 82) 30 30 85 (by rfl) i0 _ 3 Try.underlying30 hi hz0 hz1 (by rfl) (by omega) (.slice a2 (j + 1) c2) (j + 1) (rowc (ys.take j) ++ x.cells) (by rfl) H2w.out.row (.slice (some ⟨g, o + j * 3, none⟩) (m - j) (cap - j)) (m - j) (rowc (ys.drop j)) (by rfl) (HS3.out _ H2w.out.on) (by rw [hz2]; omega) (by omega) ?_; intro v3 w3 hr3 hg3 hf3; obtain ⟨a3, c3, rfl, -⟩ := hr3.shape; have H3 := hide (rc_two H2w.out (Below.refl _ _) HRW.out.below.size hr3 hg3 hf3); clear hr3 hg3 hf3))
              have HN := hide (HRW.out.next HX.out HAt.out HTl.out (by first | exact H3.out.row | (simpa using H3.out.row; done) | (have h0 : m - (j + 1) = 0 := (by omega); rw [h0]; exact H3.out.row)) (fun b hb => Nat.le_trans HRW.out.below.size (H3.out.new b hb)) H3.out.low)
              go_roundw
              case rel => exact ⟨k + 1, _, _, by omega, by go_num, HN.out⟩
              case measure => simp [intOf]; omega
        · obtain rfl : j = m := by omega
          have HAt : Hid (At (pge x.e.key) ys j) := at_of (by omega) HLo.out (fun z hz => by
            rw [List.getElem?_eq_none (by omega)] at hz; cases hz)
          have HTl : Hid (tl ys j x.e.key = j) := tl_end _ (by omega)
          have f1 : ¬ (j : Int) < (j : Int) := by omega
          go_wp2
          go_quiet (fail)
          have HBn := hide (below_drewN (Below.refl wr.heap.size wr) nq)
          have HRW := hide (HRw.out.on HBn.out)
          replace r0 := one_below1 r0 HBn.out
          replace r1 := one_below1 r1 HBn.out
          replace r2 := one_below1 r2 HBn.out
          have c0n := one_below1 c0q HBn.out
          clear c0q HRw HOkq HRc HOk HLo HBq HBn
          generalize wr.drewN nq = wn at *
          rcases HRW.out.row.2 with ⟨e_, e0⟩ | ⟨g, o, cap', cur, e_, hg_⟩
          · subst e0
            cases e_
            have HS1 : Hid (Src Try.prog 3 30 (.slice none 0 0) 0 (rowc (ys.take 0)) wn) := by
              have e : rowc (ys.take 0) = [] := by simp [rowc]
              rw [e]
              exact Src.ofNil wn Try.underlying30 0
            have HS3 : Hid (∀ W', Below wn.heap.size wn W' → Src Try.prog 3 30 (.slice none 0 0) 0 (rowc (ys.drop 0)) W') := fun W' hW => by
              have e : ys = [] := List.eq_nil_of_length_eq_zero hyl
              rw [e]
              exact Src.ofNil W' Try.underlying30 0
            go_wp2_with (first | (at_builtin; refine wpList_append_off (by rfl) (.tmp 40) (.tmp 43) 30 30 85 (by rfl) i0 _ 3 Try.underlying30 hi hz0 hz1 (by rfl) (by omega) (.slice none 0 0) 0 [] (by rfl) (Rof.nil _ _ _) (.slice none 0 0) 0 (rowc (ys.take 0)) (by rfl) HS1.out (by rw [hz2]; omega) (by omega) ?_; intro v1 w1 hr1 hg1 hf1; have hr1' : Rof w1 85 3 v1 0 (rowc (ys.take 0)) := (by simpa only [Nat.zero_add, List.nil_append] using hr1); obtain ⟨a1, c1, rfl, -⟩ := hr1'.shape; have H1 := hide (rc_one HRW.out (Below.refl _ _) hr1' hg1 hf1); have p0 := one_below1 r0 H1.out.on; have p1 := one_below1 r1 H1.out.on; have p2 := one_below1 r2 H1.out.on; have g0 := one_below1 c0n H1.out.on; clear hr1 hr1' hg1 hf1 r1 r2 r0 c0n) | (at_builtin; refine wpList_append_off (by rfl) (.tmp 45) (.tmp 53) 30 30 85 (by rfl) i0 _ 3 Try.underlying30 hi hz0 hz1 (by rfl) (by omega) (.slice a1 0 c1) 0 (rowc (ys.take 0)) (by rfl) (H1.out.row.below (below_alloc _ _)) (.slice (some ⟨w1.heap.size, 0, none⟩) 1 1) 1 x.cells (by rfl) (box_src w1 x) (by rw [hz2]; omega) (by omega) ?_; intro v2 w2 hr2 hg2 hf2; obtain ⟨a2, c2, rfl, -⟩ := hr2.shape; have H2 := hide (rc_two H1.out (below_alloc _ _) HRW.out.below.size hr2 hg2 hf2); skip; clear hr2 hg2 hf2 p0 p1 p2 g0))
            go_quiet (fail)
            have H2w := hide (rn_on H2.out HRW.out.below.size (below_drewN (Below.refl _ _) nq))
            generalize w2.drewN nq = wm at *
            go_wp2_with ((at_builtin; refine wpList_append_off (by rfl) (.tmp 79) (.tmp 82) 30 30 85 (by rfl) i0 _ 3 Try.underlying30 hi hz0 hz1 (by rfl) (by omega) (.slice a2 (0 + 1) c2) (0 + 1) (rowc (ys.take 0) ++ x.cells) (by rfl) H2w.out.row (.slice none 0 0) 0 (rowc (ys.drop 0)) (by rfl) (HS3.out _ H2w.out.on) (by rw [hz2]; omega) (by omega) ?_; intro v3 w3 hr3 hg3 hf3; obtain ⟨a3, c3, rfl, -⟩ := hr3.shape; have H3 := hide (rc_two H2w.out (Below.refl _ _) HRW.out.below.size hr3 hg3 hf3); clear hr3 hg3 hf3))
            have HN := hide (HRW.out.next HX.out HAt.out HTl.out (by first | exact H3.out.row | (simpa using H3.out.row; done) | (have h0 : m - (j + 1) = 0 := (by omega); rw [h0]; exact H3.out.row)) (fun b hb => Nat.le_trans HRW.out.below.size (H3.out.new b hb)) H3.out.low)
            go_roundw
            case rel => exact ⟨k + 1, _, _, by omega, by go_num, HN.out⟩
            case measure => simp [intOf]; omega
          · clear hg_
            cases e_
            by_cases hce : cap = j
            · have hce' : j = cap := hce.symm
              subst hce'
              have HS1 : Hid (Src Try.prog 3 30 (.slice (some ⟨g, o, none⟩) j j) j (rowc (ys.take j)) wn) := by
                have h0 := HRW.out.row.src (P := Try.prog) (tx := 30) (k := j) (by omega) j Try.underlying30 (rowc_one_cell ys)
                rwa [← rowc_take] at h0
              have HS3 : Hid (∀ W', Below wn.heap.size wn W' → Src Try.prog 3 30 (.slice (some ⟨g, o, none⟩) 0 0) 0 (rowc (ys.drop j)) W') := fun W' hW => by
                have e : ys.drop j = [] := List.drop_of_length_le (by omega)
                rw [e]
                exact Src.ofSlice W' Try.underlying30 ⟨g, o, none⟩ 0 _ [] rfl (by simp) (by simp)
              have e3 : (j : Int) ≤ (j : Int) := by omega
              go_wp2_with (first | (at_builtin; refine wpList_append_off (by rfl) (.tmp 40) (.tmp 43) 30 30 85 (by rfl) i0 _ 3 Try.underlying30 hi hz0 hz1 (by rfl) (by omega) (.slice none 0 0) 0 [] (by rfl) (Rof.nil _ _ _) (.slice (some ⟨g, o, none⟩) j j) j (rowc (ys.take j)) (by rfl) HS1.out (by rw [hz2]; omega) (by omega) ?_; intro v1 w1 hr1 hg1 hf1; have hr1' : Rof w1 85 3 v1 j (rowc (ys.take j)) := (by simpa only [Nat.zero_add, List.nil_append] using hr1); obtain ⟨a1, c1, rfl, -⟩ := hr1'.shape; have H1 := hide (rc_one HRW.out (Below.refl _ _) hr1' hg1 hf1); have p0 := one_below1 r0 H1.out.on; have p1 := one_below1 r1 H1.out.on; have p2 := one_below1 r2 H1.out.on; have g0 := one_below1 c0n H1.out.on; clear hr1 hr1' hg1 hf1 r1 r2 r0 c0n) | (at_builtin; refine wpList_append_off (by rfl) (.tmp 45) (.tmp 53) 30 30 85 (by rfl) i0 _ 3 Try.underlying30 hi hz0 hz1 (by rfl) (by omega) (.slice a1 j c1) j (rowc (ys.take j)) (by rfl) (H1.out.row.below (below_alloc _ _)) (.slice (some ⟨w1.heap.size, 0, none⟩) 1 1) 1 x.cells (by rfl) (box_src w1 x) (by rw [hz2]; omega) (by omega) ?_; intro v2 w2 hr2 hg2 hf2; obtain ⟨a2, c2, rfl, -⟩ := hr2.shape; have H2 := hide (rc_two H1.out (below_alloc _ _) HRW.out.below.size hr2 hg2 hf2); skip; clear hr2 hg2 hf2 p0 p1 p2 g0))
              go_quiet (fail)
              have H2w := hide (rn_on H2.out HRW.out.below.size (below_drewN (Below.refl _ _) nq))
              generalize w2.drewN nq = wm at *
              go_wp2_with ((at_builtin; refine wpList_append_off (by rfl) (.tmp 79) (.tmp 82) 30 30 85 (by rfl) i0 _ 3 Try.underlying30 hi hz0 hz1 (by rfl) (by omega) (.slice a2 (j + 1) c2) (j + 1) (rowc (ys.take j) ++ x.cells) (by rfl) H2w.out.row (.slice (some ⟨g, o, none⟩) 0 0) 0 (rowc (ys.drop j)) (by rfl) (HS3.out _ H2w.out.on) (by rw [hz2]; omega) (by omega) ?_; intro v3 w3 hr3 hg3 hf3; obtain ⟨a3, c3, rfl, -⟩ := hr3.shape; have H3 := hide (rc_two H2w.out (Below.refl _ _) HRW.out.below.size hr3 hg3 hf3); clear hr3 hg3 hf3))
              have HN := hide (HRW.out.next HX.out HAt.out HTl.out (by first | exact H3.out.row | (simpa using H3.out.row; done) | (have h0 : m - (j + 1) = 0 := (by omega); rw [h0]; exact H3.out.row)) (fun b hb => Nat.le_trans HRW.out.below.size (H3.out.new b hb)) H3.out.low)
              go_roundw
              case rel => exact ⟨k + 1, _, _, by omega, by go_num, HN.out⟩
              case measure => simp [intOf]; omega
            · skip
              have HS1 : Hid (Src Try.prog 3 30 (.slice (some ⟨g, o, none⟩) j cap) j (rowc (ys.take j)) wn) := by
                have h0 := HRW.out.row.src (P := Try.prog) (tx := 30) (k := j) (by omega) cap Try.underlying30 (rowc_one_cell ys)
                rwa [← rowc_take] at h0
              have HS3 : Hid (∀ W', Below wn.heap.size wn W' → Src Try.prog 3 30 (.slice (some ⟨g, o + j * 3, none⟩) 0 (cap - j)) 0 (rowc (ys.drop j)) W') := fun W' hW => by
                have h1 := (HRW.out.row.below hW).drop (k := j) (by omega)
                rw [← rowc_drop, Nat.sub_self] at h1
                have h2 := h1.src (P := Try.prog) (tx := 30) (k := 0) (Nat.le_refl _) (cap - j) Try.underlying30 (rowc_one_cell _)
                rwa [List.take_of_length_le (by rw [h1.1]; exact Nat.le_refl _)] at h2
              have e3 : (j : Int) ≤ (cap : Int) := by omega
              have ec : ¬ cap = j := fun e => hce e
              go_wp2_with (first | (at_builtin; refine wpList_append_off (by rfl) (.tmp 40) (.tmp 43) 30 30 85 (by rfl) i0 _ 3 Try.underlying30 hi hz0 hz1 (by rfl) (by omega) (.slice none 0 0) 0 [] (by rfl) (Rof.nil _ _ _) (.slice (some ⟨g, o, none⟩) j cap) j (rowc (ys.take j)) (by rfl) HS1.out (by rw [hz2]; omega) (by omega) ?_; intro v1 w1 hr1 hg1 hf1; have hr1' : Rof w1 85 3 v1 j (rowc (ys.take j)) := (by simpa only [Nat.zero_add, List.nil_append] using hr1); obtain ⟨a1, c1, rfl, -⟩ := hr1'.shape; have H1 := hide (rc_one HRW.out (Below.refl _ _) hr1' hg1 hf1); have p0 := one_below1 r0 H1.out.on; have p1 := one_below1 r1 H1.out.on; have p2 := one_below1 r2 H1.out.on; have g0 := one_below1 c0n H1.out.on; clear hr1 hr1' hg1 hf1 r1 r2 r0 c0n) | (at_builtin; refine wpList_append_off (by rfl) (.tmp 45) (.tmp 53) 30 30 85 (by rfl) i0 _ 3 Try.underlying30 hi hz0 hz1 (by rfl) (by omega) (.slice a1 j c1) j (rowc (ys.take j)) (by rfl) (H1.out.row.below (below_alloc _ _)) (.slice (some ⟨w1.heap.size, 0, none⟩) 1 1) 1 x.cells (by rfl) (box_src w1 x) (by rw [hz2]; omega) (by omega) ?_; intro v2 w2 hr2 hg2 hf2; obtain ⟨a2, c2, rfl, -⟩ := hr2.shape; have H2 := hide (rc_two H1.out (below_alloc _ _) HRW.out.below.size hr2 hg2 hf2); skip; clear hr2 hg2 hf2 p0 p1 p2 g0))
              go_quiet (fail)
              have H2w := hide (rn_on H2.out HRW.out.below.size (below_drewN (Below.refl _ _) nq))
              generalize w2.drewN nq = wm at *
              go_wp2_with ((at_builtin; refine wpList_append_off (by rfl) (.tmp 79) (.tmp 82) 30 30 85 (by rfl) i0 _ 3 Try.underlying30 hi hz0 hz1 (by rfl) (by omega) (.slice a2 (j + 1) c2) (j + 1) (rowc (ys.take j) ++ x.cells) (by rfl) H2w.out.row (.slice (some ⟨g, o + j * 3, none⟩) 0 (cap - j)) 0 (rowc (ys.drop j)) (by rfl) (HS3.out _ H2w.out.on) (by rw [hz2]; omega) (by omega) ?_; intro v3 w3 hr3 hg3 hf3; obtain ⟨a3, c3, rfl, -⟩ := hr3.shape; have H3 := hide (rc_two H2w.out (Below.refl _ _) HRW.out.below.size hr3 hg3 hf3); clear hr3 hg3 hf3))
              have HN := hide (HRW.out.next HX.out HAt.out HTl.out (by first | exact H3.out.row | (simpa using H3.out.row; done) | (have h0 : m - (j + 1) = 0 := (by omega); rw [h0]; exact H3.out.row)) (fun b hb => Nat.le_trans HRW.out.below.size (H3.out.new b hb)) H3.out.low)
              go_roundw
              case rel => exact ⟨k + 1, _, _, by omega, by go_num, HN.out⟩
              case measure => simp [intOf]; omega
    · obtain rfl : k = n := by omega
      have d1 : ¬ ((k : Int) < (k : Int)) := by omega
      go_wp2
      go_ret
      exact ⟨_, rfl, m, ys, HRc.out⟩
end Go.Proofs.Ytgohhlngnnmknaa
