/- Next and Prev of the package. -/
import Derived.Test.YtgohhlngnnmknaaPI
import Derived.Test.YtgohhlngnnmknaaRS
namespace Go.Proofs.Ytgohhlngnnmknaa
open Go.RowKit Go.Maps
set_option linter.unusedVariables false

theorem run_equalIn_func {P : Program} (w : World) (d : Nat) (t : TypeId) (f : Fn) (a b : Array Value) (x : _) (y : _) (z : _) (h : P.underlying t = some (.func x y z)) : (Op.equalIn (d + 1) t (.func f a b) .nilFunc).run P w = .ok false w := by
  simp [Op.equalIn, run_underlying h]
theorem run_equal_func {P : Program} (w : World) (t : TypeId) (f : Fn) (a b : Array Value) (x : _) (y : _) (z : _) (h : P.underlying t = some (.func x y z)) : (Op.equal t (.func f a b) .nilFunc).run P w = .ok false w := run_equalIn_func w 9999 t f a b x y z h
set_option maxHeartbeats 1600000 in
set_option maxRecDepth 1000000 in
theorem newView_any (p : Nat) (bl wf : Value) (st : Int) (w : World) (hbl : ∃ f a b, bl = .func f a b) (hwf : ∃ f a b, wf = .func f a b) : Calls Try.prog 69 #[.pointer (some ⟨p, 0, none⟩), bl, .agg #[wf, .int .i64 st]] w fun e w' => e = .returned (.agg #[.pointer (some ⟨p, 0, none⟩), bl, wf, .int .i64 st]) ∧ Below w.heap.size w w' := by
  obtain ⟨f1, a1, b1, rfl⟩ := hbl
  obtain ⟨f2, a2, b2, rfl⟩ := hwf
  have hB := two_alloc (w := w) (.cells #[.func f2 a2 b2, .int .i64 st] 124) (.cells #[.pointer none, .nilFunc, .nilFunc, .int .i64 0] 126)
  have HB := hide hB
  have hq : ∀ W : World, (binOp .eql 81 (.func f1 a1 b1) .nilFunc).run Try.prog W = .ok (.bool false) W := fun W => by
    simp only [binOp]
    simp [run_equal_func W 81 f1 a1 b1 _ _ _ Try.underlying81]
  have hv := (Below.heap_alloc (w.alloc (.cells #[.func f2 a2 b2, .int .i64 st] 124)) (.cells #[.pointer none, .nilFunc, .nilFunc, .int .i64 0] 126) _ (by simp : w.heap.size < _)).trans (heap_alloc_new w (.cells #[.func f2 a2 b2, .int .i64 st] 124))
  obtain ⟨y0, y1, yf⟩ := cells_two hv
  clear hB hv
  go_enter Try.func69, Try.ntmps69
  go_wp2
  refine bodyPost_ret (v := .agg #[.pointer (some ⟨p, 0, none⟩), .func f1 a1 b1, .func f2 a2 b2, .int .i64 st]) ?_ rfl ?_
  · simp [results, Try.results69, go_sem]
  · exact ⟨rfl, two_alloc _ _⟩
set_option maxHeartbeats 800000 in
theorem rise_any (w : World) : Calls Try.prog 70 #[] w fun e w' => e = .returned (.agg #[.func (.func 76) #[] #[], .int .i64 1]) ∧ Below w.heap.size w w' := by
  go_enter Try.func70, Try.ntmps70
  go_wp2
  refine bodyPost_ret (v := .agg #[.func (.func 76) #[] #[], .int .i64 1]) ?_ rfl ?_
  · simp [results, Try.results70, go_sem]
  · exact ⟨rfl, below_alloc _ _⟩
set_option maxHeartbeats 3200000 in
set_option maxRecDepth 1000000 in
theorem seenU_any {w : World} {p B q n c k0 : Nat} {a : Option Addr} {sv uv : Value} {xs us : List En} {vs : List Value} (h : Bf w p B sv uv xs vs) (hr : Ris (ers xs)) (hb : Bl w q a n c us k0) (hwr : k0 ≤ 10000000) (fa : Option Addr) (fn fc : Nat) (frm : List Int) (inn : Bool) (hf : Inn w fa fn fc frm) (hfl : fn ≤ 140737488351232) (hn : n ≤ 1000000) (hxn : xs.length ≤ 900000) (hw : ∀ x ∈ xs, x.e.key.length ≤ 140737488351232 ∧ x.e.val.length ≤ 140737488351232) (hus : ∀ x ∈ us, x.e.key.length ≤ 140737488351232 ∧ x.e.val.length ≤ 140737488351232) (R : Option Ee × Nat × Nat) (hR : R = firstU (ers xs) (ers us) k0 frm inn) :
    Calls Try.prog 16 #[.pointer (some ⟨p, 0, none⟩), .func (.func 17) #[.pointer (some ⟨q, 0, none⟩)] #[], .slice fa fn fc, .bool inn] w (FirstOut w q a n c us R) := by
  have hB1 := below_alloc w (.cells #[.slice none 0 0, .slice none 0 0] 74)
  have hz1 := heap_alloc_new w (.cells #[.slice none 0 0, .slice none 0 0] 74)
  have hqlt := lt_of_block hb.blk
  have HFi := hide (fun W (hW : Below w.heap.size w W) => firstU_any (h.below hW) hr (hb.low hW hqlt (Nat.le_refl _)) hwr fa fn fc frm inn (hf.below hW) hfl hn hxn hw hus R hR)
  have HB1 := hide hB1
  have Hz1 := hide hz1
  have hs1 : (w.alloc (.cells #[.slice none 0 0, .slice none 0 0] 74)).heap.size = w.heap.size + 1 := by simp
  clear h hr hb hf hw hus hR hB1 hz1
  go_enter Try.func16, Try.ntmps16
  go_wp2_with (first
    | (go_at_call 70; refine (rise_any _).mono ?_; rintro e w2 ⟨rfl, hb2⟩; have HB2 := hide (HB1.out.trans (hb2.mono HB1.out.size)); have HB2s := hide hb2; clear hb2)
    | (go_at_call 69; refine (newView_any p _ _ 1 _ ⟨_, _, _, rfl⟩ ⟨_, _, _, rfl⟩).mono ?_; rintro e w3 ⟨rfl, hb3⟩; have HB3 := hide (HB2.out.trans (hb3.mono HB2.out.size)); have HB3s := hide (HB2s.out.trans (hb3.mono HB2s.out.size)); clear hb3)
    | (go_at_call 71; refine (HFi.out _ HB3.out).mono ?_; rintro e w4 ⟨y, rfl, hy1, hy2, hyo, hm4, hbl4⟩; have hs3 := HB3s.out.size; have hz4 := (hm4.block _ (Nat.lt_of_lt_of_le (lt_of_block Hz1.out) hs3) (by omega)).trans ((HB3s.out.block _ (lt_of_block Hz1.out)).trans Hz1.out); obtain ⟨z0, z1, zf⟩ := cells_two hz4; have zf1 : w4.frozen? ⟨w.heap.size, 1, none⟩ = false := (by simp [World.frozen?, hz4]); have HZ4 := hide hz4; have HY1 := hide hy1; have HY2 := hide hy2; have HYo := hide hyo; have HM4 := hide hm4; have HBl4 := hide hbl4; clear hz4 hy1 hy2 hyo hm4 hbl4)
    | fail)
  have hfin := two_set2 (u := .slice y.ka y.e.key.length y.kc) (v := .slice y.va y.e.val.length y.vc) HZ4.out
  obtain ⟨q0, q1, -⟩ := cells_two hfin
  refine bodyPost_ret (v := .tuple #[.agg #[.slice y.ka y.e.key.length y.kc, .slice y.va y.e.val.length y.vc], .bool R.1.isSome, .int .u16 (R.2.1 : Int)]) ?_ rfl ?_
  · simp [results, Try.results16, go_sem, q0, q1]
  · have hmW : Mv (fun k => k = q) w w4 := (Mv.of_below HB3.out).trans' HM4.out
    have hE : Below w.heap.size w4 ((w4.setCell ⟨w.heap.size, 0, none⟩ (.slice y.ka y.e.key.length y.kc)).setCell ⟨w.heap.size, 1, none⟩ (.slice y.va y.e.val.length y.vc)) := two_set_below ((Below.refl w4.heap.size w4).mono hmW.size) (Nat.le_refl _)
    exact ⟨y, rfl, HY1.out, HY2.out, (HYo.out.move fun k hk1 hk2 => two_other (by omega)).mono (by omega), mv_below hmW hE (Nat.le_refl _), HBl4.out.low hE hqlt hmW.size⟩
set_option maxHeartbeats 800000 in
theorem fall_any (w : World) : Calls Try.prog 72 #[] w fun e w' => e = .returned (.agg #[.func (.func 78) #[] #[], .int .i64 (-1)]) ∧ Below w.heap.size w w' := by
  go_enter Try.func72, Try.ntmps72
  go_wp2
  refine bodyPost_ret (v := .agg #[.func (.func 78) #[] #[], .int .i64 (-1)]) ?_ rfl ?_
  · simp [results, Try.results72, go_sem]
  · exact ⟨rfl, below_alloc _ _⟩
set_option maxHeartbeats 3200000 in
set_option maxRecDepth 1000000 in
theorem seenD_any {w : World} {p B q n c k0 : Nat} {a : Option Addr} {sv uv : Value} {xs us : List En} {vs : List Value} (h : Bf w p B sv uv xs vs) (hr : Ris (ers xs)) (hb : Bl w q a n c us k0) (hwr : k0 ≤ 10000000) (fa : Option Addr) (fn fc : Nat) (frm : List Int) (inn : Bool) (hf : Inn w fa fn fc frm) (hfl : fn ≤ 140737488351232) (hn : n ≤ 1000000) (hxn : xs.length ≤ 900000) (hw : ∀ x ∈ xs, x.e.key.length ≤ 140737488351232 ∧ x.e.val.length ≤ 140737488351232) (hus : ∀ x ∈ us, x.e.key.length ≤ 140737488351232 ∧ x.e.val.length ≤ 140737488351232) (R : Option Ee × Nat × Nat) (hR : R = firstD (ers xs) (ers us) k0 frm inn) :
    Calls Try.prog 18 #[.pointer (some ⟨p, 0, none⟩), .func (.func 19) #[.pointer (some ⟨q, 0, none⟩)] #[], .slice fa fn fc, .bool inn] w (FirstOut w q a n c us R) := by
  have hB1 := below_alloc w (.cells #[.slice none 0 0, .slice none 0 0] 74)
  have hz1 := heap_alloc_new w (.cells #[.slice none 0 0, .slice none 0 0] 74)
  have hqlt := lt_of_block hb.blk
  have HFi := hide (fun W (hW : Below w.heap.size w W) => firstD_any (h.below hW) hr (hb.low hW hqlt (Nat.le_refl _)) hwr fa fn fc frm inn (hf.below hW) hfl hn hxn hw hus R hR)
  have HB1 := hide hB1
  have Hz1 := hide hz1
  have hs1 : (w.alloc (.cells #[.slice none 0 0, .slice none 0 0] 74)).heap.size = w.heap.size + 1 := by simp
  clear h hr hb hf hw hus hR hB1 hz1
  go_enter Try.func18, Try.ntmps18
  go_wp2_with (first
    | (go_at_call 72; refine (fall_any _).mono ?_; rintro e w2 ⟨rfl, hb2⟩; have HB2 := hide (HB1.out.trans (hb2.mono HB1.out.size)); have HB2s := hide hb2; clear hb2)
    | (go_at_call 69; refine (newView_any p _ _ (-1) _ ⟨_, _, _, rfl⟩ ⟨_, _, _, rfl⟩).mono ?_; rintro e w3 ⟨rfl, hb3⟩; have HB3 := hide (HB2.out.trans (hb3.mono HB2.out.size)); have HB3s := hide (HB2s.out.trans (hb3.mono HB2s.out.size)); clear hb3)
    | (go_at_call 71; refine (HFi.out _ HB3.out).mono ?_; rintro e w4 ⟨y, rfl, hy1, hy2, hyo, hm4, hbl4⟩; have hs3 := HB3s.out.size; have hz4 := (hm4.block _ (Nat.lt_of_lt_of_le (lt_of_block Hz1.out) hs3) (by omega)).trans ((HB3s.out.block _ (lt_of_block Hz1.out)).trans Hz1.out); obtain ⟨z0, z1, zf⟩ := cells_two hz4; have zf1 : w4.frozen? ⟨w.heap.size, 1, none⟩ = false := (by simp [World.frozen?, hz4]); have HZ4 := hide hz4; have HY1 := hide hy1; have HY2 := hide hy2; have HYo := hide hyo; have HM4 := hide hm4; have HBl4 := hide hbl4; clear hz4 hy1 hy2 hyo hm4 hbl4)
    | fail)
  have hfin := two_set2 (u := .slice y.ka y.e.key.length y.kc) (v := .slice y.va y.e.val.length y.vc) HZ4.out
  obtain ⟨q0, q1, -⟩ := cells_two hfin
  refine bodyPost_ret (v := .tuple #[.agg #[.slice y.ka y.e.key.length y.kc, .slice y.va y.e.val.length y.vc], .bool R.1.isSome, .int .u16 (R.2.1 : Int)]) ?_ rfl ?_
  · simp [results, Try.results18, go_sem, q0, q1]
  · have hmW : Mv (fun k => k = q) w w4 := (Mv.of_below HB3.out).trans' HM4.out
    have hE : Below w.heap.size w4 ((w4.setCell ⟨w.heap.size, 0, none⟩ (.slice y.ka y.e.key.length y.kc)).setCell ⟨w.heap.size, 1, none⟩ (.slice y.va y.e.val.length y.vc)) := two_set_below ((Below.refl w4.heap.size w4).mono hmW.size) (Nat.le_refl _)
    exact ⟨y, rfl, HY1.out, HY2.out, (HYo.out.move fun k hk1 hk2 => two_other (by omega)).mono (by omega), mv_below hmW hE (Nat.le_refl _), HBl4.out.low hE hqlt hmW.size⟩
end Go.Proofs.Ytgohhlngnnmknaa
/- How often what lies below is asked for what is seen first. -/
namespace Go.Proofs.Ytgohhlngnnmknaa
open Go.RowKit Go.Maps
set_option linter.unusedVariables false

theorem bhU_self (key : List Int) : bhU key key false = false := by simp [bhU, ordI_self]
/-- behind a key that is behind a place. -/
theorem bhU_trans {key p frm : List Int} {inn : Bool} (h1 : bhU key p false = true) (h2 : bhU p frm inn = true) : bhU key frm inn = true := by
  have h1' : 0 < ordI key p := by simpa [bhU] using h1
  have a1 := ordI_anti key p
  have hp : ordI p key < 0 := by omega
  have hgt : ∀ z, 0 ≤ ordI p z → 0 < ordI key z := fun z hz => by
    have a2 := ordI_anti p z
    have a3 := ordI_anti key z
    have := ordI_trans_lt p key z hp
    by_cases hk : ordI key z ≤ 0
    · have := this hk; omega
    · omega
  have h2' : 0 < ordI p frm ∨ (inn = true ∧ (ordI p frm = 0 ∨ frm.length = 0)) := by simpa [bhU] using h2
  rcases h2' with h | ⟨hi, h | h⟩
  · have := hgt frm (by omega); simp [bhU, this]
  · have := hgt frm (by omega); simp [bhU, this]
  · simp [bhU, hi, h]
theorem bhD_self (key : List Int) : bhD key key false = false := by simp [bhD, ordI_self]
theorem bhD_trans {key p frm : List Int} {inn : Bool} (h1 : bhD key p false = true) (h2 : bhD p frm inn = true) : bhD key frm inn = true := by
  have h1' : ordI key p < 0 := by simpa [bhD] using h1
  have hlt : ∀ z, ordI p z ≤ 0 → ordI key z < 0 := fun z hz => ordI_trans_lt key p z h1' hz
  have h2' : ordI p frm < 0 ∨ (inn = true ∧ (ordI p frm = 0 ∨ frm.length = 0)) := by simpa [bhD] using h2
  rcases h2' with h | ⟨hi, h | h⟩
  · have := hlt frm (by omega); simp [bhD, this]
  · have := hlt frm (by omega); simp [bhD, this]
  · simp [bhD, hi, h]
/-- how many of what lies below come behind a place. -/
def cntU (us : List Ee) (frm : List Int) (inn : Bool) : Nat := (us.filter (fun e => bhU e.key frm inn)).length
def cntD (us : List Ee) (frm : List Int) (inn : Bool) : Nat := (us.filter (fun e => bhD e.key frm inn)).length
theorem filter_lt {α : Type} (P Q : α → Bool) (hPQ : ∀ x, P x = true → Q x = true) : ∀ (l : List α) (x : α), x ∈ l → P x = false → Q x = true → (l.filter P).length < (l.filter Q).length
  | [], x, h, _, _ => by simp at h
  | y :: l, x, h, hp, hq => by
    have hle : (l.filter P).length ≤ (l.filter Q).length := by
      have : l.filter P = (l.filter Q).filter P := by
        rw [List.filter_filter]
        apply List.filter_congr
        intro z _
        by_cases hz : P z = true
        · simp [hz, hPQ z hz]
        · simp [hz]
      rw [this]
      exact List.length_filter_le _ _
    rcases List.mem_cons.1 h with rfl | h
    · rw [List.filter_cons_of_neg (by simp [hp]), List.filter_cons_of_pos hq]
      simp only [List.length_cons]; omega
    · have ih := filter_lt P Q hPQ l x h hp hq
      by_cases hy : P y = true
      · rw [List.filter_cons_of_pos hy, List.filter_cons_of_pos (hPQ y hy)]
        simp only [List.length_cons]; omega
      · rw [List.filter_cons_of_neg hy]
        by_cases hy2 : Q y = true
        · rw [List.filter_cons_of_pos hy2]; simp only [List.length_cons]; omega
        · rw [List.filter_cons_of_neg hy2]; exact ih
theorem cntU_next {us : List Ee} {frm : List Int} {inn : Bool} {p : Ee} (h : nxU us frm inn = some p) : cntU us p.key false < cntU us frm inn := by
  have hm := List.mem_of_find?_eq_some h
  have hb : bhU p.key frm inn = true := by have := List.find?_some h; simpa using this
  exact filter_lt _ _ (fun x hx => bhU_trans hx hb) us p hm (bhU_self p.key) hb
theorem cntD_next {us : List Ee} {frm : List Int} {inn : Bool} {p : Ee} (h : nxD us frm inn = some p) : cntD us p.key false < cntD us frm inn := by
  have hm : p ∈ us := List.mem_reverse.1 (List.mem_of_find?_eq_some h)
  have hb : bhD p.key frm inn = true := by have := List.find?_some h; simpa using this
  exact filter_lt _ _ (fun x hx => bhD_trans hx hb) us p hm (bhD_self p.key) hb
/-- with questions enough it asks some number of them, and tells no error; with fewer than these, the error; with as many or more, the same. -/
theorem firstU_asks (es us : List Ee) : ∀ (c : Nat) (frm : List Int) (inn : Bool), cntU us frm inn ≤ c → ∃ (r : Option Ee) (d : Nat), 1 ≤ d ∧ d ≤ c + 1 ∧ (∀ k, d ≤ k → firstU es us k frm inn = (r, 0, k - d)) ∧ (∀ k, k < d → firstU es us k frm inn = (none, 6, 0))
  | c, frm, inn, hc => by
    cases hp : putU es frm inn ((nxU us frm inn).map Ee.key) with
    | some e =>
      refine ⟨some e, 1, Nat.le_refl _, by omega, fun k hk => ?_, fun k hk => ?_⟩
      · obtain ⟨k, rfl⟩ : ∃ j, k = j + 1 := ⟨k - 1, by omega⟩
        simp [firstU, hp]
      · obtain rfl : k = 0 := by omega
        rfl
    | none =>
      cases hn : nxU us frm inn with
      | none =>
        refine ⟨none, 1, Nat.le_refl _, by omega, fun k hk => ?_, fun k hk => ?_⟩
        · obtain ⟨k, rfl⟩ : ∃ j, k = j + 1 := ⟨k - 1, by omega⟩
          rw [hn] at hp
          simp only [firstU, hn, hp]
          simp
        · obtain rfl : k = 0 := by omega
          rfl
      | some p =>
        rw [hn] at hp
        by_cases hl : (lk es p.key).isSome = true
        · have hlt := cntU_next hn
          obtain ⟨c, rfl⟩ : ∃ j, c = j + 1 := ⟨c - 1, by omega⟩
          obtain ⟨r, d, h1, h2, h3, h4⟩ := firstU_asks es us c p.key false (by omega)
          refine ⟨r, d + 1, by omega, by omega, fun k hk => ?_, fun k hk => ?_⟩
          · obtain ⟨k, rfl⟩ : ∃ j, k = j + 1 := ⟨k - 1, by omega⟩
            simp only [firstU, hn, hp, hl, if_true]
            rw [h3 k (by omega)]
            simp
          · cases k with
            | zero => rfl
            | succ k =>
              simp only [firstU, hn, hp, hl, if_true]
              exact h4 k (by omega)
        · refine ⟨some p, 1, Nat.le_refl _, by omega, fun k hk => ?_, fun k hk => ?_⟩
          · obtain ⟨k, rfl⟩ : ∃ j, k = j + 1 := ⟨k - 1, by omega⟩
            simp only [firstU, hn, hp, hl]
            simp
          · obtain rfl : k = 0 := by omega
            rfl
theorem cntU_le (us : List Ee) (frm : List Int) (inn : Bool) : cntU us frm inn ≤ us.length := List.length_filter_le _ _
end Go.Proofs.Ytgohhlngnnmknaa
/- Pairs by rising keys, laid out by the document's buffer. -/
namespace Go.Proofs.Ytgohhlngnnmknaa
open Go.RowKit Go.Maps
set_option linter.unusedVariables false

/-- a pair, as what a Put says. -/
def cle (e : Ee) : Ee := ⟨e.key, e.val, false⟩
def risE (us : List Ee) : List Ee := (us.map cle).foldl put []
theorem mg_flat (es : List Ee) : mg es [] = es.flatMap kp := by
  induction es with
  | nil => rw [mg_nil]; rfl
  | cons e t ih => rw [mg_end, ih]; rfl
theorem fold_mem {l : List Ee} {x : Ee} (h : x ∈ l.foldl put []) : x ∈ l := by
  have gen : ∀ (l acc : List Ee), x ∈ l.foldl put acc → x ∈ acc ∨ x ∈ l := by
    intro l
    induction l with
    | nil => intro acc h; exact .inl h
    | cons y t ih =>
      intro acc h
      rcases ih _ h with h | h
      · rcases put_mem h with rfl | h
        · exact .inr (List.mem_cons_self)
        · exact .inl h
      · exact .inr (List.mem_cons_of_mem _ h)
  rcases gen l [] h with h | h
  · simp at h
  · exact h
theorem risE_mem {us : List Ee} {x : Ee} (h : x ∈ risE us) : x.del = false ∧ ∃ u ∈ us, x = cle u := by
  obtain ⟨u, hu, rfl⟩ := List.mem_map.1 (fold_mem h)
  exact ⟨rfl, u, hu, rfl⟩
theorem risE_ris (us : List Ee) : Ris (risE us) := fold_ris _
theorem risE_len (us : List Ee) : (risE us).length ≤ us.length := by
  have := fold_len (us.map cle)
  rwa [List.length_map] at this
theorem mg_risE (us : List Ee) : mg (risE us) [] = risE us := by
  rw [mg_flat]
  have : ∀ l : List Ee, (∀ x ∈ l, x.del = false) → l.flatMap kp = l := by
    intro l
    induction l with
    | nil => intro _; rfl
    | cons x t ih =>
      intro h
      rw [List.flatMap_cons, ih fun y hy => h y (List.mem_cons_of_mem _ hy), kp_put (h x List.mem_cons_self)]
      rfl
  exact this _ fun x hx => (risE_mem hx).1
theorem prs_nil (w : World) : Prs w none 0 0 [] := ⟨rfl, fun _ => ⟨rfl, rfl⟩, Nat.le_refl _, by omega, .inl rfl, by intro x hx; simp at hx⟩
/-- what rising answers. -/
def RiseOut (w : World) (us : List En) (r : Ending) (w' : World) : Prop := ∃ a q c vs, r = .returned (.slice a q c) ∧ Prs w' a q c vs ∧ ers vs = risE (ers us) ∧ q ≤ us.length ∧ Below w.heap.size w w' ∧ (vs = [] ∨ ∃ b off cs, a = some ⟨b, off, none⟩ ∧ w'.heap[b]? = some (.cells cs 74 (0, 0))) ∧ ∀ y ∈ vs, ∃ C, y.Own C w'
theorem Rb.cell {w : World} {p B : Nat} {v : Value} {ys : List En} (h : Rb w p B v ys) : w.cell? ⟨p, 0, none⟩ = some v := cell_of_one h.blk
/-- what lies below stays. -/
theorem rb_on {w wr w2 : World} {v : Value} {ys : List En} (h : Rb wr w.heap.size w.heap.size v ys) (hb : Below w.heap.size w wr) (hm : Mv (fun k => k = w.heap.size ∨ v.ownBlock = some k) wr.drew w2) : Below w.heap.size w w2 ∧ Below w.heap.size wr w2 := by
  have hb2 : Below w.heap.size wr w2 := by
    refine ⟨hm.os, hm.tape, hm.output, hm.size, fun k hk => hm.block k (by have := hb.size; simp; omega) ?_⟩
    rintro (rfl | e)
    · omega
    · have := (h.cl.block e).1; omega
  exact ⟨hb.trans hb2, hb2⟩
set_option maxHeartbeats 6400000 in
set_option maxRecDepth 1000000 in
theorem rising_any {w : World} {m d : Nat} {b : Option Addr} {us : List En} (h : Prs w b m d us) (hm : m ≤ 200) (hs : ∀ u ∈ us, u.e.key.length ≤ 140737488351232 ∧ u.e.val.length ≤ 140737488351232) :
    Calls Try.prog 7 #[.slice b m d] w (RiseOut w us) := by
  have HU := hide h
  have HS := hide hs
  have HR0 : Hid (Rb (w.alloc (.cells #[.slice none 0 0] 32)) w.heap.size w.heap.size (.slice none 0 0) []) := ⟨heap_alloc_new w _, Nat.le_refl _, ⟨⟨rfl, .inl ⟨rfl, rfl⟩⟩, by simp, by intro i j yi yj k hi; simp at hi⟩⟩
  have HB0 := hide (below_alloc w (.cells #[.slice none 0 0] 32))
  clear h hs
  go_enter Try.func7, Try.ntmps7
  go_wp2
  go_loopw [4] (fun i_ wr => ∃ (k : Nat) (v : Value) (ys : List En), k ≤ m ∧ i_ = .int .i64 (k : Int) ∧ Rb wr w.heap.size w.heap.size v ys ∧ ers ys = (ers (us.take k)).map cle ∧ Below w.heap.size w wr) (fun i_ _ => m - (intOf i_).toNat)
  case atStart => exact ⟨0, _, [], Nat.zero_le _, rfl, HR0.out, by simp [ers], HB0.out⟩
  case round =>
    obtain ⟨k, v, ys, hk, rfl, hrb, her, hb⟩ := hrel
    have HRb := hide hrb
    have HEr := hide her
    have HB := hide hb
    have hyl : ys.length = k := by
      have := congrArg List.length her
      rw [ers_len, List.length_map, ers_len, List.length_take, HU.out.len] at this
      omega
    clear hrb her
    by_cases hlt : k < m
    · obtain ⟨u, b2, o2, hu, rfl, hb2, u0, u1, huk⟩ := (HU.out.below hb).at hlt
      have f1 : (k : Int) < (m : Int) := by omega
      have f2 : (0 : Int) ≤ (k : Int) := by omega
      have hsz := HS.out u (List.mem_of_getElem? hu)
      have hdr : Below wr.heap.size wr wr.drew := (Below.refl _ _).drew
      have HP := hide (rput_any (HRb.out.below hdr) (HB.out.size) u.ka u.va u.e.key.length u.kc u.e.val.length u.vc u.e.key u.e.val (huk.key.below hdr) (huk.val.below hdr) hsz.1 hsz.2 (by omega))
      have HUu := hide hu
      have hlow : b2 < w.heap.size := by
        rcases HU.out.row with h0 | ⟨b', off', e, hl, _⟩
        · exfalso; have := HU.out.len; rw [h0] at this; simp at this; omega
        · cases e; exact hl
      have HU0 := hide u0
      have HU1 := hide u1
      clear huk hsz hdr hu hb
      go_wp2
      go_region_held3 (fun W => W.cell? ⟨b2, o2 + k * 2, none⟩ = some (.slice u.ka u.e.key.length u.kc) ∧ W.cell? ⟨b2, o2 + k * 2 + 1, none⟩ = some (.slice u.va u.e.val.length u.vc)) ((refine ⟨?_, ?_⟩ <;> assumption)) ((first | (go_at_call 22; refine HP.out.mono ?_; rintro e w2 ⟨rfl, v2, y, hye, hrb2, hmv, hnw⟩; have hon := rb_on HRb.out HB.out hmv; have HON := hide hon; have HRb2 := hide hrb2; have HYe := hide hye; clear hrb2 hmv hnw hye hon u0 u1; have u0 := (HON.out.2.cell (p := ⟨b2, o2 + k * 2, none⟩) hlow).trans HU0.out; have u1 := (HON.out.2.cell (p := ⟨b2, o2 + k * 2 + 1, none⟩) hlow).trans HU1.out)))
      go_wp2
      refine ⟨⟨k + 1, v2, ys ++ [y], by omega, by go_num, HRb2.out, ?_, HON.out.1⟩, ?_⟩
      · rw [ers_app, HEr.out, take_at HUu.out, ers_app, List.map_append]
        simp [ers, HYe.out, cle]
      · simp [intOf]; omega
    · obtain rfl : k = m := by omega
      have f1 : ¬ (k : Int) < (k : Int) := by omega
      obtain ⟨a2, c2, rfl, hE⟩ := HRb.out.cl.ens
      rw [hyl] at HRb hE
      have HSe := hide (rseen_any (HRb.out.cell) hE (by omega) (prs_nil wr) (by omega))
      have ht : us.take k = us := List.take_of_length_le (by rw [HU.out.len]; exact Nat.le_refl _)
      have HT := hide ht
      clear hE ht hb
      go_wp2_with fail
      refine HSe.out.mono ?_
      rintro e w2 ⟨W0, v, q, vs, rfl, hb0, hrp, hvs, hsub⟩
      obtain ⟨a3, c3, rfl, hprs⟩ := hrp.prs
      have hfin : RiseOut w us (.returned (.slice a3 q c3)) w2 := by
        have e1 : ers vs = risE (ers us) := by
          rw [hvs]
          have : ers ys = (ers us).map cle := by rw [HEr.out, HT.out]
          rw [this]
          exact mg_risE (ers us)
        refine ⟨a3, q, c3, vs, rfl, hprs, e1, ?_, HB.out.trans ((hb0.trans (hrp.on.mono hb0.size)).mono HB.out.size), ?_, fun y hy => ?_⟩
        rotate_left
        · rcases hrp.row.2 with ⟨_, h0⟩ | ⟨g, o, cap, cur, e, hg, _⟩
          · left
            subst h0
            exact List.eq_nil_of_length_eq_zero hprs.len
          · right
            simp at e
            exact ⟨g, o, cur, e.1, hg⟩
        · rcases hsub y hy with h | h
          · exact ⟨_, (HRb.out.cl.each y h).below (hb0.trans (hrp.on.mono hb0.size))⟩
          · simp at h
        have h1 := risE_len (ers us)
        rw [← e1, ers_len, ers_len, hprs.len] at h1
        exact h1
      have HFin := hide hfin
      clear hb0 hrp hvs hsub hprs hfin
      go_wp2
      go_ret
      exact HFin.out
end Go.Proofs.Ytgohhlngnnmknaa
/- Mathematics: what is seen first behind a place is the first one behind it of what lies below as it is changed. -/
namespace Go.Proofs.Ytgohhlngnnmknaa
open Go.RowKit Go.Maps
set_option linter.unusedVariables false

theorem mg_sub {es us : List Ee} {x : Ee} (h : x ∈ mg es us) : (x ∈ es ∧ x.del = false) ∨ x ∈ us := by
  fun_induction mg es us with
  | case1 us => exact .inr h
  | case2 e es ih =>
    rcases List.mem_append.1 h with h | h
    · unfold kp at h
      split at h
      · simp at h
      · rename_i hd
        simp at h
        subst h
        exact .inl ⟨List.mem_cons_self, by simpa using hd⟩
    · rcases ih h with h | h
      · exact .inl ⟨List.mem_cons_of_mem _ h.1, h.2⟩
      · simp at h
  | case3 e es u us hlt ih =>
    rcases List.mem_cons.1 h with rfl | h
    · exact .inr List.mem_cons_self
    · rcases ih h with h | h
      · exact .inl h
      · exact .inr (List.mem_cons_of_mem _ h)
  | case4 e es u us hlt ih =>
    rcases List.mem_append.1 h with h | h
    · unfold kp at h
      split at h
      · simp at h
      · rename_i hd
        simp at h
        subst h
        exact .inl ⟨List.mem_cons_self, by simpa using hd⟩
    · rcases ih h with h | h
      · exact .inl ⟨List.mem_cons_of_mem _ h.1, h.2⟩
      · split at h
        · exact .inr (List.mem_cons_of_mem _ h)
        · exact .inr h
theorem ris_tail {e : Ee} {es : List Ee} (h : Ris (e :: es)) : Ris es := (List.pairwise_cons.1 h).2
theorem ris_head {e : Ee} {es : List Ee} (h : Ris (e :: es)) : ∀ x ∈ es, ordI e.key x.key < 0 := (List.pairwise_cons.1 h).1
theorem ord_ne {a b : List Int} (h : ordI a b < 0) : a ≠ b := fun e => by rw [e, ordI_self] at h; omega
theorem ord_gt {a b : List Int} (h : ¬ ordI a b < 0) (hne : ¬ a = b) : ordI b a < 0 := by
  have h0 : ordI a b ≠ 0 := fun e => hne (ordI_zero _ _ e)
  have := ordI_anti a b
  omega
theorem kp_ris {e : Ee} {l : List Ee} (h : Ris l) (hl : ∀ x ∈ l, ordI e.key x.key < 0) : Ris (kp e ++ l) := by
  unfold kp
  split
  · exact h
  · exact List.pairwise_cons.2 ⟨hl, h⟩
theorem mg_ris {es us : List Ee} (he : Ris es) (hu : Ris us) : Ris (mg es us) := by
  fun_induction mg es us with
  | case1 us => exact hu
  | case2 e es ih =>
    refine kp_ris (ih (ris_tail he) hu) fun x hx => ?_
    rcases mg_sub hx with h | h
    · exact ris_head he x h.1
    · simp at h
  | case3 e es u us hlt ih =>
    refine List.pairwise_cons.2 ⟨fun x hx => ?_, ih he (ris_tail hu)⟩
    rcases mg_sub hx with h | h
    · rcases List.mem_cons.1 h.1 with rfl | h
      · exact hlt
      · exact ordI_trans_lt _ _ _ hlt (Int.le_of_lt (ris_head he x h))
    · exact ris_head hu x h
  | case4 e es u us hlt ih =>
    have hu' : Ris (if u.key = e.key then us else u :: us) := by
      split
      · exact ris_tail hu
      · exact hu
    refine kp_ris (ih (ris_tail he) hu') fun x hx => ?_
    rcases mg_sub hx with h | h
    · exact ris_head he x h.1
    · split at h
      · rename_i hk
        rw [← hk]
        exact ris_head hu x h
      · rename_i hk
        have h1 := ord_gt hlt hk
        rcases List.mem_cons.1 h with rfl | h
        · exact h1
        · exact ordI_trans_lt _ _ _ h1 (Int.le_of_lt (ris_head hu x h))
theorem mem_kp {e x : Ee} : x ∈ kp e ↔ x = e ∧ e.del = false := by
  unfold kp
  split
  · rename_i h; simp [h]
  · rename_i h; simp [h]
theorem mg_mem {es us : List Ee} (he : Ris es) (hu : Ris us) (x : Ee) : x ∈ mg es us ↔ (x ∈ es ∧ x.del = false) ∨ (x ∈ us ∧ ∀ e ∈ es, e.key ≠ x.key) := by
  fun_induction mg es us with
  | case1 us => simp
  | case2 e es ih =>
    rw [List.mem_append, ih (ris_tail he) hu, mem_kp]
    constructor
    · rintro (⟨rfl, h⟩ | h | h)
      · exact .inl ⟨List.mem_cons_self, h⟩
      · exact .inl ⟨List.mem_cons_of_mem _ h.1, h.2⟩
      · simp at h
    · rintro (⟨h, hd⟩ | h)
      · rcases List.mem_cons.1 h with rfl | h
        · exact .inl ⟨rfl, hd⟩
        · exact .inr (.inl ⟨h, hd⟩)
      · simp at h
  | case3 e es u us hlt ih =>
    rw [List.mem_cons, ih he (ris_tail hu)]
    constructor
    · rintro (rfl | h | ⟨h, hn⟩)
      · refine .inr ⟨List.mem_cons_self, fun z hz => ?_⟩
        rcases List.mem_cons.1 hz with rfl | hz
        · exact (ord_ne hlt).symm
        · exact (ord_ne (ordI_trans_lt _ _ _ hlt (Int.le_of_lt (ris_head he z hz)))).symm
      · exact .inl h
      · exact .inr ⟨List.mem_cons_of_mem _ h, hn⟩
    · rintro (h | ⟨h, hn⟩)
      · exact .inr (.inl h)
      · rcases List.mem_cons.1 h with rfl | h
        · exact .inl rfl
        · exact .inr (.inr ⟨h, hn⟩)
  | case4 e es u us hlt ih =>
    have hu' : Ris (if u.key = e.key then us else u :: us) := by
      split
      · exact ris_tail hu
      · exact hu
    simp only [dite_eq_ite] at ih
    rw [List.mem_append, ih (ris_tail he) hu', mem_kp]
    have hin : ∀ x ∈ (if u.key = e.key then us else u :: us), e.key ≠ x.key := by
      intro x hx
      split at hx
      · rename_i hk
        rw [← hk]
        exact ord_ne (ris_head hu x hx)
      · rename_i hk
        have h1 := ord_gt hlt hk
        rcases List.mem_cons.1 hx with rfl | hx
        · exact ord_ne h1
        · exact ord_ne (ordI_trans_lt _ _ _ h1 (Int.le_of_lt (ris_head hu x hx)))
    constructor
    · rintro (⟨rfl, h⟩ | h | ⟨h, hn⟩)
      · exact .inl ⟨List.mem_cons_self, h⟩
      · exact .inl ⟨List.mem_cons_of_mem _ h.1, h.2⟩
      · refine .inr ⟨?_, fun z hz => ?_⟩
        · split at h
          · exact List.mem_cons_of_mem _ h
          · exact h
        · rcases List.mem_cons.1 hz with rfl | hz
          · exact hin x h
          · exact hn z hz
    · rintro (⟨h, hd⟩ | ⟨h, hn⟩)
      · rcases List.mem_cons.1 h with rfl | h
        · exact .inl ⟨rfl, hd⟩
        · exact .inr (.inl ⟨h, hd⟩)
      · refine .inr (.inr ⟨?_, fun z hz => hn z (List.mem_cons_of_mem _ hz)⟩)
        split
        · rename_i hk
          rcases List.mem_cons.1 h with rfl | h
          · exact absurd hk.symm (hn e List.mem_cons_self)
          · exact h
        · exact h
/-- what a way through keys is. -/
structure Way (bh : List Int → List Int → Bool → Bool) : Prop where
  irr : ∀ k, bh k k false = false
  trans : ∀ {z y x : List Int} {i : Bool}, bh z y false = true → bh y x i = true → bh z x i = true
  tot : ∀ {x y : List Int}, bh x y false = false → bh y x false = false → x = y
theorem wayU : Way bhU := ⟨bhU_self, bhU_trans, fun {x y} h1 h2 => by
  have a1 : ¬ 0 < ordI x y := by simpa [bhU] using h1
  have a2 : ¬ 0 < ordI y x := by simpa [bhU] using h2
  have := ordI_anti x y
  exact ordI_zero x y (by omega)⟩
theorem wayD : Way bhD := ⟨bhD_self, bhD_trans, fun {x y} h1 h2 => by
  have a1 : ¬ ordI x y < 0 := by simpa [bhD] using h1
  have a2 : ¬ ordI y x < 0 := by simpa [bhD] using h2
  have := ordI_anti x y
  exact ordI_zero x y (by omega)⟩
/-- a list on its way. -/
def Onw (bh : List Int → List Int → Bool → Bool) (l : List Ee) : Prop := l.Pairwise (fun a b => bh b.key a.key false = true)
theorem onwU {l : List Ee} (h : Ris l) : Onw bhU l := List.Pairwise.imp (fun {a b} h => by
  have := ordI_anti a.key b.key
  simp only [bhU, Bool.false_and, Bool.or_false, decide_eq_true_eq]; omega) h
theorem onwD {l : List Ee} (h : Ris l) : Onw bhD l.reverse := by
  unfold Onw
  rw [List.pairwise_reverse]
  exact List.Pairwise.imp (fun {a b} h => by simp only [bhD, Bool.false_and, Bool.or_false, decide_eq_true_eq]; exact h) h
section
variable {bh : List Int → List Int → Bool → Bool} (W : Way bh)
include W
theorem Way.asym {x y : List Int} (h : bh y x false = true) : bh x y false = false := by
  cases h2 : bh x y false with
  | false => rfl
  | true => have := W.trans h h2; rw [W.irr] at this; cases this
omit W in
theorem find_min {l : List Ee} (h : Onw bh l) {P : Ee → Bool} {m : Ee} (hf : l.find? P = some m) : ∀ x ∈ l, P x = true → x = m ∨ bh x.key m.key false = true := by
  induction l with
  | nil => simp at hf
  | cons y t ih =>
    obtain ⟨h1, h2⟩ := List.pairwise_cons.1 h
    intro x hx hp
    by_cases hy : P y = true
    · rw [List.find?_cons_of_pos hy] at hf
      cases hf
      rcases List.mem_cons.1 hx with rfl | hx
      · exact .inl rfl
      · exact .inr (h1 x hx)
    · rw [List.find?_cons_of_neg hy] at hf
      rcases List.mem_cons.1 hx with rfl | hx
      · exact absurd hp hy
      · exact ih h2 hf x hx hp
theorem find_is {l : List Ee} (h : Onw bh l) {P : Ee → Bool} {m : Ee} (hm : m ∈ l) (hp : P m = true) (hmin : ∀ x ∈ l, P x = true → x = m ∨ bh x.key m.key false = true) : l.find? P = some m := by
  cases hf : l.find? P with
  | none =>
    rw [List.find?_eq_none] at hf
    exact absurd hp (hf m hm)
  | some y =>
    have hy := List.mem_of_find?_eq_some hf
    have hyp : P y = true := by have := List.find?_some hf; simpa using this
    rcases hmin y hy hyp with rfl | h1
    · rfl
    · rcases find_min h hf m hm hp with rfl | h2
      · rfl
      · rw [W.asym h1] at h2; cases h2
omit W in
theorem scan_some {last : Option (List Int)} {l : List Ee} (h : Onw bh l) {e : Ee} (hs : scan bh last l = some e) : e ∈ l ∧ e.del = false ∧ past bh last e.key = false ∧ ∀ a ∈ l, a.del = true ∨ a = e ∨ bh a.key e.key false = true := by
  induction l with
  | nil => simp [scan] at hs
  | cons y t ih =>
    obtain ⟨h1, h2⟩ := List.pairwise_cons.1 h
    unfold scan at hs
    split at hs
    · cases hs
    · rename_i hp
      split at hs
      · rename_i hd
        obtain ⟨a1, a2, a3, a4⟩ := ih h2 hs
        refine ⟨List.mem_cons_of_mem _ a1, a2, a3, fun a ha => ?_⟩
        rcases List.mem_cons.1 ha with rfl | ha
        · exact .inl hd
        · exact a4 a ha
      · rename_i hd
        cases hs
        refine ⟨List.mem_cons_self, by simpa using hd, by simpa using hp, fun a ha => ?_⟩
        rcases List.mem_cons.1 ha with rfl | ha
        · exact .inr (.inl rfl)
        · exact .inr (.inr (h1 a ha))
theorem scan_none {last : Option (List Int)} {l : List Ee} (h : Onw bh l) (hs : scan bh last l = none) : ∀ a ∈ l, a.del = true ∨ past bh last a.key = true := by
  induction l with
  | nil => simp
  | cons y t ih =>
    obtain ⟨h1, h2⟩ := List.pairwise_cons.1 h
    intro a ha
    unfold scan at hs
    split at hs
    · rename_i hp
      rcases List.mem_cons.1 ha with rfl | ha
      · exact .inr hp
      · right
        unfold past at hp ⊢
        cases last with
        | none => cases hp
        | some l => exact W.trans (h1 a ha) hp
    · split at hs
      · rename_i hd
        rcases List.mem_cons.1 ha with rfl | ha
        · exact .inl hd
        · exact ih h2 hs a ha
      · cases hs
omit W in
theorem find_congr {l : List Ee} {P Q : Ee → Bool} (h : ∀ x ∈ l, P x = Q x) : l.find? P = l.find? Q := by
  induction l with
  | nil => rfl
  | cons y t ih =>
    have h1 := h y List.mem_cons_self
    have h2 := ih fun x hx => h x (List.mem_cons_of_mem _ hx)
    rw [List.find?_cons, List.find?_cons, h1, h2]
/-- what is seen first, of lists on their way. -/
def firstG (bh : List Int → List Int → Bool → Bool) (A B : List Ee) : Nat → List Int → Bool → Option Ee × Nat × Nat
  | 0, _, _ => (none, 6, 0)
  | k + 1, frm, inn => match scan bh ((B.find? (fun e => bh e.key frm inn)).map Ee.key) (A.filter (fun e => bh e.key frm inn)) with
    | some e => (some e, 0, k)
    | none => match B.find? (fun e => bh e.key frm inn) with
      | none => (none, 0, k)
      | some p => if (lk A p.key).isSome then firstG bh A B k p.key false else (some p, 0, k)
theorem firstG_ans {A B M : List Ee} (hA : Onw bh A) (hB : Onw bh B) (hM : Onw bh M) (mem : ∀ x, x ∈ M ↔ (x ∈ A ∧ x.del = false) ∨ (x ∈ B ∧ ∀ a ∈ A, a.key ≠ x.key)) :
    ∀ (k : Nat) (frm : List Int) (inn : Bool), (firstG bh A B k frm inn).2.1 = 0 → (firstG bh A B k frm inn).1 = M.find? (fun e => bh e.key frm inn)
  | 0, frm, inn, h => by simp [firstG] at h
  | k + 1, frm, inn, h => by
    have hA' : Onw bh (A.filter (fun e => bh e.key frm inn)) := List.Pairwise.filter _ hA
    unfold firstG at h ⊢
    cases hs : scan bh ((B.find? (fun e => bh e.key frm inn)).map Ee.key) (A.filter (fun e => bh e.key frm inn)) with
    | some e =>
      simp only []
      obtain ⟨e1, e2, e3, e4⟩ := scan_some hA' hs
      obtain ⟨e5, e6⟩ := List.mem_filter.1 e1
      refine (find_is W hM ((mem e).2 (.inl ⟨e5, e2⟩)) e6 fun x hx hpx => ?_).symm
      rcases (mem x).1 hx with ⟨hx1, hx2⟩ | ⟨hx1, hx2⟩
      · rcases e4 x (List.mem_filter.2 ⟨hx1, hpx⟩) with h | h | h
        · rw [hx2] at h; cases h
        · exact .inl h
        · exact .inr h
      · cases hf : B.find? (fun e => bh e.key frm inn) with
        | none =>
          rw [List.find?_eq_none] at hf
          exact absurd hpx (hf x hx1)
        | some p =>
          rw [hf] at e3
          have e3' : bh e.key p.key false = false := e3
          right
          rcases find_min hB hf x hx1 hpx with rfl | h1
          · cases hep : bh x.key e.key false with
            | true => rfl
            | false => exact absurd (W.tot e3' hep) (hx2 e e5)
          · cases hep : bh p.key e.key false with
            | true => exact W.trans h1 hep
            | false =>
              have := W.tot e3' hep
              rw [this]; exact h1
    | none =>
      rw [hs] at h
      simp only [] at h ⊢
      have hn := scan_none W hA' hs
      cases hf : B.find? (fun e => bh e.key frm inn) with
      | none =>
        simp only []
        rw [hf] at hn
        symm
        rw [List.find?_eq_none] at hf ⊢
        intro x hx hpx
        rcases (mem x).1 hx with ⟨hx1, hx2⟩ | ⟨hx1, hx2⟩
        · rcases hn x (List.mem_filter.2 ⟨hx1, hpx⟩) with h | h
          · rw [hx2] at h; cases h
          · cases h
        · exact hf x hx1 hpx
      | some p =>
        rw [hf] at h hn
        simp only [] at h ⊢
        have hp := List.mem_of_find?_eq_some hf
        have hpp : bh p.key frm inn = true := by have := List.find?_some hf; simpa using this
        have hlkA : (lk A p.key).isSome = true ↔ ∃ a ∈ A, a.key = p.key := by
          unfold lk
          rw [List.find?_isSome]
          simp
        have hA2 : ∀ x ∈ M, bh x.key frm inn = true → x = p ∨ bh x.key p.key false = true := fun x hx hpx => by
          rcases (mem x).1 hx with ⟨hx1, hx2⟩ | ⟨hx1, hx2⟩
          · rcases hn x (List.mem_filter.2 ⟨hx1, hpx⟩) with h | h
            · rw [hx2] at h; cases h
            · exact .inr h
          · exact find_min hB hf x hx1 hpx
        by_cases hl : (lk A p.key).isSome = true
        · rw [if_pos hl] at h ⊢
          rw [firstG_ans hA hB hM mem k p.key false h]
          refine find_congr fun x hx => ?_
          cases hq : bh x.key frm inn with
          | true =>
            rcases hA2 x hx hq with rfl | h1
            · exfalso
              obtain ⟨a, ha, hak⟩ := hlkA.1 hl
              rcases (mem x).1 hx with ⟨hx1, hx2⟩ | ⟨hx1, hx2⟩
              · rcases hn x (List.mem_filter.2 ⟨hx1, hq⟩) with h | h
                · rw [hx2] at h; cases h
                · have h' : bh x.key x.key false = true := h
                  rw [W.irr] at h'; cases h'
              · exact hx2 a ha hak
            · exact h1
          | false =>
            cases hq2 : bh x.key p.key false with
            | false => rfl
            | true => have := W.trans hq2 hpp; rw [hq] at this; cases this
        · rw [if_neg hl]
          simp only []
          exact (find_is W hM ((mem p).2 (.inr ⟨hp, fun a ha hak => hl (hlkA.2 ⟨a, ha, hak⟩)⟩)) hpp hA2).symm
/-- with more questions than pairs behind the place no error is met. -/
theorem firstG_ok {A B : List Ee} : ∀ (k : Nat) (frm : List Int) (inn : Bool), (B.filter (fun e => bh e.key frm inn)).length < k → (firstG bh A B k frm inn).2.1 = 0
  | 0, frm, inn, h => by omega
  | k + 1, frm, inn, h => by
    unfold firstG
    cases hs : scan bh ((B.find? (fun e => bh e.key frm inn)).map Ee.key) (A.filter (fun e => bh e.key frm inn)) with
    | some e => rfl
    | none =>
      simp only []
      cases hf : B.find? (fun e => bh e.key frm inn) with
      | none => rfl
      | some p =>
        simp only []
        by_cases hl : (lk A p.key).isSome = true
        · rw [if_pos hl]
          have hpp : bh p.key frm inn = true := by have := List.find?_some hf; simpa using this
          have := filter_lt (fun e : Ee => bh e.key p.key false) (fun e => bh e.key frm inn) (fun x hx => W.trans hx hpp) B p (List.mem_of_find?_eq_some hf) (W.irr p.key) hpp
          exact firstG_ok k p.key false (by omega)
        · rw [if_neg hl]
/-- the next one behind one of a list. -/
theorem find_next {l : List Ee} (h : Onw bh l) {i : Nat} {e : Ee} (he : l[i]? = some e) : l.find? (fun x => bh x.key e.key false) = l[i + 1]? := by
  induction l generalizing i with
  | nil => simp at he
  | cons y t ih =>
    obtain ⟨h1, h2⟩ := List.pairwise_cons.1 h
    cases i with
    | zero =>
      simp at he
      subst he
      rw [List.find?_cons_of_neg (by rw [W.irr]; simp)]
      cases t with
      | nil => rfl
      | cons z t => rw [List.find?_cons_of_pos (p := fun x : Ee => bh x.key y.key false) (h1 z List.mem_cons_self)]; rfl
    | succ i =>
      have he' : t[i]? = some e := by simpa using he
      rw [List.find?_cons_of_neg (by rw [W.asym (h1 e (List.mem_of_getElem? he'))]; simp)]
      rw [ih h2 he']
      simp
end
theorem firstU_G (es us : List Ee) : ∀ (k : Nat) (frm : List Int) (inn : Bool), firstU es us k frm inn = firstG bhU es us k frm inn
  | 0, frm, inn => rfl
  | k + 1, frm, inn => by
    unfold firstU firstG putU nxU
    cases scan bhU ((us.find? (fun e => bhU e.key frm inn)).map Ee.key) (es.filter (fun e => bhU e.key frm inn)) with
    | some e => rfl
    | none =>
      simp only []
      cases us.find? (fun e => bhU e.key frm inn) with
      | none => rfl
      | some p =>
        simp only []
        rw [firstU_G es us k p.key false]
theorem firstD_G (es us : List Ee) : ∀ (k : Nat) (frm : List Int) (inn : Bool), firstD es us k frm inn = firstG bhD es.reverse us.reverse k frm inn
  | 0, frm, inn => rfl
  | k + 1, frm, inn => by
    unfold firstD firstG putD nxD
    rw [List.filter_reverse]
    cases scan bhD ((us.reverse.find? (fun e => bhD e.key frm inn)).map Ee.key) (es.filter (fun e => bhD e.key frm inn)).reverse with
    | some e => rfl
    | none =>
      simp only []
      cases us.reverse.find? (fun e => bhD e.key frm inn) with
      | none => rfl
      | some p =>
        simp only []
        have hlk : (lk es.reverse p.key).isSome = (lk es p.key).isSome := by
          unfold lk
          rw [Bool.eq_iff_iff, List.find?_isSome, List.find?_isSome]
          simp
        rw [hlk, firstD_G es us k p.key false]
theorem seenU_is {es us : List Ee} (he : Ris es) (hu : Ris us) {k : Nat} (hk : us.length < k) (frm : List Int) (inn : Bool) : (firstU es us k frm inn).1 = nxU (mg es us) frm inn ∧ (firstU es us k frm inn).2.1 = 0 := by
  rw [firstU_G]
  have h0 : (firstG bhU es us k frm inn).2.1 = 0 := firstG_ok wayU k frm inn (Nat.lt_of_le_of_lt (List.length_filter_le _ _) hk)
  exact ⟨firstG_ans wayU (onwU he) (onwU hu) (onwU (mg_ris he hu)) (mg_mem he hu) k frm inn h0, h0⟩
theorem seenD_is {es us : List Ee} (he : Ris es) (hu : Ris us) {k : Nat} (hk : us.length < k) (frm : List Int) (inn : Bool) : (firstD es us k frm inn).1 = nxD (mg es us) frm inn ∧ (firstD es us k frm inn).2.1 = 0 := by
  rw [firstD_G]
  have h0 : (firstG bhD es.reverse us.reverse k frm inn).2.1 = 0 := firstG_ok wayD k frm inn (Nat.lt_of_le_of_lt (List.length_filter_le _ _) (by rw [List.length_reverse]; exact hk))
  refine ⟨firstG_ans wayD (onwD he) (onwD hu) (onwD (mg_ris he hu)) (fun x => ?_) k frm inn h0, h0⟩
  rw [List.mem_reverse, mg_mem he hu]
  simp
/-- from the beginning, and on from one. -/
theorem nxU_start (l : List Ee) : nxU l [] true = l[0]? := by
  cases l with
  | nil => rfl
  | cons y t => simp [nxU, bhU]
theorem nxU_next {l : List Ee} (h : Ris l) {i : Nat} {e : Ee} (he : l[i]? = some e) : nxU l e.key false = l[i + 1]? := find_next wayU (onwU h) he
theorem nxD_start (l : List Ee) : nxD l [] true = l.reverse[0]? := by
  unfold nxD
  cases l.reverse with
  | nil => rfl
  | cons y t => simp [bhD]
theorem nxD_next {l : List Ee} (h : Ris l) {i : Nat} {e : Ee} (he : l.reverse[i]? = some e) : nxD l e.key false = l.reverse[i + 1]? := find_next wayD (onwD h) he
/-- a list that rises is what its Puts make. -/
theorem put_end {es : List Ee} {e : Ee} (h : ∀ x ∈ es, ordI x.key e.key < 0) : put es e = es ++ [e] := by
  induction es with
  | nil => rfl
  | cons y t ih =>
    unfold put
    rw [if_pos (h y List.mem_cons_self), ih fun x hx => h x (List.mem_cons_of_mem _ hx)]
    rfl
theorem fold_put {es : List Ee} (h : Ris es) : es.foldl put [] = es := by
  have gen : ∀ (l acc : List Ee), Ris (acc ++ l) → l.foldl put acc = acc ++ l := by
    intro l
    induction l with
    | nil => intro acc _; simp
    | cons x t ih =>
      intro acc hr
      have hx : ∀ y ∈ acc, ordI y.key x.key < 0 := fun y hy => (List.pairwise_append.1 hr).2.2 y hy x List.mem_cons_self
      rw [List.foldl_cons, put_end hx, ih (acc ++ [x]) (by rw [List.append_assoc]; exact hr), List.append_assoc]
      rfl
  simpa using gen es [] h
end Go.Proofs.Ytgohhlngnnmknaa
