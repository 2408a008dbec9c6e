/- The document's own buffer: Next, Prev, Get, Back. -/
import Derived.Test.YtgohhlngnnmknaaRS
import Derived.Test.YtgohhlngnnmknaaPE
import Derived.Test.YtgohhlngnnmknaaPB
namespace Go.Proofs.Ytgohhlngnnmknaa
open Go.RowKit Go.Maps
set_option linter.unusedVariables false

theorem Rc.ens {w0 W : World} {xs ys : List En} {k m n c : Nat} {v : Value} {a : Option Addr} (h : Rc w0 xs k v m ys W) (hE : Ens w0 a n c xs) : ∃ a' c', v = .slice a' m c' ∧ Ens W a' m c' ys := by
  have hl := h.len
  have he : ∀ y ∈ ys, y.Ok W := fun y hy => (hE.each y (h.sub y hy)).below h.below
  rcases h.row.2 with ⟨rfl, h0⟩ | ⟨g, o, cap, cur, rfl, hg, hn, hm, _⟩
  · subst h0
    exact ⟨none, 0, rfl, hl, Nat.le_refl _, by omega, fun _ => ⟨rfl, rfl⟩, .inl (List.eq_nil_of_length_eq_zero hl), he⟩
  · refine ⟨_, cap, rfl, hl, hn, by unfold maxLen at hm; omega, (by intro e; cases e), .inr ⟨g, o, rfl, lt_of_block hg, fun j u hu => ?_⟩, he⟩
    exact h.row.cell hu
/-- a change that is told, its bytes shared. -/
def ShC (xs : List En) (w : World) (o : Option Ee) (r : Ending) (w' : World) : Prop := ∃ y : En, r = .returned (.tuple #[.agg #[.slice y.ka y.e.key.length y.kc, .slice y.va y.e.val.length y.vc, .bool y.e.del], .bool o.isSome]) ∧ y.e = o.getD zeE ∧ y.Ok w' ∧ Below w.heap.size w w' ∧ (y ∈ xs ∨ (y.ka = none ∧ y.va = none))
/-- bytes are none of a change's cells. -/
theorem inn_put3 {w : World} {q : Nat} {a b c x y z : Value} {fa : Option Addr} {fn fc : Nat} {frm : List Int} (hf : Inn w fa fn fc frm) (hq : w.heap[q]? = some (.cells #[.slice none 0 0, .slice none 0 0, .bool false] 85 (0, 0))) : Inn (((w.setCell ⟨q, 0, none⟩ a).setCell ⟨q, 1, none⟩ b).setCell ⟨q, 2, none⟩ c) fa fn fc frm := by
  refine ⟨hf.len, hf.cap, hf.max, hf.bare, ?_, hf.byts⟩
  rcases hf.row with h | ⟨b', off, e, hlt, hc⟩
  · exact .inl h
  · by_cases h0 : frm = []
    · exact .inl h0
    have hne : b' ≠ q := by
      intro e
      subst e
      have h1 := hc 0 (List.length_pos_iff.2 h0)
      rw [World.cell?, hq] at h1
      match off, h1 with
      | 0, h1 => simp at h1
      | 1, h1 => simp at h1
      | 2, h1 => simp at h1
      | k + 3, h1 => simp at h1
    refine .inr ⟨b', off, e, by simpa [World.setCell] using hlt, fun i hi => ?_⟩
    have h1 := hc i hi
    rw [World.cell?_of_block (a := ⟨b', off + i, none⟩) (put3_other (a := a) (b := b) (c := c) hne)]
    exact h1
theorem ok_put3 {w : World} {q : Nat} {a b c : Value} {x : En} (h : x.Ok w) (hq : w.heap[q]? = some (.cells #[.slice none 0 0, .slice none 0 0, .bool false] 85 (0, 0))) : x.Ok (((w.setCell ⟨q, 0, none⟩ a).setCell ⟨q, 1, none⟩ b).setCell ⟨q, 2, none⟩ c) := ⟨inn_put3 (x := a) (y := b) (z := c) h.key hq, inn_put3 (x := a) (y := b) (z := c) h.val hq⟩
set_option maxHeartbeats 6400000 in
set_option maxRecDepth 1000000 in
theorem rnext_any {w : World} {p n c : Nat} {a : Option Addr} {xs : List En} (hp : w.cell? ⟨p, 0, none⟩ = some (.slice a n c)) (h : Ens w a n c xs) (hn : n ≤ 900000) (fa : Option Addr) (fn fc : Nat) (frm : List Int) (inn : Bool) (hf : Inn w fa fn fc frm) (o : Option Ee) (ho : o = ((ers xs).foldl put []).find? (fun e => bhU e.key frm inn)) :
    Calls Try.prog 29 #[.pointer (some ⟨p, 0, none⟩), .slice fa fn fc, .bool inn] w (ShC xs w o) := by
  obtain ⟨w1, hw1⟩ : ∃ w1, w1 = w.alloc (.cells #[.slice none 0 0, .slice none 0 0, .bool false] 85) := ⟨_, rfl⟩
  have hB1 : Below w.heap.size w w1 := by rw [hw1]; exact below_alloc _ _
  have hz1 : w1.heap[w.heap.size]? = some (.cells #[.slice none 0 0, .slice none 0 0, .bool false] 85 (0, 0)) := by rw [hw1]; exact heap_alloc_new w _
  have HC := hide (rchanges_any (one_below1 hp hB1) (h.below hB1) hn)
  have HE := hide (h.below hB1)
  have HF := hide (hf.below hB1)
  have HB1 := hide hB1
  have Hz1 := hide hz1
  have HO := hide ho
  have hs1 : w1.heap.size = w.heap.size + 1 := by rw [hw1]; simp
  clear hp h hf hB1 hz1 ho
  go_enter Try.func29, Try.ntmps29
  go_wp2_with fail
  rw [← hw1]
  clear hw1
  refine HC.out.mono ?_
  rintro e w2 ⟨cv, m, ys, rfl, hrc⟩
  obtain ⟨a2, c2, rfl, hE2⟩ := hrc.ens HE.out
  have hm9 : m ≤ 900000 := by
    have h2 := congrArg List.length hrc.is
    have h3 := fold_len ((ers xs).take n)
    rw [ers_len] at h2
    rw [List.length_take, ers_len] at h3
    have := HE.out.len
    have := hrc.len
    omega
  have he : ers ys = (ers xs).foldl put [] := by rw [hrc.is, List.take_of_length_le (by rw [ers_len, HE.out.len]; exact Nat.le_refl _)]
  rw [← he] at HO
  have HE2 := hide hE2
  have HSub := hide hrc.sub
  have HB2 := hide (HB1.out.trans (hrc.below.mono HB1.out.size))
  have hz2 := (hrc.below.block _ (by omega)).trans Hz1.out
  have HF2 := hide (HF.out.below hrc.below)
  have hs2 : w.heap.size < w2.heap.size := by have := hrc.below.size; omega
  obtain ⟨z0, z1, z3, zf⟩ := cells_three hz2
  have zf0 := zf 0
  have zf1 := zf 1
  have zf2 := zf 2
  have HZ2 := hide hz2
  have hcap := hE2.cap
  have hmax := hE2.max
  clear hrc hE2 zf he hz2 HC
  go_wp2
  go_loopw [9] (fun vi wr => ∃ (k : Nat), k ≤ m ∧ vi = .int .i64 (k : Int) ∧ o = ((ers ys).drop k).find? (fun e => bhU e.key frm inn) ∧ wr = w2) (fun vi _ => m - (intOf vi).toNat)
  case atStart => exact ⟨0, Nat.zero_le _, rfl, HO.out, rfl⟩
  case round =>
    obtain ⟨k, hk, rfl, hoo, rfl⟩ := hrel
    have HOO := hide hoo
    clear hoo
    by_cases hlt : k < m
    · obtain ⟨x, hx, hok⟩ := HE2.out.at hlt
      obtain ⟨b, off, rfl, hbs, c0, c1, c3⟩ := HE2.out.cells hx
      have d1 : (k : Int) < (m : Int) := by omega
      have d0 : (0 : Int) ≤ (k : Int) := by omega
      have hrem : (ers ys).drop k = x.e :: (ers ys).drop (k + 1) := drop_at (ers_at hx)
      rw [hrem] at HOO
      have HR := hide (rabove_any x.ka fa x.e.key.length x.kc fn fc x.e.key frm inn _ hok.key HF2.out)
      have HOK := hide hok
      have HMx := hide (List.mem_of_getElem? hx)
      clear hok hrem hx
      rcases Bool.eq_false_or_eq_true (bhU x.e.key frm inn) with hp | hp
      · have hoo : o = some x.e := by rw [HOO.out, List.find?_cons, hp]
        subst hoo
        rw [hp] at HR
        clear hp
        go_wp2_with (go_at_call 77; refine HR.out.mono ?_; rintro e w9 ⟨rfl, rfl⟩)
        have hf3 := put3 (a := .slice x.ka x.e.key.length x.kc) (b := .slice x.va x.e.val.length x.vc) (c := .bool x.e.del) HZ2.out
        obtain ⟨y0, y1, y2, -⟩ := cells_three hf3
        refine bodyPost_ret (v := .tuple #[.agg #[.slice x.ka x.e.key.length x.kc, .slice x.va x.e.val.length x.vc, .bool x.e.del], .bool true]) ?_ rfl ?_
        · simp [results, Try.results29, go_sem, y0, y1, y2]
        · have hb3 : Below w.heap.size w9 (((w9.setCell ⟨w.heap.size, 0, none⟩ (.slice x.ka x.e.key.length x.kc)).setCell ⟨w.heap.size, 1, none⟩ (.slice x.va x.e.val.length x.vc)).setCell ⟨w.heap.size, 2, none⟩ (.bool x.e.del)) := put3_below ((Below.refl w9.heap.size w9).mono (by omega)) (Nat.le_refl _)
          exact ⟨x, rfl, rfl, ok_put3 HOK.out HZ2.out, HB2.out.trans hb3, .inl (HSub.out x HMx.out)⟩
      · have hoo : o = ((ers ys).drop (k + 1)).find? (fun e => bhU e.key frm inn) := by rw [HOO.out, List.find?_cons, hp]
        rw [hp] at HR
        clear hp
        go_wp2_with (go_at_call 77; refine HR.out.mono ?_; rintro e w9 ⟨rfl, rfl⟩)
        refine ⟨⟨k + 1, by omega, by go_num, hoo, trivial⟩, ?_⟩
        simp [intOf]; omega
    · have ek : k = m := by omega
      subst ek
      have hnil : (ers ys).drop k = [] := List.drop_of_length_le (by rw [ers_len, HE2.out.len]; exact Nat.le_refl _)
      have d1 : ¬ ((k : Int) < (k : Int)) := by omega
      have d0 : (0 : Int) ≤ (k : Int) := by omega
      rw [hnil] at HOO
      have hoo : o = none := HOO.out
      subst hoo
      go_wp2
      have hf3 := put3 (a := .slice none 0 0) (b := .slice none 0 0) (c := .bool false) HZ2.out
      obtain ⟨y0, y1, y2, -⟩ := cells_three hf3
      refine bodyPost_ret (v := .tuple #[.agg #[.slice none 0 0, .slice none 0 0, .bool false], .bool false]) ?_ rfl ?_
      · simp [results, Try.results29, go_sem, y0, y1, y2]
      · have hb3 : Below w.heap.size wr (((wr.setCell ⟨w.heap.size, 0, none⟩ (.slice none 0 0)).setCell ⟨w.heap.size, 1, none⟩ (.slice none 0 0)).setCell ⟨w.heap.size, 2, none⟩ (.bool false)) := put3_below ((Below.refl wr.heap.size wr).mono (by omega)) (Nat.le_refl _)
        exact ⟨⟨zeE, none, 0, none, 0⟩, rfl, rfl, ⟨inn_nil _, inn_nil _⟩, HB2.out.trans hb3, .inr ⟨rfl, rfl⟩⟩
set_option maxHeartbeats 6400000 in
set_option maxRecDepth 1000000 in
theorem rprev_any {w : World} {p n c : Nat} {a : Option Addr} {xs : List En} (hp : w.cell? ⟨p, 0, none⟩ = some (.slice a n c)) (h : Ens w a n c xs) (hn : n ≤ 900000) (fa : Option Addr) (fn fc : Nat) (frm : List Int) (inn : Bool) (hf : Inn w fa fn fc frm) (o : Option Ee) (ho : o = ((ers xs).foldl put []).reverse.find? (fun e => bhD e.key frm inn)) :
    Calls Try.prog 31 #[.pointer (some ⟨p, 0, none⟩), .slice fa fn fc, .bool inn] w (ShC xs w o) := by
  obtain ⟨w1, hw1⟩ : ∃ w1, w1 = w.alloc (.cells #[.slice none 0 0, .slice none 0 0, .bool false] 85) := ⟨_, rfl⟩
  have hB1 : Below w.heap.size w w1 := by rw [hw1]; exact below_alloc _ _
  have hz1 : w1.heap[w.heap.size]? = some (.cells #[.slice none 0 0, .slice none 0 0, .bool false] 85 (0, 0)) := by rw [hw1]; exact heap_alloc_new w _
  have HC := hide (rchanges_any (one_below1 hp hB1) (h.below hB1) hn)
  have HE := hide (h.below hB1)
  have HF := hide (hf.below hB1)
  have HB1 := hide hB1
  have Hz1 := hide hz1
  have HO := hide ho
  have hs1 : w1.heap.size = w.heap.size + 1 := by rw [hw1]; simp
  clear hp h hf hB1 hz1 ho
  go_enter Try.func31, Try.ntmps31
  go_wp2_with fail
  rw [← hw1]
  clear hw1
  refine HC.out.mono ?_
  rintro e w2 ⟨cv, m, ys, rfl, hrc⟩
  obtain ⟨a2, c2, rfl, hE2⟩ := hrc.ens HE.out
  have hm9 : m ≤ 900000 := by
    have h2 := congrArg List.length hrc.is
    have h3 := fold_len ((ers xs).take n)
    rw [ers_len] at h2
    rw [List.length_take, ers_len] at h3
    have := HE.out.len
    have := hrc.len
    omega
  have he : ers ys = (ers xs).foldl put [] := by rw [hrc.is, List.take_of_length_le (by rw [ers_len, HE.out.len]; exact Nat.le_refl _)]
  rw [← he] at HO
  have HE2 := hide hE2
  have HSub := hide hrc.sub
  have HB2 := hide (HB1.out.trans (hrc.below.mono HB1.out.size))
  have hz2 := (hrc.below.block _ (by omega)).trans Hz1.out
  have HF2 := hide (HF.out.below hrc.below)
  have hs2 : w.heap.size < w2.heap.size := by have := hrc.below.size; omega
  obtain ⟨z0, z1, z3, zf⟩ := cells_three hz2
  have zf0 := zf 0
  have zf1 := zf 1
  have zf2 := zf 2
  have HZ2 := hide hz2
  have hcap := hE2.cap
  have hmax := hE2.max
  clear hrc hE2 zf he hz2 HC
  go_wp2
  go_loopw [9] (fun vi wr => ∃ (k : Nat), k ≤ m ∧ vi = .int .i64 ((k : Int) - 1) ∧ o = (((ers ys).take k).reverse).find? (fun e => bhD e.key frm inn) ∧ wr = w2) (fun vi _ => (intOf vi + 1).toNat)
  case atStart => exact ⟨m, Nat.le_refl _, rfl, by rw [List.take_of_length_le (by rw [ers_len, HE2.out.len]; exact Nat.le_refl _)]; exact HO.out, rfl⟩
  case round =>
    obtain ⟨k, hk, rfl, hoo, rfl⟩ := hrel
    have HOO := hide hoo
    clear hoo
    by_cases hlt : 0 < k
    · obtain ⟨k, rfl⟩ : ∃ j, k = j + 1 := ⟨k - 1, by omega⟩
      obtain ⟨x, hx, hok⟩ := HE2.out.at (k := k) (by omega)
      obtain ⟨b, off, rfl, hbs, c0, c1, c3⟩ := HE2.out.cells hx
      have ek : (((k + 1 : Nat) : Int) - 1) = (k : Int) := by omega
      rw [ek]
      have d1 : (k : Int) < (m : Int) := by omega
      have d0 : (0 : Int) ≤ (k : Int) := by omega
      have hrem : ((ers ys).take (k + 1)).reverse = x.e :: ((ers ys).take k).reverse := by rw [take_at (ers_at hx), List.reverse_append]; rfl
      rw [hrem] at HOO
      have HR := hide (rbelow_any x.ka fa x.e.key.length x.kc fn fc x.e.key frm inn _ hok.key HF2.out)
      have HOK := hide hok
      have HMx := hide (List.mem_of_getElem? hx)
      clear hok hrem hx
      rcases Bool.eq_false_or_eq_true (bhD x.e.key frm inn) with hp | hp
      · have hoo : o = some x.e := by rw [HOO.out, List.find?_cons, hp]
        subst hoo
        rw [hp] at HR
        clear hp
        go_wp2_with (go_at_call 79; refine HR.out.mono ?_; rintro e w9 ⟨rfl, rfl⟩)
        have hf3 := put3 (a := .slice x.ka x.e.key.length x.kc) (b := .slice x.va x.e.val.length x.vc) (c := .bool x.e.del) HZ2.out
        obtain ⟨y0, y1, y2, -⟩ := cells_three hf3
        refine bodyPost_ret (v := .tuple #[.agg #[.slice x.ka x.e.key.length x.kc, .slice x.va x.e.val.length x.vc, .bool x.e.del], .bool true]) ?_ rfl ?_
        · simp [results, Try.results31, go_sem, y0, y1, y2]
        · have hb3 : Below w.heap.size w9 (((w9.setCell ⟨w.heap.size, 0, none⟩ (.slice x.ka x.e.key.length x.kc)).setCell ⟨w.heap.size, 1, none⟩ (.slice x.va x.e.val.length x.vc)).setCell ⟨w.heap.size, 2, none⟩ (.bool x.e.del)) := put3_below ((Below.refl w9.heap.size w9).mono (by omega)) (Nat.le_refl _)
          exact ⟨x, rfl, rfl, ok_put3 HOK.out HZ2.out, HB2.out.trans hb3, .inl (HSub.out x HMx.out)⟩
      · have hoo : o = (((ers ys).take k).reverse).find? (fun e => bhD e.key frm inn) := by rw [HOO.out, List.find?_cons, hp]
        rw [hp] at HR
        clear hp
        go_wp2_with (go_at_call 79; refine HR.out.mono ?_; rintro e w9 ⟨rfl, rfl⟩)
        refine ⟨⟨k, by omega, by go_num, hoo, trivial⟩, ?_⟩
        simp [intOf]
    · obtain rfl : k = 0 := by omega
      have hnil : ((ers ys).take 0).reverse = [] := rfl
      have d0 : ¬ ((0 : Int) ≤ ((0 : Nat) : Int) - 1) := by omega
      rw [hnil] at HOO
      have hoo : o = none := HOO.out
      subst hoo
      go_wp2
      have hf3 := put3 (a := .slice none 0 0) (b := .slice none 0 0) (c := .bool false) HZ2.out
      obtain ⟨y0, y1, y2, -⟩ := cells_three hf3
      refine bodyPost_ret (v := .tuple #[.agg #[.slice none 0 0, .slice none 0 0, .bool false], .bool false]) ?_ rfl ?_
      · simp [results, Try.results31, go_sem, y0, y1, y2]
      · have hb3 : Below w.heap.size wr (((wr.setCell ⟨w.heap.size, 0, none⟩ (.slice none 0 0)).setCell ⟨w.heap.size, 1, none⟩ (.slice none 0 0)).setCell ⟨w.heap.size, 2, none⟩ (.bool false)) := put3_below ((Below.refl wr.heap.size wr).mono (by omega)) (Nat.le_refl _)
        exact ⟨⟨zeE, none, 0, none, 0⟩, rfl, rfl, ⟨inn_nil _, inn_nil _⟩, HB2.out.trans hb3, .inr ⟨rfl, rfl⟩⟩
end Go.Proofs.Ytgohhlngnnmknaa
/- The document's own buffer: Get. -/
namespace Go.Proofs.Ytgohhlngnnmknaa
open Go.RowKit Go.Maps
set_option linter.unusedVariables false

theorem lk_fold (es : List Ee) (key : List Int) : lk (es.foldl put []) key = es.reverse.find? (fun e => decide (e.key = key)) := by
  have gen : ∀ (l acc : List Ee), lk (l.foldl put acc) key = (l.reverse.find? (fun e => decide (e.key = key))).or (lk acc key) := by
    intro l
    induction l with
    | nil => intro acc; simp
    | cons x t ih =>
      intro acc
      rw [List.foldl_cons, ih, lk_put, List.reverse_cons, List.find?_append]
      cases ht : t.reverse.find? (fun e => decide (e.key = key)) with
      | some y => simp
      | none =>
        by_cases hk : x.key = key
        · simp [hk]
        · simp [hk]
  have := gen es []
  rw [this]
  simp [lk]
set_option maxHeartbeats 6400000 in
set_option maxRecDepth 1000000 in
theorem rget_any {w : World} {p n c : Nat} {a : Option Addr} {xs : List En} (hp : w.cell? ⟨p, 0, none⟩ = some (.slice a n c)) (h : Ens w a n c xs) (hn : n ≤ 900000) (ka : Option Addr) (kn kc : Nat) (key : List Int) (hk : Inn w ka kn kc key) (o : Option Ee) (ho : o = (ers xs).reverse.find? (fun e => decide (e.key = key))) :
    Calls Try.prog 27 #[.pointer (some ⟨p, 0, none⟩), .slice ka kn kc] w (ShC xs w o) := by
  obtain ⟨w1, hw1⟩ : ∃ w1, w1 = w.alloc (.cells #[.slice none 0 0, .slice none 0 0, .bool false] 85) := ⟨_, rfl⟩
  have hB1 : Below w.heap.size w w1 := by rw [hw1]; exact below_alloc _ _
  have hz1 : w1.heap[w.heap.size]? = some (.cells #[.slice none 0 0, .slice none 0 0, .bool false] 85 (0, 0)) := by rw [hw1]; exact heap_alloc_new w _
  have HE := hide (h.below hB1)
  have HF := hide (hk.below hB1)
  have HP := hide (one_below1 hp hB1)
  have HB1 := hide hB1
  have Hz1 := hide hz1
  have HO := hide ho
  have hs1 : w1.heap.size = w.heap.size + 1 := by rw [hw1]; simp
  have hcap := h.cap
  have hmax := h.max
  have c0 := one_below1 hp hB1
  have k8 := hk.byts
  have HK8 := hide k8
  clear hp h hk hB1 hz1 ho k8
  go_enter Try.func27, Try.ntmps27
  rw [hw1] at c0
  go_wp2
  rw [← hw1]
  go_loopw [6] (fun vi wr => ∃ (k : Nat), k ≤ n ∧ vi = .int .i64 ((k : Int) - 1) ∧ o = (((ers xs).take k).reverse).find? (fun e => decide (e.key = key)) ∧ Below w1.heap.size w1 wr) (fun vi _ => (intOf vi + 1).toNat)
  case atStart => exact ⟨n, Nat.le_refl _, rfl, by rw [List.take_of_length_le (by rw [ers_len, HE.out.len]; exact Nat.le_refl _)]; exact HO.out, by rw [hw1]; exact Below.refl _ _⟩
  case round =>
    obtain ⟨k, hk, rfl, hoo, hbw⟩ := hrel
    have HOO := hide hoo
    have HBw := hide hbw
    have c1 := one_below1 HP.out hbw
    have hzr := (hbw.block _ (by omega)).trans Hz1.out
    have HZr := hide hzr
    have hsr : w.heap.size < wr.heap.size := by have := hbw.size; omega
    clear hoo hzr c0
    by_cases hlt : 0 < k
    · obtain ⟨k, rfl⟩ : ∃ j, k = j + 1 := ⟨k - 1, by omega⟩
      obtain ⟨x, hx, hok⟩ := (HE.out.below hbw).at (k := k) (by omega)
      obtain ⟨b, off, rfl, hbs, q0, q1, q2⟩ := (HE.out.below hbw).cells hx
      have ek : (((k + 1 : Nat) : Int) - 1) = (k : Int) := by omega
      rw [ek]
      have d1 : (k : Int) < (n : Int) := by omega
      have d0 : (0 : Int) ≤ (k : Int) := by omega
      have hrem : ((ers xs).take (k + 1)).reverse = x.e :: ((ers xs).take k).reverse := by rw [take_at (ers_at hx), List.reverse_append]; rfl
      rw [hrem] at HOO
      have HOk := hide hok
      have HMx := hide (List.mem_of_getElem? hx)
      have HFr := hide (HF.out.below hbw)
      have t1 : ∀ q, (convert 60 9 (.slice x.ka x.e.key.length x.kc)).run Try.prog (wr.drewN q) = .ok (.string (bk x.e.key)) (wr.drewN q) := fun q => text_inn (HOk.out.key.below (below_drewN (Below.refl _ _) q))
      have t2 : ∀ q, (convert 60 9 (.slice ka kn kc)).run Try.prog (wr.drewN q) = .ok (.string (bk key)) (wr.drewN q) := fun q => text_inn (HFr.out.below (below_drewN (Below.refl _ _) q))
      have k0 : ∀ q, (wr.drewN q).cell? ⟨b, off + k * 3, none⟩ = some (.slice x.ka x.e.key.length x.kc) := fun q => q0
      have k1 : ∀ q, (wr.drewN q).cell? ⟨p, 0, none⟩ = some (.slice (some ⟨b, off, none⟩) n c) := fun q => c1
      have e1 := text_eq x.e.key key hok.key.byts HK8.out
      clear hok hrem hx hbw
      by_cases hp : x.e.key = key
      · have hoo : o = some x.e := by rw [HOO.out, List.find?_cons, decide_eq_true hp]
        subst hoo
        rw [decide_eq_true hp] at e1
        clear hp
        go_wp2
        go_quiet (fail)
        have HBn := hide (below_drewN (Below.refl wr.heap.size wr) nq)
        have HZn := hide ((HBn.out.block _ hsr).trans HZr.out)
        have HOn := hide (HOk.out.below HBn.out)
        have HBz := hide (HB1.out.trans ((HBw.out.trans (HBn.out.mono HBw.out.size)).mono HB1.out.size))
        have hsn : w.heap.size < (wr.drewN nq).heap.size := by have := HBn.out.size; omega
        replace q0 := one_below1 q0 HBn.out
        replace q1 := one_below1 q1 HBn.out
        replace q2 := one_below1 q2 HBn.out
        replace c1 := one_below1 c1 HBn.out
        obtain ⟨z0, z1, z2, zf⟩ := cells_three HZn.out
        have zf0 := zf 0
        have zf1 := zf 1
        have zf2 := zf 2
        clear t1 t2 k0 k1 e1 zf
        generalize wr.drewN nq = wn at *
        go_wp2
        have hf3 := put3 (a := .slice x.ka x.e.key.length x.kc) (b := .slice x.va x.e.val.length x.vc) (c := .bool x.e.del) HZn.out
        obtain ⟨y0, y1, y2, -⟩ := cells_three hf3
        refine bodyPost_ret (v := .tuple #[.agg #[.slice x.ka x.e.key.length x.kc, .slice x.va x.e.val.length x.vc, .bool x.e.del], .bool true]) ?_ rfl ?_
        · simp [results, Try.results27, go_sem, y0, y1, y2]
        · have hb3 : Below w.heap.size wn (((wn.setCell ⟨w.heap.size, 0, none⟩ (.slice x.ka x.e.key.length x.kc)).setCell ⟨w.heap.size, 1, none⟩ (.slice x.va x.e.val.length x.vc)).setCell ⟨w.heap.size, 2, none⟩ (.bool x.e.del)) := put3_below ((Below.refl wn.heap.size wn).mono (by omega)) (Nat.le_refl _)
          exact ⟨x, rfl, rfl, ok_put3 HOn.out HZn.out, HBz.out.trans hb3, .inl HMx.out⟩
      · have hoo : o = (((ers xs).take k).reverse).find? (fun e => decide (e.key = key)) := by rw [HOO.out, List.find?_cons, decide_eq_false hp]
        rw [decide_eq_false hp] at e1
        clear hp
        go_wp2
        go_quiet (fail)
        have HBn := hide (below_drewN HBw.out nq)
        clear t1 t2 k0 k1 e1 q0 q1 q2 c1
        generalize wr.drewN nq = wn at *
        go_wp2
        refine ⟨⟨k, by omega, by go_num, hoo, HBn.out⟩, ?_⟩
        simp [intOf]
    · obtain rfl : k = 0 := by omega
      have hnil : ((ers xs).take 0).reverse = [] := rfl
      have d0 : ¬ ((0 : Int) ≤ ((0 : Nat) : Int) - 1) := by omega
      rw [hnil] at HOO
      have hoo : o = none := HOO.out
      subst hoo
      obtain ⟨z0, z1, z2, zf⟩ := cells_three HZr.out
      have zf0 := zf 0
      have zf1 := zf 1
      have zf2 := zf 2
      have HBz := hide (HB1.out.trans (hbw.mono HB1.out.size))
      clear zf hbw
      go_wp2
      have hf3 := put3 (a := .slice none 0 0) (b := .slice none 0 0) (c := .bool false) HZr.out
      obtain ⟨y0, y1, y2, -⟩ := cells_three hf3
      refine bodyPost_ret (v := .tuple #[.agg #[.slice none 0 0, .slice none 0 0, .bool false], .bool false]) ?_ rfl ?_
      · simp [results, Try.results27, go_sem, y0, y1, y2]
      · have hb3 : Below w.heap.size wr (((wr.setCell ⟨w.heap.size, 0, none⟩ (.slice none 0 0)).setCell ⟨w.heap.size, 1, none⟩ (.slice none 0 0)).setCell ⟨w.heap.size, 2, none⟩ (.bool false)) := put3_below ((Below.refl wr.heap.size wr).mono (by omega)) (Nat.le_refl _)
        exact ⟨⟨zeE, none, 0, none, 0⟩, rfl, rfl, ⟨inn_nil _, inn_nil _⟩, HBz.out.trans hb3, .inr ⟨rfl, rfl⟩⟩
end Go.Proofs.Ytgohhlngnnmknaa
/- Next and Prev of a buffer: what is said of the key that comes next. -/
namespace Go.Proofs.Ytgohhlngnnmknaa
open Go.RowKit Go.Maps
set_option linter.unusedVariables false

theorem tell_neg {w : World} {p B : Nat} {sv uv : Value} {xs : List En} {us : List Value} (h : Bf w p B sv uv xs us) : Calls Try.prog 75 #[.pointer (some ⟨p, 0, none⟩), .int .i64 (-1)] w (TellOut w none) := by
  obtain ⟨w1, hw1⟩ : ∃ w1, w1 = w.alloc (.cells #[.slice none 0 0, .slice none 0 0, .bool false] 85) := ⟨_, rfl⟩
  have hB1 : Below w.heap.size w w1 := by rw [hw1]; exact below_alloc _ _
  have hb1 : w1.heap[w.heap.size]? = some (.cells #[.slice none 0 0, .slice none 0 0, .bool false] 85 (0, 0)) := by rw [hw1]; exact heap_alloc_new w _
  obtain ⟨z0, z1, z2, zf⟩ := cells_three hb1
  have zf0 := zf 0
  have zf1 := zf 1
  have zf2 := zf 2
  have HB1 := hide hB1
  have d0 : (-1 : Int) < 0 := by omega
  clear h zf hB1 hb1
  subst hw1
  go_enter Try.func75, Try.ntmps75
  go_wp2
  refine bodyPost_ret (v := .tuple #[.agg #[.slice none 0 0, .slice none 0 0, .bool false], .bool false]) ?_ rfl ?_
  · simp [results, Try.results75, go_sem, z0, z1, z2]
  · exact tell_zero HB1.out
theorem find_drop {es : List Ee} {P : Ee → Bool} {m : Nat} (h : es.filter P = es.drop m) : es.find? P = es[m]? := by
  rw [← List.head?_filter, h, List.head?_drop]
theorem find_take {es : List Ee} {P : Ee → Bool} {m : Nat} (hm : m ≤ es.length) (h : es.filter P = es.take m) : es.reverse.find? P = if m = 0 then none else es[m - 1]? := by
  rw [← List.head?_filter, List.filter_reverse, h, List.head?_reverse, List.getLast?_eq_getElem?, List.length_take, Nat.min_eq_left hm]
  by_cases h0 : m = 0
  · subst h0; simp
  · rw [if_neg h0, List.getElem?_take, if_pos (by omega)]
set_option maxHeartbeats 3200000 in
set_option maxRecDepth 1000000 in
theorem bnext_any {w : World} {p B : Nat} {sv uv : Value} {xs : List En} {us : List Value} (h : Bf w p B sv uv xs us) (hr : Ris (ers xs)) (ka : Option Addr) (kn kc : Nat) (key : List Int) (inn : Bool) (hk : Inn w ka kn kc key) (hn : xs.length ≤ 900000) (hw : ∀ x ∈ xs, x.e.key.length ≤ 140737488351232 ∧ x.e.val.length ≤ 140737488351232) (o : Option Ee) (ho : o = (ers xs).find? (fun e => bhU e.key key inn)) :
    Calls Try.prog 28 #[.pointer (some ⟨p, 0, none⟩), .slice ka kn kc, .bool inn] w (TellOut w o) := by
  obtain ⟨w1, hw1⟩ : ∃ w1, w1 = w.alloc (.cells #[.slice none 0 0, .slice none 0 0, .bool false] 85) := ⟨_, rfl⟩
  have hB1 : Below w.heap.size w w1 := by rw [hw1]; exact below_alloc _ _
  have hb1 : w1.heap[w.heap.size]? = some (.cells #[.slice none 0 0, .slice none 0 0, .bool false] 85 (0, 0)) := by rw [hw1]; exact heap_alloc_new w _
  have HF := hide (above_any (h.below hB1) ka kn kc key inn (hk.below hB1) hn)
  have HB1 := hide hB1
  have Hb1 := hide hb1
  have HR := hide hr
  have hkl := hk.len
  have hsz : w1.heap.size = w.heap.size + 1 := by rw [hw1]; simp
  have HT := hide (fun W (hW : Below w.heap.size w W) (i : Nat) (hi : i ≤ 1000000) (o : Option Ee) (ho : (xs[i]?).map En.e = o) => tell_at (h.below hW) i (by omega) hi hw o ho)
  have HTn := hide (fun W (hW : Below w.heap.size w W) => tell_neg (h.below hW))
  have HO := hide ho
  clear h hr hk hw hB1 hb1 ho
  subst hw1
  go_enter Try.func28, Try.ntmps28
  go_wp2_with fail
  refine HF.out.mono ?_
  rintro e w2 ⟨i, m, rfl, hat, hm, hb2⟩
  have HB2 := hide hb2
  obtain ⟨hml, hfl⟩ := startU HR.out hat hm
  have hoo : (xs[m]?).map En.e = o := by
    rw [HO.out, find_drop hfl]
    simp [ers]
  have HTl := hide (HT.out w2 (HB1.out.trans (HB2.out.mono HB1.out.size)) m (by omega) o hoo)
  clear hm hml hfl hoo
  have hz2 := (hb2.block _ (lt_of_block Hb1.out)).trans Hb1.out
  have HZ := hide hz2
  clear hb2 hat hz2 HT
  go_wp2_with (go_at_call 75; refine HTl.out.mono ?_; rintro e w3 ⟨y, rfl, hye, hyo, hb3⟩; have hz := (hb3.block _ (lt_of_block HZ.out)).trans HZ.out; obtain ⟨g0, g1, g2, gf⟩ := cells_three hz; have gf0 := gf 0; have gf1 := gf 1; have gf2 := gf 2; have HZ3 := hide hz; have HYe := hide hye; have HYo := hide hyo; have HB3 := hide hb3; clear hz gf hye hyo hb3)
  have hf := put3 (a := .slice y.ka y.e.key.length y.kc) (b := .slice y.va y.e.val.length y.vc) (c := .bool y.e.del) HZ3.out
  obtain ⟨q0, q1, q2, -⟩ := cells_three hf
  refine bodyPost_ret (v := .tuple #[.agg #[.slice y.ka y.e.key.length y.kc, .slice y.va y.e.val.length y.vc, .bool y.e.del], .bool o.isSome]) ?_ rfl ?_
  · simp [results, Try.results28, go_sem, q0, q1, q2]
  · have h12 : w.heap.size + 1 ≤ w2.heap.size := by have := HB2.out.size; omega
    exact ⟨y, rfl, HYe.out, (HYo.out.move fun k hk1 hk2 => put3_other (by omega)).mono (by omega), put3_below (HB1.out.trans ((HB2.out.trans (HB3.out.mono HB2.out.size)).mono HB1.out.size)) (Nat.le_refl _)⟩
set_option maxHeartbeats 3200000 in
set_option maxRecDepth 1000000 in
theorem bprev_any {w : World} {p B : Nat} {sv uv : Value} {xs : List En} {us : List Value} (h : Bf w p B sv uv xs us) (hr : Ris (ers xs)) (ka : Option Addr) (kn kc : Nat) (key : List Int) (inn : Bool) (hk : Inn w ka kn kc key) (hn : xs.length ≤ 900000) (hw : ∀ x ∈ xs, x.e.key.length ≤ 140737488351232 ∧ x.e.val.length ≤ 140737488351232) (o : Option Ee) (ho : o = (ers xs).reverse.find? (fun e => bhD e.key key inn)) :
    Calls Try.prog 30 #[.pointer (some ⟨p, 0, none⟩), .slice ka kn kc, .bool inn] w (TellOut w o) := by
  obtain ⟨w1, hw1⟩ : ∃ w1, w1 = w.alloc (.cells #[.slice none 0 0, .slice none 0 0, .bool false] 85) := ⟨_, rfl⟩
  have hB1 : Below w.heap.size w w1 := by rw [hw1]; exact below_alloc _ _
  have hb1 : w1.heap[w.heap.size]? = some (.cells #[.slice none 0 0, .slice none 0 0, .bool false] 85 (0, 0)) := by rw [hw1]; exact heap_alloc_new w _
  have HF := hide (under_any (h.below hB1) ka kn kc key inn (hk.below hB1) hn)
  have HB1 := hide hB1
  have Hb1 := hide hb1
  have HR := hide hr
  have hkl := hk.len
  have hsz : w1.heap.size = w.heap.size + 1 := by rw [hw1]; simp
  have HT := hide (fun W (hW : Below w.heap.size w W) (i : Nat) (hi : i ≤ 1000000) (o : Option Ee) (ho : (xs[i]?).map En.e = o) => tell_at (h.below hW) i (by omega) hi hw o ho)
  have HTn := hide (fun W (hW : Below w.heap.size w W) => tell_neg (h.below hW))
  have HO := hide ho
  clear h hr hk hw hB1 hb1 ho
  subst hw1
  go_enter Try.func30, Try.ntmps30
  go_wp2_with fail
  refine HF.out.mono ?_
  rintro e w2 ⟨i, m, rfl, hat, hb2⟩
  have HB2 := hide hb2
  obtain ⟨hml, hfl⟩ := startD HR.out (by rw [← hkl] at hat; exact hat)
  have HTl : Hid (Calls Try.prog 75 #[.pointer (some ⟨p, 0, none⟩), .int .i64 ((m : Int) - 1)] w2 (TellOut w2 o)) := by
    have hoo := HO.out
    rw [find_take (by rw [ers_len]; exact hml) hfl] at hoo
    by_cases h0 : m = 0
    · subst h0
      rw [if_pos rfl] at hoo
      subst hoo
      exact HTn.out w2 (HB1.out.trans (HB2.out.mono HB1.out.size))
    · rw [if_neg h0] at hoo
      have hc : (m : Int) - 1 = ((m - 1 : Nat) : Int) := by omega
      rw [hc]
      exact HT.out w2 (HB1.out.trans (HB2.out.mono HB1.out.size)) (m - 1) (by omega) o (by rw [hoo]; simp [ers])
  clear HTn hml hfl
  have hz2 := (hb2.block _ (lt_of_block Hb1.out)).trans Hb1.out
  have HZ := hide hz2
  clear hb2 hat hz2 HT
  go_wp2_with (go_at_call 75; refine HTl.out.mono ?_; rintro e w3 ⟨y, rfl, hye, hyo, hb3⟩; have hz := (hb3.block _ (lt_of_block HZ.out)).trans HZ.out; obtain ⟨g0, g1, g2, gf⟩ := cells_three hz; have gf0 := gf 0; have gf1 := gf 1; have gf2 := gf 2; have HZ3 := hide hz; have HYe := hide hye; have HYo := hide hyo; have HB3 := hide hb3; clear hz gf hye hyo hb3)
  have hf := put3 (a := .slice y.ka y.e.key.length y.kc) (b := .slice y.va y.e.val.length y.vc) (c := .bool y.e.del) HZ3.out
  obtain ⟨q0, q1, q2, -⟩ := cells_three hf
  refine bodyPost_ret (v := .tuple #[.agg #[.slice y.ka y.e.key.length y.kc, .slice y.va y.e.val.length y.vc, .bool y.e.del], .bool o.isSome]) ?_ rfl ?_
  · simp [results, Try.results30, go_sem, q0, q1, q2]
  · have h12 : w.heap.size + 1 ≤ w2.heap.size := by have := HB2.out.size; omega
    exact ⟨y, rfl, HYe.out, (HYo.out.move fun k hk1 hk2 => put3_other (by omega)).mono (by omega), put3_below (HB1.out.trans ((HB2.out.trans (HB3.out.mono HB2.out.size)).mono HB1.out.size)) (Nat.le_refl _)⟩
end Go.Proofs.Ytgohhlngnnmknaa
