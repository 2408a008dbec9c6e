/- Keys that rise; all entries; pages that differ. -/
import Derived.Test.YtjojpohnmfkanaaCB
import Derived.Maps.OwnSet
namespace Go.Proofs.Ytjojpohnmfkanaa
open Go.RowKit
set_option linter.unusedVariables false

theorem keysOk_at (ys : List Int) (xs : List En) (k : Nat) (x : En) (h : xs[k]? = some x) : keysOk ys (ers (xs.drop k)) = (decide (x.e.key.length ≤ 160) && (decide (0 < ordI x.e.key ys) && keysOk x.e.key (ers (xs.drop (k + 1))))) := by
  rw [drop_at h]; rfl
set_option maxHeartbeats 1600000 in
set_option maxRecDepth 1000000 in
theorem keys_any (a : Option Addr) (n c : Nat) (xs : List En) (w : World) (h : Ens w a n c xs) (hn : n ≤ 1000000) :
    Calls Try.prog 82 #[.slice a n c] w fun e w' => e = .returned (.bool (keysOk [] (ers xs))) ∧ Below w.heap.size w w' := by
  have HE := hide h
  clear h
  go_enter Try.func82, Try.ntmps82
  go_wp2
  go_loopw [3, 8] (fun s i wr => ∃ (k : Nat) (aa : Option Addr) (la ca : Nat) (ys : List Int), k ≤ n ∧ i = .int .i64 (k : Int) ∧ s = .slice aa la ca ∧ Inn wr aa la ca ys ∧ keysOk [] (ers xs) = keysOk ys (ers (xs.drop k)) ∧ Below w.heap.size w wr) (fun _ i _ => n - (intOf i).toNat)
  case atStart => exact ⟨0, none, 0, 0, [], Nat.zero_le _, rfl, rfl, inn_nil w, by rw [List.drop_zero], Below.refl _ _⟩
  case round =>
    obtain ⟨k, aa, la, ca, ys, hk, rfl, rfl, hin, hke, hbl⟩ := hrel
    have HBl := hide hbl
    have HIn := hide hin
    have HKe := hide hke
    clear hin hke
    by_cases hlt : k < n
    · obtain ⟨x, hx, hok⟩ := (HE.out.below hbl).at hlt
      obtain ⟨b, off, rfl, hbs, c0, c1, c2, c3⟩ := (HE.out.below hbl).cells hx
      have HOk := hide hok
      have HKn : Hid (keysOk [] (ers xs) = (decide (x.e.key.length ≤ 160) && (decide (0 < ordI x.e.key ys) && keysOk x.e.key (ers (xs.drop (k + 1)))))) := by rw [Hid, HKe.out, keysOk_at ys xs k x hx]
      have hkm := hok.key.max
      have hkc := hok.key.cap
      have hBn := below_alloc wr (.cells #[.slice x.ka x.e.key.length x.kc, .slice x.va x.e.val.length x.vc, .int .u32 (x.e.page : Int), .int .u32 (x.e.size : Int)] 68)
      have HBn := hide (hbl.trans (hBn.mono hbl.size))
      have HCm := hide (compare_any (hok.key.below hBn) (HIn.out.below hBn))
      have HNx := hide (hok.key.below hBn)
      clear hBn hok hbl
      generalize ordI x.e.key ys = O at *
      by_cases h160 : x.e.key.length ≤ 160
      · have d1 : (x.e.key.length : Int) ≤ 160 := by omega
        by_cases hO : 0 < O
        · go_wp2_with (go_at_call 68; refine HCm.out.mono ?_; rintro e w2 ⟨rfl, rfl⟩)
          go_roundw
          case rel => exact ⟨k + 1, _, _, _, _, by omega, by go_num, rfl, HNx.out, by rw [HKn.out]; simp [h160, hO], HBn.out⟩
          case measure => simp [intOf]; omega
        · have d2 : O ≤ 0 := by omega
          go_wp2_with (go_at_call 68; refine HCm.out.mono ?_; rintro e w2 ⟨rfl, rfl⟩)
          go_ret
          exact ⟨by rw [HKn.out]; simp; intro _ h; omega, HBn.out⟩
      · have d1 : ¬ (x.e.key.length : Int) ≤ 160 := by omega
        have d1' : (160 : Int) < (x.e.key.length : Int) := by omega
        go_wp2
        go_ret
        exact ⟨by rw [HKn.out]; simp [h160], HBn.out⟩
    · obtain rfl : k = n := by omega
      have HF : Hid (keysOk [] (ers xs) = true) := by rw [Hid, HKe.out, List.drop_eq_nil_of_le (by rw [HE.out.len]; exact Nat.le_refl _)]; rfl
      go_wp2
      go_ret
      exact ⟨by rw [HF.out]; rfl, HBl.out⟩

set_option maxHeartbeats 1600000 in
set_option maxRecDepth 1000000 in
theorem all1_any (g q : Nat) (p : Ee → Bool) (hg : ∀ (x : En) (W : World), x.e.val.length ≤ 9223372036854775807 → Calls Try.prog g #[.agg #[.slice x.ka x.e.key.length x.kc, .slice x.va x.e.val.length x.vc, .int .u32 (x.e.page : Int), .int .u32 (x.e.size : Int)]] W fun e w' => e = .returned (.bool (p x.e)) ∧ Below W.heap.size W w')
    (hen : ∀ args w, (callFunc g args).run Try.prog w = .ok (.enter g args) w)
    (x : En) (w : World) (hv : x.e.val.length ≤ 9223372036854775807) (hq : w.cell? ⟨q, 0, none⟩ = some (.func (.func g) #[] #[])) :
    Calls Try.prog 93 #[.agg #[.slice x.ka x.e.key.length x.kc, .slice x.va x.e.val.length x.vc, .int .u32 (x.e.page : Int), .int .u32 (x.e.size : Int)], .pointer (some ⟨q, 0, none⟩)] w fun e w' => e = .returned (.bool (!p x.e)) ∧ Below w.heap.size w w' := by
  have hB1 := below_alloc w (.cells #[.slice x.ka x.e.key.length x.kc, .slice x.va x.e.val.length x.vc, .int .u32 (x.e.page : Int), .int .u32 (x.e.size : Int)] 68)
  have hq1 := (hB1.cell (p := ⟨q, 0, none⟩) (World.block_lt_of_cell? w _ hq)).trans hq
  have HB1 := hide hB1
  have HG := hide (fun W => hg x W hv)
  clear hB1 hg hq
  generalize p x.e = B at *
  go_enter Try.func93, Try.ntmps93
  go_wp2_with fail
  refine (HG.out _).mono ?_
  rintro e w2 ⟨rfl, hb2⟩
  go_wp2
  go_ret
  exact ⟨rfl, HB1.out.trans (hb2.mono HB1.out.size)⟩
theorem any_snoc (p : Ee → Bool) (xs : List En) (k : Nat) (x : En) (h : xs[k]? = some x) : (ers (xs.take (k + 1))).any p = ((ers (xs.take k)).any p || p x.e) := by
  rw [take_at h, ers_app, List.any_append]
  simp [ers]
theorem any_here (p : Ee → Bool) (xs : List En) (k : Nat) (x : En) (h : xs[k]? = some x) (hp : p x.e = true) : (ers xs).any p = true :=
  List.any_eq_true.2 ⟨x.e, List.mem_map.2 ⟨x, List.mem_of_getElem? h, rfl⟩, hp⟩
set_option maxHeartbeats 1600000 in
set_option maxRecDepth 1000000 in
theorem index_any (g q : Nat) (p : Ee → Bool) (hg : ∀ (x : En) (W : World), x.e.val.length ≤ 9223372036854775807 → Calls Try.prog g #[.agg #[.slice x.ka x.e.key.length x.kc, .slice x.va x.e.val.length x.vc, .int .u32 (x.e.page : Int), .int .u32 (x.e.size : Int)]] W fun e w' => e = .returned (.bool (p x.e)) ∧ Below W.heap.size W w')
    (hen : ∀ args w, (callFunc g args).run Try.prog w = .ok (.enter g args) w)
    (a : Option Addr) (n c : Nat) (xs : List En) (w : World) (h : Ens w a n c xs) (hn : n ≤ 1000000) (hq : w.cell? ⟨q, 0, none⟩ = some (.func (.func g) #[] #[])) :
    Calls Try.prog 96 #[.slice a n c, .func (.func 93) #[] #[.pointer (some ⟨q, 0, none⟩)]] w fun e w' => ∃ r : Int, e = .returned (.int .i64 r) ∧ decide (0 ≤ r) = (ers xs).any (fun e => !p e) ∧ Below w.heap.size w w' := by
  have HE := hide h
  have HG := hide hg
  have HN := hide hen
  have HQ := hide hq
  clear h hg hen hq
  go_enter Try.func96, Try.ntmps96
  go_wp2
  go_loopw [8] (fun i wr => ∃ (k : Nat), k ≤ n ∧ i = .int .i64 (k : Int) ∧ (ers (xs.take k)).any (fun e => !p e) = false ∧ Below w.heap.size w wr) (fun i _ => n - (intOf i).toNat)
  case atStart => exact ⟨0, Nat.zero_le _, rfl, rfl, Below.refl _ _⟩
  case round =>
    obtain ⟨k, hk, rfl, hno, hbl⟩ := hrel
    have HBl := hide hbl
    have HNo := hide hno
    clear hno
    by_cases hlt : k < n
    · obtain ⟨x, hx, hok⟩ := (HE.out.below hbl).at hlt
      obtain ⟨b, off, rfl, hbs, c0, c1, c2, c3⟩ := (HE.out.below hbl).cells hx
      have hq1 := (hbl.cell (p := ⟨q, 0, none⟩) (World.block_lt_of_cell? w _ HQ.out)).trans HQ.out
      have HC := hide (all1_any g q p HG.out HN.out x wr (by have := hok.val.cap; have := hok.val.max; omega) hq1)
      have HX := hide hx
      clear hok hbl hx hq1
      rcases Bool.eq_false_or_eq_true (p x.e) with hp | hp
      · rw [hp] at HC
        have HP := hide hp
        clear hp
        go_wp2_with (go_at_call 93; refine HC.out.mono ?_; rintro e w2 ⟨rfl, hb2⟩)
        go_roundw
        case rel => exact ⟨k + 1, by omega, by go_num, by rw [any_snoc _ xs k x HX.out, HNo.out, HP.out]; rfl, HBl.out.trans (hb2.mono HBl.out.size)⟩
        case measure => simp [intOf]; omega
      · rw [hp] at HC
        have HP := hide hp
        clear hp
        go_wp2_with (go_at_call 93; refine HC.out.mono ?_; rintro e w2 ⟨rfl, hb2⟩)
        go_ret
        exact ⟨_, rfl, by rw [any_here (fun e => !p e) xs k x HX.out (by rw [HP.out]; rfl)]; simp, HBl.out.trans (hb2.mono HBl.out.size)⟩
    · obtain rfl : k = n := by omega
      have HF : Hid (xs.take k = xs) := hide (List.take_of_length_le (by rw [HE.out.len]; exact Nat.le_refl _))
      go_wp2
      go_ret
      exact ⟨_, rfl, by rw [← HF.out, HNo.out]; rfl, HBl.out⟩
theorem all_not (p : Ee → Bool) (l : List Ee) : l.all p = !l.any (fun e => !p e) := by
  induction l with
  | nil => rfl
  | cons x l ih => simp [ih]
set_option maxHeartbeats 1600000 in
set_option maxRecDepth 1000000 in
theorem contains_any (g q : Nat) (p : Ee → Bool) (hg : ∀ (x : En) (W : World), x.e.val.length ≤ 9223372036854775807 → Calls Try.prog g #[.agg #[.slice x.ka x.e.key.length x.kc, .slice x.va x.e.val.length x.vc, .int .u32 (x.e.page : Int), .int .u32 (x.e.size : Int)]] W fun e w' => e = .returned (.bool (p x.e)) ∧ Below W.heap.size W w')
    (hen : ∀ args w, (callFunc g args).run Try.prog w = .ok (.enter g args) w)
    (a : Option Addr) (n c : Nat) (xs : List En) (w : World) (h : Ens w a n c xs) (hn : n ≤ 1000000) (hq : w.cell? ⟨q, 0, none⟩ = some (.func (.func g) #[] #[])) :
    Calls Try.prog 92 #[.slice a n c, .func (.func 93) #[] #[.pointer (some ⟨q, 0, none⟩)]] w fun e w' => e = .returned (.bool ((ers xs).any (fun e => !p e))) ∧ Below w.heap.size w w' := by
  have HI := hide (index_any g q p hg hen a n c xs w h hn hq)
  clear h hg hen hq
  go_enter Try.func92, Try.ntmps92
  go_wp2_with fail
  refine HI.out.mono ?_
  rintro e w2 ⟨r, rfl, hr, hb2⟩
  have HR := hide hr
  clear hr
  go_wp2
  go_ret
  exact ⟨by rw [← HR.out]; rfl, hb2⟩
set_option maxHeartbeats 1600000 in
set_option maxRecDepth 1000000 in
theorem all_any (g : Nat) (p : Ee → Bool) (hg : ∀ (x : En) (W : World), x.e.val.length ≤ 9223372036854775807 → Calls Try.prog g #[.agg #[.slice x.ka x.e.key.length x.kc, .slice x.va x.e.val.length x.vc, .int .u32 (x.e.page : Int), .int .u32 (x.e.size : Int)]] W fun e w' => e = .returned (.bool (p x.e)) ∧ Below W.heap.size W w')
    (hen : ∀ args w, (callFunc g args).run Try.prog w = .ok (.enter g args) w)
    (a : Option Addr) (n c : Nat) (xs : List En) (w : World) (h : Ens w a n c xs) (hn : n ≤ 1000000) :
    Calls Try.prog 83 #[.slice a n c, .func (.func g) #[] #[]] w fun e w' => e = .returned (.bool ((ers xs).all p)) ∧ Below w.heap.size w w' := by
  have hmf : ∀ (fn : Fn) (first cap : Array Value) (w : World), (Instr.makeFunc fn first cap).run Try.prog w = .ok (.func fn first cap) w := fun _ _ _ _ => rfl
  have hB1 := below_alloc w (.cells #[.func (.func g) #[] #[]] 181)
  have HB1 := hide hB1
  have HC := hide (contains_any g w.heap.size p hg hen a n c xs _ (h.below hB1) hn (cell_of_one (heap_alloc_new w _)))
  have HA := hide (all_not p (ers xs))
  clear h hg hen hB1
  go_enter Try.func83, Try.ntmps83
  go_wp2_with fail
  refine HC.out.mono ?_
  rintro e w2 ⟨rfl, hb2⟩
  generalize (ers xs).any (fun e => !p e) = B at *
  go_wp2
  go_ret
  exact ⟨by rw [HA.out]; rfl, HB1.out.trans (hb2.mono HB1.out.size)⟩
theorem allval_any (a : Option Addr) (n c : Nat) (xs : List En) (w : World) (h : Ens w a n c xs) (hn : n ≤ 1000000) :
    Calls Try.prog 83 #[.slice a n c, .func (.func 84) #[] #[]] w fun e w' => e = .returned (.bool ((ers xs).all Ee.valOk)) ∧ Below w.heap.size w w' :=
  all_any 84 Ee.valOk (fun x W hv => val_any x W hv) (fun _ _ => by simp [go_sem]) a n c xs w h hn
theorem allkid_any (a : Option Addr) (n c : Nat) (xs : List En) (w : World) (h : Ens w a n c xs) (hn : n ≤ 1000000) :
    Calls Try.prog 83 #[.slice a n c, .func (.func 85) #[] #[]] w fun e w' => e = .returned (.bool ((ers xs).all Ee.kid)) ∧ Below w.heap.size w w' :=
  all_any 85 Ee.kid (fun x W hv => kid_any x W hv) (fun _ _ => by simp [go_sem]) a n c xs w h hn
end Go.Proofs.Ytjojpohnmfkanaa
/- Pages that differ; which nodes may be; Check. -/
namespace Go.Proofs.Ytjojpohnmfkanaa
open Go.RowKit
set_option linter.unusedVariables false

def lit32 (p : Nat) : Lit := .int .u32 (p : Int)
theorem same_lit (a b : Nat) : (lit32 a).sameKey (lit32 b) = decide (a = b) := by
  by_cases h : a = b
  · subst h; simp [lit32, Lit.sameKey]
  · have : ¬ (a : Int) = (b : Int) := by omega
    simp [lit32, Lit.sameKey, h, this]
theorem any_lit (x : Nat) (acc : List Nat) : (acc.map lit32).any (fun y => y.sameKey (lit32 x)) = decide (x ∈ acc) := by
  induction acc with
  | nil => simp
  | cons y ys ih =>
    rw [List.map_cons, List.any_cons, ih, same_lit]
    by_cases h : y = x
    · subst h; simp
    · have h' : ¬ x = y := fun e => h e.symm
      simp [h, h']
theorem fold_len (l : List Nat) : ∀ acc : List Nat, ((l.map lit32).foldl Maps.addKey (acc.map lit32)).length ≤ acc.length + l.length ∧ (((l.map lit32).foldl Maps.addKey (acc.map lit32)).length = acc.length + l.length ↔ (l.Nodup ∧ ∀ x ∈ l, x ∉ acc)) := by
  induction l with
  | nil => intro acc; simp
  | cons x l ih =>
    intro acc
    rw [List.map_cons, List.foldl_cons]
    have e : Maps.addKey (acc.map lit32) (lit32 x) = (if x ∈ acc then acc else acc ++ [x]).map lit32 := by
      unfold Maps.addKey
      rw [any_lit]
      by_cases h : x ∈ acc <;> simp [h]
    rw [e]
    by_cases h : x ∈ acc
    · rw [if_pos h]
      obtain ⟨h1, h2⟩ := ih acc
      rw [List.length_cons]
      refine ⟨by omega, ⟨fun he => by omega, fun hn => absurd h (hn.2 x (by simp))⟩⟩
    · rw [if_neg h]
      obtain ⟨h1, h2⟩ := ih (acc ++ [x])
      rw [List.length_append, List.length_singleton] at h1 h2
      rw [List.length_cons]
      refine ⟨by omega, ?_⟩
      rw [show acc.length + (l.length + 1) = acc.length + 1 + l.length by omega, h2]
      constructor
      · rintro ⟨a1, a2⟩
        refine ⟨List.nodup_cons.2 ⟨fun hx => ?_, a1⟩, fun y hy => ?_⟩
        · exact a2 x hx (by simp)
        · rcases List.mem_cons.1 hy with rfl | hy
          · exact h
          · exact fun hya => a2 y hy (by simp [hya])
      · rintro ⟨a1, a2⟩
        obtain ⟨b1, b2⟩ := List.nodup_cons.1 a1
        refine ⟨b2, fun y hy hm => ?_⟩
        rcases List.mem_append.1 hm with hm | hm
        · exact a2 y (by simp [hy]) hm
        · simp at hm; subst hm; exact b1 hy
/-- the pages of the first k entries, as a set. -/
def Sn (xs : List En) (k : Nat) : DataW Unit := Maps.setOf (.agg []) (((ers (xs.take k)).map Ee.page).map lit32)
theorem Sn_zero (xs : List En) : Sn xs 0 = .map [] := by simp [Sn, ers, Maps.setOf]
theorem Sn_succ (xs : List En) (k : Nat) (x : En) (h : xs[k]? = some x) : Sn xs (k + 1) = (Sn xs k).put (lit32 x.e.page) (.agg []) := by
  unfold Sn
  rw [take_at h, ers_app, List.map_append, List.map_append]
  exact Maps.setOf_snoc _ _ _
theorem Sn_size (xs : List En) : decide (((Maps.size (Sn xs xs.length) : Nat) : Int) = (xs.length : Int)) = decide ((ers xs).map Ee.page).Nodup := by
  have h := Maps.size_setOf (H := Unit) (.agg []) (((ers xs).map Ee.page).map lit32) (by
    intro x hx
    obtain ⟨p, _, rfl⟩ := List.mem_map.1 hx
    exact trivial)
  have h2 := (fold_len ((ers xs).map Ee.page) []).2
  simp only [List.map_nil, List.length_nil, Nat.zero_add, List.length_map, ers_len] at h2
  have e : Sn xs xs.length = Maps.setOf (.agg []) (((ers xs).map Ee.page).map lit32) := by unfold Sn; rw [List.take_length]
  rw [e, h]
  by_cases hn : ((ers xs).map Ee.page).Nodup
  · rw [h2.2 ⟨hn, fun x _ => by simp⟩]; simp [hn]
  · have : ¬ ((((ers xs).map Ee.page).map lit32).foldl Maps.addKey []).length = xs.length := fun he => hn (h2.1 he).1
    rw [decide_eq_false hn, decide_eq_false_iff_not]
    intro he
    exact this (by omega)
theorem law32 : Maps.Keyed Try.prog 66 := Maps.int_keyed Try.underlying66
theorem key32 (p : Nat) (hp : p < 4294967296) : keyOf Try.prog 66 (.int .u32 (p : Int)) = some (lit32 p) := Maps.keyOf_int_mk Try.underlying66 (by simp only [Lit.wf]; simp [show IntKind.u32.min = 0 from rfl, show IntKind.u32.max = 4294967295 from rfl]; omega)
set_option maxHeartbeats 1600000 in
set_option maxRecDepth 1000000 in
theorem pages_any (a : Option Addr) (n c : Nat) (xs : List En) (w : World) (h : Ens w a n c xs) (hn : n ≤ 1000000) :
    Calls Try.prog 86 #[.slice a n c] w fun e w' => e = .returned (.bool (decide ((ers xs).map Ee.page).Nodup)) ∧ Below w.heap.size w w' := by
  have hmm := @run_makeMap Try.prog
  have HE := hide h
  have HB1 := hide (below_alloc w (.map #[] 0))
  have HM0 : Hid ((w.alloc (.map #[] 0)).ownsMap Try.prog 66 (unitElem (H := Unit)) w.heap.size 0 (Sn xs 0)) := by rw [Sn_zero]; exact World.ownsMap_made _ _ _ _
  have HSz := hide (Sn_size xs)
  clear h
  go_enter Try.func86, Try.ntmps86
  go_wp2
  go_loopw [9] (fun i wr => ∃ k : Nat, k ≤ n ∧ i = .int .i64 (k : Int) ∧ wr.ownsMap Try.prog 66 (unitElem (H := Unit)) w.heap.size k (Sn xs k) ∧ Below w.heap.size w wr) (fun i _ => n - (intOf i).toNat)
  case atStart => exact ⟨0, Nat.zero_le _, rfl, HM0.out, HB1.out⟩
  case round =>
    obtain ⟨k, hk, rfl, hown, hbl⟩ := hrel
    have HBl := hide hbl
    by_cases hlt : k < n
    · obtain ⟨x, hx, hok⟩ := (HE.out.below hbl).at hlt
      obtain ⟨b, off, rfl, hbs, c0, c1, c2, c3⟩ := (HE.out.below hbl).cells hx
      have hkey := key32 x.e.page hok.page
      have hown2 := hown.alloc (.cells #[.slice x.ka x.e.key.length x.kc, .slice x.va x.e.val.length x.vc, .int .u32 (x.e.page : Int), .int .u32 (x.e.size : Int)] 68)
      have hBn := below_alloc wr (.cells #[.slice x.ka x.e.key.length x.kc, .slice x.va x.e.val.length x.vc, .int .u32 (x.e.page : Int), .int .u32 (x.e.size : Int)] 68)
      have HBn := hide (hbl.trans (hBn.mono hbl.size))
      have HSn := hide (Sn_succ xs k x hx)
      clear hok hbl hBn hx hown
      go_wp2_with (first
        | (at_mapUpdate; refine wpList_mapUpdate_own _ rfl _ _ _ 183 rfl 66 114 law32 Try.underlying183 (unitElem (H := Unit)) w.heap.size k _ rfl hown2 (by unfold maxLen; omega) _ _ _ rfl rfl hkey _ [] unitElem_mk ?_; intro w1 hown1 hgrow1)
        | go_in)
      go_roundw
      case rel => exact ⟨k + 1, by omega, by go_num, by rw [HSn.out]; exact hown1, HBn.out.grown hgrow1 HBn.out.size (fun j hj => by cases hj; exact Nat.le_refl _)⟩
      case measure => simp [intOf]; omega
    · obtain rfl : k = n := by omega
      have hkl := HE.out.len
      have HKl := hide hkl
      go_wp2_with (first
        | (at_len; refine wpList_len_own _ rfl _ 183 rfl 66 114 Try.underlying183 _ w.heap.size k _ rfl hown ?_)
        | go_in)
      go_ret
      exact ⟨by rw [← HSz.out, HKl.out]; rfl, HBl.out⟩
end Go.Proofs.Ytjojpohnmfkanaa
