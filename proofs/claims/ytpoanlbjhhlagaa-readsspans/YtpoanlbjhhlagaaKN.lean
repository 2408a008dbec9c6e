/- known: the chapter's example. -/
import Derived.Test.YtpoanlbjhhlagaaHL
import Derived.Lib.SlBytesConst
namespace Go.Proofs.Ytpoanlbjhhlagaa
open Go.RowKit Go.Maps
set_option linter.unusedVariables false

def kL : List Ee := (([] ++ [⟨[97], [97] ++ [0], false⟩]) ++ [⟨[99], [99] ++ [0], false⟩]) ++ sps ⟨[98], [100], false⟩
def kT : List Ee := [⟨[97], [97, 0], false⟩, ⟨[98], [100], false⟩]
theorem kL_is : kL = [⟨[97], [97, 0], false⟩, ⟨[99], [99, 0], false⟩, ⟨[98], [100], false⟩] := by simp [kL, sps, ordI]
theorem kT_apt : Apt kT := by
  refine ⟨fun x hx => ?_, ?_⟩
  · simp only [kT, List.mem_cons, List.not_mem_nil, or_false] at hx
    rcases hx with rfl | rfl <;> exact .inr ⟨rfl, by simp [ordI]⟩
  · simp [kT, nxt, ordI]
theorem kLT (k : List Int) : U kL k ↔ U kT k := by
  rw [kL_is]
  constructor
  · rintro ⟨x, hx, h1, h2⟩
    simp only [List.mem_cons, List.not_mem_nil, or_false] at hx
    rcases hx with rfl | rfl | rfl
    · exact ⟨_, by simp [kT], h1, h2⟩
    · refine ⟨⟨[98], [100], false⟩, by simp [kT], ordI_trans _ [99] _ (by simp [ordI]) h1, .inr ?_⟩
      rcases h2 with h2 | h2
      · cases h2
      · exact ordI_trans_lt _ [99, 0] _ h2 (by simp [ordI])
    · exact ⟨_, by simp [kT], h1, h2⟩
  · rintro ⟨x, hx, h1, h2⟩
    simp only [kT, List.mem_cons, List.not_mem_nil, or_false] at hx
    rcases hx with rfl | rfl
    · exact ⟨_, by simp, h1, h2⟩
    · exact ⟨⟨[98], [100], false⟩, by simp, h1, h2⟩
theorem k99 : U kL [99] := by rw [kL_is]; exact ⟨⟨[99], [99, 0], false⟩, by simp, by simp [ordI], .inr (by simp [ordI])⟩
theorem k100 : ¬ U kL [100] := by
  rw [kLT]
  rintro ⟨x, hx, h1, h2⟩
  simp only [kT, List.mem_cons, List.not_mem_nil, or_false] at hx
  rcases hx with rfl | rfl
  · rcases h2 with h2 | h2
    · cases h2
    · simp [ordI] at h2
  · rcases h2 with h2 | h2
    · cases h2
    · simp [ordI] at h2
theorem inn_const (W : World) (x : Int) (hx : 0 ≤ x ∧ x ≤ 255) : Inn (W.alloc (.cells #[.int .u8 x] 5 (1, 2))) (some ⟨W.heap.size, 0, none⟩) 1 1 [x] := by
  refine ⟨rfl, Nat.le_refl _, by omega, by (intro e; cases e), .inr ⟨W.heap.size, 0, rfl, by simp, fun i hi => ?_⟩, by intro c hc; simp at hc; omega⟩
  have hb := heap_alloc_new W (.cells #[.int .u8 x] 5 (1, 2))
  simp at hi
  subst hi
  simp only [World.cell?, hb]
  rfl
def c1 (W : World) (x : Int) : World := W.alloc (.cells #[.int .u8 x] 5 (1, 2))
theorem c1_size (W : World) (x : Int) : (c1 W x).heap.size = W.heap.size + 1 := by simp [c1]
theorem c1_below (W : World) (x : Int) : Below W.heap.size W (c1 W x) := below_alloc _ _
theorem c1_mv {W V : World} {p B : Nat} {L : List Ee} {O E : Nat → Prop} {x : Int} (hx : 0 ≤ x ∧ x ≤ 255) (h : Sx (c1 W x) p B L O E) (hm : Mv O (c1 W x) V) : Inn V (some ⟨W.heap.size, 0, none⟩) 1 1 [x] := by
  have hi := inn_const W x hx
  have hb : (c1 W x).heap[W.heap.size]? = some (.cells #[.int .u8 x] 5 (1, 2)) := heap_alloc_new W _
  have hne : ¬ O W.heap.size := fun ho => by
    obtain ⟨cs, t, h1, h2⟩ := h.otyp ho
    rw [hb] at h1
    injection h1 with h1
    injection h1 with _ _ h3
    simp at h3
  have hst := hm.block W.heap.size (by rw [c1_size]; omega) hne
  refine ⟨rfl, Nat.le_refl _, by omega, fun e => (by cases e), .inr ⟨W.heap.size, 0, rfl, ?_, fun j hj => ?_⟩, hi.byts⟩
  · have := hm.size; rw [c1_size] at this; omega
  · have : j = 0 := by simpa using hj
    subst this
    simp only [World.cell?, hst, hb]
    rfl
theorem Al.has2 {w : World} {p B C : Nat} {L : List Ee} {v : Value} {ys : List En} (h : Al w p B L C v ys) (hn : L.length ≤ 1000) (ka : Option Addr) (kn kc : Nat) (key : List Int) (hk : ∀ O E W, Sx w p B L O E → Mv O w W → Inn W ka kn kc key) :
    Calls Try.prog 12 #[.pointer (some ⟨p, 0, none⟩), .slice ka kn kc] w fun e w' => (∃ b : Bool, e = .returned (.bool b) ∧ (b = true ↔ U L key)) ∧ Al w' p B L C v ys ∧ Below B w w' := by
  obtain ⟨O, E, h1, h2, h3⟩ := h
  refine (has_any h1 hn ka kn kc key fun W hm => hk O E W h1 hm).mono ?_
  rintro e w' ⟨hb, O', E', g1, g2, g3⟩
  have hp := h1.olt h1.op
  refine ⟨hb, ⟨O', E', g1, h2.of_block (fun k hk => g2.mv.block k (h2.block hk).2.1 fun ho => h3 k ho hk) (fun y hy k hk => ?_), fun k hk e => ?_⟩, g2.mv.below (by omega) fun k hk => (h1.olt hk).2⟩
  · obtain ⟨c, hc⟩ := (h2.each y hy).u8 hk
    exact g2.mv.block k ((h2.each y hy).lt hk) fun ho => h1.not_u8 hc ho
  · rcases g2.own k hk with h | h
    · exact h3 k h e
    · have := (h2.block e).2.1; omega
theorem two_of {ys : List En} (h : ers ys = kT) : ∃ y0 y1, ys = [y0, y1] ∧ y0.e = ⟨[97], [97, 0], false⟩ ∧ y1.e = ⟨[98], [100], false⟩ := by
  match ys, h with
  | [], h => simp [ers, kT] at h
  | [y0], h => simp [ers, kT] at h
  | [y0, y1], h =>
    simp [ers, kT] at h
    exact ⟨y0, y1, rfl, h.1, h.2⟩
  | y0 :: y1 :: y2 :: t, h => simp [ers, kT] at h
set_option maxHeartbeats 6400000 in
set_option maxRecDepth 1000000 in
theorem known_any (w : World) : Calls Try.prog 10 #[] w fun e w' => e = .returned (.bool true) ∧ Below w.heap.size w w' := by
  have kc := fun (w : World) (C : Array Value) (n c : Nat) => Lib.run_convert_bytes_const (P := Try.prog) w 33 5 C n c Try.underlying33 Try.underlying5
  have kc1 : ∀ (W : World) (b n c : Nat) (C : Array Value), b = W.heap.size → (convert 33 33 (.slice (some ⟨b, 0, none⟩) n c)).run Try.prog (W.alloc (.cells C 5)) = .ok (.slice (some ⟨b, 0, none⟩) n c) (W.alloc (.cells C 5 (C.size, C.size + 1))) := fun W b n c C e => by subst e; exact kc W C n c
  have HN := hide (new_any w)
  have hb1 := below_alloc w (.cells #[.slice none 0 0, .int .i64 0] 79)
  have HS0 := hide (Sx.new w w.heap.size (Nat.le_refl _))
  have HB1 := hide hb1
  clear hb1
  go_enter Try.func10, Try.ntmps10
  go_wp2_with fail
  refine HN.out.mono ?_
  rintro e w1 ⟨rfl, rfl⟩
  obtain ⟨w1, hw1⟩ : ∃ w1, w1 = w.alloc (.cells #[.slice none 0 0, .int .i64 0] 79) := ⟨_, rfl⟩
  rw [← hw1] at HS0 HB1 ⊢
  clear hw1 HN
  go_wp2_with fail
  have ha := c1_below w1 97
  refine (key_any (HS0.out.below ha) (by simp) (some ⟨w1.heap.size, 0, none⟩) 1 1 [97] (inn_const w1 97 (by omega)) (by omega)).mono ?_
  rintro e w2 ⟨rfl, O1, E1, hs1, hg1, -⟩
  have HS1 := hide hs1
  have HB2 := hide ((HB1.out.trans (ha.mono HB1.out.size)).trans (hg1.mv.below (by have := HB1.out.size; have := ha.size; omega) fun k hk => ((HS0.out.below ha).olt hk).2))
  clear ha hs1 hg1
  go_wp2_with fail
  have ha := c1_below w2 99
  refine (key_any (HS1.out.below ha) (by simp) (some ⟨w2.heap.size, 0, none⟩) 1 1 [99] (inn_const w2 99 (by omega)) (by omega)).mono ?_
  rintro e w3 ⟨rfl, O2, E2, hs2, hg2, -⟩
  have HS2 := hide hs2
  have HB3 := hide ((HB2.out.trans (ha.mono HB2.out.size)).trans (hg2.mv.below (by have := HB2.out.size; have := ha.size; omega) fun k hk => ((HS1.out.below ha).olt hk).2))
  clear ha hs2 hg2
  go_wp2_with fail
  have ha := (c1_below w3 98).trans ((c1_below (c1 w3 98) 100).mono (by rw [c1_size]; omega))
  refine (span_any (HS2.out.below ha) (by simp) ⟨⟨[98], [100], false⟩, some ⟨w3.heap.size, 0, none⟩, 1, some ⟨w3.heap.size + 1, 0, none⟩, 1⟩ ⟨(inn_const w3 98 (by omega)).below (c1_below _ _), by have := inn_const (c1 w3 98) 100 (by omega); rwa [c1_size] at this⟩ (by simp)).mono ?_
  rintro e w4 ⟨rfl, O3, E3, hs3, hg3, -⟩
  have hs3' : Sx w4 w.heap.size w.heap.size kL O3 E3 := hs3
  have HS3 := hide hs3'
  have HB4 := hide ((HB3.out.trans (ha.mono HB3.out.size)).trans (hg3.mv.below (by have := HB3.out.size; have := ha.size; omega) fun k hk => ((HS2.out.below ha).olt hk).2))
  clear ha hs3 hs3' hg3
  go_wp2_with fail
  refine (all_al HS3.out (by rw [kL_is]; simp)).mono ?_
  rintro e w5 ⟨C, a, c, ys, rfl, hal, hens, hapt, hU, -, -, hb5⟩
  obtain ⟨y0, y1, rfl, e0, e1⟩ := two_of (apt_uniq hapt kT_apt fun k => (hU k).trans (kLT k))
  have HAL := hide hal
  have HB5 := hide (HB4.out.trans hb5)
  have E0 := hide e0
  have E1 := hide e1
  obtain ⟨g, off, rfl, -⟩ := hens.cells (k := 0) (x := y0) rfl
  have hcap := hens.cap
  have hmax := hens.max
  clear hal hens hapt hU hb5 e0 e1
  have h2 : ([y0, y1] : List En).length = 2 := rfl
  rw [h2] at HAL hcap ⊢
  clear h2
  go_wp2_with fail
  refine ((HAL.out.below (c1_below w5 99)).has2 (by rw [kL_is]; simp) (some ⟨w5.heap.size, 0, none⟩) 1 1 [99] fun O E W h hm => c1_mv (by omega) h hm).mono ?_
  rintro e w6 ⟨⟨b, rfl, hb⟩, hal6, hb6⟩
  obtain rfl := hb.2 k99
  have HAL6 := hide hal6
  have HB6 := hide ((HB5.out.trans ((c1_below w5 99).mono HB5.out.size)).trans hb6)
  clear hal6 hb6 hb
  go_wp2_with fail
  refine ((HAL6.out.below (c1_below w6 100)).has2 (by rw [kL_is]; simp) (some ⟨w6.heap.size, 0, none⟩) 1 1 [100] fun O E W h hm => c1_mv (by omega) h hm).mono ?_
  rintro e w7 ⟨⟨b, rfl, hb⟩, hal7, hb7⟩
  have hbf : b = false := by
    cases b
    · rfl
    · exact absurd (hb.1 rfl) k100
  subst hbf
  have HB7 := hide ((HB6.out.trans ((c1_below w6 100).mono HB6.out.size)).trans hb7)
  obtain ⟨O, E, -, hcl, -⟩ := hal7
  have hens : Ens w7 (some ⟨g, off, none⟩) 2 c [y0, y1] := by
    obtain ⟨a', c', e', h⟩ := hcl.ens
    have e2 : ([y0, y1] : List En).length = 2 := rfl
    rw [e2] at e' h
    cases e'
    exact h
  obtain ⟨g2, o2, e3, -, -, r1, -⟩ := hens.cells (k := 0) (x := y0) rfl
  cases e3
  obtain ⟨g2, o2, e3, -, -, t1, -⟩ := hens.cells (k := 1) (x := y1) rfl
  cases e3
  have ty := text_inn (hens.each y0 (by simp)).val
  have tz := text_inn (hens.each y1 (by simp)).val
  have l0 : y0.e.val = [97, 0] := by rw [E0.out]
  have l1 : y1.e.val = [100] := by rw [E1.out]
  have s1 : bk y0.e.val = ⟨#[97, 0]⟩ := by rw [l0]; rfl
  have s2 : bk y1.e.val = ⟨#[100]⟩ := by rw [l1]; rfl
  rw [s1] at ty
  rw [s2] at tz
  have q1 : ((⟨#[97, 0]⟩ : ByteArray).toList == (⟨#[97, 0]⟩ : ByteArray).toList) = true := beq_self_eq_true _
  have q2 : ((⟨#[100]⟩ : ByteArray).toList == (⟨#[100]⟩ : ByteArray).toList) = true := beq_self_eq_true _
  clear hcl hens l0 l1 s1 s2 hb hb7
  go_wp2
  go_ret
  exact ⟨rfl, HB7.out⟩
end Go.Proofs.Ytpoanlbjhhlagaa
