/- Pairs by rising keys, laid out by the document's buffer. -/
import Derived.Test.YtfcebpenjdhgbaaRS
namespace Go.Proofs.Ytfcebpenjdhgbaa
open Go.RowKit Go.Maps
set_option linter.unusedVariables false

/-- a pair, as what a Put says. -/
def cle (e : Ee) : Ee := ⟨e.key, e.val, false⟩
def risE (us : List Ee) : List Ee := (us.map cle).foldl put []
theorem mg_flat (es : List Ee) : mg es [] = es.flatMap kp := by
  induction es with
  | nil => rw [mg_nil]; rfl
  | cons e t ih => rw [mg_end, ih]; rfl
theorem fold_mem {l : List Ee} {x : Ee} (h : x ∈ l.foldl put []) : x ∈ l := by
  have gen : ∀ (l acc : List Ee), x ∈ l.foldl put acc → x ∈ acc ∨ x ∈ l := by
    intro l
    induction l with
    | nil => intro acc h; exact .inl h
    | cons y t ih =>
      intro acc h
      rcases ih _ h with h | h
      · rcases put_mem h with rfl | h
        · exact .inr (List.mem_cons_self)
        · exact .inl h
      · exact .inr (List.mem_cons_of_mem _ h)
  rcases gen l [] h with h | h
  · simp at h
  · exact h
theorem risE_mem {us : List Ee} {x : Ee} (h : x ∈ risE us) : x.del = false ∧ ∃ u ∈ us, x = cle u := by
  obtain ⟨u, hu, rfl⟩ := List.mem_map.1 (fold_mem h)
  exact ⟨rfl, u, hu, rfl⟩
theorem risE_ris (us : List Ee) : Ris (risE us) := fold_ris _
theorem risE_len (us : List Ee) : (risE us).length ≤ us.length := by
  have := fold_len (us.map cle)
  rwa [List.length_map] at this
theorem mg_risE (us : List Ee) : mg (risE us) [] = risE us := by
  rw [mg_flat]
  have : ∀ l : List Ee, (∀ x ∈ l, x.del = false) → l.flatMap kp = l := by
    intro l
    induction l with
    | nil => intro _; rfl
    | cons x t ih =>
      intro h
      rw [List.flatMap_cons, ih fun y hy => h y (List.mem_cons_of_mem _ hy), kp_put (h x List.mem_cons_self)]
      rfl
  exact this _ fun x hx => (risE_mem hx).1
theorem prs_nil (w : World) : Prs w none 0 0 [] := ⟨rfl, fun _ => ⟨rfl, rfl⟩, Nat.le_refl _, by omega, .inl rfl, by intro x hx; simp at hx⟩
/-- what rising answers. -/
def RiseOut (w : World) (us : List En) (r : Ending) (w' : World) : Prop := ∃ a q c vs, r = .returned (.slice a q c) ∧ Prs w' a q c vs ∧ ers vs = risE (ers us) ∧ q ≤ us.length ∧ Below w.heap.size w w'
theorem Rb.cell {w : World} {p B : Nat} {v : Value} {ys : List En} (h : Rb w p B v ys) : w.cell? ⟨p, 0, none⟩ = some v := cell_of_one h.blk
/-- what lies below stays. -/
theorem rb_on {w wr w2 : World} {v : Value} {ys : List En} (h : Rb wr w.heap.size w.heap.size v ys) (hb : Below w.heap.size w wr) (hm : Mv (fun k => k = w.heap.size ∨ v.ownBlock = some k) wr.drew w2) : Below w.heap.size w w2 ∧ Below w.heap.size wr w2 := by
  have hb2 : Below w.heap.size wr w2 := by
    refine ⟨hm.os, hm.tape, hm.output, hm.size, fun k hk => hm.block k (by have := hb.size; simp; omega) ?_⟩
    rintro (rfl | e)
    · omega
    · have := (h.cl.block e).1; omega
  exact ⟨hb.trans hb2, hb2⟩
set_option maxHeartbeats 6400000 in
set_option maxRecDepth 1000000 in
theorem rising_any {w : World} {m d : Nat} {b : Option Addr} {us : List En} (h : Prs w b m d us) (hm : m ≤ 200) (hs : ∀ u ∈ us, u.e.key.length ≤ 140737488351232 ∧ u.e.val.length ≤ 140737488351232) :
    Calls Try.prog 8 #[.slice b m d] w (RiseOut w us) := by
  have HU := hide h
  have HS := hide hs
  have HR0 : Hid (Rb (w.alloc (.cells #[.slice none 0 0] 32)) w.heap.size w.heap.size (.slice none 0 0) []) := ⟨heap_alloc_new w _, Nat.le_refl _, ⟨⟨rfl, .inl ⟨rfl, rfl⟩⟩, by simp, by intro i j yi yj k hi; simp at hi⟩⟩
  have HB0 := hide (below_alloc w (.cells #[.slice none 0 0] 32))
  clear h hs
  go_enter Try.func8, Try.ntmps8
  go_wp2
  go_loopw [4] (fun i_ wr => ∃ (k : Nat) (v : Value) (ys : List En), k ≤ m ∧ i_ = .int .i64 (k : Int) ∧ Rb wr w.heap.size w.heap.size v ys ∧ ers ys = (ers (us.take k)).map cle ∧ Below w.heap.size w wr) (fun i_ _ => m - (intOf i_).toNat)
  case atStart => exact ⟨0, _, [], Nat.zero_le _, rfl, HR0.out, by simp [ers], HB0.out⟩
  case round =>
    obtain ⟨k, v, ys, hk, rfl, hrb, her, hb⟩ := hrel
    have HRb := hide hrb
    have HEr := hide her
    have HB := hide hb
    have hyl : ys.length = k := by
      have := congrArg List.length her
      rw [ers_len, List.length_map, ers_len, List.length_take, HU.out.len] at this
      omega
    clear hrb her
    by_cases hlt : k < m
    · obtain ⟨u, b2, o2, hu, rfl, hb2, u0, u1, huk⟩ := (HU.out.below hb).at hlt
      have f1 : (k : Int) < (m : Int) := by omega
      have f2 : (0 : Int) ≤ (k : Int) := by omega
      have hsz := HS.out u (List.mem_of_getElem? hu)
      have hdr : Below wr.heap.size wr wr.drew := (Below.refl _ _).drew
      have HP := hide (rput_any (HRb.out.below hdr) (HB.out.size) u.ka u.va u.e.key.length u.kc u.e.val.length u.vc u.e.key u.e.val (huk.key.below hdr) (huk.val.below hdr) hsz.1 hsz.2 (by omega))
      have HUu := hide hu
      have hlow : b2 < w.heap.size := by
        rcases HU.out.row with h0 | ⟨b', off', e, hl, _⟩
        · exfalso; have := HU.out.len; rw [h0] at this; simp at this; omega
        · cases e; exact hl
      have HU0 := hide u0
      have HU1 := hide u1
      clear huk hsz hdr hu hb
      go_wp2
      go_region_held3 (fun W => W.cell? ⟨b2, o2 + k * 2, none⟩ = some (.slice u.ka u.e.key.length u.kc) ∧ W.cell? ⟨b2, o2 + k * 2 + 1, none⟩ = some (.slice u.va u.e.val.length u.vc)) ((refine ⟨?_, ?_⟩ <;> assumption)) ((first | (go_at_call 11; refine HP.out.mono ?_; rintro e w2 ⟨rfl, v2, y, hye, hrb2, hmv, hnw⟩; have hon := rb_on HRb.out HB.out hmv; have HON := hide hon; have HRb2 := hide hrb2; have HYe := hide hye; clear hrb2 hmv hnw hye hon u0 u1; have u0 := (HON.out.2.cell (p := ⟨b2, o2 + k * 2, none⟩) hlow).trans HU0.out; have u1 := (HON.out.2.cell (p := ⟨b2, o2 + k * 2 + 1, none⟩) hlow).trans HU1.out)))
      go_wp2
      refine ⟨⟨k + 1, v2, ys ++ [y], by omega, by go_num, HRb2.out, ?_, HON.out.1⟩, ?_⟩
      · rw [ers_app, HEr.out, take_at HUu.out, ers_app, List.map_append]
        simp [ers, HYe.out, cle]
      · simp [intOf]; omega
    · obtain rfl : k = m := by omega
      have f1 : ¬ (k : Int) < (k : Int) := by omega
      obtain ⟨a2, c2, rfl, hE⟩ := HRb.out.cl.ens
      rw [hyl] at HRb hE
      have HSe := hide (rseen_any (HRb.out.cell) hE (by omega) (prs_nil wr) (by omega))
      have ht : us.take k = us := List.take_of_length_le (by rw [HU.out.len]; exact Nat.le_refl _)
      have HT := hide ht
      clear hE ht hb
      go_wp2_with fail
      refine HSe.out.mono ?_
      rintro e w2 ⟨W0, v, q, vs, rfl, hb0, hrp, hvs, hsub⟩
      obtain ⟨a3, c3, rfl, hprs⟩ := hrp.prs
      have hfin : RiseOut w us (.returned (.slice a3 q c3)) w2 := by
        have e1 : ers vs = risE (ers us) := by
          rw [hvs]
          have : ers ys = (ers us).map cle := by rw [HEr.out, HT.out]
          rw [this]
          exact mg_risE (ers us)
        refine ⟨a3, q, c3, vs, rfl, hprs, e1, ?_, HB.out.trans ((hb0.trans (hrp.on.mono hb0.size)).mono HB.out.size)⟩
        have h1 := risE_len (ers us)
        rw [← e1, ers_len, ers_len, hprs.len] at h1
        exact h1
      have HFin := hide hfin
      clear hb0 hrp hvs hsub hprs hfin
      go_wp2
      go_ret
      exact HFin.out
end Go.Proofs.Ytfcebpenjdhgbaa
