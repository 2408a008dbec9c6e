/- Plain mathematics of pages: unlike pages are unlike; the chapter's examples. -/
import Derived.Test.YtfbkcolcdkglbaaPO
import Derived.Test.YtfbkcolcdkglbaaRO
namespace Go.Proofs.Ytfbkcolcdkglbaa
set_option linter.unusedVariables false
namespace Pg
open Crc

theorem pg_inj {k k' n n' : Nat} {pl pl' : List Int} (hk : k < 256) (hk' : k' < 256) (hn : n < 4294967296) (hn' : n' < 4294967296) (hl : pl.length ≤ 1008) (hl' : pl'.length ≤ 1008) (h : pg k n pl = pg k' n' pl') : k = k' ∧ n = n' ∧ pl = pl' := by
  have hb : pb k n pl = pb k' n' pl' := by rw [← pg_take k n pl hl, ← pg_take k' n' pl' hl', h]
  have e1 : k = k' := by rw [← pg_kind k n pl hk, ← pg_kind k' n' pl' hk', h]
  have e2 : pl = pl' := by
    have h1 := pg_payload k n pl
    have h2 := pg_payload k' n' pl'
    have h3 := pg_len k n pl hl
    have h4 := pg_len k' n' pl' hl'
    rw [h] at h1 h3
    rw [h4] at h3
    rw [← h1, ← h3, h2]
  refine ⟨e1, ?_, e2⟩
  rw [pb, pb] at hb
  obtain ⟨-, -, -, e4, -⟩ := peel6 _ _ _ _ _ _ _ _ _ _ _ _ _ _ hb rfl (by simp only [le_length]) (by simp only [le_length]) (by simp only [le_length]) (by simp only [le_length]) (by simp only [le_length])
  exact le_inj 4 n n' (by rw [p4]; exact hn) (by rw [p4]; exact hn') e4
/-- a page of another number is none. -/
theorem opn_other {k n n' : Nat} {pl : List Int} (hk : k < 256) (hn : n < 4294967296) (hn' : n' < 4294967296) (hl : pl.length ≤ 1008) (h : n' ≠ n) : opn n' (pg k n pl) = none := by
  apply opn_none
  intro k' pl' h1 h4 hl' e
  obtain ⟨-, e2, -⟩ := pg_inj hk (by omega) hn hn' hl hl' e
  exact h e2.symm
/-- the chapter's examples. -/
def kp : List Int := pg 1 7 [97, 98]
def km : M := ⟨1, 0, 0, 2, 0⟩
def ks : List Int := mt km
theorem km_may : km.May := by decide
theorem ks_get : get ks = some km := get_mt' km km_may
theorem kp_14 : kp.take 14 = [67, 80, 1, 0, 7, 0, 0, 0, 2, 0, 0, 0, 97, 98] := by
  have e : kp = [67, 80, 1, 0, 7, 0, 0, 0, 2, 0, 0, 0, 97, 98] ++ (List.replicate 1006 0 ++ le 4 (more 0 (pb 1 7 [97, 98]))) := by
    rw [kp, pg_eq]
    conv => lhs; arg 1; rw [pb]
    rw [show le 1 1 = [1] from rfl, show le 1 0 = [0] from rfl, show le 4 7 = [7, 0, 0, 0] from rfl, show le 2 ([97, 98] : List Int).length = [2, 0] from rfl, show le 2 0 = [0, 0] from rfl, show 1008 - ([97, 98] : List Int).length = 1006 from rfl]
    simp only [List.cons_append, List.nil_append]
  rw [e]
  exact List.take_left' rfl
theorem get_zero (n : Nat) : get (List.replicate n 0) = none := by
  apply get_none
  intro m hm e
  have h1 := congrArg (List.take 1) e
  have h2 := congrArg (List.take 1) (mt_mark m)
  rw [List.take_take] at h1 h2
  rw [← e, List.take_take, List.take_replicate] at h2
  cases n with
  | zero => simp at h2
  | succ n => simp [List.replicate_succ] at h2
end Pg
open Pg
theorem bg_zero (n : Nat) : bg (List.replicate n 0) = false := by
  unfold bg
  rw [decide_eq_false_iff_not]
  intro h
  have h1 := congrArg (List.take 1) h
  rw [List.take_take, List.take_replicate] at h1
  cases n with
  | zero => simp at h1
  | succ n => simp [List.replicate_succ] at h1
theorem bg_mt (m : M) (rest : List Int) : bg (mt m ++ rest) = true := by
  unfold bg
  rw [decide_eq_true_iff, List.take_append_of_le_length (by rw [mt_length]; omega)]
  exact mt_mark m
theorem bst_known1 : bst (List.replicate 1024 0) ks = (km, 0) := by
  have h1 : bg ks = true := by have := bg_mt km []; rwa [List.append_nil] at this
  rw [bst, if_neg (fun h => by rw [h1] at h; exact absurd h.2 (by decide)), get_zero, ks_get]
  have e : nwr (stm none 0) (stm (some km) 1) = km := by decide
  rw [e, if_neg (by decide)]
theorem bst_known2 : bst ks [] = (mz, 151) := by
  have h1 : bg ks = true := by have := bg_mt km []; rwa [List.append_nil] at this
  have h2 : Pg.get [] = none := get_zero 0
  rw [bst, if_neg (fun h => by rw [h1] at h; exact absurd h.1 (by decide)), h2, ks_get]
  have e : nwr (stm (some km) 0) (stm none 1) = mz := by decide
  rw [e, if_pos rfl]
end Go.Proofs.Ytfbkcolcdkglbaa
