/- Mathematics of PoolKeeps: which pages are at hand; two rows beside a pool. -/
import Derived.Test.YtkkjppdooaipiaaPQ
namespace Go.Proofs.Ytkkjppdooaipiaa
open Go.RowKit Go.Maps
set_option linter.unusedVariables false

/-- a page whose payload is its number. -/
def mkp (n : Nat) : Pge := ⟨n, 1, [(n : Int)]⟩
/-- what is at hand when the first i pages have been written. -/
def Ai (most : Nat) : Nat → List Pge
  | 0 => []
  | i + 1 => inn most (wo (Ai most i) i) (mkp i)
def Si : Nat → DS
  | 0 => DS.new (8 * 12)
  | i + 1 => (Si i).op2.adds (8 * i) (Pg.pg 1 i [(i : Int)]) 8
theorem Si_calm : ∀ i, Calm (Si i) 12 i
  | 0 => Calm.new 12
  | i + 1 => (Si_calm i).wr _ _
theorem Si_rd : ∀ i j, j < i → rd (Si i) (8 * j) 8 = Pg.pg 1 j [(j : Int)]
  | 0, j, h => by omega
  | i + 1, j, h => by
    by_cases e : i = j
    · subst e
      exact rd_wr_same _ _ _ (Pg.pg_length 1 i _ (by simp))
    · rw [Si, rd_wr_other _ _ e]
      exact Si_rd i j (by omega)
theorem Ai_end (most : Nat) (h1 : 1 ≤ most) (h6 : most ≤ 6) : Ai most 12 = (List.range' (12 - most) most).map mkp := by
  have h : most = 1 ∨ most = 2 ∨ most = 3 ∨ most = 4 ∨ most = 5 ∨ most = 6 := by omega
  rcases h with rfl | rfl | rfl | rfl | rfl | rfl <;> rfl
/-- what the statement knows between two reads. -/
structure Kp (S : DS) (A : List Pge) (us : List Nat) (most c : Nat) : Prop where
  calm : Calm S 12 c
  all : A = us.map mkp
  len : us.length = most
  nd : us.Nodup
  lt : ∀ x ∈ us, x < 12
  rds : ∀ j, j < 12 → rd S (8 * j) 8 = Pg.pg 1 j [(j : Int)]
theorem Kp.mono {S : DS} {A : List Pge} {us : List Nat} {most c c' : Nat} (h : Kp S A us most c) (hc : c ≤ c') : Kp S A us most c' := ⟨h.calm.mono hc, h.all, h.len, h.nd, h.lt, h.rds⟩
theorem mk_n (us : List Nat) : (us.map mkp).map Pge.n = us := by rw [List.map_map]; exact List.map_id' us
theorem wo_mk (us : List Nat) (x : Nat) : wo (us.map mkp) x = (us.filter (· != x)).map mkp := by
  unfold wo
  rw [List.filter_map]
  rfl
theorem Kp.start (most : Nat) (h1 : 1 ≤ most) (h6 : most ≤ 6) : Kp (Si 12) (Ai most 12) (List.range' (12 - most) most) most 12 :=
  ⟨Si_calm 12, Ai_end most h1 h6, List.length_range', List.nodup_range', fun x hx => by rw [List.mem_range'_1] at hx; omega, fun j hj => Si_rd 12 j hj⟩
theorem Kp.hand {S : DS} {A : List Pge} {us : List Nat} {most c x : Nat} (h : Kp S A us most c) (hx : x ∈ us) : Kp S (wo A x ++ [mkp x]) (us.filter (· != x) ++ [x]) most c := by
  refine ⟨h.calm, ?_, ?_, ?_, ?_, h.rds⟩
  · rw [h.all, wo_mk, List.map_append]; rfl
  · rw [← h.nd.erase_eq_filter, List.length_append, List.length_erase_of_mem hx, List.length_singleton, h.len]
    have := List.length_pos_of_mem hx
    rw [h.len] at this
    omega
  · rw [List.nodup_append]
    refine ⟨h.nd.filter _, by simp, fun a ha b hb => ?_⟩
    rw [List.mem_singleton.1 hb]
    simpa using (List.mem_filter.1 ha).2
  · intro y hy
    rcases List.mem_append.1 hy with hy | hy
    · exact h.lt y (List.mem_filter.1 hy).1
    · rw [List.mem_singleton.1 hy]; exact h.lt x hx
theorem Kp.disk {S : DS} {A : List Pge} {us : List Nat} {most c x : Nat} (h : Kp S A us most c) (hm : 1 ≤ most) (hx : x ∉ us) (hx12 : x < 12) : Kp S.op1 (inn most A (mkp x)) (us.tail ++ [x]) most (c + 1) := by
  have hs := List.tail_sublist us
  refine ⟨h.calm.op1, ?_, ?_, ?_, ?_, fun j hj => by rw [rd_op1]; exact h.rds j hj⟩
  · rw [h.all, inn, if_pos (by rw [List.length_map]; exact h.len), List.map_append, List.map_tail]
    rfl
  · rw [List.length_append, List.length_tail, List.length_singleton, h.len]
    omega
  · rw [List.nodup_append]
    refine ⟨h.nd.sublist hs, by simp, fun a ha b hb => ?_⟩
    rw [List.mem_singleton.1 hb]
    exact fun e => hx (e ▸ hs.subset ha)
  · intro y hy
    rcases List.mem_append.1 hy with hy | hy
    · exact h.lt y (hs.subset hy)
    · rw [List.mem_singleton.1 hy]; exact hx12
theorem Kp.there {S : DS} {A : List Pge} {us : List Nat} {most c x : Nat} (h : Kp S A us most c) (hx : x ∈ us) : mkp x ∈ A := by rw [h.all]; exact List.mem_map.2 ⟨x, hx, rfl⟩
theorem Kp.not {S : DS} {A : List Pge} {us : List Nat} {most c x : Nat} (h : Kp S A us most c) (hx : x ∉ us) : x ∉ A.map Pge.n := by rw [h.all, mk_n]; exact hx
theorem Kp.opn {S : DS} {A : List Pge} {us : List Nat} {most c x : Nat} (h : Kp S A us most c) (hx : x < 12) : Pg.opn x (rd S (8 * x) 8) = some (1, [(x : Int)]) := by
  rw [h.rds x hx]
  exact Pg.opn_pg 1 x _ (by omega) (by omega) (by simp)
theorem nodup_at {us : List Nat} (h : us.Nodup) {i j x : Nat} (hi : us[i]? = some x) (hj : us[j]? = some x) : i = j := by
  obtain ⟨h1, h2⟩ := List.getElem?_eq_some_iff.1 hi
  obtain ⟨h3, h4⟩ := List.getElem?_eq_some_iff.1 hj
  exact (List.getElem_inj h).1 (h2.trans h4.symm)
/-- two rows beside a pool. -/
structure K2 (B : Nat) (w0 W : World) (p d q : Nat) (S : DS) (most : Nat) (A : List Pge) (OO : Nat → Prop) (u : Value) (us : List Nat) (n : Value) (ns : List Nat) : Prop where
  ks : Ks B w0 W p d q S most A OO u us
  ns : OwnU W n ns
  ap : Ap W OO n
  nw : ∀ k, n.ownBlock = some k → B ≤ k
  un : ∀ k, n.ownBlock = some k → u.ownBlock ≠ some k
variable {B : Nat} {w0 W W' : World} {p d q : Nat} {S S' : DS} {most : Nat} {A A' : List Pge} {OO OO' : Nat → Prop} {u n n' : Value} {us ns ns' : List Nat}
theorem K2.grown (h : K2 B w0 W p d q S most A OO u us n ns) (hg : W.grownBy W' n.ownBlock) (ho : OwnU W' n' ns') (hl : n'.ownBlock = n.ownBlock ∨ n'.ownBlock = some W.heap.size) : K2 B w0 W' p d q S most A OO u us n' ns' := by
  have h0 : Ks B w0 W' p d q S most A OO n' ns' := Ks.grown ⟨h.ks.pl, h.ns, h.ap, h.nw, h.ks.fd⟩ hg ho hl
  refine ⟨⟨h0.pl, h.ks.us.of_block fun k hk => hg.block k (h.ks.us.lt hk) (fun e => h.un k e.symm hk), fun k hk => ⟨Nat.lt_of_lt_of_le (h.ks.ap k hk).1 hg.size, (h.ks.ap k hk).2⟩, h.ks.nw, h0.fd⟩, ho, h0.ap, h0.nw, fun k hk hu => ?_⟩
  rcases hl with e | e
  · exact h.un k (e ▸ hk) hu
  · rw [e] at hk
    cases hk
    have := h.ks.us.lt hu
    omega
theorem K2.on (h : K2 B w0 W p d q S most A OO u us n ns) (hb : Below W.heap.size W W') : K2 B w0 W' p d q S most A OO u us n ns :=
  ⟨h.ks.on hb, h.ns.of_block fun k hk => hb.block k (h.ns.lt hk), h.ap.on hb, h.nw, h.un⟩
theorem K2.start (h : Ks B w0 W p d q S most A OO u us) : K2 B w0 W p d q S most A OO u us (.slice none 0 0) [] :=
  ⟨h, OwnU.nil _, fun k hk => by simp [Value.ownBlock] at hk, fun k hk => by simp [Value.ownBlock] at hk, fun k hk => by simp [Value.ownBlock] at hk⟩
theorem K2.swap (h : K2 B w0 W p d q S most A OO u us n ns) : Ks B w0 W p d q S most A OO n ns := ⟨h.ks.pl, h.ns, h.ap, h.nw, h.ks.fd⟩
/-- the row that is made of the row. -/
def nx (us : List Nat) (x k : Nat) : List Nat := if x ∈ us then (us.take k).filter (· != x) else (us.take k).tail
theorem nx_zero (us : List Nat) (x : Nat) : nx us x 0 = [] := by unfold nx; split <;> simp
theorem nx_len (us : List Nat) (x k : Nat) : (nx us x k).length ≤ k := by
  unfold nx
  split
  · exact Nat.le_trans (List.length_filter_le _ _) (by simp; omega)
  · rw [List.length_tail, List.length_take]; omega
theorem take_at' {us : List Nat} {k y : Nat} (hy : us[k]? = some y) : us.take (k + 1) = us.take k ++ [y] := by rw [List.take_add_one, hy]; rfl
theorem nx_skip_in {us : List Nat} {x k : Nat} (hx : x ∈ us) (hy : us[k]? = some x) : nx us x (k + 1) = nx us x k := by
  unfold nx
  rw [if_pos hx, if_pos hx, take_at' hy, List.filter_append]
  simp
theorem nx_keep_in {us : List Nat} {x k y : Nat} (hx : x ∈ us) (hy : us[k]? = some y) (hne : y ≠ x) : nx us x (k + 1) = nx us x k ++ [y] := by
  unfold nx
  rw [if_pos hx, if_pos hx, take_at' hy, List.filter_append]
  simp [hne]
theorem nx_first {us : List Nat} {x : Nat} (hx : x ∉ us) : nx us x 1 = nx us x 0 := by
  unfold nx
  rw [if_neg hx, if_neg hx]
  cases us <;> simp
theorem nx_keep_out {us : List Nat} {x k y : Nat} (hx : x ∉ us) (hk : 0 < k) (hy : us[k]? = some y) : nx us x (k + 1) = nx us x k ++ [y] := by
  unfold nx
  rw [if_neg hx, if_neg hx, take_at' hy, List.tail_append_of_ne_nil]
  intro e
  have h1 := congrArg List.length e
  have h2 := (List.getElem?_eq_some_iff.1 hy).1
  rw [List.length_take, List.length_nil] at h1
  omega
theorem nx_all (us : List Nat) (x : Nat) : nx us x us.length = if x ∈ us then us.filter (· != x) else us.tail := by unfold nx; rw [List.take_length]
end Go.Proofs.Ytkkjppdooaipiaa
