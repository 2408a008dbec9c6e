/- Plain mathematics of pages and states: their bytes, and which bytes are one. -/
import Derived.Test.YtkkjppdooaipiaaPM
namespace Go.Proofs.Ytkkjppdooaipiaa
namespace Pg
open Crc

/-- bytes, filled up with noughts ahead of a sum. -/
def fill (size : Nat) (l : List Int) : List Int := l ++ List.replicate (size - 4 - l.length) 0
/-- with the sum. -/
def sl (size : Nat) (l : List Int) : List Int := fill size l ++ le 4 (more 0 (fill size l))
/-- the sum at the end is right, and the length. -/
def Rt (size : Nat) (zs : List Int) : Prop := zs.length = size ∧ leV (zs.drop (size - 4)) = more 0 (zs.take (size - 4))
instance (size : Nat) (zs : List Int) : Decidable (Rt size zs) := by unfold Rt; infer_instance

theorem fill_length (size : Nat) (l : List Int) (h : l.length + 4 ≤ size) : (fill size l).length = size - 4 := by
  simp [fill]; omega
theorem sl_length (size : Nat) (l : List Int) (h : l.length + 4 ≤ size) : (sl size l).length = size := by
  rw [sl, List.length_append, fill_length size l h, le_length]; omega
theorem b8_app {a b : List Int} (ha : B8 a) (hb : B8 b) : B8 (a ++ b) := fun c hc => (List.mem_append.1 hc).elim (ha c) (hb c)
theorem b8_rep (n : Nat) : B8 (List.replicate n 0) := by
  intro c hc
  have := List.eq_of_mem_replicate hc
  omega
theorem b8_take {a : List Int} (h : B8 a) (k : Nat) : B8 (a.take k) := fun c hc => h c (List.mem_of_mem_take hc)
theorem b8_drop {a : List Int} (h : B8 a) (k : Nat) : B8 (a.drop k) := fun c hc => h c (List.mem_of_mem_drop hc)
theorem fill_b8 (size : Nat) (l : List Int) (h : B8 l) : B8 (fill size l) := b8_app h (b8_rep _)
theorem sl_b8 (size : Nat) (l : List Int) (h : B8 l) : B8 (sl size l) := b8_app (fill_b8 size l h) (le_b8 _ _)
theorem more_lt4 (l : List Int) (h : B8 l) : more 0 l < 256 ^ 4 := by
  have := more_lt 0 l (by omega) h
  have e4 : (256 : Nat) ^ 4 = 4294967296 := by decide
  rw [e4]; exact this
theorem sl_right (size : Nat) (l : List Int) (h : l.length + 4 ≤ size) (h8 : B8 l) : Rt size (sl size l) := by
  refine ⟨sl_length size l h, ?_⟩
  have e := fill_length size l h
  rw [sl, List.drop_left' e, List.take_left' e, leV_le 4 _ (more_lt4 _ (fill_b8 size l h8))]
/-- bytes with a right sum are sealed. -/
theorem right_is (size : Nat) (zs : List Int) (h8 : B8 zs) (hs : 4 ≤ size) (h : Rt size zs) : zs = zs.take (size - 4) ++ le 4 (more 0 (zs.take (size - 4))) := by
  obtain ⟨h1, h2⟩ := h
  have e : (zs.drop (size - 4)).length = 4 := by rw [List.length_drop]; omega
  have e2 := le_leV (zs.drop (size - 4)) (b8_drop h8 _)
  rw [e, h2] at e2
  rw [e2, List.take_append_drop]
/-- in the register's words. -/
theorem right_reg (size : Nat) (zs : List Int) (h8 : B8 zs) (hs : 4 ≤ size) (hl : zs.length = size) : Rt size zs ↔ reg (inv 0) zs = stps 32 ones := by
  have e : (zs.drop (size - 4)).length = 4 := by rw [List.length_drop]; omega
  have h := right_iff (zs.take (size - 4)) (zs.drop (size - 4)) e (b8_take h8 _) (b8_drop h8 _)
  rw [List.take_append_drop] at h
  rw [← h, Rt]
  simp [hl]
/-- what is sealed, with some bits of 32 in a row turned, is right just if none was. -/
theorem turned_rt (size : Nat) (P T : List Int) (F E : Nat) (hs : 4 ≤ size) (hP8 : B8 P) (hT8 : B8 T) (hP : Rt size P) (hl : T.length = P.length) (hF : F ≤ 8 * P.length) (hE : E < 4294967296) (hn : num T = num P ^^^ 2 ^ F * E) :
    Rt size T ↔ E = 0 := by
  have hp := (right_reg size P hP8 hs hP.1).1 hP
  rw [right_reg size T hT8 hs (hl.trans hP.1)]
  exact turned_right P T F E hl hF hE hn hp
theorem num_inj (a b : List Int) (hl : a.length = b.length) (ha : B8 a) (hb : B8 b) (h : num a = num b) : a = b := by
  rw [← leV_num a ha, ← leV_num b hb] at h
  have h1 := le_leV a ha
  have h2 := le_leV b hb
  rw [hl, h, h2] at h1
  exact h1.symm

/-- the bytes of a page ahead of its sum. -/
def pb (kind number : Nat) (pl : List Int) : List Int := [67, 80] ++ (le 1 kind ++ (le 1 0 ++ (le 4 number ++ (le 2 pl.length ++ (le 2 0 ++ (pl ++ List.replicate (1008 - pl.length) 0))))))
/-- a page's head and payload, as they are laid down. -/
def ph (kind number : Nat) (pl : List Int) : List Int := ([67, 80] ++ le 1 kind ++ le 1 0 ++ le 4 number ++ le 2 pl.length ++ le 2 0) ++ pl
/-- a page. -/
def pg (kind number : Nat) (pl : List Int) : List Int := sl 1024 (ph kind number pl)
theorem ph_length (kind number : Nat) (pl : List Int) : (ph kind number pl).length = 12 + pl.length := by
  simp [ph, le_length]; omega
theorem fill_ph (kind number : Nat) (pl : List Int) : fill 1024 (ph kind number pl) = pb kind number pl := by
  have e : 1024 - 4 - (ph kind number pl).length = 1008 - pl.length := by rw [ph_length]; omega
  rw [fill, e]
  simp [ph, pb]
theorem pg_eq (kind number : Nat) (pl : List Int) : pg kind number pl = pb kind number pl ++ le 4 (more 0 (pb kind number pl)) := by rw [pg, sl, fill_ph]
theorem cp8 : B8 [67, 80] := by intro c hc; simp at hc; omega
theorem ph_b8 (kind number : Nat) (pl : List Int) (h : B8 pl) : B8 (ph kind number pl) :=
  b8_app (b8_app (b8_app (b8_app (b8_app (b8_app cp8 (le_b8 _ _)) (le_b8 _ _)) (le_b8 _ _)) (le_b8 _ _)) (le_b8 _ _)) h
theorem pb_b8 (kind number : Nat) (pl : List Int) (h : B8 pl) : B8 (pb kind number pl) := by rw [← fill_ph]; exact fill_b8 _ _ (ph_b8 _ _ _ h)
theorem pg_b8 (kind number : Nat) (pl : List Int) (h : B8 pl) : B8 (pg kind number pl) := sl_b8 _ _ (ph_b8 _ _ _ h)
theorem pb_length (kind number : Nat) (pl : List Int) (h : pl.length ≤ 1008) : (pb kind number pl).length = 1020 := by
  rw [← fill_ph, fill_length _ _ (by rw [ph_length]; omega)]
theorem pg_length (kind number : Nat) (pl : List Int) (h : pl.length ≤ 1008) : (pg kind number pl).length = 1024 := sl_length _ _ (by rw [ph_length]; omega)
theorem pg_right (kind number : Nat) (pl : List Int) (h : pl.length ≤ 1008) (h8 : B8 pl) : Rt 1024 (pg kind number pl) := sl_right _ _ (by rw [ph_length]; omega) (ph_b8 _ _ _ h8)
theorem pg_take (kind number : Nat) (pl : List Int) (h : pl.length ≤ 1008) : (pg kind number pl).take 1020 = pb kind number pl := by
  rw [pg_eq]; exact List.take_left' (pb_length kind number pl h)

/-- bytes ahead of a sum, cut as a page is. -/
theorem cut6 (B : List Int) (h : B.length = 1020) : ∃ x1 x2 x3 x4 x5 x6 R : List Int, B = x1 ++ (x2 ++ (x3 ++ (x4 ++ (x5 ++ (x6 ++ R))))) ∧ x1.length = 2 ∧ x2.length = 1 ∧ x3.length = 1 ∧ x4.length = 4 ∧ x5.length = 2 ∧ x6.length = 2 ∧ R.length = 1008 := by
  refine ⟨B.take 2, (B.drop 2).take 1, (B.drop 3).take 1, (B.drop 4).take 4, (B.drop 8).take 2, (B.drop 10).take 2, B.drop 12, ?_, by simp [h], by simp [h], by simp [h], by simp [h], by simp [h], by simp [h], by simp [h]⟩
  have e6 : (B.drop 10).take 2 ++ B.drop 12 = B.drop 10 := by have := List.take_append_drop 2 (B.drop 10); rwa [List.drop_drop] at this
  have e5 : (B.drop 8).take 2 ++ B.drop 10 = B.drop 8 := by have := List.take_append_drop 2 (B.drop 8); rwa [List.drop_drop] at this
  have e4 : (B.drop 4).take 4 ++ B.drop 8 = B.drop 4 := by have := List.take_append_drop 4 (B.drop 4); rwa [List.drop_drop] at this
  have e3 : (B.drop 3).take 1 ++ B.drop 4 = B.drop 3 := by have := List.take_append_drop 1 (B.drop 3); rwa [List.drop_drop] at this
  have e2 : (B.drop 2).take 1 ++ B.drop 3 = B.drop 2 := by have := List.take_append_drop 1 (B.drop 2); rwa [List.drop_drop] at this
  rw [e6, e5, e4, e3, e2, List.take_append_drop]
theorem peel6 (x1 x2 x3 x4 x5 x6 R y1 y2 y3 y4 y5 y6 S : List Int) (h : x1 ++ (x2 ++ (x3 ++ (x4 ++ (x5 ++ (x6 ++ R))))) = y1 ++ (y2 ++ (y3 ++ (y4 ++ (y5 ++ (y6 ++ S))))))
    (h1 : x1.length = y1.length) (h2 : x2.length = y2.length) (h3 : x3.length = y3.length) (h4 : x4.length = y4.length) (h5 : x5.length = y5.length) (h6 : x6.length = y6.length) :
    x1 = y1 ∧ x2 = y2 ∧ x3 = y3 ∧ x4 = y4 ∧ x5 = y5 ∧ x6 = y6 ∧ R = S := by
  obtain ⟨e1, h⟩ := List.append_inj h h1
  obtain ⟨e2, h⟩ := List.append_inj h h2
  obtain ⟨e3, h⟩ := List.append_inj h h3
  obtain ⟨e4, h⟩ := List.append_inj h h4
  obtain ⟨e5, h⟩ := List.append_inj h h5
  obtain ⟨e6, h⟩ := List.append_inj h h6
  exact ⟨e1, e2, e3, e4, e5, e6, h⟩

/-- what a page of that number has, by the document's own words. -/
def opn (number : Nat) (zs : List Int) : Option (Nat × List Int) :=
  if zs.length = 1024 ∧ leV ((zs.drop 8).take 2) ≤ 1008 ∧ 1 ≤ leV ((zs.drop 2).take 1) ∧ leV ((zs.drop 2).take 1) ≤ 4 ∧ zs = pg (leV ((zs.drop 2).take 1)) number ((zs.drop 12).take (leV ((zs.drop 8).take 2))) then
    some (leV ((zs.drop 2).take 1), (zs.drop 12).take (leV ((zs.drop 8).take 2))) else none
theorem le1_0 : le 1 0 = [0] := rfl
theorem le2_0 : le 2 0 = [0, 0] := rfl
theorem pg_kind (kind number : Nat) (pl : List Int) (h : kind < 256) : leV (((pg kind number pl).drop 2).take 1) = kind := by
  have e : ((pg kind number pl).drop 2).take 1 = le 1 kind := by
    rw [pg_eq, pb, List.append_assoc, List.drop_left' (by rfl), List.append_assoc]
    exact List.take_left' (le_length _ _)
  rw [e]; exact leV_le 1 kind (by omega)
theorem pg_len (kind number : Nat) (pl : List Int) (h : pl.length ≤ 1008) : leV (((pg kind number pl).drop 8).take 2) = pl.length := by
  have e : ((pg kind number pl).drop 8).take 2 = le 2 pl.length := by
    have e8 : pg kind number pl = ([67, 80] ++ (le 1 kind ++ (le 1 0 ++ le 4 number))) ++ (le 2 pl.length ++ ((le 2 0 ++ (pl ++ List.replicate (1008 - pl.length) 0)) ++ le 4 (more 0 (pb kind number pl)))) := by
      rw [pg_eq]; conv => lhs; arg 1; rw [pb]
      simp
    rw [e8, List.drop_left' (by simp [le_length])]
    exact List.take_left' (le_length _ _)
  rw [e]; exact leV_le 2 _ (by have : (256 : Nat) ^ 2 = 65536 := by decide
                               omega)
theorem pg_payload (kind number : Nat) (pl : List Int) : ((pg kind number pl).drop 12).take pl.length = pl := by
  have e8 : pg kind number pl = ([67, 80] ++ (le 1 kind ++ (le 1 0 ++ (le 4 number ++ (le 2 pl.length ++ le 2 0))))) ++ (pl ++ (List.replicate (1008 - pl.length) 0 ++ le 4 (more 0 (pb kind number pl)))) := by
    rw [pg_eq]; conv => lhs; arg 1; rw [pb]
    simp
  rw [e8, List.drop_left' (by simp [le_length])]
  exact List.take_left' rfl
theorem opn_pg (kind number : Nat) (pl : List Int) (h1 : 1 ≤ kind) (h4 : kind ≤ 4) (hl : pl.length ≤ 1008) : opn number (pg kind number pl) = some (kind, pl) := by
  rw [opn, pg_kind kind number pl (by omega), pg_len kind number pl hl, pg_payload, if_pos ⟨pg_length _ _ _ hl, hl, h1, h4, rfl⟩]
theorem opn_some {number kind : Nat} {zs pl : List Int} (h : opn number zs = some (kind, pl)) : 1 ≤ kind ∧ kind ≤ 4 ∧ pl.length ≤ 1008 ∧ zs = pg kind number pl := by
  rw [opn] at h
  split at h
  · rename_i hc
    obtain ⟨h0, h1, h2, h3, h5⟩ := hc
    cases h
    exact ⟨h2, h3, by rw [List.length_take, List.length_drop]; omega, h5⟩
  · cases h
theorem opn_none {number : Nat} {zs : List Int} (h : ∀ kind pl, 1 ≤ kind → kind ≤ 4 → pl.length ≤ 1008 → zs ≠ pg kind number pl) : opn number zs = none := by
  cases e : opn number zs with
  | none => rfl
  | some x => obtain ⟨k, pl⟩ := x; obtain ⟨h1, h2, h3, h4⟩ := opn_some e; exact absurd h4 (h k pl h1 h2 h3)
/-- bytes without a right sum are no page. -/
theorem opn_wrong {number : Nat} {zs : List Int} (h8 : B8 zs) (h : ¬ Rt 1024 zs) : opn number zs = none := by
  apply opn_none
  intro kind pl h1 h2 h3 e
  apply h
  have hp : B8 pl := by
    intro c hc
    have e2 := pg_payload kind number pl
    rw [← e] at e2
    exact h8 c (List.mem_of_mem_drop (List.mem_of_mem_take (by rw [e2]; exact hc)))
  rw [e]
  exact pg_right kind number pl h3 hp
/-- bytes with a right sum, cut as a page is. -/
theorem opn_cut {number : Nat} {zs x1 x2 x3 x4 x5 x6 R : List Int} (h8 : B8 zs) (hr : Rt 1024 zs) (hc : zs.take 1020 = x1 ++ (x2 ++ (x3 ++ (x4 ++ (x5 ++ (x6 ++ R))))))
    (l1 : x1.length = 2) (l2 : x2.length = 1) (l3 : x3.length = 1) (l4 : x4.length = 4) (l5 : x5.length = 2) (l6 : x6.length = 2) (lR : R.length = 1008) (hn : number < 4294967296) :
    (x1 = [67, 80] → 1 ≤ leV x2 → leV x2 ≤ 4 → x3 = [0] → leV x4 = number → x6 = [0, 0] → leV x5 ≤ 1008 → R.drop (leV x5) = List.replicate (1008 - leV x5) 0 → opn number zs = some (leV x2, R.take (leV x5))) ∧
    (¬ (x1 = [67, 80] ∧ 1 ≤ leV x2 ∧ leV x2 ≤ 4 ∧ x3 = [0] ∧ leV x4 = number ∧ x6 = [0, 0] ∧ leV x5 ≤ 1008 ∧ R.drop (leV x5) = List.replicate (1008 - leV x5) 0) → opn number zs = none) := by
  have b := b8_take h8 1020
  rw [hc] at b
  have bx : ∀ l : List Int, (∀ c ∈ l, c ∈ x1 ++ (x2 ++ (x3 ++ (x4 ++ (x5 ++ (x6 ++ R)))))) → B8 l := fun l hl c hc => b c (hl c hc)
  have b2 : B8 x2 := bx x2 (fun c hc => by simp [hc])
  have b4 : B8 x4 := bx x4 (fun c hc => by simp [hc])
  have b5 : B8 x5 := bx x5 (fun c hc => by simp [hc])
  constructor
  · intro e1 k1 k4 e3 e4 e6 e5 eR
    have hz := right_is 1024 zs h8 (by omega) hr
    have hlen : (R.take (leV x5)).length = leV x5 := by rw [List.length_take, lR]; omega
    have hb : zs.take 1020 = pb (leV x2) number (R.take (leV x5)) := by
      have i2 := le_leV x2 b2
      have i4 := le_leV x4 b4
      have i5 := le_leV x5 b5
      rw [l2] at i2
      rw [l4, e4] at i4
      rw [l5] at i5
      rw [hc, pb, hlen, i2, i4, i5, le1_0, le2_0, e1, e3, e6, ← eR, List.take_append_drop]
    have hz2 : zs = pg (leV x2) number (R.take (leV x5)) := by
      rw [pg_eq, ← hb]; exact hz
    rw [hz2]
    exact opn_pg _ _ _ k1 k4 (by omega)
  · intro hno
    apply opn_none
    intro kind pl h1 h4 hl e
    apply hno
    have hb : zs.take 1020 = pb kind number pl := by rw [e]; exact pg_take kind number pl hl
    rw [hc, pb] at hb
    obtain ⟨e1, e2, e3, e4, e5, e6, eR⟩ := peel6 _ _ _ _ _ _ _ _ _ _ _ _ _ _ hb (by rw [l1]; rfl) (by rw [l2, le_length]) (by rw [l3, le_length]) (by rw [l4, le_length]) (by rw [l5, le_length]) (by rw [l6, le_length])
    have v2 : leV x2 = kind := by rw [e2]; exact leV_le 1 kind (by omega)
    have v4 : leV x4 = number := by rw [e4]; exact leV_le 4 number (by have : (256 : Nat) ^ 4 = 4294967296 := by decide
                                                                       omega)
    have v5 : leV x5 = pl.length := by rw [e5]; exact leV_le 2 _ (by have : (256 : Nat) ^ 2 = 65536 := by decide
                                                                     omega)
    refine ⟨e1, by omega, by omega, e3, v4, e6, by omega, ?_⟩
    rw [v5, eR]
    exact List.drop_left' rfl
end Pg
end Go.Proofs.Ytkkjppdooaipiaa
