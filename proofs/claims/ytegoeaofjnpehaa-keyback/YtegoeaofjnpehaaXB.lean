/- The reader of keys: values without their addresses; what stays of what was read. -/
import Derived.Test.YtegoeaofjnpehaaXA
import Derived.Test.YtegoeaofjnpehaaVP
import Derived.Test.YtegoeaofjnpehaaP
import Derived.Maps.AppendAt
namespace Go.Proofs.Ytegoeaofjnpehaa
open Go.RowKit
set_option linter.unusedVariables false

theorem byte_join (Y : Int) (h : 0 ≤ Y) : (Y / 256).toNat * 256 + (Y % 256).toNat = Y.toNat := by omega
theorem jb_nbs (X : Int) (h : 0 ≤ X ∧ X < 18446744073709551616) : jb (nbs X 8) = X.toNat := by
  have e : nbs X 8 = [X / 2 ^ 56 % 256, X / 2 ^ 48 % 256, X / 2 ^ 40 % 256, X / 2 ^ 32 % 256, X / 2 ^ 24 % 256, X / 2 ^ 16 % 256, X / 2 ^ 8 % 256, X / 2 ^ 0 % 256] := by rfl
  have d1 : X / 2 ^ 16 = X / 2 ^ 8 / 256 := by omega
  have d2 : X / 2 ^ 24 = X / 2 ^ 16 / 256 := by omega
  have d3 : X / 2 ^ 32 = X / 2 ^ 24 / 256 := by omega
  have d4 : X / 2 ^ 40 = X / 2 ^ 32 / 256 := by omega
  have d5 : X / 2 ^ 48 = X / 2 ^ 40 / 256 := by omega
  have d6 : X / 2 ^ 56 = X / 2 ^ 48 / 256 := by omega
  have d0 : X / 2 ^ 8 = X / 256 := rfl
  have dz : X / 2 ^ 0 = X := by simp
  have b7 : X / 2 ^ 56 < 256 := by omega
  have p1 : 0 ≤ X / 2 ^ 8 := by omega
  have p2 : 0 ≤ X / 2 ^ 16 := by omega
  have p3 : 0 ≤ X / 2 ^ 24 := by omega
  have p4 : 0 ≤ X / 2 ^ 32 := by omega
  have p5 : 0 ≤ X / 2 ^ 40 := by omega
  have p6 : 0 ≤ X / 2 ^ 48 := by omega
  have p7 : 0 ≤ X / 2 ^ 56 := by omega
  have f7 : (X / 2 ^ 56 % 256).toNat = (X / 2 ^ 56).toNat := by omega
  rw [e]
  simp only [jb, List.foldl_cons, List.foldl_nil, Nat.zero_mul, Nat.zero_add]
  rw [f7, d6, byte_join _ p6, d5, byte_join _ p5, d4, byte_join _ p4, d3, byte_join _ p3, d2, byte_join _ p2, d1, byte_join _ p1, dz, d0, byte_join _ h.1]
mutual
/-- the value without its addresses. -/
def T.er : T → T
  | .mk k bo n t _ _ y _ _ l _ _ f => .mk k bo n t none 0 y none 0 l.er none 0 f.er
def TL.er : TL → TL
  | .nil => .nil
  | .cons v r => .cons v.er r.er
def FL.er : FL → FL
  | .nil => .nil
  | .cons s v r => .cons s v.er r.er
end
theorem TL.er_list : ∀ l : TL, l.er.list = l.list.map T.er
  | .nil => rfl
  | .cons v r => by simp [TL.er, TL.list, TL.er_list r]
def TL.ofL : List T → TL
  | [] => .nil
  | v :: r => .cons v (TL.ofL r)
theorem TL.ofL_list : ∀ l : List T, (TL.ofL l).list = l
  | [] => rfl
  | v :: r => by simp only [TL.ofL, TL.list, TL.ofL_list r]
theorem TL.er_of : ∀ (l m : TL), l.list.map T.er = m.list.map T.er → l.er = m.er
  | .nil, .nil, _ => rfl
  | .nil, .cons _ _, h => by simp [TL.list] at h
  | .cons _ _, .nil, h => by simp [TL.list] at h
  | .cons u r, .cons v s, h => by
    simp only [TL.list, List.map_cons, List.cons.injEq] at h
    simp only [TL.er, h.1, TL.er_of r s h.2]
mutual
/-- a value that may stand in a key: nothing but what its kind has, not too long. -/
def T.gk : T → Prop
  | .mk k bo n t ya yc y la lc l fa fc f => ((1 ≤ k ∧ k ≤ 6) ∧ (-9223372036854775808 ≤ n ∧ n ≤ 9223372036854775807) ∧ t.size ≤ 4000 ∧ y.length ≤ 4000 ∧ Byts y) ∧ ((k ≠ 2 → bo = false) ∧ (k ≠ 3 → n = 0) ∧ (k ≠ 4 → t = ⟨#[]⟩) ∧ (k ≠ 5 → y = []) ∧ (k ≠ 6 → l.list = []) ∧ f.list = []) ∧ l.gk
def TL.gk : TL → Prop
  | .nil => True
  | .cons v r => v.gk ∧ r.gk
end
theorem TL.gk_mem : ∀ (l : TL), l.gk → ∀ c ∈ l.list, c.gk
  | .nil, _, c, h => by simp [TL.list] at h
  | .cons v r, ⟨h1, h2⟩, c, h => by
    simp only [TL.list, List.mem_cons] at h
    rcases h with rfl | h
    · exact h1
    · exact TL.gk_mem r h2 c h
theorem gk_head (c : T) (h : c.gk) : c.enc = c.enc.headD 0 :: c.enc.tail ∧ c.enc.headD 0 ≠ 1 ∧ 0 ≤ c.enc.headD 0 ∧ c.enc.headD 0 ≤ 255 := by
  cases c with
  | mk k bo n t ya yc y la lc l fa fc f =>
    obtain ⟨⟨⟨a1, a2⟩, _⟩, _⟩ := h
    have hk : k = 1 ∨ k = 2 ∨ k = 3 ∨ k = 4 ∨ k = 5 ∨ k = 6 := by omega
    rcases hk with rfl | rfl | rfl | rfl | rfl | rfl <;> cases bo <;> simp [T.enc, bB, bI, bT, bYs]
theorem TL.len_le : ∀ l : TL, l.list.length ≤ l.sz
  | .nil => by simp [TL.list]
  | .cons v r => by
    have h1 := TL.len_le r
    have h2 : 1 ≤ v.sz := by cases v; simp only [T.sz]; omega
    simp only [TL.list, TL.sz, List.length_cons]
    omega
/-- what was read lies in blocks made since w: whatever else turns, it stays. -/
def Stays (w w' : World) (V : Value) (c : T) : Prop := ∀ W : World, w'.heap.size ≤ W.heap.size → (∀ k, w.heap.size ≤ k → k < w'.heap.size → W.heap[k]? = w'.heap[k]?) → ∃ v : T, v.val = V ∧ v.Mem W.heap.size W ∧ v.er = c.er
def Val (p : Nat) (a : Option Addr) (cap : Nat) (bs : List Int) (i n q : Nat) (m : Int) (c : T) (w : World) (e : Ending) (w' : World) : Prop :=
  ∃ V, e = .returned (.tuple #[V, .bool true]) ∧ Rdr w' p a cap bs (i + c.enc.tail.length) (n + c.sz) q m ∧ w.grownBy w' (some p) ∧ Stays w w' V c
def Reads (p : Nat) (a : Option Addr) (cap : Nat) (bs : List Int) (q : Nat) (m : Int) (c : T) : Prop :=
  ∀ (w : World) (i n : Nat) (rest : List Int), Rdr w p a cap bs i n q m → n + c.sz ≤ 512 → bs ≠ [] → (bs.drop i).map (tn m) = c.enc.tail ++ rest → Calls Try.prog 32 #[.pointer (some ⟨p, 0, none⟩), .int .u8 (c.enc.headD 0)] w fun e w' => Val p a cap bs i n q m c w e w'
def encs (l : List T) : List Int := l.flatMap T.enc
theorem encs_cons (c : T) (l : List T) : encs (c :: l) = c.enc ++ encs l := rfl
theorem encs_snoc (l : List T) (c : T) : encs (l ++ [c]) = encs l ++ c.enc := by simp [encs]
def szs (l : List T) : Nat := (l.map T.sz).sum
def cellsL (l : List T) : List Value := l.flatMap T.cells
theorem T.cells_len (v : T) : v.cells.length = 7 := by cases v; rfl
theorem T.val_cells (v : T) : v.val = .agg v.cells.toArray := by cases v; rfl
theorem szs_is (l : TL) : szs l.list = l.sz := by
  match l with
  | .nil => simp [TL.list, szs, TL.sz]
  | .cons v r =>
    have := szs_is r
    simp only [szs, TL.list, List.map_cons, List.sum_cons, TL.sz] at this ⊢
    omega
theorem szs_take (l : List T) (j : Nat) (c : T) (h : l[j]? = some c) : szs (l.take j) + c.sz ≤ szs l := by
  rw [split_list l j c h]
  have e : (l.take j ++ c :: l.drop (j + 1)).take j = l.take j := by
    rw [List.take_append_of_le_length (by rw [List.length_take]; have := (List.getElem?_eq_some_iff.1 h).1; omega), List.take_take, Nat.min_self]
  rw [e]
  simp only [szs, List.map_append, List.map_cons, List.sum_append, List.sum_cons]
  omega
/-- the first values of a list lie in blocks made since B, but that of the row o itself. -/
def StaysL (B : Nat) (wr : World) (o : Value) (xs : List Value) (ts : List T) : Prop := ∀ W : World, wr.heap.size ≤ W.heap.size → (∀ k, B ≤ k → k < wr.heap.size → o.ownBlock ≠ some k → W.heap[k]? = wr.heap[k]?) → ∃ vs : List T, cellsL vs = xs ∧ (∀ v ∈ vs, v.Mem W.heap.size W) ∧ vs.map T.er = ts.map T.er
theorem own_ne {w : World} {B e s : Nat} {v : Value} {n : Nat} {xs : List Value} (h : w.ownsRow B e s v n xs) : ∀ k, v.ownBlock = some k → B ≤ k ∧ k < w.heap.size := fun k hk => World.ownsRow.lt h k hk
theorem staysL_step {B j : Nat} {w wr W1 W2 W4 W5 : World} {p : Nat} {o o' V : Value} {xs : List Value} {ts : List T} {c v0 : T} (h : StaysL B wr o xs ts) (hB : B ≤ wr.heap.size) (hp : p < B) (ho : ∀ k, o.ownBlock = some k → B ≤ k ∧ k < wr.heap.size) (g1 : wr.grownBy W1 (some p)) (g2 : W1.grownBy W2 (some p)) (hs : Stays W1 W2 V c) (b4 : Below W2.heap.size W2 W4) (g5 : W4.grownBy W5 o.ownBlock) (hat : o'.ownBlock = o.ownBlock ∨ o'.ownBlock = some W4.heap.size) (hv : v0.val = V) : StaysL B W5 o' (xs ++ v0.cells) (ts ++ [c]) := by
  intro W hsz ha
  have s1 := g1.size
  have s2 := g2.size
  have s4 := b4.size
  have s5 := g5.size
  have hne : ∀ k, k < W4.heap.size → o.ownBlock ≠ some k → o'.ownBlock ≠ some k := fun k hk h1 h2 => by
    rcases hat with h3 | h3
    · rw [h3] at h2; exact h1 h2
    · rw [h3] at h2; simp at h2; omega
  obtain ⟨vs, e1, e2, e3⟩ := h W (by omega) (fun k h1 h2 h3 => by
    rw [ha k h1 (by omega) (hne k (by omega) h3), g5.block k (by omega) (fun e => h3 e.symm), b4.block k (by omega), g2.block k (by omega) (fun e => by simp at e; omega), g1.block k h2 (fun e => by simp at e; omega)])
  obtain ⟨v, f1, f2, f3⟩ := hs W (by omega) (fun k h1 h2 => by
    have h3 : o.ownBlock ≠ some k := fun e => by have := (ho k e).2; omega
    rw [ha k (by omega) (by omega) (hne k (by omega) h3), g5.block k (by omega) (fun e => h3 e.symm), b4.block k h2])
  refine ⟨vs ++ [v], ?_, ?_, by simp [e3, f3]⟩
  · have : v.cells = v0.cells := by
      have h9 := f1.trans hv.symm
      rw [T.val_cells, T.val_cells] at h9
      injection h9 with h9
      simpa using congrArg Array.toList h9
    simp only [cellsL, List.flatMap_append, List.flatMap_cons, List.flatMap_nil, List.append_nil] at e1 ⊢
    rw [e1, this]
  · intro x hx
    rcases List.mem_append.1 hx with hx | hx
    · exact e2 x hx
    · simp at hx; subst hx; exact f2
theorem ofL_mem {N : Nat} {W : World} {B : Nat} (hB : B < N) : ∀ (l : List T) (k : Nat), (∀ (j : Nat) u, (cellsL l)[j]? = some u → W.cell? ⟨B, k * 7 + j, none⟩ = some u) → (∀ v ∈ l, v.Mem N W) → (TL.ofL l).Mem N W (some ⟨B, 0, none⟩) k
  | [], k, _, _ => trivial
  | v :: r, k, h, hm => by
    refine ⟨⟨B, 0, rfl, hB, fun j u hu => ?_⟩, hm v (by simp), ofL_mem hB r (k + 1) (fun j u hu => ?_) (fun x hx => hm x (by simp [hx]))⟩
    · have := h j u (by simp only [cellsL, List.flatMap_cons]; rw [List.getElem?_append_left (List.getElem?_eq_some_iff.1 hu).1]; exact hu)
      rwa [Nat.zero_add]
    · have := h (j + 7) u (by simp only [cellsL, List.flatMap_cons]; rw [List.getElem?_append_right (by rw [T.cells_len]; omega), T.cells_len, Nat.add_sub_cancel]; exact hu)
      rwa [show k * 7 + (j + 7) = (k + 1) * 7 + j by omega] at this
set_option maxHeartbeats 3200000 in
set_option maxRecDepth 1000000 in
theorem list_in (p : Nat) (a : Option Addr) (cap : Nat) (bs : List Int) (q : Nat) (m : Int) (l : TL) (hl : l.gk) (hR : ∀ c ∈ l.list, Reads p a cap bs q m c) (w : World) (i n : Nat) (rest : List Int) (hr : Rdr w p a cap bs i n q m) (hn : n + l.sz ≤ 512) (hE : (bs.drop i).map (tn m) = l.enc ++ 1 :: rest) :
    Calls Try.prog 43 #[.pointer (some ⟨p, 0, none⟩)] w fun e w' => ∃ o xs, e = .returned (.tuple #[o, .bool true]) ∧ w'.ownsRow w.heap.size 41 7 o l.list.length xs ∧ Rdr w' p a cap bs (i + l.enc.length + 1) (n + l.sz) q m ∧ w.grownBy w' (some p) ∧ StaysL w.heap.size w' o xs l.list := by
  obtain ⟨i0, hi, hz0, hz1, hz2⟩ := info_parts Try.info41
  have hne : bs ≠ [] := fun e => by subst e; simp at hE
  have HLo := hide (hr.low hne)
  have HR := hide hr
  have HE := hide hE
  have HG := hide hl
  have HRd := hide hR
  have HEn := hide (TL.enc_is l)
  have HSz := hide (szs_is l)
  have hsl := szs_is l
  have hll : l.list.length ≤ 512 := by
    have := TL.len_le l
    omega
  clear hr hE hl hR
  go_enter Try.func43, Try.ntmps43
  go_wp2
  go_loopw [4] (fun o wr => ∃ (j : Nat) (xs : List Value), j ≤ l.list.length ∧ wr.ownsRow w.heap.size 41 7 o j xs ∧ Rdr wr p a cap bs (i + (encs (l.list.take j)).length) (n + szs (l.list.take j)) q m ∧ (bs.drop (i + (encs (l.list.take j)).length)).map (tn m) = encs (l.list.drop j) ++ 1 :: rest ∧ w.grownBy wr (some p) ∧ StaysL w.heap.size wr o xs (l.list.take j)) (fun o _ => l.list.length - lenV o)
  case atStart => exact ⟨0, [], by omega, World.ownsRow_nil w _ 41 7, by simpa [encs, szs] using HR.out, by simpa [encs, ← HEn.out] using HE.out, grown_refl _ _, fun W _ _ => ⟨[], rfl, by simp, rfl⟩⟩
  obtain ⟨j, xs, hj, hown, hrd, hdr, hg, hst⟩ := hrel
  obtain ⟨oa, oc, rfl⟩ := ownsRow_shape hown
  have HO := hide hown
  have HRw := hide hrd
  have HDr := hide hdr
  have HGw := hide hg
  have HSt := hide hst
  clear hown hrd hdr hg hst HR HE
  by_cases hlt : j < l.list.length
  · obtain ⟨c, hc⟩ : ∃ c, l.list[j]? = some c := ⟨_, List.getElem?_eq_getElem hlt⟩
    have hcm := List.mem_of_getElem? hc
    obtain ⟨hd1, hd2, hd3, hd4⟩ := gk_head c (TL.gk_mem l HG.out c hcm)
    have hd0 := HDr.out
    have hdrop : l.list.drop j = c :: l.list.drop (j + 1) := by
      obtain ⟨h1, rfl⟩ := List.getElem?_eq_some_iff.1 hc
      exact List.drop_eq_getElem_cons h1
    rw [hdrop, encs_cons, hd1, List.cons_append, List.cons_append, List.append_assoc] at hd0
    obtain ⟨h1, h2, h3⟩ := head_at _ _ _ _ _ hd0
    have HTk := hide (take_next l.list j c hc)
    have hsz := szs_take l.list j c hc
    have HH := hide h2
    have HT := hide h3
    have HIH := hide (HRd.out c hcm)
    generalize hhd : c.enc.headD 0 = mk at *
    have hmk : (mk == (1 : Int)) = false := by simpa using hd2
    have HEc : Hid (c.enc = mk :: c.enc.tail) := hd1
    clear hd0 h2 h3 hd1 hdrop hcm
    go_wp2_with fail
    refine (next_in p a cap bs _ _ q m wr HRw.out h1).mono ?_
    rintro e W1 ⟨rfl, hrd1, hg1⟩
    have HR1 := hide hrd1
    have HG1 := hide hg1
    clear hrd1 hg1
    rw [HH.out]
    go_wp2_with fail
    have hvc := HIH.out W1 _ _ _ HR1.out (by omega) hne HT.out
    rw [hhd] at hvc
    refine hvc.mono ?_
    rintro e W2 ⟨V, rfl, hrd2, hg2, hst2⟩
    have HR2 := hide hrd2
    have HG2 := hide hg2
    have HS2 := hide hst2
    obtain ⟨v0, hv0, -⟩ := hst2 W2 (Nat.le_refl _) (fun _ _ _ => rfl)
    clear hrd2 hg2 hst2 hvc
    have HV0 := hide hv0
    cases v0 with
    | mk vk vbo vn vt vya vyc vy vla vlc vl vfa vfc vf =>
    simp only [T.val] at hv0
    subst hv0
    have HO4 : Hid (((W2.alloc (.cells #[.int .u8 vk, .bool vbo, .int .i64 vn, .string vt, .slice vya vy.length vyc, .slice vla vl.list.length vlc, .slice vfa vf.list.length vfc] 41)).alloc (.cells #[.int .u8 vk, .bool vbo, .int .i64 vn, .string vt, .slice vya vy.length vyc, .slice vla vl.list.length vlc, .slice vfa vf.list.length vfc] 41)).ownsRow w.heap.size 41 7 (.slice oa j oc) j xs) := owns_of_block HO.out (fun k hk => by
      have h9 := own_ne HO.out k hk
      have h8 := HLo.out.p
      have s1 := HG1.out.size
      have s2 := HG2.out.size
      rw [Below.heap_alloc _ _ _ (by simp; omega), Below.heap_alloc _ _ _ (by omega), HG2.out.block k (by omega) (fun e => by simp at e; omega), HG1.out.block k (by omega) (fun e => by simp at e; omega)])
    have HB4 : Hid (Below W2.heap.size W2 ((W2.alloc (.cells #[.int .u8 vk, .bool vbo, .int .i64 vn, .string vt, .slice vya vy.length vyc, .slice vla vl.list.length vlc, .slice vfa vf.list.length vfc] 41)).alloc (.cells #[.int .u8 vk, .bool vbo, .int .i64 vn, .string vt, .slice vya vy.length vyc, .slice vla vl.list.length vlc, .slice vfa vf.list.length vfc] 41))) := (below_alloc W2 _).trans ((below_alloc _ _).mono (by simp))
    have hszb : w.heap.size ≤ ((W2.alloc (.cells #[.int .u8 vk, .bool vbo, .int .i64 vn, .string vt, .slice vya vy.length vyc, .slice vla vl.list.length vlc, .slice vfa vf.list.length vfc] 41)).alloc (.cells #[.int .u8 vk, .bool vbo, .int .i64 vn, .string vt, .slice vya vy.length vyc, .slice vla vl.list.length vlc, .slice vfa vf.list.length vfc] 41)).heap.size := by
      have s0 := HGw.out.size
      have s1 := HG1.out.size
      have s2 := HG2.out.size
      simp; omega
    have HNw : Hid (∀ (j : Nat) u, ([.int .u8 vk, .bool vbo, .int .i64 vn, .string vt, .slice vya vy.length vyc, .slice vla vl.list.length vlc, .slice vfa vf.list.length vfc] : List Value)[j]? = some u → ((W2.alloc (.cells #[.int .u8 vk, .bool vbo, .int .i64 vn, .string vt, .slice vya vy.length vyc, .slice vla vl.list.length vlc, .slice vfa vf.list.length vfc] 41)).alloc (.cells #[.int .u8 vk, .bool vbo, .int .i64 vn, .string vt, .slice vya vy.length vyc, .slice vla vl.list.length vlc, .slice vfa vf.list.length vfc] 41)).cell? ((⟨W2.heap.size + 1, 0, none⟩ : Addr).add j) = some u) := by
      have := news7 (W2.alloc (.cells #[.int .u8 vk, .bool vbo, .int .i64 vn, .string vt, .slice vya vy.length vyc, .slice vla vl.list.length vlc, .slice vfa vf.list.length vfc] 41)) (.int .u8 vk) (.bool vbo) (.int .i64 vn) (.string vt) (.slice vya vy.length vyc) (.slice vla vl.list.length vlc) (.slice vfa vf.list.length vfc)
      rw [show (W2.alloc (.cells #[.int .u8 vk, .bool vbo, .int .i64 vn, .string vt, .slice vya vy.length vyc, .slice vla vl.list.length vlc, .slice vfa vf.list.length vfc] 41)).heap.size = W2.heap.size + 1 by simp] at this
      exact this
    go_wp2_with (at_builtin; refine wpList_append_own_at _ (by rfl) (.tmp 26) (.tmp 28) 22 (by rfl) w.heap.size 41 i0 _ 7 104 Try.underlying22 hi hz0 hz1 hz2 (by rfl) (by omega) (.slice oa j oc) j xs (by rfl) HO4.out ⟨W2.heap.size + 1, 0, none⟩ 1 1 [.int .u8 vk, .bool vbo, .int .i64 vn, .string vt, .slice vya vy.length vyc, .slice vla vl.list.length vlc, .slice vfa vf.list.length vfc] (by rfl) (by rfl) HNw.out (by intro u hu; simp at hu; rcases hu with rfl | rfl | rfl | rfl | rfl | rfl | rfl <;> rfl) (by unfold maxLen; omega) (by omega) hszb ?_; intro v' W5 hown5 hg5 _ hat5; have HO5 := hide hown5; have HG5 := hide hg5; have HA5 := hide hat5; clear hown5 hg5 hat5)
    obtain ⟨a5, c5, rfl⟩ := ownsRow_shape HO5.out
    have hle : (encs (l.list.take (j + 1))).length = (encs (l.list.take j)).length + 1 + c.enc.tail.length := by
      rw [HTk.out, encs_snoc, List.length_append]
      have := congrArg List.length HEc.out
      simp only [List.length_cons] at this
      omega
    have hss : szs (l.list.take (j + 1)) = szs (l.list.take j) + c.sz := by rw [HTk.out]; simp [szs]
    have hdd : (bs.drop (i + (encs (l.list.take (j + 1))).length)).map (tn m) = encs (l.list.drop (j + 1)) ++ 1 :: rest := by
      rw [hle, show i + ((encs (l.list.take j)).length + 1 + c.enc.tail.length) = i + (encs (l.list.take j)).length + 1 + c.enc.tail.length by omega, ← List.drop_drop, List.map_drop, HT.out, List.drop_left]
    have hrr : Rdr W5 p a cap bs (i + (encs (l.list.take (j + 1))).length) (n + szs (l.list.take (j + 1))) q m := by
      rw [hle, hss, show i + ((encs (l.list.take j)).length + 1 + c.enc.tail.length) = i + (encs (l.list.take j)).length + 1 + c.enc.tail.length by omega, ← Nat.add_assoc n]
      exact (HR2.out.below HB4.out).grown HLo.out HG5.out (fun k e => (own_ne HO4.out k e).1)
    have hgg : w.grownBy W5 (some p) := grown_new (grown_trans HGw.out (grown_trans HG1.out (grown_trans HG2.out (grown_below HB4.out)))) HG5.out (fun k e => (own_ne HO4.out k e).1)
    have hss2 := staysL_step (j := j) (w := w) HSt.out HGw.out.size HLo.out.p (own_ne HO.out) HG1.out HG2.out HS2.out HB4.out HG5.out HA5.out HV0.out
    rw [← HTk.out] at hss2
    exact ⟨⟨j + 1, _, by omega, HO5.out, hrr, hdd, hgg, hss2⟩, by simp only [lenV]; omega⟩
  · obtain rfl : j = l.list.length := by omega
    have htk : l.list.take l.list.length = l.list := List.take_length
    have hdk : l.list.drop l.list.length = [] := List.drop_length
    rw [htk] at HRw HSt
    have hd0 := HDr.out
    rw [htk, hdk] at hd0
    simp only [encs, List.flatMap_nil, List.nil_append] at hd0
    rw [← HEn.out] at hd0
    have he : encs l.list = l.enc := HEn.out.symm
    rw [he, hsl] at HRw
    obtain ⟨h1, h2, h3⟩ := head_at _ _ _ _ _ hd0
    have HH := hide h2
    clear hd0 h2 h3 htk hdk
    go_wp2_with fail
    refine (next_in p a cap bs _ _ q m wr HRw.out h1).mono ?_
    rintro e W1 ⟨rfl, hrd1, hg1⟩
    have HR1 := hide hrd1
    have HG1 := hide hg1
    clear hrd1 hg1
    rw [HH.out]
    go_wp2
    go_ret2
    refine ⟨_, xs, rfl, owns_of_block HO.out (fun k hk => ?_), HR1.out, grown_trans HGw.out HG1.out, ?_⟩
    · have h9 := own_ne HO.out k hk
      have h8 := HLo.out.p
      exact HG1.out.block k h9.2 (fun e => by simp at e; omega)
    · intro W hs ha
      have s1 := HG1.out.size
      have h8 := HLo.out.p
      exact HSt.out W (by omega) (fun k k1 k2 k3 => (ha k k1 (by omega) k3).trans (HG1.out.block k k2 (fun e => by simp at e; omega)))
end Go.Proofs.Ytegoeaofjnpehaa
