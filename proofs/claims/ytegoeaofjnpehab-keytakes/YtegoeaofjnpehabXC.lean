/- The reader of keys: values without their addresses; what stays of what was read. -/
import Derived.Test.YtegoeaofjnpehabXA
import Derived.Test.YtegoeaofjnpehabP
import Derived.Maps.AppendAt
import Derived.Laws.Bits64
namespace Go.Proofs.Ytegoeaofjnpehab
open Go.RowKit
set_option linter.unusedVariables false

theorem byte_join (Y : Int) (h : 0 ≤ Y) : (Y / 256).toNat * 256 + (Y % 256).toNat = Y.toNat := by omega
theorem jb_nbs (X : Int) (h : 0 ≤ X ∧ X < 18446744073709551616) : jb (nbs X 8) = X.toNat := by
  have e : nbs X 8 = [X / 2 ^ 56 % 256, X / 2 ^ 48 % 256, X / 2 ^ 40 % 256, X / 2 ^ 32 % 256, X / 2 ^ 24 % 256, X / 2 ^ 16 % 256, X / 2 ^ 8 % 256, X / 2 ^ 0 % 256] := by rfl
  have d1 : X / 2 ^ 16 = X / 2 ^ 8 / 256 := by omega
  have d2 : X / 2 ^ 24 = X / 2 ^ 16 / 256 := by omega
  have d3 : X / 2 ^ 32 = X / 2 ^ 24 / 256 := by omega
  have d4 : X / 2 ^ 40 = X / 2 ^ 32 / 256 := by omega
  have d5 : X / 2 ^ 48 = X / 2 ^ 40 / 256 := by omega
  have d6 : X / 2 ^ 56 = X / 2 ^ 48 / 256 := by omega
  have d0 : X / 2 ^ 8 = X / 256 := rfl
  have dz : X / 2 ^ 0 = X := by simp
  have b7 : X / 2 ^ 56 < 256 := by omega
  have p1 : 0 ≤ X / 2 ^ 8 := by omega
  have p2 : 0 ≤ X / 2 ^ 16 := by omega
  have p3 : 0 ≤ X / 2 ^ 24 := by omega
  have p4 : 0 ≤ X / 2 ^ 32 := by omega
  have p5 : 0 ≤ X / 2 ^ 40 := by omega
  have p6 : 0 ≤ X / 2 ^ 48 := by omega
  have p7 : 0 ≤ X / 2 ^ 56 := by omega
  have f7 : (X / 2 ^ 56 % 256).toNat = (X / 2 ^ 56).toNat := by omega
  rw [e]
  simp only [jb, List.foldl_cons, List.foldl_nil, Nat.zero_mul, Nat.zero_add]
  rw [f7, d6, byte_join _ p6, d5, byte_join _ p5, d4, byte_join _ p4, d3, byte_join _ p3, d2, byte_join _ p2, d1, byte_join _ p1, dz, d0, byte_join _ h.1]
mutual
/-- the value without its addresses. -/
def T.er : T → T
  | .mk k bo n t _ _ y _ _ l _ _ f => .mk k bo n t none 0 y none 0 l.er none 0 f.er
def TL.er : TL → TL
  | .nil => .nil
  | .cons v r => .cons v.er r.er
def FL.er : FL → FL
  | .nil => .nil
  | .cons s v r => .cons s v.er r.er
end
theorem TL.er_list : ∀ l : TL, l.er.list = l.list.map T.er
  | .nil => rfl
  | .cons v r => by simp [TL.er, TL.list, TL.er_list r]
def TL.ofL : List T → TL
  | [] => .nil
  | v :: r => .cons v (TL.ofL r)
theorem TL.ofL_list : ∀ l : List T, (TL.ofL l).list = l
  | [] => rfl
  | v :: r => by simp only [TL.ofL, TL.list, TL.ofL_list r]
theorem TL.er_of : ∀ (l m : TL), l.list.map T.er = m.list.map T.er → l.er = m.er
  | .nil, .nil, _ => rfl
  | .nil, .cons _ _, h => by simp [TL.list] at h
  | .cons _ _, .nil, h => by simp [TL.list] at h
  | .cons u r, .cons v s, h => by
    simp only [TL.list, List.map_cons, List.cons.injEq] at h
    simp only [TL.er, h.1, TL.er_of r s h.2]
mutual
/-- a value that may stand in a key: nothing but what its kind has, not too long. -/
def T.gk : T → Prop
  | .mk k bo n t ya yc y la lc l fa fc f => ((1 ≤ k ∧ k ≤ 6) ∧ (-9223372036854775808 ≤ n ∧ n ≤ 9223372036854775807) ∧ t.size ≤ 4000 ∧ y.length ≤ 4000 ∧ Byts y) ∧ ((k ≠ 2 → bo = false) ∧ (k ≠ 3 → n = 0) ∧ (k ≠ 4 → t = ⟨#[]⟩) ∧ (k ≠ 5 → y = []) ∧ (k ≠ 6 → l.list = []) ∧ f.list = []) ∧ l.gk
def TL.gk : TL → Prop
  | .nil => True
  | .cons v r => v.gk ∧ r.gk
end
theorem TL.gk_mem : ∀ (l : TL), l.gk → ∀ c ∈ l.list, c.gk
  | .nil, _, c, h => by simp [TL.list] at h
  | .cons v r, ⟨h1, h2⟩, c, h => by
    simp only [TL.list, List.mem_cons] at h
    rcases h with rfl | h
    · exact h1
    · exact TL.gk_mem r h2 c h
theorem gk_head (c : T) (h : c.gk) : c.enc = c.enc.headD 0 :: c.enc.tail ∧ c.enc.headD 0 ≠ 1 ∧ 0 ≤ c.enc.headD 0 ∧ c.enc.headD 0 ≤ 255 := by
  cases c with
  | mk k bo n t ya yc y la lc l fa fc f =>
    obtain ⟨⟨⟨a1, a2⟩, _⟩, _⟩ := h
    have hk : k = 1 ∨ k = 2 ∨ k = 3 ∨ k = 4 ∨ k = 5 ∨ k = 6 := by omega
    rcases hk with rfl | rfl | rfl | rfl | rfl | rfl <;> cases bo <;> simp [T.enc, bB, bI, bT, bYs]
theorem TL.len_le : ∀ l : TL, l.list.length ≤ l.sz
  | .nil => by simp [TL.list]
  | .cons v r => by
    have h1 := TL.len_le r
    have h2 : 1 ≤ v.sz := by cases v; simp only [T.sz]; omega
    simp only [TL.list, TL.sz, List.length_cons]
    omega
/-- what was read lies in blocks made since w: whatever else turns, it stays. -/
def Stays (w w' : World) (V : Value) (c : T) : Prop := ∀ W : World, w'.heap.size ≤ W.heap.size → (∀ k, w.heap.size ≤ k → k < w'.heap.size → W.heap[k]? = w'.heap[k]?) → ∃ v : T, v.val = V ∧ v.Mem W.heap.size W ∧ v.er = c.er
def Val (p : Nat) (a : Option Addr) (cap : Nat) (bs : List Int) (i n q : Nat) (m : Int) (c : T) (w : World) (e : Ending) (w' : World) : Prop :=
  ∃ V, e = .returned (.tuple #[V, .bool true]) ∧ Rdr w' p a cap bs (i + c.enc.tail.length) (n + c.sz) q m ∧ w.grownBy w' (some p) ∧ Stays w w' V c
def Reads (p : Nat) (a : Option Addr) (cap : Nat) (bs : List Int) (q : Nat) (m : Int) (c : T) : Prop :=
  ∀ (w : World) (i n : Nat) (rest : List Int), Rdr w p a cap bs i n q m → n + c.sz ≤ 512 → bs ≠ [] → (bs.drop i).map (tn m) = c.enc.tail ++ rest → Calls Try.prog 31 #[.pointer (some ⟨p, 0, none⟩), .int .u8 (c.enc.headD 0)] w fun e w' => Val p a cap bs i n q m c w e w'
def encs (l : List T) : List Int := l.flatMap T.enc
theorem encs_cons (c : T) (l : List T) : encs (c :: l) = c.enc ++ encs l := rfl
theorem encs_snoc (l : List T) (c : T) : encs (l ++ [c]) = encs l ++ c.enc := by simp [encs]
def szs (l : List T) : Nat := (l.map T.sz).sum
def cellsL (l : List T) : List Value := l.flatMap T.cells
theorem T.cells_len (v : T) : v.cells.length = 7 := by cases v; rfl
theorem T.val_cells (v : T) : v.val = .agg v.cells.toArray := by cases v; rfl
theorem szs_is (l : TL) : szs l.list = l.sz := by
  match l with
  | .nil => simp [TL.list, szs, TL.sz]
  | .cons v r =>
    have := szs_is r
    simp only [szs, TL.list, List.map_cons, List.sum_cons, TL.sz] at this ⊢
    omega
theorem szs_take (l : List T) (j : Nat) (c : T) (h : l[j]? = some c) : szs (l.take j) + c.sz ≤ szs l := by
  rw [split_list l j c h]
  have e : (l.take j ++ c :: l.drop (j + 1)).take j = l.take j := by
    rw [List.take_append_of_le_length (by rw [List.length_take]; have := (List.getElem?_eq_some_iff.1 h).1; omega), List.take_take, Nat.min_self]
  rw [e]
  simp only [szs, List.map_append, List.map_cons, List.sum_append, List.sum_cons]
  omega
/-- the first values of a list lie in blocks made since B, but that of the row o itself. -/
def StaysL (B : Nat) (wr : World) (o : Value) (xs : List Value) (ts : List T) : Prop := ∀ W : World, wr.heap.size ≤ W.heap.size → (∀ k, B ≤ k → k < wr.heap.size → o.ownBlock ≠ some k → W.heap[k]? = wr.heap[k]?) → ∃ vs : List T, cellsL vs = xs ∧ (∀ v ∈ vs, v.Mem W.heap.size W) ∧ vs.map T.er = ts.map T.er
theorem own_ne {w : World} {B e s : Nat} {v : Value} {n : Nat} {xs : List Value} (h : w.ownsRow B e s v n xs) : ∀ k, v.ownBlock = some k → B ≤ k ∧ k < w.heap.size := fun k hk => World.ownsRow.lt h k hk
theorem staysL_step {B j : Nat} {w wr W1 W2 W4 W5 : World} {p : Nat} {o o' V : Value} {xs : List Value} {ts : List T} {c v0 : T} (h : StaysL B wr o xs ts) (hB : B ≤ wr.heap.size) (hp : p < B) (ho : ∀ k, o.ownBlock = some k → B ≤ k ∧ k < wr.heap.size) (g1 : wr.grownBy W1 (some p)) (g2 : W1.grownBy W2 (some p)) (hs : Stays W1 W2 V c) (b4 : Below W2.heap.size W2 W4) (g5 : W4.grownBy W5 o.ownBlock) (hat : o'.ownBlock = o.ownBlock ∨ o'.ownBlock = some W4.heap.size) (hv : v0.val = V) : StaysL B W5 o' (xs ++ v0.cells) (ts ++ [c]) := by
  intro W hsz ha
  have s1 := g1.size
  have s2 := g2.size
  have s4 := b4.size
  have s5 := g5.size
  have hne : ∀ k, k < W4.heap.size → o.ownBlock ≠ some k → o'.ownBlock ≠ some k := fun k hk h1 h2 => by
    rcases hat with h3 | h3
    · rw [h3] at h2; exact h1 h2
    · rw [h3] at h2; simp at h2; omega
  obtain ⟨vs, e1, e2, e3⟩ := h W (by omega) (fun k h1 h2 h3 => by
    rw [ha k h1 (by omega) (hne k (by omega) h3), g5.block k (by omega) (fun e => h3 e.symm), b4.block k (by omega), g2.block k (by omega) (fun e => by simp at e; omega), g1.block k h2 (fun e => by simp at e; omega)])
  obtain ⟨v, f1, f2, f3⟩ := hs W (by omega) (fun k h1 h2 => by
    have h3 : o.ownBlock ≠ some k := fun e => by have := (ho k e).2; omega
    rw [ha k (by omega) (by omega) (hne k (by omega) h3), g5.block k (by omega) (fun e => h3 e.symm), b4.block k h2])
  refine ⟨vs ++ [v], ?_, ?_, by simp [e3, f3]⟩
  · have : v.cells = v0.cells := by
      have h9 := f1.trans hv.symm
      rw [T.val_cells, T.val_cells] at h9
      injection h9 with h9
      simpa using congrArg Array.toList h9
    simp only [cellsL, List.flatMap_append, List.flatMap_cons, List.flatMap_nil, List.append_nil] at e1 ⊢
    rw [e1, this]
  · intro x hx
    rcases List.mem_append.1 hx with hx | hx
    · exact e2 x hx
    · simp at hx; subst hx; exact f2
theorem ofL_mem {N : Nat} {W : World} {B : Nat} (hB : B < N) : ∀ (l : List T) (k : Nat), (∀ (j : Nat) u, (cellsL l)[j]? = some u → W.cell? ⟨B, k * 7 + j, none⟩ = some u) → (∀ v ∈ l, v.Mem N W) → (TL.ofL l).Mem N W (some ⟨B, 0, none⟩) k
  | [], k, _, _ => trivial
  | v :: r, k, h, hm => by
    refine ⟨⟨B, 0, rfl, hB, fun j u hu => ?_⟩, hm v (by simp), ofL_mem hB r (k + 1) (fun j u hu => ?_) (fun x hx => hm x (by simp [hx]))⟩
    · have := h j u (by simp only [cellsL, List.flatMap_cons]; rw [List.getElem?_append_left (List.getElem?_eq_some_iff.1 hu).1]; exact hu)
      rwa [Nat.zero_add]
    · have := h (j + 7) u (by simp only [cellsL, List.flatMap_cons]; rw [List.getElem?_append_right (by rw [T.cells_len]; omega), T.cells_len, Nat.add_sub_cancel]; exact hu)
      rwa [show k * 7 + (j + 7) = (k + 1) * 7 + j by omega] at this
set_option maxHeartbeats 3200000 in
set_option maxRecDepth 1000000 in
theorem list_in (p : Nat) (a : Option Addr) (cap : Nat) (bs : List Int) (q : Nat) (m : Int) (l : TL) (hl : l.gk) (hR : ∀ c ∈ l.list, Reads p a cap bs q m c) (w : World) (i n : Nat) (rest : List Int) (hr : Rdr w p a cap bs i n q m) (hn : n + l.sz ≤ 512) (hE : (bs.drop i).map (tn m) = l.enc ++ 1 :: rest) :
    Calls Try.prog 44 #[.pointer (some ⟨p, 0, none⟩)] w fun e w' => ∃ o xs, e = .returned (.tuple #[o, .bool true]) ∧ w'.ownsRow w.heap.size 32 7 o l.list.length xs ∧ Rdr w' p a cap bs (i + l.enc.length + 1) (n + l.sz) q m ∧ w.grownBy w' (some p) ∧ StaysL w.heap.size w' o xs l.list := by
  obtain ⟨i0, hi, hz0, hz1, hz2⟩ := info_parts Try.info41
  have hne : bs ≠ [] := fun e => by subst e; simp at hE
  have HLo := hide (hr.low hne)
  have HR := hide hr
  have HE := hide hE
  have HG := hide hl
  have HRd := hide hR
  have HEn := hide (TL.enc_is l)
  have HSz := hide (szs_is l)
  have hsl := szs_is l
  have hll : l.list.length ≤ 512 := by
    have := TL.len_le l
    omega
  clear hr hE hl hR
  go_enter Try.func44, Try.ntmps44
  go_wp2
  go_loopw [4] (fun o wr => ∃ (j : Nat) (xs : List Value), j ≤ l.list.length ∧ wr.ownsRow w.heap.size 32 7 o j xs ∧ Rdr wr p a cap bs (i + (encs (l.list.take j)).length) (n + szs (l.list.take j)) q m ∧ (bs.drop (i + (encs (l.list.take j)).length)).map (tn m) = encs (l.list.drop j) ++ 1 :: rest ∧ w.grownBy wr (some p) ∧ StaysL w.heap.size wr o xs (l.list.take j)) (fun o _ => l.list.length - lenV o)
  case atStart => exact ⟨0, [], by omega, World.ownsRow_nil w _ 32 7, by simpa [encs, szs] using HR.out, by simpa [encs, ← HEn.out] using HE.out, grown_refl _ _, fun W _ _ => ⟨[], rfl, by simp, rfl⟩⟩
  obtain ⟨j, xs, hj, hown, hrd, hdr, hg, hst⟩ := hrel
  obtain ⟨oa, oc, rfl⟩ := ownsRow_shape hown
  have HO := hide hown
  have HRw := hide hrd
  have HDr := hide hdr
  have HGw := hide hg
  have HSt := hide hst
  clear hown hrd hdr hg hst HR HE
  by_cases hlt : j < l.list.length
  · obtain ⟨c, hc⟩ : ∃ c, l.list[j]? = some c := ⟨_, List.getElem?_eq_getElem hlt⟩
    have hcm := List.mem_of_getElem? hc
    obtain ⟨hd1, hd2, hd3, hd4⟩ := gk_head c (TL.gk_mem l HG.out c hcm)
    have hd0 := HDr.out
    have hdrop : l.list.drop j = c :: l.list.drop (j + 1) := by
      obtain ⟨h1, rfl⟩ := List.getElem?_eq_some_iff.1 hc
      exact List.drop_eq_getElem_cons h1
    rw [hdrop, encs_cons, hd1, List.cons_append, List.cons_append, List.append_assoc] at hd0
    obtain ⟨h1, h2, h3⟩ := head_at _ _ _ _ _ hd0
    have HTk := hide (take_next l.list j c hc)
    have hsz := szs_take l.list j c hc
    have HH := hide h2
    have HT := hide h3
    have HIH := hide (HRd.out c hcm)
    generalize hhd : c.enc.headD 0 = mk at *
    have hmk : (mk == (1 : Int)) = false := by simpa using hd2
    have HEc : Hid (c.enc = mk :: c.enc.tail) := hd1
    clear hd0 h2 h3 hd1 hdrop hcm
    go_wp2_with fail
    refine (next_in p a cap bs _ _ q m wr HRw.out h1).mono ?_
    rintro e W1 ⟨rfl, hrd1, hg1⟩
    have HR1 := hide hrd1
    have HG1 := hide hg1
    clear hrd1 hg1
    rw [HH.out]
    go_wp2_with fail
    have hvc := HIH.out W1 _ _ _ HR1.out (by omega) hne HT.out
    rw [hhd] at hvc
    refine hvc.mono ?_
    rintro e W2 ⟨V, rfl, hrd2, hg2, hst2⟩
    have HR2 := hide hrd2
    have HG2 := hide hg2
    have HS2 := hide hst2
    obtain ⟨v0, hv0, -⟩ := hst2 W2 (Nat.le_refl _) (fun _ _ _ => rfl)
    clear hrd2 hg2 hst2 hvc
    have HV0 := hide hv0
    cases v0 with
    | mk vk vbo vn vt vya vyc vy vla vlc vl vfa vfc vf =>
    simp only [T.val] at hv0
    subst hv0
    have HO4 : Hid (((W2.alloc (.cells #[.int .u8 vk, .bool vbo, .int .i64 vn, .string vt, .slice vya vy.length vyc, .slice vla vl.list.length vlc, .slice vfa vf.list.length vfc] 32)).alloc (.cells #[.int .u8 vk, .bool vbo, .int .i64 vn, .string vt, .slice vya vy.length vyc, .slice vla vl.list.length vlc, .slice vfa vf.list.length vfc] 32)).ownsRow w.heap.size 32 7 (.slice oa j oc) j xs) := owns_of_block HO.out (fun k hk => by
      have h9 := own_ne HO.out k hk
      have h8 := HLo.out.p
      have s1 := HG1.out.size
      have s2 := HG2.out.size
      rw [Below.heap_alloc _ _ _ (by simp; omega), Below.heap_alloc _ _ _ (by omega), HG2.out.block k (by omega) (fun e => by simp at e; omega), HG1.out.block k (by omega) (fun e => by simp at e; omega)])
    have HB4 : Hid (Below W2.heap.size W2 ((W2.alloc (.cells #[.int .u8 vk, .bool vbo, .int .i64 vn, .string vt, .slice vya vy.length vyc, .slice vla vl.list.length vlc, .slice vfa vf.list.length vfc] 32)).alloc (.cells #[.int .u8 vk, .bool vbo, .int .i64 vn, .string vt, .slice vya vy.length vyc, .slice vla vl.list.length vlc, .slice vfa vf.list.length vfc] 32))) := (below_alloc W2 _).trans ((below_alloc _ _).mono (by simp))
    have hszb : w.heap.size ≤ ((W2.alloc (.cells #[.int .u8 vk, .bool vbo, .int .i64 vn, .string vt, .slice vya vy.length vyc, .slice vla vl.list.length vlc, .slice vfa vf.list.length vfc] 32)).alloc (.cells #[.int .u8 vk, .bool vbo, .int .i64 vn, .string vt, .slice vya vy.length vyc, .slice vla vl.list.length vlc, .slice vfa vf.list.length vfc] 32)).heap.size := by
      have s0 := HGw.out.size
      have s1 := HG1.out.size
      have s2 := HG2.out.size
      simp; omega
    have HNw : Hid (∀ (j : Nat) u, ([.int .u8 vk, .bool vbo, .int .i64 vn, .string vt, .slice vya vy.length vyc, .slice vla vl.list.length vlc, .slice vfa vf.list.length vfc] : List Value)[j]? = some u → ((W2.alloc (.cells #[.int .u8 vk, .bool vbo, .int .i64 vn, .string vt, .slice vya vy.length vyc, .slice vla vl.list.length vlc, .slice vfa vf.list.length vfc] 32)).alloc (.cells #[.int .u8 vk, .bool vbo, .int .i64 vn, .string vt, .slice vya vy.length vyc, .slice vla vl.list.length vlc, .slice vfa vf.list.length vfc] 32)).cell? ((⟨W2.heap.size + 1, 0, none⟩ : Addr).add j) = some u) := by
      have := news7 (W2.alloc (.cells #[.int .u8 vk, .bool vbo, .int .i64 vn, .string vt, .slice vya vy.length vyc, .slice vla vl.list.length vlc, .slice vfa vf.list.length vfc] 32)) (.int .u8 vk) (.bool vbo) (.int .i64 vn) (.string vt) (.slice vya vy.length vyc) (.slice vla vl.list.length vlc) (.slice vfa vf.list.length vfc)
      rw [show (W2.alloc (.cells #[.int .u8 vk, .bool vbo, .int .i64 vn, .string vt, .slice vya vy.length vyc, .slice vla vl.list.length vlc, .slice vfa vf.list.length vfc] 32)).heap.size = W2.heap.size + 1 by simp] at this
      exact this
    go_wp2_with (at_builtin; refine wpList_append_own_at _ (by rfl) (.tmp 26) (.tmp 28) 24 (by rfl) w.heap.size 32 i0 _ 7 104 Try.underlying24 hi hz0 hz1 hz2 (by rfl) (by omega) (.slice oa j oc) j xs (by rfl) HO4.out ⟨W2.heap.size + 1, 0, none⟩ 1 1 [.int .u8 vk, .bool vbo, .int .i64 vn, .string vt, .slice vya vy.length vyc, .slice vla vl.list.length vlc, .slice vfa vf.list.length vfc] (by rfl) (by rfl) HNw.out (by intro u hu; simp at hu; rcases hu with rfl | rfl | rfl | rfl | rfl | rfl | rfl <;> rfl) (by unfold maxLen; omega) (by omega) hszb ?_; intro v' W5 hown5 hg5 _ hat5; have HO5 := hide hown5; have HG5 := hide hg5; have HA5 := hide hat5; clear hown5 hg5 hat5)
    obtain ⟨a5, c5, rfl⟩ := ownsRow_shape HO5.out
    have hle : (encs (l.list.take (j + 1))).length = (encs (l.list.take j)).length + 1 + c.enc.tail.length := by
      rw [HTk.out, encs_snoc, List.length_append]
      have := congrArg List.length HEc.out
      simp only [List.length_cons] at this
      omega
    have hss : szs (l.list.take (j + 1)) = szs (l.list.take j) + c.sz := by rw [HTk.out]; simp [szs]
    have hdd : (bs.drop (i + (encs (l.list.take (j + 1))).length)).map (tn m) = encs (l.list.drop (j + 1)) ++ 1 :: rest := by
      rw [hle, show i + ((encs (l.list.take j)).length + 1 + c.enc.tail.length) = i + (encs (l.list.take j)).length + 1 + c.enc.tail.length by omega, ← List.drop_drop, List.map_drop, HT.out, List.drop_left]
    have hrr : Rdr W5 p a cap bs (i + (encs (l.list.take (j + 1))).length) (n + szs (l.list.take (j + 1))) q m := by
      rw [hle, hss, show i + ((encs (l.list.take j)).length + 1 + c.enc.tail.length) = i + (encs (l.list.take j)).length + 1 + c.enc.tail.length by omega, ← Nat.add_assoc n]
      exact (HR2.out.below HB4.out).grown HLo.out HG5.out (fun k e => (own_ne HO4.out k e).1)
    have hgg : w.grownBy W5 (some p) := grown_new (grown_trans HGw.out (grown_trans HG1.out (grown_trans HG2.out (grown_below HB4.out)))) HG5.out (fun k e => (own_ne HO4.out k e).1)
    have hss2 := staysL_step (j := j) (w := w) HSt.out HGw.out.size HLo.out.p (own_ne HO.out) HG1.out HG2.out HS2.out HB4.out HG5.out HA5.out HV0.out
    rw [← HTk.out] at hss2
    exact ⟨⟨j + 1, _, by omega, HO5.out, hrr, hdd, hgg, hss2⟩, by simp only [lenV]; omega⟩
  · obtain rfl : j = l.list.length := by omega
    have htk : l.list.take l.list.length = l.list := List.take_length
    have hdk : l.list.drop l.list.length = [] := List.drop_length
    rw [htk] at HRw HSt
    have hd0 := HDr.out
    rw [htk, hdk] at hd0
    simp only [encs, List.flatMap_nil, List.nil_append] at hd0
    rw [← HEn.out] at hd0
    have he : encs l.list = l.enc := HEn.out.symm
    rw [he, hsl] at HRw
    obtain ⟨h1, h2, h3⟩ := head_at _ _ _ _ _ hd0
    have HH := hide h2
    clear hd0 h2 h3 htk hdk
    go_wp2_with fail
    refine (next_in p a cap bs _ _ q m wr HRw.out h1).mono ?_
    rintro e W1 ⟨rfl, hrd1, hg1⟩
    have HR1 := hide hrd1
    have HG1 := hide hg1
    clear hrd1 hg1
    rw [HH.out]
    go_wp2
    go_ret2
    refine ⟨_, xs, rfl, owns_of_block HO.out (fun k hk => ?_), HR1.out, grown_trans HGw.out HG1.out, ?_⟩
    · have h9 := own_ne HO.out k hk
      have h8 := HLo.out.p
      exact HG1.out.block k h9.2 (fun e => by simp at e; omega)
    · intro W hs ha
      have s1 := HG1.out.size
      have h8 := HLo.out.p
      exact HSt.out W (by omega) (fun k k1 k2 k3 => (ha k k1 (by omega) k3).trans (HG1.out.block k k2 (fun e => by simp at e; omega)))
end Go.Proofs.Ytegoeaofjnpehab
/- Mathematics of the order: escaped bytes with their end compare as the bytes do. -/
namespace Go.Proofs.Ytegoeaofjnpehab
set_option linter.unusedVariables false

theorem esc_order : ∀ (a b s r : List Int), Byts a → Byts b → ordI (esc a ++ 0 :: 1 :: s) (esc b ++ 0 :: 1 :: r) = if ordI a b = 0 then ordI s r else ordI a b := by
  intro a
  induction a with
  | nil =>
    intro b s r ha hb
    cases b with
    | nil => simp [esc, ordI]
    | cons c t =>
      have hc := hb c (by simp)
      rw [esc_cons]
      by_cases h0 : c = 0
      · simp [esc, ordI, h0]
      · have : 0 < c := by omega
        simp [esc, ordI, h0, this]
  | cons x a ih =>
    intro b s r ha hb
    have hx := ha x (by simp)
    have ha' : Byts a := fun c hc => ha c (by simp [hc])
    cases b with
    | nil =>
      rw [esc_cons]
      by_cases h0 : x = 0
      · simp [esc, ordI, h0]
      · have h1 : 0 < x := by omega
        have h2 : ¬ x < 0 := by omega
        simp [esc, ordI, h0, h1, h2]
    | cons c t =>
      have hc := hb c (by simp)
      have hb' : Byts t := fun c hc => hb c (by simp [hc])
      have h := ih t s r ha' hb'
      rw [esc_cons, esc_cons]
      by_cases hx0 : x = 0
      · by_cases hc0 : c = 0
        · subst hx0; subst hc0
          simp only [if_true, List.cons_append, List.nil_append, ordI]
          simpa using h
        · have h1 : 0 < c := by omega
          subst hx0
          simp [ordI, hc0, h1]
      · by_cases hc0 : c = 0
        · have h1 : 0 < x := by omega
          have h2 : ¬ x < 0 := by omega
          subst hc0
          simp [ordI, hx0, h1, h2]
        · simp only [if_neg hx0, if_neg hc0, List.cons_append, List.nil_append, ordI]
          by_cases h1 : x < c
          · simp [h1]
          · by_cases h2 : c < x
            · simp [h1, h2]
            · simp only [if_neg h1, if_neg h2]
              exact h
end Go.Proofs.Ytegoeaofjnpehab
/- Mathematics of the order: the bytes of values compare as the values do. -/
namespace Go.Proofs.Ytegoeaofjnpehab
set_option linter.unusedVariables false

def num (a b : Int) : Int := if a < b then -1 else if b < a then 1 else 0
def be : Nat → Int → List Int
  | 0, _ => []
  | k + 1, X => X / 256 ^ k % 256 :: be k X
theorem nbs_be (X : Int) : nbs X 8 = be 8 X := by
  simp [nbs, be, List.range_succ]
theorem emod_step (X : Int) (k : Nat) : X % 256 ^ (k + 1) = X / 256 ^ k % 256 * 256 ^ k + X % 256 ^ k := by
  have hM : (0 : Int) < 256 ^ k := Int.pow_pos (by omega)
  rw [Int.pow_succ]
  have h1 := Int.mul_ediv_add_emod X (256 ^ k)
  have h2 := Int.mul_ediv_add_emod (X / 256 ^ k) 256
  have x0 := Int.emod_nonneg X (Int.ne_of_gt hM)
  have x1 := Int.emod_lt_of_pos X hM
  have a0 := Int.emod_nonneg (X / 256 ^ k) (show (256 : Int) ≠ 0 by decide)
  have a1 := Int.emod_lt_of_pos (X / 256 ^ k) (show (0 : Int) < 256 by decide)
  generalize X % 256 ^ k = x at *
  generalize X / 256 ^ k = q at *
  generalize q % 256 = a at *
  generalize q / 256 = p at *
  generalize (256 : Int) ^ k = M at *
  have e : X = (a * M + x) + (M * 256) * p := by
    rw [← h1, ← h2]
    rw [Int.mul_add, Int.mul_comm M a, Int.mul_assoc, Int.add_assoc, Int.add_comm (M * (256 * p))]
  have h3 : 0 ≤ a * M := Int.mul_nonneg a0 (by omega)
  have h4 : a * M ≤ 255 * M := Int.mul_le_mul_of_nonneg_right (by omega) (by omega)
  rw [e, Int.add_mul_emod_self_left]
  exact Int.emod_eq_of_lt (by omega) (by omega)
theorem be_order (k : Nat) : ∀ (X Y : Int) (s r : List Int), ordI (be k X ++ s) (be k Y ++ r) = if X % 256 ^ k = Y % 256 ^ k then ordI s r else num (X % 256 ^ k) (Y % 256 ^ k) := by
  induction k with
  | zero => intro X Y s r; simp [be, Int.emod_one]
  | succ k ih =>
    intro X Y s r
    rw [emod_step X, emod_step Y]
    have hM : (0 : Int) < 256 ^ k := Int.pow_pos (by omega)
    simp only [be, List.cons_append, ordI, ih]
    have x0 := Int.emod_nonneg X (Int.ne_of_gt hM)
    have x1 := Int.emod_lt_of_pos X hM
    have y0 := Int.emod_nonneg Y (Int.ne_of_gt hM)
    have y1 := Int.emod_lt_of_pos Y hM
    generalize X % 256 ^ k = x at *
    generalize Y % 256 ^ k = y at *
    generalize X / 256 ^ k % 256 = a at *
    generalize Y / 256 ^ k % 256 = b at *
    generalize (256 : Int) ^ k = M at *
    by_cases hab : a < b
    · have h : (a + 1) * M ≤ b * M := Int.mul_le_mul_of_nonneg_right hab (by omega)
      rw [Int.add_mul] at h
      rw [if_pos hab, if_neg (by omega)]
      simp only [num]
      rw [if_pos (by omega)]
    · rw [if_neg hab]
      by_cases hba : b < a
      · have h : (b + 1) * M ≤ a * M := Int.mul_le_mul_of_nonneg_right hba (by omega)
        rw [Int.add_mul] at h
        rw [if_pos hba, if_neg (by omega)]
        simp only [num]
        rw [if_neg (by omega), if_pos (by omega)]
      · have : a = b := by omega
        subst this
        rw [if_neg hba]
        by_cases hxy : x = y
        · subst hxy; simp
        · rw [if_neg hxy, if_neg (by omega)]
          simp only [num]
          by_cases hl : x < y
          · rw [if_pos hl, if_pos (by omega)]
          · rw [if_neg hl, if_pos (by omega), if_neg (by omega), if_pos (by omega)]
theorem nbs_order (X Y : Int) (s r : List Int) (hx : 0 ≤ X ∧ X < 18446744073709551616) (hy : 0 ≤ Y ∧ Y < 18446744073709551616) : ordI (nbs X 8 ++ s) (nbs Y 8 ++ r) = if num X Y = 0 then ordI s r else num X Y := by
  rw [nbs_be, nbs_be, be_order, show (256 : Int) ^ 8 = 18446744073709551616 from rfl, Int.emod_eq_of_lt hx.1 hx.2, Int.emod_eq_of_lt hy.1 hy.2]
  by_cases h : X = Y
  · subst h; simp [num]
  · rw [if_neg h, if_neg]
    unfold num
    split
    · omega
    · split <;> omega
theorem num_add (a b c : Int) : num (a + c) (b + c) = num a b := by
  have h1 : (a + c < b + c) = (a < b) := by rw [eq_iff_iff]; omega
  have h2 : (b + c < a + c) = (b < a) := by rw [eq_iff_iff]; omega
  simp only [num, h1, h2]
theorem xor_top (a : Nat) (h : a < 2 ^ 64) : a ^^^ 2 ^ 63 = (a + 2 ^ 63) % 2 ^ 64 := by
  have h1 := @Nat.xor_mod_two_pow a (2 ^ 63) 63
  have h2 := @Nat.xor_div_two_pow a (2 ^ 63) 63
  rw [Nat.mod_self, Nat.xor_zero] at h1
  rw [Nat.div_self (by decide)] at h2
  generalize a ^^^ 2 ^ 63 = x at *
  have h3 : a / 2 ^ 63 = 0 ∨ a / 2 ^ 63 = 1 := by omega
  rcases h3 with h3 | h3 <;> rw [h3] at h2 <;> simp at h2 <;> omega
theorem nX_is (n : Int) (h : -9223372036854775808 ≤ n ∧ n ≤ 9223372036854775807) : nX n = n + 9223372036854775808 := by
  have h1 := xor_top (n % 18446744073709551616).toNat (by omega)
  have h2 : nX n = (((n % 18446744073709551616).toNat ^^^ 2 ^ 63 : Nat) : Int) := by
    unfold nX
    rw [show IntKind.u64.wrap n = (((n % 18446744073709551616).toNat : Nat) : Int) by rw [IntKind.wrap_u64]; omega, show (9223372036854775808 : Int) = ((2 ^ 63 : Nat) : Int) from rfl]
    exact bits_xor_u64_nat _ _ (by omega) (by decide)
  rw [h2, h1]
  omega
mutual
/-- the order of two values. -/
def T.cmp : T → T → Int
  | .mk k bo n t _ _ y _ _ l _ _ f, .mk k' bo' n' t' _ _ y' _ _ l' _ _ f' =>
    if k = k' then (if k = 2 then (if bo = bo' then 0 else if bo' then -1 else 1) else if k = 3 then num n n' else if k = 4 then ordI (sb t) (sb t') else if k = 5 then ordI y y' else if k = 6 then l.cmp l' else if k = 7 then f.cmp f' else 0) else num k k'
def TL.cmp : TL → TL → Int
  | .nil, .nil => 0
  | .nil, .cons _ _ => -1
  | .cons _ _, .nil => 1
  | .cons v r, .cons v' r' => if v.cmp v' = 0 then r.cmp r' else v.cmp v'
def FL.cmp : FL → FL → Int
  | .nil, .nil => 0
  | .nil, .cons _ _ _ => -1
  | .cons _ _ _, .nil => 1
  | .cons s v r, .cons s' v' r' => if ordI (sb s) (sb s') = 0 then (if v.cmp v' = 0 then r.cmp r' else v.cmp v') else ordI (sb s) (sb s')
end
theorem ordI_same (a : Int) (xs ys : List Int) : ordI (a :: xs) (a :: ys) = ordI xs ys := by simp [ordI]
theorem ordI_lt {a b : Int} (h : a < b) {xs ys : List Int} : ordI (a :: xs) (b :: ys) = -1 := by simp [ordI, h]
theorem ordI_gt {a b : Int} (h : b < a) {xs ys : List Int} : ordI (a :: xs) (b :: ys) = 1 := by
  have h2 : ¬ a < b := by omega
  simp [ordI, h, h2]
section
variable (k : Int) (bo : Bool) (n : Int) (t : ByteArray) (ya : Option Addr) (yc : Nat) (y : List Int) (la : Option Addr) (lc : Nat) (l : TL) (fa : Option Addr) (fc : Nat) (f : FL)
theorem enc_1 : (T.mk 1 bo n t ya yc y la lc l fa fc f).enc = [16] := by simp [T.enc]
theorem enc_2 : (T.mk 2 bo n t ya yc y la lc l fa fc f).enc = [if bo then 33 else 32] := by simp [T.enc, bB]
theorem enc_3 : (T.mk 3 bo n t ya yc y la lc l fa fc f).enc = 48 :: nbs (nX n) 8 := by simp [T.enc, bI]
theorem enc_4 : (T.mk 4 bo n t ya yc y la lc l fa fc f).enc = 64 :: (esc (sb t) ++ [0, 1]) := by simp [T.enc, bT]
theorem enc_5 : (T.mk 5 bo n t ya yc y la lc l fa fc f).enc = 80 :: (esc y ++ [0, 1]) := by simp [T.enc, bYs]
theorem enc_6 : (T.mk 6 bo n t ya yc y la lc l fa fc f).enc = 96 :: (l.enc ++ [1]) := by simp [T.enc]
def mrk (k : Int) (bo : Bool) : Int := if k = 2 then (if bo then 33 else 32) else 16 * k
theorem mrk_bd : 16 * k ≤ mrk k bo ∧ mrk k bo ≤ 16 * k + 1 := by
  unfold mrk
  split
  · cases bo <;> simp <;> omega
  · omega
theorem enc_mrk (h : 1 ≤ k ∧ k ≤ 6) : ∃ x, (T.mk k bo n t ya yc y la lc l fa fc f).enc = mrk k bo :: x := by
  have : k = 1 ∨ k = 2 ∨ k = 3 ∨ k = 4 ∨ k = 5 ∨ k = 6 := by omega
  rcases this with rfl | rfl | rfl | rfl | rfl | rfl
  · exact ⟨_, enc_1 ..⟩
  · exact ⟨_, enc_2 ..⟩
  · exact ⟨_, enc_3 ..⟩
  · exact ⟨_, enc_4 ..⟩
  · exact ⟨_, enc_5 ..⟩
  · exact ⟨_, enc_6 ..⟩
end
theorem enc_order {n₀ : Nat} {W : World} : ∀ (N : Nat) (u v : T), u.sz ≤ N → u.ok → v.ok → u.Mem n₀ W → v.Mem n₀ W → u.Szd → v.Szd → ∀ s r, ordI (u.enc ++ s) (v.enc ++ r) = if u.cmp v = 0 then ordI s r else u.cmp v := by
  intro N
  induction N with
  | zero => intro u v hu; cases u; simp [T.sz] at hu
  | succ N ih =>
    intro u v hu hou hov hmu hmv hsu hsv s r
    cases u with
    | mk k bo n t ya yc y la lc l fa fc f =>
    cases v with
    | mk k' bo' n' t' ya' yc' y' la' lc' l' fa' fc' f' =>
    have hlist : ∀ (m m' : TL) (a a' : Option Addr) (i i' : Nat), m.sz ≤ N → m.ok → m'.ok → m.Mem n₀ W a i → m'.Mem n₀ W a' i' → m.Szd → m'.Szd → ∀ s r, ordI (m.enc ++ 1 :: s) (m'.enc ++ 1 :: r) = if m.cmp m' = 0 then ordI s r else m.cmp m' := by
      intro m
      exact TL.rec (motive_1 := fun _ => True) (motive_2 := fun m => ∀ (m' : TL) (a a' : Option Addr) (i i' : Nat), m.sz ≤ N → m.ok → m'.ok → m.Mem n₀ W a i → m'.Mem n₀ W a' i' → m.Szd → m'.Szd → ∀ s r, ordI (m.enc ++ 1 :: s) (m'.enc ++ 1 :: r) = if m.cmp m' = 0 then ordI s r else m.cmp m') (motive_3 := fun _ => True)
        (fun _ _ _ _ _ _ _ _ _ _ _ _ _ _ _ => trivial)
        (by
          intro m' a a' i i' _ _ hm' _ _ _ _ s r
          cases m' with
          | nil => simp [TL.enc, TL.cmp, ordI]
          | cons v' r' =>
            obtain ⟨c, t, hc, hge⟩ := enc_first v' hm'.1
            have h1 : (1 : Int) < c := by omega
            simp [TL.enc, hc, TL.cmp, ordI, h1])
        (by
          intro v0 r0 _ ihr m' a a' i i' hsz hm hm' hM hM' hS hS' s r
          cases m' with
          | nil =>
            obtain ⟨c, t, hc, hge⟩ := enc_first v0 hm.1
            have h1 : ¬ c < (1 : Int) := by omega
            have h2 : (1 : Int) < c := by omega
            simp [TL.enc, hc, TL.cmp, ordI, h1, h2]
          | cons v' r' =>
            simp only [TL.sz] at hsz
            simp only [TL.enc, List.append_assoc, TL.cmp]
            rw [ih v0 v' (by have : 1 ≤ v0.sz := (by cases v0; simp only [T.sz]; omega); omega) hm.1 hm'.1 hM.2.1 hM'.2.1 hS.1 hS'.1, ihr r' a a' (i + 1) (i' + 1) (by omega) hm.2 hm'.2 hM.2.2 hM'.2.2 hS.2 hS'.2]
            by_cases h0 : v0.cmp v' = 0
            · simp only [h0, if_true]
            · simp only [h0, if_false])
        trivial (fun _ _ _ _ _ => trivial) m
    simp only [T.sz] at hu
    simp only [T.ok] at hou hov
    have hn := nX_is n hsu.2.1
    have hn' := nX_is n' hsv.2.1
    have hr := hsu.2.1
    have hr' := hsv.2.1
    have hy := hmu.2.1
    have hy' := hmv.2.1
    have hcmp : (T.mk k bo n t ya yc y la lc l fa fc f).cmp (T.mk k' bo' n' t' ya' yc' y' la' lc' l' fa' fc' f') = if k = k' then (if k = 2 then (if bo = bo' then 0 else if bo' then -1 else 1) else if k = 3 then num n n' else if k = 4 then ordI (sb t) (sb t') else if k = 5 then ordI y y' else if k = 6 then l.cmp l' else if k = 7 then f.cmp f' else 0) else num k k' := by rw [T.cmp]
    rw [hcmp]
    clear hcmp
    by_cases hkk : k = k'
    · subst hkk
      rw [if_pos rfl]
      rcases hou with rfl | rfl | rfl | rfl | rfl | ⟨rfl, hl⟩
      · rw [enc_1, enc_1]
        simp [ordI]
      · rw [enc_2, enc_2]
        cases bo <;> cases bo' <;> simp [ordI]
      · rw [enc_3, enc_3, List.cons_append, List.cons_append, ordI_same, nbs_order _ _ _ _ (by omega) (by omega), hn, hn', num_add]
        simp
      · rw [enc_4, enc_4]
        simp only [List.cons_append, List.append_assoc, List.nil_append]
        rw [ordI_same, esc_order _ _ _ _ (sb_byts _) (sb_byts _)]
        simp
      · rw [enc_5, enc_5]
        simp only [List.cons_append, List.append_assoc, List.nil_append]
        rw [ordI_same, esc_order _ _ _ _ hy hy']
        simp
      · rw [enc_6, enc_6]
        simp only [List.cons_append, List.append_assoc, List.nil_append]
        rw [ordI_same, hlist l l' la la' 0 0 (by omega) hl (by rcases hov with h | h | h | h | h | ⟨_, h⟩ <;> first | exact h | omega) hmu.2.2.2.2.1 hmv.2.2.2.2.1 hsu.2.2.2.1 hsv.2.2.2.1]
        simp
    · rw [if_neg hkk]
      have h1 : 1 ≤ k ∧ k ≤ 6 := by rcases hou with h | h | h | h | h | ⟨h, _⟩ <;> omega
      have h2 : 1 ≤ k' ∧ k' ≤ 6 := by rcases hov with h | h | h | h | h | ⟨h, _⟩ <;> omega
      obtain ⟨x, e1⟩ := enc_mrk k bo n t ya yc y la lc l fa fc f h1
      obtain ⟨x', e2⟩ := enc_mrk k' bo' n' t' ya' yc' y' la' lc' l' fa' fc' f' h2
      rw [e1, e2, List.cons_append, List.cons_append]
      have m1 := mrk_bd k bo
      have m2 := mrk_bd k' bo'
      generalize mrk k bo = a at *
      generalize mrk k' bo' = b at *
      by_cases hlt : k < k'
      · have e3 : num k k' = -1 := by simp [num, hlt]
        rw [e3, ordI_lt (by omega)]
        simp
      · have h9 : k' < k := by omega
        have e3 : num k k' = 1 := by simp [num, hlt, h9]
        rw [e3, ordI_gt (by omega)]
        simp
theorem cmp_is {n₀ : Nat} {W : World} (u v : T) (hu : u.ok) (hv : v.ok) (mu : u.Mem n₀ W) (mv : v.Mem n₀ W) (su : u.Szd) (sv : v.Szd) : u.cmp v = ordI u.enc v.enc := by
  have h := enc_order u.sz u v (Nat.le_refl _) hu hv mu mv su sv [] []
  simp only [List.append_nil] at h
  rw [h]
  simp only [ordI]
  split
  · rename_i h; exact h
  · rfl
theorem ord_turn2 (a b : List Int) (h : Apart a b) (ha : Byts a) (hb : Byts b) (s r : List Int) : ordI (a.map (tn 255) ++ s) (b.map (tn 255) ++ r) = if ordI a b = 0 then ordI s r else - ordI a b := by
  induction h with
  | same a => rw [ordI_self, ordI_pre]; rfl
  | here x y a b hne =>
    have h1 := ha x (by simp)
    have h2 := hb y (by simp)
    rw [List.map_cons, List.map_cons, List.cons_append, List.cons_append, tn_down x h1, tn_down y h2]
    by_cases hlt : x < y
    · rw [ordI_gt (by omega), ordI_lt hlt]; simp
    · rw [ordI_lt (by omega), ordI_gt (by omega)]; simp
  | next x a b _ ih =>
    rw [List.map_cons, List.map_cons, List.cons_append, List.cons_append, ordI_same, ordI_same]
    exact ih (fun c hc => ha c (by simp [hc])) (fun c hc => hb c (by simp [hc]))
theorem map_up (a : List Int) (h : Byts a) : a.map (tn 0) = a := by
  conv => rhs; rw [← List.map_id a]
  exact List.map_congr_left (fun c hc => tn_up c (h c hc).1)
/-- the order of two tuples. -/
def tcmp (ds : List Bool) : Nat → List T → List T → Int
  | _, [], [] => 0
  | _, [], _ :: _ => -1
  | _, _ :: _, [] => 1
  | i, u :: a, v :: b => if u.cmp v = 0 then tcmp ds (i + 1) a b else if ds.getD i false then - u.cmp v else u.cmp v
theorem outp_ok (v : T) (h : oneE v = 0) : outp v = v.enc := by simp [outp, h]
theorem tup_order {n₀ : Nat} {W : World} (ds : List Bool) : ∀ (l m : List T) (i : Nat), (∀ x ∈ l, oneE x = 0 ∧ x.Mem n₀ W ∧ x.Szd) → (∀ x ∈ m, oneE x = 0 ∧ x.Mem n₀ W ∧ x.Szd) → ordI (tupB ds i l) (tupB ds i m) = tcmp ds i l m := by
  intro l
  induction l with
  | nil =>
    intro m i _ hm
    cases m with
    | nil => rfl
    | cons v m =>
      obtain ⟨h1, _, _⟩ := hm v (by simp)
      obtain ⟨c, t, hc, _⟩ := enc_first v (one_ok v h1).1
      simp [tupB, tcmp, outp_ok v h1, hc, ordI]
  | cons u l ih =>
    intro m i hl hm
    obtain ⟨u1, u2, u3⟩ := hl u (by simp)
    cases m with
    | nil =>
      obtain ⟨c, t, hc, _⟩ := enc_first u (one_ok u u1).1
      simp [tupB, tcmp, outp_ok u u1, hc, ordI]
    | cons v m =>
      obtain ⟨v1, v2, v3⟩ := hm v (by simp)
      have hi := ih m (i + 1) (fun x hx => hl x (by simp [hx])) (fun x hx => hm x (by simp [hx]))
      have ou := (one_ok u u1).1
      have ov := (one_ok v v1).1
      simp only [tupB, tcmp, outp_ok u u1, outp_ok v v1, ← hi]
      cases ds.getD i false
      · simp only [mk, Bool.false_eq_true, if_false]
        rw [map_up _ (T.enc_byts u u2), map_up _ (T.enc_byts v v2)]
        exact enc_order u.sz u v (Nat.le_refl _) ou ov u2 v2 u3 v3 _ _
      · simp only [mk, if_true]
        rw [ord_turn2 _ _ (enc_apart u v ou ov) (T.enc_byts u u2) (T.enc_byts v v2), ← cmp_is u v ou ov u2 v2 u3 v3]
theorem tcmp_next (ds : List Bool) (l m : List T) (j : Nat) (u v : T) (hu : l[j]? = some u) (hv : m[j]? = some v) : tcmp ds j (l.drop j) (m.drop j) = if u.cmp v = 0 then tcmp ds (j + 1) (l.drop (j + 1)) (m.drop (j + 1)) else if ds.getD j false then - u.cmp v else u.cmp v := by
  obtain ⟨hj, rfl⟩ := List.getElem?_eq_some_iff.1 hu
  obtain ⟨hj', rfl⟩ := List.getElem?_eq_some_iff.1 hv
  conv => lhs; rw [List.drop_eq_getElem_cons hj, List.drop_eq_getElem_cons hj']
  rw [tcmp]
theorem tcmp_end (ds : List Bool) (l m : List T) (j : Nat) (hj : j ≤ l.length) (hj' : j ≤ m.length) (h : ¬ (j < l.length ∧ j < m.length)) : tcmp ds j (l.drop j) (m.drop j) = num l.length m.length := by
  by_cases h1 : j < l.length
  · have h2 : m.length = j := by omega
    rw [List.drop_eq_getElem_cons h1, List.drop_eq_nil_of_le (by omega : m.length ≤ j), tcmp, num, if_neg (by omega), if_pos (by omega)]
  · rw [List.drop_eq_nil_of_le (by omega : l.length ≤ j)]
    by_cases h2 : j < m.length
    · rw [List.drop_eq_getElem_cons h2, tcmp, num, if_pos (by omega)]
    · rw [List.drop_eq_nil_of_le (by omega : m.length ≤ j), tcmp, num, if_neg (by omega), if_neg (by omega)]
end Go.Proofs.Ytegoeaofjnpehab
/- The reader of keys: any value that may stand in a key. -/
namespace Go.Proofs.Ytegoeaofjnpehab
open Go.RowKit
set_option linter.unusedVariables false

theorem bk_sb (s : ByteArray) : bk (sb s) = s := by
  unfold bk sb
  cases s with
  | mk d =>
    simp only [List.map_map]
    congr 1
    apply Array.ext'
    simp only []
    conv => rhs; rw [← List.map_id d.toList]
    apply List.map_congr_left
    intro b hb
    simp
theorem unX_nX (n : Int) (h : -9223372036854775808 ≤ n ∧ n ≤ 9223372036854775807) : unX (jb (nbs (nX n) 8)) = n := by
  have h1 := nX_is n h
  rw [jb_nbs (nX n) (by rw [h1]; omega), h1]
  unfold unX
  have h2 := xor_top (n + 9223372036854775808).toNat (by omega)
  have h3 := u64_xor_nat (n + 9223372036854775808).toNat 9223372036854775808 (by omega) (by omega)
  have e : ((9223372036854775808 : Nat) : Int) = 9223372036854775808 := rfl
  rw [e] at h3
  have e2 : (2 : Nat) ^ 63 = 9223372036854775808 := by decide
  have e3 : (2 : Nat) ^ 64 = 18446744073709551616 := by decide
  rw [e2, e3] at h2
  rw [h3, h2]
  unfold wrap64
  omega
theorem TL.nil_of' (l : TL) (h : l.list = []) : l = .nil := by
  cases l with
  | nil => rfl
  | cons v r => simp [TL.list] at h
theorem FL.nil_of' (l : FL) (h : l.list = []) : l = .nil := by
  cases l with
  | nil => rfl
  | cons s v r => simp [FL.list] at h
def leafT (k : Int) (bo : Bool) (n : Int) (t : ByteArray) : T := .mk k bo n t none 0 [] none 0 .nil none 0 .nil
theorem leafT_mem (k : Int) (bo : Bool) (n : Int) (t : ByteArray) (N : Nat) (W : World) : (leafT k bo n t).Mem N W :=
  ⟨.inl rfl, fun c hc => by simp at hc, fun _ => ⟨rfl, rfl⟩, by simp, trivial, fun _ => ⟨rfl, rfl⟩, by simp [TL.list], trivial, fun _ => ⟨rfl, rfl⟩, by simp [FL.list]⟩
set_option maxHeartbeats 3200000 in
set_option maxRecDepth 1000000 in
theorem value_list (p : Nat) (a : Option Addr) (cap : Nat) (bs : List Int) (q : Nat) (m : Int) (l : TL) (hl : l.gk) (hR : ∀ c ∈ l.list, Reads p a cap bs q m c) (w : World) (i n : Nat) (rest : List Int) (hr : Rdr w p a cap bs i n q m) (hn : n + 1 + l.sz ≤ 512) (hE : (bs.drop i).map (tn m) = l.enc ++ 1 :: rest) :
    Calls Try.prog 31 #[.pointer (some ⟨p, 0, none⟩), .int .u8 96] w fun e w' => ∃ oa oc, e = .returned (.tuple #[.agg #[.int .u8 6, .bool false, .int .i64 0, .string ⟨#[]⟩, .slice none 0 0, .slice oa l.list.length oc, .slice none 0 0], .bool true]) ∧ Rdr w' p a cap bs (i + l.enc.length + 1) (n + 1 + l.sz) q m ∧ w.grownBy w' (some p) ∧
      ∀ W : World, w'.heap.size ≤ W.heap.size → (∀ k, w.heap.size ≤ k → k < w'.heap.size → W.heap[k]? = w'.heap[k]?) → ∃ l' : TL, l'.list.length = l.list.length ∧ l'.Mem W.heap.size W oa 0 ∧ (oa = none → l'.list = [] ∧ oc = 0) ∧ l'.er = l.er := by
  have hne : bs ≠ [] := fun e => by subst e; simp at hE
  have HLo := hide (hr.low hne)
  clear hne
  have hpb := hr.lt
  have hpne : w.heap.size ≠ p := by omega
  have k2 := hr.c2
  have f2 := hr.f 2
  have HRy := hide (hr.setParts (n + 1) (by omega))
  have HGy := hide (grown_setCell w p 2 (.int .i64 ((n + 1 : Nat) : Int)))
  have k3 := HRy.out.c2
  rw [show ((n + 1 : Nat) : Int) = (n : Int) + 1 by omega] at k3 HRy HGy
  have HSz : Hid ((w.setCell ⟨p, 2, none⟩ (.int .i64 ((n : Int) + 1))).heap.size = w.heap.size) := by simp [World.setCell, Hid]
  have HB1 := hide (Box7.new (w.setCell ⟨p, 2, none⟩ (.int .i64 ((n : Int) + 1))) (.int .u8 0) (.bool false) (.int .i64 0) (.string ⟨#[]⟩) (.slice none 0 0) (.slice none 0 0) (.slice none 0 0))
  rw [HSz.out] at HB1
  have HR1 := hide (HRy.out.below (below_alloc _ (.cells #[.int .u8 0, .bool false, .int .i64 0, .string ⟨#[]⟩, .slice none 0 0, .slice none 0 0, .slice none 0 0] 32)))
  have HG1 : Hid (w.grownBy ((w.setCell ⟨p, 2, none⟩ (.int .i64 ((n : Int) + 1))).alloc (.cells #[.int .u8 0, .bool false, .int .i64 0, .string ⟨#[]⟩, .slice none 0 0, .slice none 0 0, .slice none 0 0] 32)) (some p)) := grown_trans HGy.out (grown_below (below_alloc _ _))
  have HS1 : Hid (((w.setCell ⟨p, 2, none⟩ (.int .i64 ((n : Int) + 1))).alloc (.cells #[.int .u8 0, .bool false, .int .i64 0, .string ⟨#[]⟩, .slice none 0 0, .slice none 0 0, .slice none 0 0] 32)).heap.size = w.heap.size + 1) := by simp [World.setCell, Hid]
  have hn512 : n + 1 ≤ 512 := by omega
  have HLi := hide (fun W hr => list_in p a cap bs q m l hl hR W i (n + 1) rest hr hn hE)
  clear hr hE hR hl
  go_enter Try.func31, Try.ntmps31
  go_wp2_with fail
  clear k2 f2 k3
  generalize (w.setCell ⟨p, 2, none⟩ (.int .i64 ((n : Int) + 1))).alloc (.cells #[.int .u8 0, .bool false, .int .i64 0, .string ⟨#[]⟩, .slice none 0 0, .slice none 0 0, .slice none 0 0] 32) = X1 at HR1 HG1 HS1 HB1 ⊢
  refine (HLi.out X1 HR1.out).mono ?_
  rintro e W1 ⟨o, xs, rfl, hown, hrd, hg, hst⟩
  have HR2 := hide hrd
  have HG2 := hide (grown_trans HG1.out hg)
  have HB2 := hide (HB1.out.grown hg hpne)
  have HOw := hide hown
  have HSt := hide hst
  obtain ⟨oa, oc, rfl⟩ := ownsRow_shape hown
  obtain ⟨j0, j1, j2, j3, j4, j5, j6⟩ := HB2.out.cells
  have fr := HB2.out.free
  have hsw : X1.heap.size ≤ W1.heap.size := hg.size
  clear hown hrd hg hst HLi
  go_wp2
  have HBz := hide (HB2.out.set7 (.int .u8 6) (.bool false) (.int .i64 0) (.string ⟨#[]⟩) (.slice none 0 0) (.slice oa l.list.length oc) (.slice none 0 0))
  have HGz := hide (grown_set7 W1 w.heap.size (.int .u8 6) (.bool false) (.int .i64 0) (.string ⟨#[]⟩) (.slice none 0 0) (.slice oa l.list.length oc) (.slice none 0 0))
  generalize ((((((W1.setCell ⟨w.heap.size, 0, none⟩ (.int .u8 6)).setCell ⟨w.heap.size, 1, none⟩ (.bool false)).setCell ⟨w.heap.size, 2, none⟩ (.int .i64 0)).setCell ⟨w.heap.size, 3, none⟩ (.string ⟨#[]⟩)).setCell ⟨w.heap.size, 4, none⟩ (.slice none 0 0)).setCell ⟨w.heap.size, 5, none⟩ (.slice oa l.list.length oc)).setCell ⟨w.heap.size, 6, none⟩ (.slice none 0 0) = Z at HBz HGz ⊢
  obtain ⟨z0, z1, z2, z3, z4, z5, z6⟩ := HBz.out.cells
  refine bodyPost_ret (v := .tuple #[.agg #[.int .u8 6, .bool false, .int .i64 0, .string ⟨#[]⟩, .slice none 0 0, .slice oa l.list.length oc, .slice none 0 0], .bool true]) ?_ rfl ?_
  · simp [results, Try.results31, go_sem, z0, z1, z2, z3, z4, z5, z6]
  · refine ⟨oa, oc, rfl, HR2.out.grown HLo.out HGz.out (fun k e => by cases e; exact Nat.le_refl _), grown_new HG2.out HGz.out (fun k e => by cases e; exact Nat.le_refl _), fun W hs ha => ?_⟩
    have sz := HGz.out.size
    have s1 := HS1.out
    have hblk : ∀ k, X1.heap.size ≤ k → k < W1.heap.size → W.heap[k]? = W1.heap[k]? := fun k k1 k2 => (ha k (by omega) (by omega)).trans (HGz.out.block k k2 (fun e => by simp at e; omega))
    obtain ⟨vs, e1, e2, e3⟩ := HSt.out W (by omega) (fun k k1 k2 _ => hblk k k1 k2)
    have hvl : vs.length = l.list.length := by
      have := congrArg List.length e3
      simpa using this
    refine ⟨TL.ofL vs, by rw [TL.ofL_list]; exact hvl, ?_, ?_, TL.er_of _ _ (by rw [TL.ofL_list]; exact e3)⟩
    · rcases HOw.out.2 with ⟨h1, h2⟩ | ⟨g, cp, cur, h1, h2, h3, _⟩
      · have : vs = [] := List.eq_nil_of_length_eq_zero (by omega)
        subst this
        trivial
      · have ho : oa = some ⟨g, 0, none⟩ := by injection h1
        subst ho
        have hgl := lt_of_block h3
        refine ofL_mem (by omega) vs 0 (fun j u hu => ?_) e2
        rw [e1] at hu
        have h9 := HOw.out.cells (g := g) rfl j u hu
        rw [Addr.add_lit] at h9
        rw [Nat.zero_mul]
        have hbk := hblk g h2 hgl
        simp only [World.cell?] at h9 ⊢
        rw [hbk]; exact h9
    · intro h0
      subst h0
      rcases HOw.out.2 with ⟨h1, h2⟩ | ⟨g, cp, cur, h1, _⟩
      · have : oc = 0 := by injection h1
        exact ⟨by rw [TL.ofL_list]; exact List.eq_nil_of_length_eq_zero (by omega), this⟩
      · simp at h1
theorem value_all (p : Nat) (a : Option Addr) (cap : Nat) (bs : List Int) (q : Nat) (m : Int) : ∀ (N : Nat) (c : T), c.sz ≤ N → c.gk → Reads p a cap bs q m c := by
  intro N
  induction N with
  | zero => intro c hc; cases c; simp [T.sz] at hc
  | succ N ih =>
    intro c hc hg w i n rest hr hn hne hE
    cases c with
    | mk k bo nn t ya yc y la lc l fa fc f =>
    obtain ⟨⟨⟨a1, a2⟩, a3, a4, a5, a6⟩, ⟨c1, c2, c3, c4, c5, c6⟩, c7⟩ := hg
    have hf := FL.nil_of' f c6
    subst hf
    have hk : k = 1 ∨ k = 2 ∨ k = 3 ∨ k = 4 ∨ k = 5 ∨ k = 6 := by omega
    rcases hk with rfl | rfl | rfl | rfl | rfl | rfl
    · have hl := TL.nil_of' l (c5 (by decide))
      subst hl
      obtain rfl := c1 (by decide)
      obtain rfl := c2 (by decide)
      obtain rfl := c3 (by decide)
      obtain rfl := c4 (by decide)
      simp only [T.sz, TL.sz, FL.sz] at hn
      refine (value_null p a cap bs i n q m w hr (by omega)).mono ?_
      rintro e w' ⟨rfl, hrd, hgr⟩
      exact ⟨_, rfl, by simpa [T.enc, T.sz, TL.sz, FL.sz] using hrd, hgr, fun W _ _ => ⟨leafT 1 false 0 ⟨#[]⟩, rfl, leafT_mem _ _ _ _ _ _, rfl⟩⟩
    · have hl := TL.nil_of' l (c5 (by decide))
      subst hl
      obtain rfl := c2 (by decide)
      obtain rfl := c3 (by decide)
      obtain rfl := c4 (by decide)
      simp only [T.sz, TL.sz, FL.sz] at hn
      cases bo with
      | false =>
        refine (value_false p a cap bs i n q m w hr (by omega)).mono ?_
        rintro e w' ⟨rfl, hrd, hgr⟩
        exact ⟨_, rfl, by simpa [T.enc, bB, T.sz, TL.sz, FL.sz] using hrd, hgr, fun W _ _ => ⟨leafT 2 false 0 ⟨#[]⟩, rfl, leafT_mem _ _ _ _ _ _, rfl⟩⟩
      | true =>
        refine (value_true p a cap bs i n q m w hr (by omega)).mono ?_
        rintro e w' ⟨rfl, hrd, hgr⟩
        exact ⟨_, rfl, by simpa [T.enc, bB, T.sz, TL.sz, FL.sz] using hrd, hgr, fun W _ _ => ⟨leafT 2 true 0 ⟨#[]⟩, rfl, leafT_mem _ _ _ _ _ _, rfl⟩⟩
    · have hl := TL.nil_of' l (c5 (by decide))
      subst hl
      obtain rfl := c1 (by decide)
      obtain rfl := c3 (by decide)
      obtain rfl := c4 (by decide)
      simp only [T.sz, TL.sz, FL.sz] at hn
      have hE' : (bs.drop i).map (tn m) = nbs (nX nn) 8 ++ rest := by simpa [T.enc, bI] using hE
      have hlen : i + 8 ≤ bs.length := by
        have := congrArg List.length hE'
        simp only [List.length_map, List.length_drop, List.length_append, nbs_len] at this
        omega
      have htk : ((bs.drop i).take 8).map (tn m) = nbs (nX nn) 8 := by
        rw [List.map_take, hE', List.take_append_of_le_length (by rw [nbs_len]; omega), List.take_of_length_le (by rw [nbs_len]; omega)]
      refine (value_num p a cap bs i n q m w hr (by omega) hlen).mono ?_
      rintro e w' ⟨rfl, hrd, hgr⟩
      rw [htk, unX_nX nn a3]
      exact ⟨_, rfl, by simpa [T.enc, bI, nbs_len, T.sz, TL.sz, FL.sz] using hrd, hgr, fun W _ _ => ⟨leafT 3 false nn ⟨#[]⟩, rfl, leafT_mem _ _ _ _ _ _, rfl⟩⟩
    · have hl := TL.nil_of' l (c5 (by decide))
      subst hl
      obtain rfl := c1 (by decide)
      obtain rfl := c2 (by decide)
      obtain rfl := c4 (by decide)
      simp only [T.sz, TL.sz, FL.sz] at hn
      have hE' : (bs.drop i).map (tn m) = esc (sb t) ++ 0 :: 1 :: rest := by simpa [T.enc, bT] using hE
      refine (value_text p a cap bs i n q m (sb t) rest w hr (by omega) hE' (sb_byts t) (by rw [sb_len]; omega)).mono ?_
      rintro e w' ⟨rfl, hrd, hgr⟩
      rw [bk_sb]
      exact ⟨_, rfl, by simpa [T.enc, bT, T.sz, TL.sz, FL.sz, Nat.add_assoc] using hrd, hgr, fun W _ _ => ⟨leafT 4 false 0 t, rfl, leafT_mem _ _ _ _ _ _, rfl⟩⟩
    · have hl := TL.nil_of' l (c5 (by decide))
      subst hl
      obtain rfl := c1 (by decide)
      obtain rfl := c2 (by decide)
      obtain rfl := c3 (by decide)
      simp only [T.sz, TL.sz, FL.sz] at hn
      have hE' : (bs.drop i).map (tn m) = esc y ++ 0 :: 1 :: rest := by simpa [T.enc, bYs] using hE
      refine (value_bytes p a cap bs i n q m y rest w hr (by omega) hE' a6 a5).mono ?_
      rintro e w' ⟨a', c', rfl, hown, hrd, hgr⟩
      refine ⟨_, rfl, by simpa [T.enc, bYs, T.sz, TL.sz, FL.sz, Nat.add_assoc] using hrd, hgr, fun W hs ha => ?_⟩
      obtain ⟨a2', c2', e2, -, -, hbare, hrow, hblk⟩ := hown.own.shape
      have e1 : a' = a2' ∧ c' = c2' := by simpa using e2
      obtain ⟨rfl, rfl⟩ := e1
      refine ⟨.mk 5 false 0 ⟨#[]⟩ a' c' y none 0 .nil none 0 .nil, rfl, ⟨?_, a6, ?_, by omega, trivial, fun _ => ⟨rfl, rfl⟩, by simp [TL.list], trivial, fun _ => ⟨rfl, rfl⟩, by simp [FL.list]⟩, rfl⟩
      · rcases hrow with h0 | ⟨b, off, rfl, hlt, hcell⟩
        · exact .inl h0
        · refine .inr ⟨b, off, rfl, by omega, fun j hj => ?_⟩
          have hb1 := hown.new b rfl
          have hbk := ha b (by omega) hlt
          have h9 := hcell j hj
          simp only [World.cell?] at h9 ⊢
          rw [hbk]; exact h9
      · intro h0
        obtain ⟨g1, g2⟩ := hbare h0
        exact ⟨List.eq_nil_of_length_eq_zero g1, g2⟩
    · obtain rfl := c1 (by decide)
      obtain rfl := c2 (by decide)
      obtain rfl := c3 (by decide)
      obtain rfl := c4 (by decide)
      simp only [T.sz, FL.sz] at hn hc
      have hE' : (bs.drop i).map (tn m) = l.enc ++ 1 :: rest := by simpa [T.enc] using hE
      refine (value_list p a cap bs q m l c7 (fun c hcm => ih c (by have := TL.sz_mem l c hcm; omega) (TL.gk_mem l c7 c hcm)) w i n rest hr (by omega) hE').mono ?_
      rintro e w' ⟨oa, oc, rfl, hrd, hgr, hst⟩
      refine ⟨_, rfl, ?_, hgr, fun W hs ha => ?_⟩
      · have h9 : Rdr w' p a cap bs (i + (l.enc.length + 1)) (n + (1 + l.sz)) q m := by
          rw [← Nat.add_assoc, ← Nat.add_assoc]; exact hrd
        simpa [T.enc, T.sz, FL.sz] using h9
      · obtain ⟨l', h1, h2, h3, h4⟩ := hst W hs ha
        have hll := TL.len_le l
        exact ⟨.mk 6 false 0 ⟨#[]⟩ none 0 [] oa oc l' none 0 .nil, by simp [T.val, h1, FL.list], ⟨.inl rfl, fun c hc => by simp at hc, fun _ => ⟨rfl, rfl⟩, by simp, h2, h3, by omega, trivial, fun _ => ⟨rfl, rfl⟩, by simp [FL.list]⟩, by simp only [T.er, h4]⟩
end Go.Proofs.Ytegoeaofjnpehab
