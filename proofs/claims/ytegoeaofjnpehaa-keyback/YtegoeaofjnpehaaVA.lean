/- Values as trees, and how they lie in memory. -/
import Derived.Test.YtegoeaofjnpehaaC
namespace Go.Proofs.Ytegoeaofjnpehaa
open Go.RowKit
set_option linter.unusedVariables false

mutual
/-- a value: its kind, whether, its number, its text, its bytes, its values, its fields; each list with its address and its room. -/
inductive T where
  | mk (k : Int) (bo : Bool) (n : Int) (t : ByteArray) (ya : Option Addr) (yc : Nat) (y : List Int) (la : Option Addr) (lc : Nat) (l : TL) (fa : Option Addr) (fc : Nat) (f : FL)
inductive TL where
  | nil
  | cons (v : T) (r : TL)
inductive FL where
  | nil
  | cons (s : ByteArray) (v : T) (r : FL)
end
def TL.list : TL → List T
  | .nil => []
  | .cons v r => v :: r.list
def FL.list : FL → List (ByteArray × T)
  | .nil => []
  | .cons s v r => (s, v) :: r.list
def T.cells : T → List Value
  | .mk k bo n t ya yc y la lc l fa fc f => [.int .u8 k, .bool bo, .int .i64 n, .string t, .slice ya y.length yc, .slice la l.list.length lc, .slice fa f.list.length fc]
def T.val : T → Value
  | .mk k bo n t ya yc y la lc l fa fc f => .agg #[.int .u8 k, .bool bo, .int .i64 n, .string t, .slice ya y.length yc, .slice la l.list.length lc, .slice fa f.list.length fc]
/-- the values right below. -/
def T.kids : T → List T
  | .mk _ _ _ _ _ _ _ _ _ l _ _ f => l.list ++ f.list.map (·.2)
mutual
def T.sz : T → Nat
  | .mk _ _ _ _ _ _ _ _ _ l _ _ f => 1 + l.sz + f.sz
def TL.sz : TL → Nat
  | .nil => 0
  | .cons v r => v.sz + r.sz
def FL.sz : FL → Nat
  | .nil => 0
  | .cons _ v r => v.sz + r.sz
end
theorem TL.sz_mem (l : TL) : ∀ c ∈ l.list, c.sz ≤ l.sz := by
  intro c hc
  match l with
  | .nil => simp [TL.list] at hc
  | .cons v r =>
    simp only [TL.list, List.mem_cons] at hc
    rcases hc with rfl | hc
    · simp [TL.sz]
    · have := TL.sz_mem r c hc
      simp only [TL.sz]
      omega
theorem FL.sz_mem (l : FL) : ∀ c ∈ l.list, c.2.sz ≤ l.sz := by
  intro c hc
  match l with
  | .nil => simp [FL.list] at hc
  | .cons s v r =>
    simp only [FL.list, List.mem_cons] at hc
    rcases hc with rfl | hc
    · simp [FL.sz]
    · have := FL.sz_mem r c hc
      simp only [FL.sz]
      omega
theorem T.kid_sz (v c : T) (h : c ∈ v.kids) : c.sz < v.sz := by
  cases v with
  | mk k bo n t ya yc y la lc l fa fc f =>
    simp only [T.kids, List.mem_append, List.mem_map] at h
    simp only [T.sz]
    rcases h with h | ⟨x, h, rfl⟩
    · have := TL.sz_mem l c h; omega
    · have := FL.sz_mem f x h; omega
mutual
/-- the value and all below it, with their depths. -/
def T.flat (d : Int) : T → List (Int × T)
  | .mk k bo n t ya yc y la lc l fa fc f => (d, .mk k bo n t ya yc y la lc l fa fc f) :: (l.flat (d + 1) ++ f.flat (d + 1))
def TL.flat (d : Int) : TL → List (Int × T)
  | .nil => []
  | .cons v r => v.flat d ++ r.flat d
def FL.flat (d : Int) : FL → List (Int × T)
  | .nil => []
  | .cons _ v r => v.flat d ++ r.flat d
end
theorem TL.flat_is (d : Int) (l : TL) : l.flat d = l.list.flatMap (fun c => c.flat d) := by
  match l with
  | .nil => simp [TL.flat, TL.list]
  | .cons v r => simp [TL.flat, TL.list, TL.flat_is d r]
theorem FL.flat_is (d : Int) (l : FL) : l.flat d = (l.list.map (·.2)).flatMap (fun c => c.flat d) := by
  match l with
  | .nil => simp [FL.flat, FL.list]
  | .cons s v r => simp [FL.flat, FL.list, FL.flat_is d r]
theorem T.flat_is (d : Int) (v : T) : v.flat d = (d, v) :: v.kids.flatMap (fun c => c.flat (d + 1)) := by
  cases v with
  | mk k bo n t ya yc y la lc l fa fc f => simp only [T.flat, T.kids, TL.flat_is, FL.flat_is, List.flatMap_append]

/-- a row that lies below n₀. -/
def RowN (n₀ : Nat) (W : World) (a : Option Addr) (zs : List Int) : Prop :=
  zs = [] ∨ ∃ b off, a = some ⟨b, off, none⟩ ∧ b < n₀ ∧ ∀ i, i < zs.length → W.cell? ⟨b, off + i, none⟩ = some (.int .u8 (zs.getD i 0))
mutual
/-- the value's lists lie below n₀, with all that is in them. -/
def T.Mem (n₀ : Nat) (W : World) : T → Prop
  | .mk k bo n t ya yc y la lc l fa fc f => RowN n₀ W ya y ∧ Byts y ∧ (ya = none → y = [] ∧ yc = 0) ∧ y.length ≤ 9223372036854775807 ∧ l.Mem n₀ W la 0 ∧ (la = none → l.list = [] ∧ lc = 0) ∧ l.list.length ≤ 9223372036854775807 ∧ f.Mem n₀ W fa 0 ∧ (fa = none → f.list = [] ∧ fc = 0) ∧ f.list.length ≤ 9223372036854775807
def TL.Mem (n₀ : Nat) (W : World) (a : Option Addr) (i : Nat) : TL → Prop
  | .nil => True
  | .cons v r => (∃ b o, a = some ⟨b, o, none⟩ ∧ b < n₀ ∧ ∀ j u, v.cells[j]? = some u → W.cell? ⟨b, o + i * 7 + j, none⟩ = some u) ∧ v.Mem n₀ W ∧ r.Mem n₀ W a (i + 1)
def FL.Mem (n₀ : Nat) (W : World) (a : Option Addr) (i : Nat) : FL → Prop
  | .nil => True
  | .cons s v r => (∃ b o, a = some ⟨b, o, none⟩ ∧ b < n₀ ∧ W.cell? ⟨b, o + i * 8, none⟩ = some (.string s) ∧ ∀ j u, v.cells[j]? = some u → W.cell? ⟨b, o + i * 8 + 1 + j, none⟩ = some u) ∧ v.Mem n₀ W ∧ r.Mem n₀ W a (i + 1)
end
theorem RowN.on {n₀ : Nat} {A B : World} (hb : Below n₀ A B) {a : Option Addr} {zs : List Int} (h : RowN n₀ A a zs) : RowN n₀ B a zs := by
  rcases h with h | ⟨b, o, rfl, hlt, hc⟩
  · exact .inl h
  · exact .inr ⟨b, o, rfl, hlt, fun i hi => (hb.cell (p := ⟨b, o + i, none⟩) hlt).trans (hc i hi)⟩
mutual
theorem T.Mem.on {n₀ : Nat} {A B : World} (hb : Below n₀ A B) : ∀ {v : T}, v.Mem n₀ A → v.Mem n₀ B
  | .mk k bo n t ya yc y la lc l fa fc f, ⟨h1, h2, h3, h4, h5, h6, h7, h8, h9, h10⟩ => ⟨h1.on hb, h2, h3, h4, TL.Mem.on hb h5, h6, h7, FL.Mem.on hb h8, h9, h10⟩
theorem TL.Mem.on {n₀ : Nat} {A B : World} (hb : Below n₀ A B) {a : Option Addr} : ∀ {i : Nat} {l : TL}, l.Mem n₀ A a i → l.Mem n₀ B a i
  | _, .nil, _ => trivial
  | i, .cons v r, ⟨⟨b, o, h1, h2, h3⟩, h4, h5⟩ => ⟨⟨b, o, h1, h2, fun j u hu => (hb.cell (p := ⟨b, o + i * 7 + j, none⟩) h2).trans (h3 j u hu)⟩, T.Mem.on hb h4, TL.Mem.on hb h5⟩
theorem FL.Mem.on {n₀ : Nat} {A B : World} (hb : Below n₀ A B) {a : Option Addr} : ∀ {i : Nat} {l : FL}, l.Mem n₀ A a i → l.Mem n₀ B a i
  | _, .nil, _ => trivial
  | i, .cons s v r, ⟨⟨b, o, h1, h2, h6, h3⟩, h4, h5⟩ => ⟨⟨b, o, h1, h2, (hb.cell (p := ⟨b, o + i * 8, none⟩) h2).trans h6, fun j u hu => (hb.cell (p := ⟨b, o + i * 8 + 1 + j, none⟩) h2).trans (h3 j u hu)⟩, T.Mem.on hb h4, FL.Mem.on hb h5⟩
end
theorem TL.Mem.at {n₀ : Nat} {W : World} {a : Option Addr} : ∀ (l : TL) (i : Nat), l.Mem n₀ W a i → ∀ (j : Nat) (c : T), l.list[j]? = some c →
    (∃ b o, a = some ⟨b, o, none⟩ ∧ b < n₀ ∧ ∀ x u, c.cells[x]? = some u → W.cell? ⟨b, o + (i + j) * 7 + x, none⟩ = some u) ∧ c.Mem n₀ W
  | .nil, _, _, j, c, h => by simp [TL.list] at h
  | .cons v r, i, ⟨h1, h2, h3⟩, 0, c, h => by
    simp [TL.list] at h
    subst h
    exact ⟨h1, h2⟩
  | .cons v r, i, ⟨h1, h2, h3⟩, j + 1, c, h => by
    simp only [TL.list, List.getElem?_cons_succ] at h
    have := TL.Mem.at r (i + 1) h3 j c h
    rwa [show i + 1 + j = i + (j + 1) by omega] at this
theorem FL.Mem.at {n₀ : Nat} {W : World} {a : Option Addr} : ∀ (l : FL) (i : Nat), l.Mem n₀ W a i → ∀ (j : Nat) (c : ByteArray × T), l.list[j]? = some c →
    (∃ b o, a = some ⟨b, o, none⟩ ∧ b < n₀ ∧ W.cell? ⟨b, o + (i + j) * 8, none⟩ = some (.string c.1) ∧ ∀ x u, c.2.cells[x]? = some u → W.cell? ⟨b, o + (i + j) * 8 + 1 + x, none⟩ = some u) ∧ c.2.Mem n₀ W
  | .nil, _, _, j, c, h => by simp [FL.list] at h
  | .cons s v r, i, ⟨h1, h2, h3⟩, 0, c, h => by
    simp [FL.list] at h
    subst h
    exact ⟨h1, h2⟩
  | .cons s v r, i, ⟨h1, h2, h3⟩, j + 1, c, h => by
    simp only [FL.list, List.getElem?_cons_succ] at h
    have := FL.Mem.at r (i + 1) h3 j c h
    rwa [show i + 1 + j = i + (j + 1) by omega] at this
theorem T.Mem.kid {n₀ : Nat} {W : World} {v c : T} (h : v.Mem n₀ W) (hc : c ∈ v.kids) : c.Mem n₀ W := by
  cases v with
  | mk k bo n t ya yc y la lc l fa fc f =>
    obtain ⟨h1, h2, h3, h4, h5, h6, h7, h8, h9, h10⟩ := h
    simp only [T.kids, List.mem_append, List.mem_map] at hc
    rcases hc with hc | ⟨x, hc, rfl⟩
    · obtain ⟨j, hj, rfl⟩ := List.mem_iff_getElem.1 hc
      exact (TL.Mem.at l 0 h5 j _ (List.getElem?_eq_getElem hj)).2
    · obtain ⟨j, hj, rfl⟩ := List.mem_iff_getElem.1 hc
      exact (FL.Mem.at f 0 h8 j _ (List.getElem?_eq_getElem hj)).2
theorem split_list {α : Type} (l : List α) (j : Nat) (c : α) (h : l[j]? = some c) : l = l.take j ++ c :: l.drop (j + 1) := by
  obtain ⟨hj, rfl⟩ := List.getElem?_eq_some_iff.1 h
  conv => lhs; rw [← List.take_append_drop j l, List.drop_eq_getElem_cons hj]
theorem take_next {α : Type} (l : List α) (j : Nat) (c : α) (h : l[j]? = some c) : l.take (j + 1) = l.take j ++ [c] := by
  obtain ⟨hj, rfl⟩ := List.getElem?_eq_some_iff.1 h
  exact List.take_succ_eq_append_getElem hj
/-- the seven cells of a child in a list, of a field's value, the name ahead. -/
theorem TL.Mem.cells {n₀ : Nat} {W : World} {a : Option Addr} {l : TL} (h : l.Mem n₀ W a 0) {j : Nat} {k : Int} {bo : Bool} {n : Int} {t : ByteArray} {ya : Option Addr} {yc : Nat} {y : List Int} {la : Option Addr} {lc : Nat} {ls : TL} {fa : Option Addr} {fc : Nat} {fs : FL} (hc : l.list[j]? = some (.mk k bo n t ya yc y la lc ls fa fc fs)) :
    ∃ b o, a = some ⟨b, o, none⟩ ∧ b < n₀ ∧ W.cell? ⟨b, o + j * 7, none⟩ = some (.int .u8 k) ∧ W.cell? ⟨b, o + j * 7 + 1, none⟩ = some (.bool bo) ∧ W.cell? ⟨b, o + j * 7 + 2, none⟩ = some (.int .i64 n) ∧ W.cell? ⟨b, o + j * 7 + 3, none⟩ = some (.string t) ∧ W.cell? ⟨b, o + j * 7 + 4, none⟩ = some (.slice ya y.length yc) ∧ W.cell? ⟨b, o + j * 7 + 5, none⟩ = some (.slice la ls.list.length lc) ∧ W.cell? ⟨b, o + j * 7 + 6, none⟩ = some (.slice fa fs.list.length fc) := by
  obtain ⟨⟨b, o, h1, h2, h3⟩, _⟩ := TL.Mem.at l 0 h j _ hc
  rw [Nat.zero_add] at h3
  exact ⟨b, o, h1, h2, h3 0 _ rfl, h3 1 _ rfl, h3 2 _ rfl, h3 3 _ rfl, h3 4 _ rfl, h3 5 _ rfl, h3 6 _ rfl⟩
theorem FL.Mem.cells {n₀ : Nat} {W : World} {a : Option Addr} {l : FL} (h : l.Mem n₀ W a 0) {j : Nat} {s : ByteArray} {k : Int} {bo : Bool} {n : Int} {t : ByteArray} {ya : Option Addr} {yc : Nat} {y : List Int} {la : Option Addr} {lc : Nat} {ls : TL} {fa : Option Addr} {fc : Nat} {fs : FL} (hc : l.list[j]? = some (s, .mk k bo n t ya yc y la lc ls fa fc fs)) :
    ∃ b o, a = some ⟨b, o, none⟩ ∧ b < n₀ ∧ W.cell? ⟨b, o + j * 8, none⟩ = some (.string s) ∧ W.cell? ⟨b, o + j * 8 + 1, none⟩ = some (.int .u8 k) ∧ W.cell? ⟨b, o + j * 8 + 2, none⟩ = some (.bool bo) ∧ W.cell? ⟨b, o + j * 8 + 3, none⟩ = some (.int .i64 n) ∧ W.cell? ⟨b, o + j * 8 + 4, none⟩ = some (.string t) ∧ W.cell? ⟨b, o + j * 8 + 5, none⟩ = some (.slice ya y.length yc) ∧ W.cell? ⟨b, o + j * 8 + 6, none⟩ = some (.slice la ls.list.length lc) ∧ W.cell? ⟨b, o + j * 8 + 7, none⟩ = some (.slice fa fs.list.length fc) := by
  obtain ⟨⟨b, o, h1, h2, h4, h3⟩, _⟩ := FL.Mem.at l 0 h j _ hc
  rw [Nat.zero_add] at h3 h4
  exact ⟨b, o, h1, h2, h4, h3 0 _ rfl, h3 1 _ rfl, h3 2 _ rfl, h3 3 _ rfl, h3 4 _ rfl, h3 5 _ rfl, h3 6 _ rfl⟩
end Go.Proofs.Ytegoeaofjnpehaa
