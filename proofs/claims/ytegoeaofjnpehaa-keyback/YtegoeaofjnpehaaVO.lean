/- A value that came in: what its reading says of memory. -/
import Derived.Test.YtegoeaofjnpehaaVA
import Derived.Test.YtegoeaofjnpehaaF
import Derived.Deep.Slices
namespace Go.Proofs.Ytegoeaofjnpehaa
open Go.ChangeShapes Go.WideShapes Go.ChangeAt Go.RowKit Go.Deep
set_option linter.unusedVariables false

mutual
/-- numbers and texts as a machine holds them, at every place. -/
def T.Szd : T → Prop
  | .mk k bo n t ya yc y la lc l fa fc f => (0 ≤ k ∧ k ≤ 255) ∧ (-9223372036854775808 ≤ n ∧ n ≤ 9223372036854775807) ∧ t.size ≤ 9223372036854775807 ∧ l.Szd ∧ f.Szd
def TL.Szd : TL → Prop
  | .nil => True
  | .cons v r => v.Szd ∧ r.Szd
def FL.Szd : FL → Prop
  | .nil => True
  | .cons s v r => s.size ≤ 9223372036854775807 ∧ v.Szd ∧ r.Szd
end
def TL.of (f : Nat → T) : Nat → Nat → TL
  | _, 0 => .nil
  | i, n + 1 => .cons (f i) (TL.of f (i + 1) n)
def FL.of (f : Nat → ByteArray × T) : Nat → Nat → FL
  | _, 0 => .nil
  | i, n + 1 => .cons (f i).1 (f i).2 (FL.of f (i + 1) n)
theorem TL.of_len (f : Nat → T) (n : Nat) : ∀ i, (TL.of f i n).list.length = n := by
  induction n with
  | zero => intro i; rfl
  | succ n ih => intro i; simp [TL.of, TL.list, ih]
theorem FL.of_len (f : Nat → ByteArray × T) (n : Nat) : ∀ i, (FL.of f i n).list.length = n := by
  induction n with
  | zero => intro i; rfl
  | succ n ih => intro i; simp [FL.of, FL.list, ih]
theorem TL.of_mem {N : Nat} {W : World} {a : Option Addr} (f : Nat → T) (n : Nat) : ∀ i, (∀ j, i ≤ j → j < i + n → (∃ b o, a = some ⟨b, o, none⟩ ∧ b < N ∧ ∀ x u, (f j).cells[x]? = some u → W.cell? ⟨b, o + j * 7 + x, none⟩ = some u) ∧ (f j).Mem N W ∧ (f j).Szd) →
    (TL.of f i n).Mem N W a i ∧ (TL.of f i n).Szd := by
  induction n with
  | zero => intro i _; exact ⟨trivial, trivial⟩
  | succ n ih =>
    intro i h
    have h0 := h i (Nat.le_refl _) (by omega)
    have h1 := ih (i + 1) (fun j hj hk => h j (by omega) (by omega))
    exact ⟨⟨h0.1, h0.2.1, h1.1⟩, h0.2.2, h1.2⟩
theorem FL.of_mem {N : Nat} {W : World} {a : Option Addr} (f : Nat → ByteArray × T) (n : Nat) : ∀ i, (∀ j, i ≤ j → j < i + n → (∃ b o, a = some ⟨b, o, none⟩ ∧ b < N ∧ W.cell? ⟨b, o + j * 8, none⟩ = some (.string (f j).1) ∧ ∀ x u, (f j).2.cells[x]? = some u → W.cell? ⟨b, o + j * 8 + 1 + x, none⟩ = some u) ∧ (f j).2.Mem N W ∧ (f j).1.size ≤ 9223372036854775807 ∧ (f j).2.Szd) →
    (FL.of f i n).Mem N W a i ∧ (FL.of f i n).Szd := by
  induction n with
  | zero => intro i _; exact ⟨trivial, trivial⟩
  | succ n ih =>
    intro i h
    have h0 := h i (Nat.le_refl _) (by omega)
    have h1 := ih (i + 1) (fun j hj hk => h j (by omega) (by omega))
    exact ⟨⟨h0.1, h0.2.1, h1.1⟩, h0.2.2.1, h0.2.2.2, h1.2⟩
def T.none : T := .mk 0 false 0 ⟨#[]⟩ .none 0 [] .none 0 .nil .none 0 .nil
instance : Inhabited T := ⟨T.none⟩
theorem cells41 : Try.prog.cellsOf 41 = 7 := by kernel_rfl
theorem cells63 : Try.prog.cellsOf 63 = 8 := by kernel_rfl
theorem cells5 : Try.prog.cellsOf 5 = 1 := by kernel_rfl
theorem cells38 : Try.prog.cellsOf 38 = 1 := by kernel_rfl
theorem cells4 : Try.prog.cellsOf 4 = 1 := by kernel_rfl
theorem cells2 : Try.prog.cellsOf 2 = 1 := by kernel_rfl
theorem cells9 : Try.prog.cellsOf 9 = 1 := by kernel_rfl
theorem cells25 : Try.prog.cellsOf 25 = 1 := by kernel_rfl
theorem cells22 : Try.prog.cellsOf 22 = 1 := by kernel_rfl
theorem cells39 : Try.prog.cellsOf 39 = 1 := by kernel_rfl

variable {H : Type} {enc : TypeId × Value → H} {W : World}
theorem some_of {α : Type} {xs : List α} {i n : Nat} (h : xs.length = n) (hi : i < n) : ∃ x, xs[i]? = some x := ⟨_, List.getElem?_eq_getElem (by omega)⟩
theorem spot_of {ad : Addr} {cs : List Value} {n m : Nat} (h : W.cells? 0 (ad.add (0 * m)) n = some cs) (hn : 0 < n) : ad.spot = none := by
  obtain ⟨_, hl, hcell⟩ := World.cells?_some h
  have hc0 := hcell 0 hn
  obtain ⟨u0, hu0⟩ := some_of (i := 0) hl hn
  rw [hu0] at hc0
  have := World.cell?_spot hc0
  simpa [Addr.add] using this
theorem trod7 {P : Program} {t : TypeId} {f0 f1 f2 f3 f4 f5 f6 : Field} {fuel : Nat} {cs : List Value} {x : DataW H × List MemPlace} (he : P.underlying t = some (.struct #[f0, f1, f2, f3, f4, f5, f6])) (hc : P.cellsOf t = 7)
    (o0 : f0.offset = 0) (o1 : f1.offset = 1) (o2 : f2.offset = 2) (o3 : f3.offset = 3) (o4 : f4.offset = 4) (o5 : f5.offset = 5) (o6 : f6.offset = 6) (c0 : P.cellsOf f0.type = 1) (c1 : P.cellsOf f1.type = 1) (c2 : P.cellsOf f2.type = 1) (c3 : P.cellsOf f3.type = 1) (c4 : P.cellsOf f4.type = 1) (c5 : P.cellsOf f5.type = 1) (c6 : P.cellsOf f6.type = 1) (h : DataW.trod enc P W 0 (fun _ => true) true fuel t cs = some x) :
    ∃ (v0 v1 v2 v3 v4 v5 v6 : Value) (y0 y1 y2 y3 y4 y5 y6 : DataW H × List MemPlace) (n : Nat), fuel = n + 1 ∧ cs = [v0, v1, v2, v3, v4, v5, v6] ∧ DataW.trod enc P W 0 (fun _ => true) true n f0.type [v0] = some y0 ∧ DataW.trod enc P W 0 (fun _ => true) true n f1.type [v1] = some y1 ∧ DataW.trod enc P W 0 (fun _ => true) true n f2.type [v2] = some y2 ∧ DataW.trod enc P W 0 (fun _ => true) true n f3.type [v3] = some y3 ∧ DataW.trod enc P W 0 (fun _ => true) true n f4.type [v4] = some y4 ∧ DataW.trod enc P W 0 (fun _ => true) true n f5.type [v5] = some y5 ∧ DataW.trod enc P W 0 (fun _ => true) true n f6.type [v6] = some y6 := by
  obtain ⟨xs, n, hn, _, hl, hxl, hf⟩ := DataW.trod_struct he h
  rw [hc] at hl
  match xs, hxl, cs, hl with
  | [y0, y1, y2, y3, y4, y5, y6], _, [v0, v1, v2, v3, v4, v5, v6], _ =>
    have g0 := hf 0 f0 rfl
    have g1 := hf 1 f1 rfl
    have g2 := hf 2 f2 rfl
    have g3 := hf 3 f3 rfl
    have g4 := hf 4 f4 rfl
    have g5 := hf 5 f5 rfl
    have g6 := hf 6 f6 rfl
    simp [o0, o1, o2, o3, o4, o5, o6, c0, c1, c2, c3, c4, c5, c6] at g0 g1 g2 g3 g4 g5 g6
    exact ⟨v0, v1, v2, v3, v4, v5, v6, y0, y1, y2, y3, y4, y5, y6, n, hn, rfl, g0, g1, g2, g3, g4, g5, g6⟩
theorem trod2 {P : Program} {t : TypeId} {f0 f1 : Field} {fuel : Nat} {cs : List Value} {x : DataW H × List MemPlace} (he : P.underlying t = some (.struct #[f0, f1])) (o0 : f0.offset = 0) (o1 : f1.offset = 1) (c0 : P.cellsOf f0.type = 1) (c1 : P.cellsOf f1.type = 7)
    (h : DataW.trod enc P W 0 (fun _ => true) true fuel t cs = some x) :
    ∃ (y0 y1 : DataW H × List MemPlace) (n : Nat), fuel = n + 1 ∧ DataW.trod enc P W 0 (fun _ => true) true n f0.type (cs.take 1) = some y0 ∧ DataW.trod enc P W 0 (fun _ => true) true n f1.type ((cs.drop 1).take 7) = some y1 := by
  obtain ⟨xs, n, hn, _, hl, hxl, hf⟩ := DataW.trod_struct he h
  match xs, hxl with
  | [y0, y1], _ =>
    have g0 := hf 0 f0 rfl
    have g1 := hf 1 f1 rfl
    simp [o0, o1, c0, c1] at g0 g1
    exact ⟨y0, y1, n, hn, g0, by simpa using g1⟩
set_option maxRecDepth 1000000 in
set_option maxHeartbeats 800000 in
theorem read_val : ∀ (fuel : Nat) (cs : List Value) (x : DataW H × List MemPlace), DataW.trod enc Try.prog W 0 (fun _ => true) true fuel 41 cs = some x → ∃ v : T, v.cells = cs ∧ v.Mem W.heap.size W ∧ v.Szd := by
  intro fuel
  induction fuel using Nat.strongRecOn with
  | _ fuel ih =>
  intro cs x h
  obtain ⟨v0, v1, v2, v3, v4, v5, v6, y0, y1, y2, y3, y4, y5, y6, n, rfl, rfl, g0, g1, g2, g3, g4, g5, g6⟩ := trod7 Try.underlying41 cells41 rfl rfl rfl rfl rfl rfl rfl cells38 cells4 cells2 cells9 cells25 cells22 cells39 h
  obtain ⟨k, r0, _, w0⟩ := DataW.trod_int Try.underlying38 g0
  obtain ⟨bo, r1, _⟩ := DataW.trod_bool Try.underlying4 g1
  obtain ⟨nn, r2, _, w2⟩ := DataW.trod_int Try.underlying2 g2
  obtain ⟨t, r3, _, w3⟩ := DataW.trod_string Try.underlying9 g3
  cases r0
  cases r1
  cases r2
  cases r3
  have b0 := bounds_u8 w0
  have b2 := bounds_i64 w2
  have b3 : t.size ≤ 9223372036854775807 := by unfold maxLen at w3; omega
  -- the bytes
  obtain ⟨ya, yc, y, r4, m1, m2, m3, m4⟩ : ∃ ya yc y, v4 = .slice ya y.length yc ∧ RowN W.heap.size W ya y ∧ Byts y ∧ (ya = none → y = [] ∧ yc = 0) ∧ y.length ≤ 9223372036854775807 := by
    rcases open_ints Try.underlying25 Try.underlying5 cells5 g4 with ⟨hcs, _⟩ | ⟨ad, l, c, zs, hcs, _, hl, hm, hz, _, hcell, hwz⟩
    · cases hcs
      exact ⟨none, 0, [], rfl, .inl rfl, (by intro c hc; simp at hc), fun _ => ⟨rfl, rfl⟩, by simp⟩
    · cases hcs
      obtain ⟨hr, hby, hlen, _, hmx, hbare⟩ := isrow_row (.inr ⟨ad, rfl, hl, hm, by simpa using hz, hcell, hwz⟩ : IsRow .u8 W (some ad) l c zs)
      refine ⟨some ad, c, zs.take l, by rw [hlen], ?_, hby, (by intro h; cases h), by unfold maxLen at hm; omega⟩
      rcases hr with h0 | ⟨b, off, e, hlt, hc⟩
      · exact .inl h0
      · exact .inr ⟨b, off, e, hlt, hc⟩
  subst r4
  -- the list
  obtain ⟨la, lc, l, r5, m5, m6, m7, s5⟩ : ∃ la lc, ∃ l : TL, v5 = .slice la l.list.length lc ∧ l.Mem W.heap.size W la 0 ∧ (la = none → l.list = [] ∧ lc = 0) ∧ l.list.length ≤ 9223372036854775807 ∧ l.Szd := by
    rcases DataW.trod_slice Try.underlying22 g5 with ⟨hcs, _⟩ | ⟨ad, len, cap, elems, rest, n', hn', hcs, _, _, hlc, hcm, hel, hat, _, _⟩
    · cases hcs
      exact ⟨none, 0, .nil, rfl, trivial, fun _ => ⟨rfl, rfl⟩, by simp [TL.list], trivial⟩
    · cases hcs
      have hone : ∀ i, i < len → ∃ v : T, (∃ b o, some ad = some (⟨b, o, none⟩ : Addr) ∧ b < W.heap.size ∧ ∀ x u, v.cells[x]? = some u → W.cell? ⟨b, o + i * 7 + x, none⟩ = some u) ∧ v.Mem W.heap.size W ∧ v.Szd := by
        intro i hi
        obtain ⟨y, ey⟩ := some_of (i := i) hel hi
        have h1 := hat i hi
        rw [ey, cells41] at h1
        obtain ⟨cs', hc1, hc2⟩ := Option.bind_eq_some_iff.1 h1
        obtain ⟨v, hv, hvm, hvs⟩ := ih n' (by omega) cs' _ hc2
        obtain ⟨_, hlen7, hcell⟩ := World.cells?_some hc1
        refine ⟨v, ?_, hvm, hvs⟩
        have hlv : v.cells.length = 7 := by rw [hv]; exact hlen7
        obtain ⟨b, o, spot⟩ := ad
        have hc0 := hcell 0 (by omega)
        obtain ⟨u0, hu0⟩ := some_of (i := 0) hlen7 (by omega)
        rw [hu0] at hc0
        have hspot : spot = none := by
          obtain ⟨y', ey'⟩ := some_of (i := 0) hel (by omega)
          have h2 := hat 0 (by omega)
          rw [ey', cells41] at h2
          obtain ⟨cs0, hc01, _⟩ := Option.bind_eq_some_iff.1 h2
          exact spot_of hc01 (by omega)
        subst hspot
        refine ⟨b, o, rfl, ?_, fun x u hu => ?_⟩
        · have := World.block_lt_of_cell? W _ hc0
          rw [Addr.add_lit, Addr.add_lit] at this
          exact this
        · have hx : x < 7 := by have := (List.getElem?_eq_some_iff.1 hu).1; omega
          have := hcell x hx
          rw [Addr.add_lit, Addr.add_lit, ← hv] at this
          rw [this, hu]
      obtain ⟨F, hF⟩ := choose_lt hone
      have := TL.of_mem (N := W.heap.size) (W := W) (a := some ad) F len 0 (fun j _ hj => hF j (by omega))
      exact ⟨some ad, cap, TL.of F 0 len, by rw [TL.of_len], this.1, (by intro h; cases h), by rw [TL.of_len]; unfold maxLen at hcm; omega, this.2⟩
  subst r5
  -- the fields
  obtain ⟨fa, fc, f, r6, m8, m9, m10, s6⟩ : ∃ fa fc, ∃ f : FL, v6 = .slice fa f.list.length fc ∧ f.Mem W.heap.size W fa 0 ∧ (fa = none → f.list = [] ∧ fc = 0) ∧ f.list.length ≤ 9223372036854775807 ∧ f.Szd := by
    rcases DataW.trod_slice Try.underlying39 g6 with ⟨hcs, _⟩ | ⟨ad, len, cap, elems, rest, n', hn', hcs, _, _, hlc, hcm, hel, hat, _, _⟩
    · cases hcs
      exact ⟨none, 0, .nil, rfl, trivial, fun _ => ⟨rfl, rfl⟩, by simp [FL.list], trivial⟩
    · cases hcs
      have hone : ∀ i, i < len → ∃ v : ByteArray × T, (∃ b o, some ad = some (⟨b, o, none⟩ : Addr) ∧ b < W.heap.size ∧ W.cell? ⟨b, o + i * 8, none⟩ = some (.string v.1) ∧ ∀ x u, v.2.cells[x]? = some u → W.cell? ⟨b, o + i * 8 + 1 + x, none⟩ = some u) ∧ v.2.Mem W.heap.size W ∧ v.1.size ≤ 9223372036854775807 ∧ v.2.Szd := by
        intro i hi
        obtain ⟨y, ey⟩ := some_of (i := i) hel hi
        have h1 := hat i hi
        rw [ey, cells63] at h1
        obtain ⟨cs', hc1, hc2⟩ := Option.bind_eq_some_iff.1 h1
        obtain ⟨z0, z1, n2, hn2, q0, q1⟩ := trod2 Try.underlying63 rfl rfl cells9 cells41 hc2
        obtain ⟨v, hv, hvm, hvs⟩ := ih n2 (by omega) _ _ q1
        obtain ⟨s, rs, _, ws⟩ := DataW.trod_string Try.underlying9 q0
        obtain ⟨_, hlen8, hcell⟩ := World.cells?_some hc1
        refine ⟨(s, v), ?_, hvm, by unfold maxLen at ws; simp only []; omega, hvs⟩
        obtain ⟨b, o, spot⟩ := ad
        have hc0 := hcell 0 (by omega)
        obtain ⟨u0, hu0⟩ := some_of (i := 0) hlen8 (by omega)
        rw [hu0] at hc0
        have hspot : spot = none := by
          obtain ⟨y', ey'⟩ := some_of (i := 0) hel (by omega)
          have h2 := hat 0 (by omega)
          rw [ey', cells63] at h2
          obtain ⟨cs0, hc01, _⟩ := Option.bind_eq_some_iff.1 h2
          exact spot_of hc01 (by omega)
        subst hspot
        have hs0 : u0 = .string s := by
          have := congrArg (fun l => l[0]?) rs
          simp [hu0] at this
          exact this
        subst hs0
        refine ⟨b, o, rfl, ?_, ?_, fun x u hu => ?_⟩
        · have := World.block_lt_of_cell? W _ hc0
          rw [Addr.add_lit, Addr.add_lit] at this
          exact this
        · rw [Addr.add_lit, Addr.add_lit] at hc0
          exact hc0
        · rw [hv] at hu
          have hx : x < 7 := by
            have := (List.getElem?_eq_some_iff.1 hu).1
            simp at this
            omega
          have := hcell (1 + x) (by omega)
          rw [Addr.add_lit, Addr.add_lit] at this
          have e : cs'[1 + x]? = some u := by
            have h5 := hu
            simp [hx] at h5
            rw [Nat.add_comm]
            exact h5
          rw [e] at this
          simpa [Nat.add_assoc] using this
      obtain ⟨F, hF⟩ := choose_lt hone
      have := FL.of_mem (N := W.heap.size) (W := W) (a := some ad) F len 0 (fun j _ hj => hF j (by omega))
      exact ⟨some ad, cap, FL.of F 0 len, by rw [FL.of_len], this.1, (by intro h; cases h), by rw [FL.of_len]; unfold maxLen at hcm; omega, this.2⟩
  subst r6
  exact ⟨.mk k bo nn t ya yc y la lc l fa fc f, rfl, ⟨m1, m2, m3, m4, m5, m6, m7, m8, m9, m10⟩, by omega, by omega, b3, s5, s6⟩
end Go.Proofs.Ytegoeaofjnpehaa
