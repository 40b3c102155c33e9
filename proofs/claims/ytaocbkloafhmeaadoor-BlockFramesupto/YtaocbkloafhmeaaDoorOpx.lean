/- How a block that is handed in is read: its numbers, its texts and its revisions, with their memory; and what a bound of the reading says of its texts. What the bulk of a block that is handed in says of its texts and of how many revisions it has. -/
import Derived.Test.YtaocbkloafhmeaaDoorShr
import Derived.Test.YtaocbkloafhmeaaDoorRex
import Derived.Deep.Strs
import Derived.Deep.Fields
import Derived.SizedLaws
import Derived.Test.YtaocbkloafhmeaaDoorRows
import Derived.Test.YtaocbkloafhmeaaDoorRfr
namespace Go.Proofs.YtaocbkloafhmeaaDoor
open Go.ChangeShapes Go.WideShapes Go.ChangeAt Go.WideMaps Go.WideElems Go.RowKit Go.Deep
theorem add_at (g q n : Nat) : (⟨g, q, none⟩ : Addr).add n = ⟨g, q + n, none⟩ := by unfold Addr.add; split <;> simp_all
theorem some_of {α : Type} {l : List α} {i : Nat} (h : i < l.length) : ∃ x, l[i]? = some x := ⟨l[i], List.getElem?_eq_getElem h⟩
theorem eight_of {l : List Value} (h : l.length = 8) : ∃ a b c d e f g k, l = [a, b, c, d, e, f, g, k] := by
  match l, h with
  | [a, b, c, d, e, f, g, k], _ => exact ⟨a, b, c, d, e, f, g, k, rfl⟩
theorem four_of {l : List Value} (h : l.length = 4) : ∃ a b c d, l = [a, b, c, d] := by
  match l, h with
  | [a, b, c, d], _ => exact ⟨a, b, c, d, rfl⟩
theorem four_xs {α : Type} {l : List α} {y0 y1 y2 y3 : α} (h : l.length = 4) (e0 : l[0]? = some y0) (e1 : l[1]? = some y1) (e2 : l[2]? = some y2) (e3 : l[3]? = some y3) : l = [y0, y1, y2, y3] := by
  match l, h with
  | [a0, a1, a2, a3], _ =>
    simp only [List.getElem?_cons_zero, List.getElem?_cons_succ, Option.some.injEq] at e0 e1 e2 e3
    rw [e0, e1, e2, e3]
def revD {H : Type} (r : Rv) : DataW H := .agg [.lit (.int .i64 r.op), .lit (.string r.t.data.toList), .lit (.string r.f.data.toList), .lit (.int .u64 (r.d : Int)), .lit (.int .u64 (r.v : Int)), .lit (.string r.h.data.toList), .lit (.string r.b.data.toList), .lit (.bool r.g)]
/- The numbers of a revision are those of their types. -/
structure Rv.num (r : Rv) : Prop where
  op0 : -9223372036854775808 ≤ r.op
  op1 : r.op < 9223372036854775808
  d : r.d < 18446744073709551616
  v : r.v < 18446744073709551616
structure Rv.le (K : Nat) (r : Rv) : Prop where
  t : r.t.size ≤ K
  f : r.f.size ≤ K
  h : r.h.size ≤ K
  b : r.b.size ≤ K
theorem u64_of {z : Int} (h : (Lit.int .u64 z).wf = true) : ∃ n : Nat, z = (n : Int) ∧ n < 18446744073709551616 := by
  have := bounds_u64 h
  exact ⟨z.toNat, by omega, by omega⟩
set_option maxRecDepth 100000 in
theorem open_rev {H : Type} {enc : TypeId × Value → H} {W : World} {fuel : Nat} {cs : List Value} {x : DataW H × List MemPlace}
    (h : DataW.trod enc Tryd.prog W 0 (fun _ => true) true fuel 24 cs = some x) : ∃ r : Rv, cs = r.cs.toList ∧ r.num ∧ x.1 = revD r := by
  obtain ⟨xs, n, rfl, hx, hl, hxl, hf⟩ := DataW.trod_struct Tryd.underlying24 h
  have hc24 : Tryd.prog.cellsOf 24 = 8 := by kernel_rfl
  rw [hc24] at hl
  obtain ⟨c0, c1, c2, c3, c4, c5, c6, c7, rfl⟩ := eight_of hl
  have hxl' : xs.length = 8 := hxl
  have hc3 : Tryd.prog.cellsOf 3 = 1 := by kernel_rfl
  have hc4 : Tryd.prog.cellsOf 4 = 1 := by kernel_rfl
  have hc22 : Tryd.prog.cellsOf 22 = 1 := by kernel_rfl
  have hc9 : Tryd.prog.cellsOf 9 = 1 := by kernel_rfl
  obtain ⟨y0, e0⟩ := some_of (l := xs) (i := 0) (by omega)
  obtain ⟨y1, e1⟩ := some_of (l := xs) (i := 1) (by omega)
  obtain ⟨y2, e2⟩ := some_of (l := xs) (i := 2) (by omega)
  obtain ⟨y3, e3⟩ := some_of (l := xs) (i := 3) (by omega)
  obtain ⟨y4, e4⟩ := some_of (l := xs) (i := 4) (by omega)
  obtain ⟨y5, e5⟩ := some_of (l := xs) (i := 5) (by omega)
  obtain ⟨y6, e6⟩ := some_of (l := xs) (i := 6) (by omega)
  obtain ⟨y7, e7⟩ := some_of (l := xs) (i := 7) (by omega)
  have f0 : DataW.trod enc Tryd.prog W 0 (fun _ => true) true n 3 [c0] = some y0 := by
    have g : (List.take (Tryd.prog.cellsOf 3) (List.drop 0 [c0, c1, c2, c3, c4, c5, c6, c7])) = [c0] := by rw [hc3]; rfl
    rw [← g, ← e0]
    exact hf 0 _ rfl
  have f1 : DataW.trod enc Tryd.prog W 0 (fun _ => true) true n 9 [c1] = some y1 := by
    have g : (List.take (Tryd.prog.cellsOf 9) (List.drop 1 [c0, c1, c2, c3, c4, c5, c6, c7])) = [c1] := by rw [hc9]; rfl
    rw [← g, ← e1]
    exact hf 1 _ rfl
  have f2 : DataW.trod enc Tryd.prog W 0 (fun _ => true) true n 9 [c2] = some y2 := by
    have g : (List.take (Tryd.prog.cellsOf 9) (List.drop 2 [c0, c1, c2, c3, c4, c5, c6, c7])) = [c2] := by rw [hc9]; rfl
    rw [← g, ← e2]
    exact hf 2 _ rfl
  have f3 : DataW.trod enc Tryd.prog W 0 (fun _ => true) true n 22 [c3] = some y3 := by
    have g : (List.take (Tryd.prog.cellsOf 22) (List.drop 3 [c0, c1, c2, c3, c4, c5, c6, c7])) = [c3] := by rw [hc22]; rfl
    rw [← g, ← e3]
    exact hf 3 _ rfl
  have f4 : DataW.trod enc Tryd.prog W 0 (fun _ => true) true n 22 [c4] = some y4 := by
    have g : (List.take (Tryd.prog.cellsOf 22) (List.drop 4 [c0, c1, c2, c3, c4, c5, c6, c7])) = [c4] := by rw [hc22]; rfl
    rw [← g, ← e4]
    exact hf 4 _ rfl
  have f5 : DataW.trod enc Tryd.prog W 0 (fun _ => true) true n 9 [c5] = some y5 := by
    have g : (List.take (Tryd.prog.cellsOf 9) (List.drop 5 [c0, c1, c2, c3, c4, c5, c6, c7])) = [c5] := by rw [hc9]; rfl
    rw [← g, ← e5]
    exact hf 5 _ rfl
  have f6 : DataW.trod enc Tryd.prog W 0 (fun _ => true) true n 9 [c6] = some y6 := by
    have g : (List.take (Tryd.prog.cellsOf 9) (List.drop 6 [c0, c1, c2, c3, c4, c5, c6, c7])) = [c6] := by rw [hc9]; rfl
    rw [← g, ← e6]
    exact hf 6 _ rfl
  have f7 : DataW.trod enc Tryd.prog W 0 (fun _ => true) true n 4 [c7] = some y7 := by
    have g : (List.take (Tryd.prog.cellsOf 4) (List.drop 7 [c0, c1, c2, c3, c4, c5, c6, c7])) = [c7] := by rw [hc4]; rfl
    rw [← g, ← e7]
    exact hf 7 _ rfl
  obtain ⟨k0, g0, z0, w0⟩ := DataW.trod_int Tryd.underlying3 f0
  obtain ⟨s1, g1, z1, _⟩ := DataW.trod_string Tryd.underlying9 f1
  obtain ⟨s2, g2, z2, _⟩ := DataW.trod_string Tryd.underlying9 f2
  obtain ⟨k3, g3, z3, w3⟩ := DataW.trod_int Tryd.underlying22 f3
  obtain ⟨k4, g4, z4, w4⟩ := DataW.trod_int Tryd.underlying22 f4
  obtain ⟨s5, g5, z5, _⟩ := DataW.trod_string Tryd.underlying9 f5
  obtain ⟨s6, g6, z6, _⟩ := DataW.trod_string Tryd.underlying9 f6
  obtain ⟨b7, g7, z7⟩ := DataW.trod_bool Tryd.underlying4 f7
  simp only [List.cons.injEq, and_true] at g0 g1 g2 g3 g4 g5 g6 g7
  subst g0 g1 g2 g3 g4 g5 g6 g7
  have bk := bounds_i64 w0
  obtain ⟨n3, rfl, hn3⟩ := u64_of w3
  obtain ⟨n4, rfl, hn4⟩ := u64_of w4
  refine ⟨⟨k0, s1, s2, n3, n4, s5, s6, b7⟩, rfl, ⟨by show _ ≤ k0; omega, by show k0 < _; omega, hn3, hn4⟩, ?_⟩
  rw [hx]
  show DataW.agg (xs.map (·.1)) = _
  have hxs : xs = [y0, y1, y2, y3, y4, y5, y6, y7] := by
    match xs, hxl' with
    | [a0, a1, a2, a3, a4, a5, a6, a7], _ =>
      simp only [List.getElem?_cons_zero, List.getElem?_cons_succ, Option.some.injEq] at e0 e1 e2 e3 e4 e5 e6 e7
      rw [e0, e1, e2, e3, e4, e5, e6, e7]
  rw [hxs, z0, z1, z2, z3, z4, z5, z6, z7]
  rfl
/- A list of revisions as it was handed in. -/
structure Raw (W : World) (p : Option Addr) (n c : Nat) (R : Nat → Rv) : Prop where
  cap : n ≤ c ∧ c ≤ maxLen
  num : ∀ i, i < n → (R i).num
  at' : 0 < n → ∃ b o, p = some ⟨b, o, none⟩ ∧ b < W.heap.size ∧ ∀ i, i < n → At8 W b (o + i * 8) (R i)
def listD {H : Type} (n : Nat) (R : Nat → Rv) (d : DataW H) : Prop := (n = 0 ∧ d = .nil) ∨ ∃ spare, d = .slice ((List.range n).map (fun i => revD (R i))) spare
set_option maxRecDepth 100000 in
theorem open_revs {H : Type} {enc : TypeId × Value → H} {W : World} {fuel : Nat} {cs : List Value} {x : DataW H × List MemPlace}
    (h : DataW.trod enc Tryd.prog W 0 (fun _ => true) true fuel 36 cs = some x) : ∃ (p : Option Addr) (n c : Nat) (R : Nat → Rv), cs = [.slice p n c] ∧ Raw W p n c R ∧ listD n R x.1 := by
  have hc24 : Tryd.prog.cellsOf 24 = 8 := by kernel_rfl
  rcases DataW.trod_slice Tryd.underlying36 h with ⟨rfl, hx⟩ | ⟨a, len, cap, elems, rest, n', rfl, rfl, hx, _, hle, hcap, hel, hall, _, _⟩
  · exact ⟨none, 0, 0, fun _ => ⟨0, ⟨#[]⟩, ⟨#[]⟩, 0, 0, ⟨#[]⟩, ⟨#[]⟩, false⟩, rfl, ⟨⟨Nat.le_refl _, Nat.zero_le _⟩, fun i hi => absurd hi (Nat.not_lt_zero _), fun h0 => absurd h0 (Nat.lt_irrefl _)⟩, Or.inl ⟨rfl, by rw [hx]⟩⟩
  · rw [hc24] at hall
    have each : ∀ i, i < len → ∃ r : Rv, W.cells? 0 (a.add (i * 8)) 8 = some r.cs.toList ∧ r.num ∧ ∃ y, elems[i]? = some y ∧ y.1 = revD r := by
      intro i hi
      have hi' := hall i hi
      obtain ⟨y, hy⟩ := some_of (l := elems) (i := i) (by omega)
      rw [hy] at hi'
      obtain ⟨cs', h1, h2⟩ := Option.bind_eq_some_iff.1 hi'
      obtain ⟨r, rfl, h3, h4⟩ := open_rev h2
      exact ⟨r, h1, h3, y, hy, h4⟩
    haveI : Inhabited Rv := ⟨⟨0, ⟨#[]⟩, ⟨#[]⟩, 0, 0, ⟨#[]⟩, ⟨#[]⟩, false⟩⟩
    obtain ⟨F, hF⟩ := choose_lt each
    refine ⟨some a, len, cap, F, rfl, ⟨⟨hle, hcap⟩, fun i hi => (hF i hi).2.1, fun h0 => ?_⟩, Or.inr ⟨rest.map (·.1), ?_⟩⟩
    · obtain ⟨gb, go, spot⟩ := a
      have hce := fun i hi => World.cells?_some (hF i hi).1
      have hspot : spot = none := by
        have := (hce 0 h0).2.2 0 (by omega)
        simpa [Addr.add] using World.cell?_spot this
      subst hspot
      have hcell : ∀ i, i < len → ∀ j, j < 8 → W.cell? ⟨gb, go + i * 8 + j, none⟩ = (F i).cs.toList[j]? := fun i hi j hj => by
        have := (hce i hi).2.2 j hj
        rw [add_at, add_at] at this
        exact this
      refine ⟨gb, go, rfl, ?_, fun i hi => ⟨hcell i hi 0 (by omega), hcell i hi 1 (by omega), hcell i hi 2 (by omega), hcell i hi 3 (by omega), hcell i hi 4 (by omega), hcell i hi 5 (by omega), hcell i hi 6 (by omega), hcell i hi 7 (by omega)⟩⟩
      exact World.block_lt_of_cell? W _ ((hcell 0 h0 0 (by omega)).trans rfl)
    · rw [hx]
      show DataW.slice (elems.map (·.1)) _ = _
      congr 1
      refine List.ext_getElem? (fun i => ?_)
      by_cases hi : i < len
      · obtain ⟨_, _, y, h1, h2⟩ := hF i hi
        rw [List.getElem?_map, h1, List.getElem?_map, List.getElem?_range hi]
        exact congrArg some h2
      · rw [List.getElem?_eq_none (by simp; omega), List.getElem?_eq_none (by simp; omega)]
def blockD {H : Type} (X : Bk) (d3 : DataW H) : DataW H := .agg [.lit (.int .u64 (X.seq : Int)), .lit (.string X.prev.data.toList), .lit (.int .u64 (X.tx : Int)), d3]
set_option maxRecDepth 100000 in
theorem open_block {H : Type} {enc : TypeId × Value → H} {W : World} {r : Reach} {b0 : Nat} {v : Value} {d : DataW H} {p : List MemPlace}
    (hv : Value.okWide Tryd.prog W r b0 38 v) (h : DataW.Trod enc Tryd.prog W 0 (fun _ => true) true 38 v d p) :
    ∃ (X : Bk) (a : Option Addr) (c : Nat) (d3 : DataW H), v = X.val a c ∧ Raw W a X.n c X.R ∧ X.seq < 18446744073709551616 ∧ X.tx < 18446744073709551616 ∧ d = blockD X d3 ∧ listD X.n X.R d3 := by
  simp only [Value.okWide, Tryd.underlying38] at hv
  obtain ⟨cs, rfl, hsz, _⟩ := hv
  obtain ⟨fuel, hf⟩ := h
  obtain ⟨xs, n, rfl, hx, hl, hxl, hff⟩ := DataW.trod_struct Tryd.underlying38 hf
  have hc38 : Tryd.prog.cellsOf 38 = 4 := by kernel_rfl
  rw [hc38] at hl
  obtain ⟨c0, c1, c2, c3, hcs⟩ := four_of hl
  have hcs' : cs = #[c0, c1, c2, c3] := by
    have : cs.toList = [c0, c1, c2, c3] := by simpa [Value.cells] using hcs
    rw [← Array.toList_inj]
    exact this
  rw [hcs] at hff
  have hxl' : xs.length = 4 := hxl
  have hc22 : Tryd.prog.cellsOf 22 = 1 := by kernel_rfl
  have hc9 : Tryd.prog.cellsOf 9 = 1 := by kernel_rfl
  have hc36 : Tryd.prog.cellsOf 36 = 1 := by kernel_rfl
  obtain ⟨y0, e0⟩ := some_of (l := xs) (i := 0) (by omega)
  obtain ⟨y1, e1⟩ := some_of (l := xs) (i := 1) (by omega)
  obtain ⟨y2, e2⟩ := some_of (l := xs) (i := 2) (by omega)
  obtain ⟨y3, e3⟩ := some_of (l := xs) (i := 3) (by omega)
  have f0 : DataW.trod enc Tryd.prog W 0 (fun _ => true) true n 22 [c0] = some y0 := by
    have g : (List.take (Tryd.prog.cellsOf 22) (List.drop 0 [c0, c1, c2, c3])) = [c0] := by rw [hc22]; rfl
    rw [← g, ← e0]
    exact hff 0 _ rfl
  have f1 : DataW.trod enc Tryd.prog W 0 (fun _ => true) true n 9 [c1] = some y1 := by
    have g : (List.take (Tryd.prog.cellsOf 9) (List.drop 1 [c0, c1, c2, c3])) = [c1] := by rw [hc9]; rfl
    rw [← g, ← e1]
    exact hff 1 _ rfl
  have f2 : DataW.trod enc Tryd.prog W 0 (fun _ => true) true n 22 [c2] = some y2 := by
    have g : (List.take (Tryd.prog.cellsOf 22) (List.drop 2 [c0, c1, c2, c3])) = [c2] := by rw [hc22]; rfl
    rw [← g, ← e2]
    exact hff 2 _ rfl
  have f3 : DataW.trod enc Tryd.prog W 0 (fun _ => true) true n 36 [c3] = some y3 := by
    have g : (List.take (Tryd.prog.cellsOf 36) (List.drop 3 [c0, c1, c2, c3])) = [c3] := by rw [hc36]; rfl
    rw [← g, ← e3]
    exact hff 3 _ rfl
  obtain ⟨k0, g0, z0, w0⟩ := DataW.trod_int Tryd.underlying22 f0
  obtain ⟨s1, g1, z1, _⟩ := DataW.trod_string Tryd.underlying9 f1
  obtain ⟨k2, g2, z2, w2⟩ := DataW.trod_int Tryd.underlying22 f2
  obtain ⟨a, m, c, R, g3, hR, hD⟩ := open_revs f3
  simp only [List.cons.injEq, and_true] at g0 g1 g2 g3
  subst g0 g1 g2 g3
  obtain ⟨n0, rfl, hn0⟩ := u64_of w0
  obtain ⟨n2, rfl, hn2⟩ := u64_of w2
  refine ⟨⟨n0, s1, n2, m, R⟩, a, c, y3.1, ?_, hR, hn0, hn2, ?_, hD⟩
  · rw [hcs']; rfl
  · have hd : d = DataW.agg (xs.map (·.1)) := congrArg Prod.fst hx
    rw [hd]
    have hxs : xs = [y0, y1, y2, y3] := four_xs hxl' e0 e1 e2 e3
    rw [hxs, z0, z1, z2]
    rfl
/- What a bound of all weights, or of the bulk, says of the texts. -/
structure Bk.le (K : Nat) (X : Bk) : Prop where
  prev : X.prev.size ≤ K
  rev : ∀ i, i < X.n → (X.R i).le K
theorem weightsAll_mem {H : Type} {P : Program} {e : TypeId} : ∀ {l : List (DataW H)} {d : DataW H}, d ∈ l → ∀ n ∈ d.weights P e, n ∈ DataW.weightsAll P e l
  | d0 :: l, d, hd, n, hn => by
    simp only [DataW.weightsAll, List.mem_append]
    rcases List.mem_cons.1 hd with rfl | hd
    · exact Or.inl hn
    · exact Or.inr (weightsAll_mem hd n hn)
theorem rev_weights {H : Type} (r : Rv) (n : Nat) (h : n = r.t.size ∨ n = r.f.size ∨ n = r.h.size ∨ n = r.b.size) : n ∈ DataW.weights Tryd.prog 24 (revD (H := H) r) := by
  unfold revD
  simp only [DataW.weights, Tryd.underlying24, DataW.weightsEach, List.map_cons, List.map_nil, List.mem_append, List.mem_cons, List.not_mem_nil, or_false, false_or]
  have q1 := Lib.size_eq r.t
  have q2 := Lib.size_eq r.f
  have q3 := Lib.size_eq r.h
  have q4 := Lib.size_eq r.b
  omega
theorem block_weights {H : Type} {X : Bk} {d3 : DataW H} (hD : listD X.n X.R d3) {K : Nat} (h : ∀ n ∈ DataW.weights Tryd.prog 38 (blockD X d3), n ≤ K) : X.le K := by
  have h38 : ∀ n, n = X.prev.size ∨ n ∈ DataW.weights Tryd.prog 36 d3 → n ∈ DataW.weights Tryd.prog 38 (blockD X d3) := fun n hn => by
    unfold blockD
    simp only [DataW.weights, Tryd.underlying38, DataW.weightsEach, List.map_cons, List.map_nil, List.mem_append, List.mem_cons, List.not_mem_nil, or_false, false_or]
    rcases hn with hn | hn
    · exact Or.inl (by rw [hn, Lib.size_eq])
    · exact Or.inr hn
  refine ⟨h _ (h38 _ (Or.inl rfl)), fun i hi => ?_⟩
  rcases hD with ⟨h0, _⟩ | ⟨spare, rfl⟩
  · omega
  · have hm : ∀ n ∈ DataW.weights Tryd.prog 24 (revD (H := H) (X.R i)), n ≤ K := fun n hn => by
      refine h n (h38 n (Or.inr ?_))
      simp only [DataW.weights, Tryd.underlying36, List.mem_cons, List.mem_append]
      exact Or.inr (Or.inl (weightsAll_mem (List.mem_map.2 ⟨i, List.mem_range.2 hi, rfl⟩) n hn))
    exact ⟨hm _ (rev_weights _ _ (by simp)), hm _ (rev_weights _ _ (by simp)), hm _ (rev_weights _ _ (by simp)), hm _ (rev_weights _ _ (by simp))⟩
theorem Raw.revs {W : World} {p : Option Addr} {c : Nat} {X : Bk} (h : Raw W p X.n c X.R) (hl : X.le 1125899906842624) : Revs W p X.n c X.R :=
  ⟨h.cap, fun i hi => ⟨(h.num i hi).op0, (h.num i hi).op1, (h.num i hi).d, (h.num i hi).v, (hl.rev i hi).t, (hl.rev i hi).f, (hl.rev i hi).h, (hl.rev i hi).b⟩, h.at'⟩
theorem Bk.le.mono {K L : Nat} {X : Bk} (h : X.le K) (hKL : K ≤ L) : X.le L :=
  ⟨Nat.le_trans h.prev hKL, fun i hi => ⟨Nat.le_trans (h.rev i hi).t hKL, Nat.le_trans (h.rev i hi).f hKL, Nat.le_trans (h.rev i hi).h hKL, Nat.le_trans (h.rev i hi).b hKL⟩⟩
end Go.Proofs.YtaocbkloafhmeaaDoor
namespace Go.Proofs.YtaocbkloafhmeaaDoor
open Go.RowKit
def revW (R : Nat → Rv) : Nat → Nat
  | 0 => 0
  | n + 1 => revW R n + ((R n).t.size + (R n).f.size + (R n).h.size + (R n).b.size + 9)
theorem bulkAll_append {H : Type} : ∀ (a b : List (DataW H)), Rows.uptoBulkAll (a ++ b) = Rows.uptoBulkAll a + Rows.uptoBulkAll b
  | [], b => by simp [Rows.uptoBulkAll]
  | d :: a, b => by
    rw [List.cons_append, Rows.uptoBulkAll, Rows.uptoBulkAll, bulkAll_append a b]
    omega
theorem bulk_part {H : Type} : ∀ {l : List (DataW H)} {d : DataW H}, d ∈ l → Rows.uptoBulk d ≤ Rows.uptoBulkAll l
  | d0 :: l, d, h => by
    rw [Rows.uptoBulkAll]
    rcases List.mem_cons.1 h with rfl | h
    · omega
    · have := bulk_part h
      omega
theorem bulk_rev {H : Type} (r : Rv) : Rows.uptoBulk (revD (H := H) r) = r.t.size + r.f.size + r.h.size + r.b.size + 9 := by
  unfold revD
  simp only [Rows.uptoBulk, Rows.uptoBulkAll, ← Lib.size_eq]
  omega
theorem bulk_revs {H : Type} (R : Nat → Rv) : ∀ n, Rows.uptoBulkAll ((List.range n).map (fun i => revD (H := H) (R i))) = revW R n
  | 0 => by simp [Rows.uptoBulkAll, revW]
  | n + 1 => by
    rw [List.range_succ, List.map_append, bulkAll_append, bulk_revs R n]
    simp only [List.map_cons, List.map_nil, Rows.uptoBulkAll, bulk_rev, revW]
theorem revW_one {R : Nat → Rv} : ∀ {n i : Nat}, i < n → (R i).t.size + (R i).f.size + (R i).h.size + (R i).b.size + 9 ≤ revW R n
  | 0, _, h => absurd h (by omega)
  | n + 1, i, h => by
    unfold revW
    by_cases e : i = n
    · subst e; omega
    · have := revW_one (R := R) (n := n) (i := i) (by omega)
      omega
theorem revW_n (R : Nat → Rv) : ∀ n, 9 * n ≤ revW R n
  | 0 => Nat.zero_le _
  | n + 1 => by
    have := revW_n R n
    unfold revW
    omega
structure Bk.most (K : Nat) (X : Bk) : Prop where
  le : X.le K
  all : X.prev.size + revW X.R X.n ≤ K
  n : 9 * X.n ≤ K
theorem block_bulk {H : Type} {X : Bk} {d3 : DataW H} (hD : listD X.n X.R d3) {K : Nat} (h : Rows.uptoBulk (blockD X d3) ≤ K) : X.most K := by
  unfold blockD at h
  simp only [Rows.uptoBulk, Rows.uptoBulkAll, ← Lib.size_eq] at h
  have h1 : revW X.R X.n ≤ Rows.uptoBulk d3 := by
    rcases hD with ⟨h0, _⟩ | ⟨spare, rfl⟩
    · rw [h0]; exact Nat.zero_le _
    · rw [Rows.uptoBulk, bulk_revs]
      omega
  have h2 := revW_n X.R X.n
  refine ⟨⟨by omega, fun i hi => ?_⟩, by omega, by omega⟩
  have h3 := revW_one (R := X.R) hi
  exact ⟨by omega, by omega, by omega, by omega⟩
theorem frameS_most {x : Bk} (hx : x.fit) (hn : x.n ≤ 1000) (hr : ∀ i, i < x.n → (x.R i).fit) : ∀ i, i ≤ x.n → (frameS x i).size ≤ x.prev.size + 40 + revW x.R i + 51 * i
  | 0, _ => by
    have h1 := headT_size hx hn
    show (headT x).size ≤ _
    omega
  | i + 1, hi => by
    have h1 := frameS_most hx hn hr i (by omega)
    have h2 := metaT_size (hr i (by omega))
    show (frameS x i ++ metaT (x.R i)).size ≤ _
    rw [ByteArray.size_append]
    unfold revW
    omega
end Go.Proofs.YtaocbkloafhmeaaDoor
