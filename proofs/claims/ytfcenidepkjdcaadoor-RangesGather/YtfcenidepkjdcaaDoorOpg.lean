/- How a list of looks, and one of touches, that is handed in is read. -/
import Derived.Test.YtfcenidepkjdcaaDoorXau
import Derived.Test.YtfcenidepkjdcaaDoorThl
namespace Go.Proofs.YtfcenidepkjdcaaDoor
open Go.ChangeShapes Go.WideShapes Go.ChangeAt Go.RowKit Go.Deep
theorem choose_ltG {α : Type} [Inhabited α] {n : Nat} {P : Nat → α → Prop} (h : ∀ i, i < n → ∃ x, P i x) : ∃ F : Nat → α, ∀ i, i < n → P i (F i) :=
  ⟨fun i => if hi : i < n then (h i hi).choose else default, fun i hi => by
    show P i (if hi : i < n then (h i hi).choose else default)
    rw [dif_pos hi]
    exact (h i hi).choose_spec⟩
theorem of_range {α : Type} (F : Nat → α) (n : Nat) : ((List.range n).map F).length = n ∧ ∀ i x, ((List.range n).map F)[i]? = some x → i < n ∧ x = F i := by
  refine ⟨by simp, fun i x h => ?_⟩
  rw [List.getElem?_map] at h
  obtain ⟨k, h1, rfl⟩ := Option.map_eq_some_iff.1 h
  obtain ⟨h2, h3⟩ := List.getElem?_eq_some_iff.1 h1
  simp at h2 h3
  subst h3
  exact ⟨h2, rfl⟩
set_option maxRecDepth 100000 in
theorem open_looks {H : Type} {enc : TypeId × Value → H} {W : World} {r : Reach} {b0 : Nat} {v : Value} {d : DataW H} {p : List MemPlace}
    (hv : Value.okWide Tryd.prog W r b0 36 v) (h : DataW.Trod enc Tryd.prog W 0 (fun _ => true) true 36 v d p) :
    ∃ (l : List Rd) (a : Option Addr) (c : Nat), v = .slice a l.length c ∧ Lk W l a ∧ l.length ≤ maxLen := by
  have hsl : ∀ {a : Option Addr} {n c : Nat}, v.cells.toList = [.slice a n c] → v = .slice a n c := by
    intro a n c h
    simp only [Value.okWide, Tryd.underlying36, Cell.okWide] at hv
    cases v <;> simp_all [Value.cells, Cell.ok, Tryd.underlying36]
  obtain ⟨fuel, hf⟩ := h
  have hc25 : Tryd.prog.cellsOf 25 = 4 := by kernel_rfl
  rcases DataW.trod_slice Tryd.underlying36 hf with ⟨e, hx⟩ | ⟨a, len, cap, elems, rest, n', _, e, hx, _, hle, hcap, hel, hall, _, _⟩
  · exact ⟨[], none, 0, hsl e, fun h0 => absurd h0 (Nat.lt_irrefl _), Nat.zero_le _⟩
  · rw [hc25] at hall
    have each : ∀ i, i < len → ∃ r : Rd, W.cells? 0 (a.add (i * 4)) 4 = some r.cs := by
      intro i hi
      have hi' := hall i hi
      obtain ⟨y, hy⟩ := V.some_of (l := elems) (i := i) (by omega)
      rw [hy] at hi'
      obtain ⟨cs', h1, h2⟩ := Option.bind_eq_some_iff.1 hi'
      obtain ⟨tb, fl, lo, hi, rfl, -⟩ := open_rd h2
      exact ⟨⟨tb, fl, lo, hi⟩, h1⟩
    have : Inhabited Rd := ⟨⟨⟨#[]⟩, ⟨#[]⟩, ⟨#[]⟩, ⟨#[]⟩⟩⟩
    obtain ⟨F, hF⟩ := choose_ltG each
    obtain ⟨hl, hi⟩ := of_range F len
    refine ⟨(List.range len).map F, some a, cap, by rw [hl]; exact hsl e, fun h0 => ?_, by rw [hl]; omega⟩
    rw [hl] at h0
    obtain ⟨gb, go, spot⟩ := a
    have hce := fun i hi => World.cells?_some (hF i hi)
    have hspot : spot = none := by
      have := (hce 0 h0).2.2 0 (by omega)
      simpa [Addr.add] using World.cell?_spot this
    subst hspot
    have hcell : ∀ i, i < len → ∀ j, j < 4 → W.cell? ⟨gb, go + i * 4 + j, none⟩ = (F i).cs[j]? := fun i hi j hj => by
      have := (hce i hi).2.2 j hj
      rw [V.add_at, V.add_at] at this
      exact this
    refine ⟨gb, go, rfl, ?_, fun i x hx => ?_⟩
    · exact World.block_lt_of_cell? W _ ((hcell 0 h0 0 (by omega)).trans rfl)
    · obtain ⟨h1, rfl⟩ := hi i x hx
      exact ⟨hcell i h1 0 (by omega), hcell i h1 1 (by omega), hcell i h1 2 (by omega), hcell i h1 3 (by omega)⟩
set_option maxRecDepth 100000 in
theorem open_touches {H : Type} {enc : TypeId × Value → H} {W : World} {r : Reach} {b0 : Nat} {v : Value} {d : DataW H} {p : List MemPlace}
    (hv : Value.okWide Tryd.prog W r b0 37 v) (h : DataW.Trod enc Tryd.prog W 0 (fun _ => true) true 37 v d p) :
    ∃ (l : List Tc) (a : Option Addr) (c : Nat), v = .slice a l.length c ∧ Tl W l a ∧ l.length ≤ maxLen := by
  have hsl : ∀ {a : Option Addr} {n c : Nat}, v.cells.toList = [.slice a n c] → v = .slice a n c := by
    intro a n c h
    simp only [Value.okWide, Tryd.underlying37, Cell.okWide] at hv
    cases v <;> simp_all [Value.cells, Cell.ok, Tryd.underlying37]
  obtain ⟨fuel, hf⟩ := h
  have hc31 : Tryd.prog.cellsOf 31 = 16 := by kernel_rfl
  rcases DataW.trod_slice Tryd.underlying37 hf with ⟨e, hx⟩ | ⟨a, len, cap, elems, rest, n', _, e, hx, _, hle, hcap, hel, hall, _, _⟩
  · exact ⟨[], none, 0, hsl e, fun h0 => absurd h0 (Nat.lt_irrefl _), Nat.zero_le _⟩
  · rw [hc31] at hall
    have each : ∀ i, i < len → ∃ x : Tc, ∃ A C, W.cells? 0 (a.add (i * 16)) 16 = some (#[.string x.tb, .bool x.sh, .int .i64 x.T.k, .bool x.T.b, .int .i64 x.T.n, .string x.T.s, .slice A.pa x.T.m A.pc, .slice A.na x.T.q A.nc, .int .i64 x.U.k, .bool x.U.b, .int .i64 x.U.n, .string x.U.s, .slice C.pa x.U.m C.pc, .slice C.na x.U.q C.nc, .bool x.was, .bool x.is] : Array Value).toList ∧ V.Lies W.heap.size W x.T A ∧ V.Lies W.heap.size W x.U C := by
      intro i hi
      have hi' := hall i hi
      obtain ⟨y, hy⟩ := V.some_of (l := elems) (i := i) (by omega)
      rw [hy] at hi'
      obtain ⟨cs', h1, h2⟩ := Option.bind_eq_some_iff.1 hi'
      obtain ⟨tt, sh, t, A, u, C, was, is, rfl, k1, k2⟩ := open_th h2
      exact ⟨⟨tt, sh, t, u, was, is⟩, A, C, h1, k1, k2⟩
    have : Inhabited Tc := ⟨⟨⟨#[]⟩, false, .no, .no, false, false⟩⟩
    obtain ⟨F, hF⟩ := choose_ltG each
    obtain ⟨hl, hi⟩ := of_range F len
    refine ⟨(List.range len).map F, some a, cap, by rw [hl]; exact hsl e, fun h0 => ?_, by rw [hl]; omega⟩
    rw [hl] at h0
    obtain ⟨gb, go, spot⟩ := a
    have hspot : spot = none := by
      obtain ⟨A, C, k, -⟩ := hF 0 h0
      have := (World.cells?_some k).2.2 0 (by omega)
      simpa [Addr.add] using World.cell?_spot this
    subst hspot
    have hcell : ∀ i, i < len → AtT (fun k => k < W.heap.size) W gb (go + i * 16) (F i) := fun i hi => by
      obtain ⟨A, C, k, k1, k2⟩ := hF i hi
      refine ⟨A, C, fun j u hu => ?_, k1, k2⟩
      have hj : j < 16 := by
        have := (Array.getElem?_eq_some_iff.1 hu).1
        simpa using this
      have := (World.cells?_some k).2.2 j hj
      rw [V.add_at, V.add_at] at this
      rw [this]
      simpa using hu
    refine ⟨gb, go, rfl, ?_, fun i x hx => ?_⟩
    · obtain ⟨A, C, k, -⟩ := hcell 0 h0
      exact World.block_lt_of_cell? W _ (k 0 _ rfl)
    · obtain ⟨h1, rfl⟩ := hi i x hx
      exact hcell i h1
end Go.Proofs.YtfcenidepkjdcaaDoor
