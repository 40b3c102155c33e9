/- 'a, b := f(x), g(y)' where both calls make memory: whatever order is drawn, both values lie there, each in a box of its own. -/
import Derived.Test.YtaacbcnpagpdnaaDoorKbef
import Derived.Test.YtaacbcnpagpdnaaDoorMine
import Derived.Orders
import Derived.Laws.Tables
import Derived.Laws.CopyOwn
namespace Go.Proofs.YtaacbcnpagpdnaaDoor
open Go.RowKit
theorem set_len (l : Array Bool) (i : Nat) : (l.setIfInBounds i true).size = l.size := by simp
def unl (l : Array Bool) : Nat := (l.toList.filter (fun b => !b)).length
theorem unl_set {l : Array Bool} {i : Nat} (hi : i < l.size) (h : l.getD i true = false) : unl (l.setIfInBounds i true) + 1 = unl l := by
  unfold unl
  rw [Array.toList_setIfInBounds]
  have hi' : i < l.toList.length := by simpa using hi
  have hg : l.toList[i] = false := by
    simp only [Array.getD, hi, dite_true] at h
    simpa using h
  have e : l.toList = l.toList.take i ++ false :: l.toList.drop (i + 1) := by
    rw [← hg, ← List.drop_eq_getElem_cons hi', List.take_append_drop]
  have e2 : l.toList.set i true = l.toList.take i ++ true :: l.toList.drop (i + 1) := List.set_eq_take_append_cons_drop.trans (by rw [if_pos hi'])
  have e3 : (l.toList.filter (fun b => !b)).length = ((l.toList.take i ++ false :: l.toList.drop (i + 1)).filter (fun b => !b)).length := by rw [← e]
  rw [e2, e3, List.filter_append, List.filter_append, List.length_append, List.length_append, List.filter_cons_of_neg (by simp), List.filter_cons_of_pos (by simp), List.length_cons]
  omega
theorem ready_unl {md : Region.Mode} {ops : Array Oper} {l : Array Bool} (h : unl l = 0) (hs : l.size = ops.size) : Region.ready md ops l = [] := by
  unfold Region.ready
  rw [List.filter_eq_nil_iff]
  intro i hi
  have hi' : i < l.size := by rw [hs]; exact List.mem_range.1 hi
  have : l.getD i true = true := by
    cases k : l.getD i true with
    | true => rfl
    | false => have := unl_set hi' k; omega
  rw [this]
  simp
theorem any_inv {P : Program} {md : Region.Mode} {ops : Array Oper} {Q : Exit → Act → World → Prop} (I : Array Bool → Act → World → Prop)
    (hsz : ∀ l a w, I l a w → l.size = ops.size) (hdone : ∀ l a w, I l a w → Region.ready md ops l = [] → Q .normal a w)
    (hstep : ∀ l a w, I l a w → ∀ i ∈ Region.ready md ops l, wpOp P ops Q i (I (l.setIfInBounds i true)) a w) :
    ∀ (fuel : Nat) (l : Array Bool) (a : Act) (w : World), unl l ≤ fuel → I l a w → wpAny P md ops Q fuel l a w := by
  intro fuel
  induction fuel with
  | zero =>
    intro l a w hf h
    have hr := ready_unl (md := md) (ops := ops) (by omega : unl l = 0) (hsz l a w h)
    exact ⟨hr, hdone l a w h hr⟩
  | succ fuel ih =>
    intro l a w hf h
    refine ⟨hdone l a w h, fun i hi => ?_⟩
    refine wpOp_mono (fun a' w' h' => ih _ _ _ ?_ h') (hstep l a w h i hi)
    unfold Region.ready at hi
    rw [List.mem_filter, List.mem_range] at hi
    obtain ⟨h1, h2⟩ := hi
    simp only [Bool.and_eq_true, Bool.not_eq_true'] at h2
    have := unl_set (l := l) (i := i) (by rw [hsz l a w h]; exact h1) h2.1
    omega
theorem put_size' (a : Act) (d : Nat) (v : Value) : (a.put (some d) v).tmps.size = a.tmps.size := by simp [Act.put]
theorem put_ne {a : Act} {d j : Nat} {v : Value} (h : d ≠ j) : (a.put (some d) v).tmps.getD j undef = a.tmps.getD j undef := by
  simp only [Act.put, Array.getD_eq_getD_getElem?]
  rw [Array.getElem?_setIfInBounds_ne h]
theorem put_eq {a : Act} {d : Nat} {v : Value} (h : d < a.tmps.size) : (a.put (some d) v).tmps.getD d undef = v := by
  simp only [Act.put, Array.getD_eq_getD_getElem?]
  rw [Array.getElem?_setIfInBounds_self_of_lt h]
  rfl
theorem put_none_tmps (a : Act) (v : Value) : a.put none v = a := rfl
theorem lset {l : Array Bool} {i j : Nat} (h : i ≠ j) : (l.setIfInBounds i true).getD j false = l.getD j false := by
  simp only [Array.getD_eq_getD_getElem?]
  rw [Array.getElem?_setIfInBounds_ne h]
theorem fresh_at {l : Array Bool} {i : Nat} (h : l.getD i true = false) : l.getD i false = false := by
  simp only [Array.getD_eq_getD_getElem?] at h ⊢
  cases k : l[i]? with
  | none => rfl
  | some b => rw [k] at h; exact h
/- What holds while such a region goes on. -/
structure PI (ty : TypeId) (d0 d1 d2 d3 s5 s6 : Nat) (ra rb : Array Value) (T U : Tr) (a0 : Act) (w0 : World) (l : Array Bool) (a : Act) (w : World) (z5 z6 : Nat) (A C : Ad) : Prop where
  len : l.size = 8
  df : a.defers = a0.defers
  sz : a.tmps.size = a0.tmps.size
  rest : ∀ j, j ≠ d0 → j ≠ d1 → j ≠ d2 → j ≠ d3 → j ≠ s5 → j ≠ s6 → a.tmps.getD j undef = a0.tmps.getD j undef
  v0 : l.getD 0 false = true → a.tmps.getD d0 undef = .agg ra
  v1 : l.getD 1 false = true → a.tmps.getD d1 undef = T.val A
  v2 : l.getD 2 false = true → a.tmps.getD d2 undef = .agg rb
  v3 : l.getD 3 false = true → a.tmps.getD d3 undef = U.val C
  v4 : l.getD 4 false = true → a.tmps.getD s5 undef = .pointer (some ⟨z5, 0, none⟩)
  v5 : l.getD 5 false = true → a.tmps.getD s6 undef = .pointer (some ⟨z6, 0, none⟩)
  hb : Below w0.heap.size w0 w
  l1 : l.getD 1 false = true → LiesS (fun k => k < w.heap.size ∧ (l.getD 4 false = true → k ≠ z5) ∧ (l.getD 5 false = true → k ≠ z6)) w T A
  l3 : l.getD 3 false = true → LiesS (fun k => k < w.heap.size ∧ (l.getD 4 false = true → k ≠ z5) ∧ (l.getD 5 false = true → k ≠ z6)) w U C
  b5 : l.getD 4 false = true → w0.heap.size ≤ z5 ∧ ∃ cs, cs.size = 6 ∧ w.heap[z5]? = some (.cells cs ty (0, 0)) ∧ (l.getD 6 false = true → cs = (T.cs A).toArray)
  b6 : l.getD 5 false = true → w0.heap.size ≤ z6 ∧ ∃ cs, cs.size = 6 ∧ w.heap[z6]? = some (.cells cs ty (0, 0)) ∧ (l.getD 7 false = true → cs = (U.cs C).toArray)
  ne : l.getD 4 false = true → l.getD 5 false = true → z5 ≠ z6
  n6 : l.getD 6 false = true → l.getD 1 false = true ∧ l.getD 4 false = true
  n7 : l.getD 7 false = true → l.getD 3 false = true ∧ l.getD 5 false = true
theorem cells_size (T : Tr) (A : Ad) : (T.cs A).toArray.size = 6 := rfl
theorem cells_one (T : Tr) (A : Ad) : (T.cs A).toArray.all (·.oneCell') = true := by
  simp [Tr.cs, Value.oneCell']
theorem wp_enter {P : Program} {o : Oper} {a : Act} {w : World} {K : Act → World → Prop} {Q : Exit → Act → World → Prop} {f : FuncId} {args : Array Value} (hrun : (execOp a.eval o).run P w = .ok (.enter f args) w)
    (hc : Calls P f args w fun e w' => ∃ v, e = .returned v ∧ K (a.put o.dst v) w') : o.wp P a w K Q := by
  unfold Oper.wp
  rw [hrun]
  show Calls P f args w _
  refine hc.mono ?_
  rintro e w' ⟨v, rfl, h⟩
  exact h
theorem wp_value {P : Program} {o : Oper} {a : Act} {w w' : World} {K : Act → World → Prop} {Q : Exit → Act → World → Prop} {v : Value} (hrun : (execOp a.eval o).run P w = .ok (.value v) w') (h : K (a.put o.dst v) w') : o.wp P a w K Q := by
  unfold Oper.wp
  rw [hrun]
  exact h
theorem PI.load0 {ty : TypeId} {d0 d1 d2 d3 s5 s6 : Nat} {ra rb : Array Value} {T U : Tr} {a0 : Act} {w0 w : World} {l : Array Bool} {a : Act} {z5 z6 : Nat} {A C : Ad} (hd : [d0, d1, d2, d3, s5, s6].Nodup) (H : PI ty d0 d1 d2 d3 s5 s6 ra rb T U a0 w0 l a w z5 z6 A C) (hlt : d0 < a.tmps.size) :
    PI ty d0 d1 d2 d3 s5 s6 ra rb T U a0 w0 (l.setIfInBounds 0 true) (a.put (some d0) (.agg ra)) w z5 z6 A C := by
  simp only [List.nodup_cons, List.mem_cons, List.not_mem_nil, or_false, not_or, not_false_eq_true, List.nodup_nil, and_true] at hd
  obtain ⟨⟨n01, n02, n03, n04, n05⟩, ⟨n12, n13, n14, n15⟩, ⟨n23, n24, n25⟩, ⟨n34, n35⟩, n45⟩ := hd
  have e1 : (l.setIfInBounds 0 true).getD 1 false = l.getD 1 false := lset (by decide)
  have e2 : (l.setIfInBounds 0 true).getD 2 false = l.getD 2 false := lset (by decide)
  have e3 : (l.setIfInBounds 0 true).getD 3 false = l.getD 3 false := lset (by decide)
  have e4 : (l.setIfInBounds 0 true).getD 4 false = l.getD 4 false := lset (by decide)
  have e5 : (l.setIfInBounds 0 true).getD 5 false = l.getD 5 false := lset (by decide)
  have e6 : (l.setIfInBounds 0 true).getD 6 false = l.getD 6 false := lset (by decide)
  have e7 : (l.setIfInBounds 0 true).getD 7 false = l.getD 7 false := lset (by decide)
  exact {
  len := by simp [H.len]
  df := H.df
  sz := (put_size' _ _ _).trans H.sz
  rest := fun j h0 h1 h2 h3 h4 h5 => (put_ne (Ne.symm h0)).trans (H.rest j h0 h1 h2 h3 h4 h5)
  v0 := fun _ => put_eq hlt
  v1 := by simp only [e1]; exact fun h => (put_ne n01).trans (H.v1 h)
  v2 := by simp only [e2]; exact fun h => (put_ne n02).trans (H.v2 h)
  v3 := by simp only [e3]; exact fun h => (put_ne n03).trans (H.v3 h)
  v4 := by simp only [e4]; exact fun h => (put_ne n04).trans (H.v4 h)
  v5 := by simp only [e5]; exact fun h => (put_ne n05).trans (H.v5 h)
  hb := H.hb
  l1 := by simp only [e1, e4, e5]; exact H.l1
  l3 := by simp only [e3, e4, e5]; exact H.l3
  b5 := by simp only [e4, e6]; exact H.b5
  b6 := by simp only [e5, e7]; exact H.b6
  ne := by simp only [e4, e5]; exact H.ne
  n6 := by simp only [e6, e1, e4]; exact H.n6
  n7 := by simp only [e7, e3, e5]; exact H.n7
  }
theorem PI.load2 {ty : TypeId} {d0 d1 d2 d3 s5 s6 : Nat} {ra rb : Array Value} {T U : Tr} {a0 : Act} {w0 w : World} {l : Array Bool} {a : Act} {z5 z6 : Nat} {A C : Ad} (hd : [d0, d1, d2, d3, s5, s6].Nodup) (H : PI ty d0 d1 d2 d3 s5 s6 ra rb T U a0 w0 l a w z5 z6 A C) (hlt : d2 < a.tmps.size) :
    PI ty d0 d1 d2 d3 s5 s6 ra rb T U a0 w0 (l.setIfInBounds 2 true) (a.put (some d2) (.agg rb)) w z5 z6 A C := by
  simp only [List.nodup_cons, List.mem_cons, List.not_mem_nil, or_false, not_or, not_false_eq_true, List.nodup_nil, and_true] at hd
  obtain ⟨⟨n01, n02, n03, n04, n05⟩, ⟨n12, n13, n14, n15⟩, ⟨n23, n24, n25⟩, ⟨n34, n35⟩, n45⟩ := hd
  have e0 : (l.setIfInBounds 2 true).getD 0 false = l.getD 0 false := lset (by decide)
  have e1 : (l.setIfInBounds 2 true).getD 1 false = l.getD 1 false := lset (by decide)
  have e3 : (l.setIfInBounds 2 true).getD 3 false = l.getD 3 false := lset (by decide)
  have e4 : (l.setIfInBounds 2 true).getD 4 false = l.getD 4 false := lset (by decide)
  have e5 : (l.setIfInBounds 2 true).getD 5 false = l.getD 5 false := lset (by decide)
  have e6 : (l.setIfInBounds 2 true).getD 6 false = l.getD 6 false := lset (by decide)
  have e7 : (l.setIfInBounds 2 true).getD 7 false = l.getD 7 false := lset (by decide)
  exact {
  len := by simp [H.len]
  df := H.df
  sz := (put_size' _ _ _).trans H.sz
  rest := fun j h0 h1 h2 h3 h4 h5 => (put_ne (Ne.symm h2)).trans (H.rest j h0 h1 h2 h3 h4 h5)
  v0 := by simp only [e0]; exact fun h => (put_ne (Ne.symm n02)).trans (H.v0 h)
  v1 := by simp only [e1]; exact fun h => (put_ne (Ne.symm n12)).trans (H.v1 h)
  v2 := fun _ => put_eq hlt
  v3 := by simp only [e3]; exact fun h => (put_ne n23).trans (H.v3 h)
  v4 := by simp only [e4]; exact fun h => (put_ne n24).trans (H.v4 h)
  v5 := by simp only [e5]; exact fun h => (put_ne n25).trans (H.v5 h)
  hb := H.hb
  l1 := by simp only [e1, e4, e5]; exact H.l1
  l3 := by simp only [e3, e4, e5]; exact H.l3
  b5 := by simp only [e4, e6]; exact H.b5
  b6 := by simp only [e5, e7]; exact H.b6
  ne := by simp only [e4, e5]; exact H.ne
  n6 := by simp only [e6, e1, e4]; exact H.n6
  n7 := by simp only [e7, e3, e5]; exact H.n7
  }
theorem PI.call1 {ty : TypeId} {d0 d1 d2 d3 s5 s6 : Nat} {ra rb : Array Value} {T U : Tr} {a0 : Act} {w0 w : World} {l : Array Bool} {a : Act} {z5 z6 : Nat} {A C : Ad} (hd : [d0, d1, d2, d3, s5, s6].Nodup) (H : PI ty d0 d1 d2 d3 s5 s6 ra rb T U a0 w0 l a w z5 z6 A C) (hlt : d1 < a.tmps.size) (hfr : l.getD 1 false = false) {B : Nat} (hB : B ≤ w0.heap.size) {w' : World} {A' : Ad}
    (hL : LiesS (fun k => k < B ∨ (w.heap.size ≤ k ∧ k < w'.heap.size)) w' T A') (hbw : Below w.heap.size w w') :
    PI ty d0 d1 d2 d3 s5 s6 ra rb T U a0 w0 (l.setIfInBounds 1 true) (a.put (some d1) (T.val A')) w' z5 z6 A' C := by
  simp only [List.nodup_cons, List.mem_cons, List.not_mem_nil, or_false, not_or, not_false_eq_true, List.nodup_nil, and_true] at hd
  obtain ⟨⟨n01, n02, n03, n04, n05⟩, ⟨n12, n13, n14, n15⟩, ⟨n23, n24, n25⟩, ⟨n34, n35⟩, n45⟩ := hd
  have e0 : (l.setIfInBounds 1 true).getD 0 false = l.getD 0 false := lset (by decide)
  have e2 : (l.setIfInBounds 1 true).getD 2 false = l.getD 2 false := lset (by decide)
  have e3 : (l.setIfInBounds 1 true).getD 3 false = l.getD 3 false := lset (by decide)
  have e4 : (l.setIfInBounds 1 true).getD 4 false = l.getD 4 false := lset (by decide)
  have e5 : (l.setIfInBounds 1 true).getD 5 false = l.getD 5 false := lset (by decide)
  have e6 : (l.setIfInBounds 1 true).getD 6 false = l.getD 6 false := lset (by decide)
  have e7 : (l.setIfInBounds 1 true).getD 7 false = l.getD 7 false := lset (by decide)
  have hsz := H.hb.size
  have hsw := hbw.size
  exact {
  len := by simp [H.len]
  df := H.df
  sz := (put_size' _ _ _).trans H.sz
  rest := fun j h0 h1 h2 h3 h4 h5 => (put_ne (Ne.symm h1)).trans (H.rest j h0 h1 h2 h3 h4 h5)
  v0 := by simp only [e0]; exact fun h => (put_ne (Ne.symm n01)).trans (H.v0 h)
  v1 := fun _ => put_eq hlt
  v2 := by simp only [e2]; exact fun h => (put_ne n12).trans (H.v2 h)
  v3 := by simp only [e3]; exact fun h => (put_ne n13).trans (H.v3 h)
  v4 := by simp only [e4]; exact fun h => (put_ne n14).trans (H.v4 h)
  v5 := by simp only [e5]; exact fun h => (put_ne n15).trans (H.v5 h)
  hb := H.hb.trans (hbw.mono H.hb.size)
  l1 := by
    simp only [e4, e5]
    intro _
    refine hL.up (fun k hk => ⟨?_, fun h4 => ?_, fun h5 => ?_⟩)
    · rcases hk with hk | hk
      · omega
      · exact hk.2
    · obtain ⟨hz, cs, _, hr, _⟩ := H.b5 h4
      have := lt_of_row hr
      omega
    · obtain ⟨hz, cs, _, hr, _⟩ := H.b6 h5
      have := lt_of_row hr
      omega
  l3 := by
    simp only [e3, e4, e5]
    exact fun h => ((H.l3 h).kept (fun k hk => hbw.block k hk.1)).up (fun k hk => ⟨by have := hk.1; omega, hk.2⟩)
  b5 := by
    simp only [e4, e6]
    intro h
    obtain ⟨hz, cs, h6, hr, hc⟩ := H.b5 h
    refine ⟨hz, cs, h6, (hbw.block _ (lt_of_row hr)).trans hr, fun hs => ?_⟩
    have := (H.n6 hs).1
    rw [hfr] at this
    cases this
  b6 := by
    simp only [e5, e7]
    intro h
    obtain ⟨hz, cs, h6, hr, hc⟩ := H.b6 h
    exact ⟨hz, cs, h6, (hbw.block _ (lt_of_row hr)).trans hr, hc⟩
  ne := by simp only [e4, e5]; exact H.ne
  n6 := by
    simp only [e6, e4]
    intro hs
    have := (H.n6 hs).1
    rw [hfr] at this
    cases this
  n7 := by simp only [e7, e3, e5]; exact H.n7
  }
theorem PI.call3 {ty : TypeId} {d0 d1 d2 d3 s5 s6 : Nat} {ra rb : Array Value} {T U : Tr} {a0 : Act} {w0 w : World} {l : Array Bool} {a : Act} {z5 z6 : Nat} {A C : Ad} (hd : [d0, d1, d2, d3, s5, s6].Nodup) (H : PI ty d0 d1 d2 d3 s5 s6 ra rb T U a0 w0 l a w z5 z6 A C) (hlt : d3 < a.tmps.size) (hfr : l.getD 3 false = false) {B : Nat} (hB : B ≤ w0.heap.size) {w' : World} {C' : Ad}
    (hL : LiesS (fun k => k < B ∨ (w.heap.size ≤ k ∧ k < w'.heap.size)) w' U C') (hbw : Below w.heap.size w w') :
    PI ty d0 d1 d2 d3 s5 s6 ra rb T U a0 w0 (l.setIfInBounds 3 true) (a.put (some d3) (U.val C')) w' z5 z6 A C' := by
  simp only [List.nodup_cons, List.mem_cons, List.not_mem_nil, or_false, not_or, not_false_eq_true, List.nodup_nil, and_true] at hd
  obtain ⟨⟨n01, n02, n03, n04, n05⟩, ⟨n12, n13, n14, n15⟩, ⟨n23, n24, n25⟩, ⟨n34, n35⟩, n45⟩ := hd
  have e0 : (l.setIfInBounds 3 true).getD 0 false = l.getD 0 false := lset (by decide)
  have e1 : (l.setIfInBounds 3 true).getD 1 false = l.getD 1 false := lset (by decide)
  have e2 : (l.setIfInBounds 3 true).getD 2 false = l.getD 2 false := lset (by decide)
  have e4 : (l.setIfInBounds 3 true).getD 4 false = l.getD 4 false := lset (by decide)
  have e5 : (l.setIfInBounds 3 true).getD 5 false = l.getD 5 false := lset (by decide)
  have e6 : (l.setIfInBounds 3 true).getD 6 false = l.getD 6 false := lset (by decide)
  have e7 : (l.setIfInBounds 3 true).getD 7 false = l.getD 7 false := lset (by decide)
  have hsz := H.hb.size
  have hsw := hbw.size
  exact {
  len := by simp [H.len]
  df := H.df
  sz := (put_size' _ _ _).trans H.sz
  rest := fun j h0 h1 h2 h3 h4 h5 => (put_ne (Ne.symm h3)).trans (H.rest j h0 h1 h2 h3 h4 h5)
  v0 := by simp only [e0]; exact fun h => (put_ne (Ne.symm n03)).trans (H.v0 h)
  v1 := by simp only [e1]; exact fun h => (put_ne (Ne.symm n13)).trans (H.v1 h)
  v2 := by simp only [e2]; exact fun h => (put_ne (Ne.symm n23)).trans (H.v2 h)
  v3 := fun _ => put_eq hlt
  v4 := by simp only [e4]; exact fun h => (put_ne n34).trans (H.v4 h)
  v5 := by simp only [e5]; exact fun h => (put_ne n35).trans (H.v5 h)
  hb := H.hb.trans (hbw.mono H.hb.size)
  l3 := by
    simp only [e4, e5]
    intro _
    refine hL.up (fun k hk => ⟨?_, fun h4 => ?_, fun h5 => ?_⟩)
    · rcases hk with hk | hk
      · omega
      · exact hk.2
    · obtain ⟨hz, cs, _, hr, _⟩ := H.b5 h4
      have := lt_of_row hr
      omega
    · obtain ⟨hz, cs, _, hr, _⟩ := H.b6 h5
      have := lt_of_row hr
      omega
  l1 := by
    simp only [e1, e4, e5]
    exact fun h => ((H.l1 h).kept (fun k hk => hbw.block k hk.1)).up (fun k hk => ⟨by have := hk.1; omega, hk.2⟩)
  b6 := by
    simp only [e5, e7]
    intro h
    obtain ⟨hz, cs, h6, hr, hc⟩ := H.b6 h
    refine ⟨hz, cs, h6, (hbw.block _ (lt_of_row hr)).trans hr, fun hs => ?_⟩
    have := (H.n7 hs).1
    rw [hfr] at this
    cases this
  b5 := by
    simp only [e4, e6]
    intro h
    obtain ⟨hz, cs, h6, hr, hc⟩ := H.b5 h
    exact ⟨hz, cs, h6, (hbw.block _ (lt_of_row hr)).trans hr, hc⟩
  ne := by simp only [e4, e5]; exact H.ne
  n7 := by
    simp only [e7, e5]
    intro hs
    have := (H.n7 hs).1
    rw [hfr] at this
    cases this
  n6 := by simp only [e6, e1, e4]; exact H.n6
  }
theorem PI.alloc4 {ty : TypeId} {d0 d1 d2 d3 s5 s6 : Nat} {ra rb : Array Value} {T U : Tr} {a0 : Act} {w0 w : World} {l : Array Bool} {a : Act} {z5 z6 : Nat} {A C : Ad} (hd : [d0, d1, d2, d3, s5, s6].Nodup) (H : PI ty d0 d1 d2 d3 s5 s6 ra rb T U a0 w0 l a w z5 z6 A C) (hlt : s5 < a.tmps.size) (hfr : l.getD 4 false = false) {zr : Array Value} (hzr : zr.size = 6) :
    PI ty d0 d1 d2 d3 s5 s6 ra rb T U a0 w0 (l.setIfInBounds 4 true) (a.put (some s5) (.pointer (some ⟨w.heap.size, 0, none⟩))) (w.alloc (.cells zr ty (0, 0))) w.heap.size z6 A C := by
  simp only [List.nodup_cons, List.mem_cons, List.not_mem_nil, or_false, not_or, not_false_eq_true, List.nodup_nil, and_true] at hd
  obtain ⟨⟨n01, n02, n03, n04, n05⟩, ⟨n12, n13, n14, n15⟩, ⟨n23, n24, n25⟩, ⟨n34, n35⟩, n45⟩ := hd
  have e0 : (l.setIfInBounds 4 true).getD 0 false = l.getD 0 false := lset (by decide)
  have e1 : (l.setIfInBounds 4 true).getD 1 false = l.getD 1 false := lset (by decide)
  have e2 : (l.setIfInBounds 4 true).getD 2 false = l.getD 2 false := lset (by decide)
  have e3 : (l.setIfInBounds 4 true).getD 3 false = l.getD 3 false := lset (by decide)
  have e5 : (l.setIfInBounds 4 true).getD 5 false = l.getD 5 false := lset (by decide)
  have e6 : (l.setIfInBounds 4 true).getD 6 false = l.getD 6 false := lset (by decide)
  have e7 : (l.setIfInBounds 4 true).getD 7 false = l.getD 7 false := lset (by decide)
  have hnew : (w.alloc (.cells zr ty (0, 0))).heap[w.heap.size]? = some (.cells zr ty (0, 0)) := heap_alloc_new _ _
  have hsz : (w.alloc (.cells zr ty (0, 0))).heap.size = w.heap.size + 1 := by simp
  have hold : ∀ k, k < w.heap.size → (w.alloc (.cells zr ty (0, 0))).heap[k]? = w.heap[k]? := fun k hk => Below.heap_alloc w _ k hk
  exact {
  len := by simp [H.len]
  df := H.df
  sz := (put_size' _ _ _).trans H.sz
  rest := fun j h0 h1 h2 h3 h4 h5 => (put_ne (Ne.symm h4)).trans (H.rest j h0 h1 h2 h3 h4 h5)
  v0 := by simp only [e0]; exact fun h => (put_ne (Ne.symm n04)).trans (H.v0 h)
  v1 := by simp only [e1]; exact fun h => (put_ne (Ne.symm n14)).trans (H.v1 h)
  v2 := by simp only [e2]; exact fun h => (put_ne (Ne.symm n24)).trans (H.v2 h)
  v3 := by simp only [e3]; exact fun h => (put_ne (Ne.symm n34)).trans (H.v3 h)
  v4 := fun _ => put_eq hlt
  v5 := by simp only [e5]; exact fun h => (put_ne n45).trans (H.v5 h)
  hb := H.hb.alloc H.hb.size _
  l1 := by
    simp only [e1, e5]
    refine fun h => ((H.l1 h).kept (fun k hk => hold k hk.1)).up (fun k hk => ?_)
    have hk1 := hk.1
    exact ⟨by omega, fun _ => by omega, hk.2.2⟩
  l3 := by
    simp only [e3, e5]
    refine fun h => ((H.l3 h).kept (fun k hk => hold k hk.1)).up (fun k hk => ?_)
    have hk1 := hk.1
    exact ⟨by omega, fun _ => by omega, hk.2.2⟩
  b5 := by
    simp only [e6]
    refine fun _ => ⟨H.hb.size, zr, hzr, hnew, fun hs => ?_⟩
    have := (H.n6 hs).2
    rw [hfr] at this
    cases this
  b6 := by
    simp only [e5, e7]
    intro h
    obtain ⟨hz, cs, h6, hr, hc⟩ := H.b6 h
    exact ⟨hz, cs, h6, (hold _ (lt_of_row hr)).trans hr, hc⟩
  ne := by
    simp only [e5]
    intro _ h
    obtain ⟨_, cs, _, hr, _⟩ := H.b6 h
    have := lt_of_row hr
    omega
  n6 := by
    simp only [e6, e1]
    intro hs
    have := (H.n6 hs).2
    rw [hfr] at this
    cases this
  n7 := by simp only [e7, e3, e5]; exact H.n7
  }
theorem PI.alloc5 {ty : TypeId} {d0 d1 d2 d3 s5 s6 : Nat} {ra rb : Array Value} {T U : Tr} {a0 : Act} {w0 w : World} {l : Array Bool} {a : Act} {z5 z6 : Nat} {A C : Ad} (hd : [d0, d1, d2, d3, s5, s6].Nodup) (H : PI ty d0 d1 d2 d3 s5 s6 ra rb T U a0 w0 l a w z5 z6 A C) (hlt : s6 < a.tmps.size) (hfr : l.getD 5 false = false) {zr : Array Value} (hzr : zr.size = 6) :
    PI ty d0 d1 d2 d3 s5 s6 ra rb T U a0 w0 (l.setIfInBounds 5 true) (a.put (some s6) (.pointer (some ⟨w.heap.size, 0, none⟩))) (w.alloc (.cells zr ty (0, 0))) z5 w.heap.size A C := by
  simp only [List.nodup_cons, List.mem_cons, List.not_mem_nil, or_false, not_or, not_false_eq_true, List.nodup_nil, and_true] at hd
  obtain ⟨⟨n01, n02, n03, n04, n05⟩, ⟨n12, n13, n14, n15⟩, ⟨n23, n24, n25⟩, ⟨n34, n35⟩, n45⟩ := hd
  have e0 : (l.setIfInBounds 5 true).getD 0 false = l.getD 0 false := lset (by decide)
  have e1 : (l.setIfInBounds 5 true).getD 1 false = l.getD 1 false := lset (by decide)
  have e2 : (l.setIfInBounds 5 true).getD 2 false = l.getD 2 false := lset (by decide)
  have e3 : (l.setIfInBounds 5 true).getD 3 false = l.getD 3 false := lset (by decide)
  have e4 : (l.setIfInBounds 5 true).getD 4 false = l.getD 4 false := lset (by decide)
  have e6 : (l.setIfInBounds 5 true).getD 6 false = l.getD 6 false := lset (by decide)
  have e7 : (l.setIfInBounds 5 true).getD 7 false = l.getD 7 false := lset (by decide)
  have hnew : (w.alloc (.cells zr ty (0, 0))).heap[w.heap.size]? = some (.cells zr ty (0, 0)) := heap_alloc_new _ _
  have hsz : (w.alloc (.cells zr ty (0, 0))).heap.size = w.heap.size + 1 := by simp
  have hold : ∀ k, k < w.heap.size → (w.alloc (.cells zr ty (0, 0))).heap[k]? = w.heap[k]? := fun k hk => Below.heap_alloc w _ k hk
  exact {
  len := by simp [H.len]
  df := H.df
  sz := (put_size' _ _ _).trans H.sz
  rest := fun j h0 h1 h2 h3 h4 h5 => (put_ne (Ne.symm h5)).trans (H.rest j h0 h1 h2 h3 h4 h5)
  v0 := by simp only [e0]; exact fun h => (put_ne (Ne.symm n05)).trans (H.v0 h)
  v1 := by simp only [e1]; exact fun h => (put_ne (Ne.symm n15)).trans (H.v1 h)
  v2 := by simp only [e2]; exact fun h => (put_ne (Ne.symm n25)).trans (H.v2 h)
  v3 := by simp only [e3]; exact fun h => (put_ne (Ne.symm n35)).trans (H.v3 h)
  v4 := by simp only [e4]; exact fun h => (put_ne (Ne.symm n45)).trans (H.v4 h)
  v5 := fun _ => put_eq hlt
  hb := H.hb.alloc H.hb.size _
  l1 := by
    simp only [e1, e4]
    refine fun h => ((H.l1 h).kept (fun k hk => hold k hk.1)).up (fun k hk => ?_)
    have hk1 := hk.1
    exact ⟨by omega, hk.2.1, fun _ => by omega⟩
  l3 := by
    simp only [e3, e4]
    refine fun h => ((H.l3 h).kept (fun k hk => hold k hk.1)).up (fun k hk => ?_)
    have hk1 := hk.1
    exact ⟨by omega, hk.2.1, fun _ => by omega⟩
  b6 := by
    simp only [e7]
    refine fun _ => ⟨H.hb.size, zr, hzr, hnew, fun hs => ?_⟩
    have := (H.n7 hs).2
    rw [hfr] at this
    cases this
  b5 := by
    simp only [e4, e6]
    intro h
    obtain ⟨hz, cs, h6, hr, hc⟩ := H.b5 h
    exact ⟨hz, cs, h6, (hold _ (lt_of_row hr)).trans hr, hc⟩
  ne := by
    simp only [e4]
    intro h _
    obtain ⟨_, cs, _, hr, _⟩ := H.b5 h
    have := lt_of_row hr
    omega
  n7 := by
    simp only [e7, e3]
    intro hs
    have := (H.n7 hs).2
    rw [hfr] at this
    cases this
  n6 := by simp only [e6, e1, e4]; exact H.n6
  }
theorem PI.store6 {ty : TypeId} {d0 d1 d2 d3 s5 s6 : Nat} {ra rb : Array Value} {T U : Tr} {a0 : Act} {w0 w : World} {l : Array Bool} {a : Act} {z5 z6 : Nat} {A C : Ad} (H : PI ty d0 d1 d2 d3 s5 s6 ra rb T U a0 w0 l a w z5 z6 A C) (h1 : l.getD 1 false = true) (h4 : l.getD 4 false = true) :
    PI ty d0 d1 d2 d3 s5 s6 ra rb T U a0 w0 (l.setIfInBounds 6 true) a (w.setRow z5 (T.cs A).toArray) z5 z6 A C := by
  have e0 : (l.setIfInBounds 6 true).getD 0 false = l.getD 0 false := lset (by decide)
  have e1 : (l.setIfInBounds 6 true).getD 1 false = l.getD 1 false := lset (by decide)
  have e2 : (l.setIfInBounds 6 true).getD 2 false = l.getD 2 false := lset (by decide)
  have e3 : (l.setIfInBounds 6 true).getD 3 false = l.getD 3 false := lset (by decide)
  have e4 : (l.setIfInBounds 6 true).getD 4 false = l.getD 4 false := lset (by decide)
  have e5 : (l.setIfInBounds 6 true).getD 5 false = l.getD 5 false := lset (by decide)
  have e7 : (l.setIfInBounds 6 true).getD 7 false = l.getD 7 false := lset (by decide)
  obtain ⟨hz, cs, h6, hr, _⟩ := H.b5 h4
  have hother : ∀ k, k ≠ z5 → (w.setRow z5 (T.cs A).toArray).heap[k]? = w.heap[k]? := fun k hk => setRow_other w z5 k _ hk
  exact {
  len := by simp [H.len]
  df := H.df
  sz := H.sz
  rest := H.rest
  v0 := by simp only [e0]; exact H.v0
  v1 := by simp only [e1]; exact H.v1
  v2 := by simp only [e2]; exact H.v2
  v3 := by simp only [e3]; exact H.v3
  v4 := by simp only [e4]; exact H.v4
  v5 := by simp only [e5]; exact H.v5
  hb := below_setRow H.hb hz _
  l1 := by
    simp only [e1, e4, e5, size_setRow]
    exact fun h => (H.l1 h).kept (fun k hk => hother k (hk.2.1 h4))
  l3 := by
    simp only [e3, e4, e5, size_setRow]
    exact fun h => (H.l3 h).kept (fun k hk => hother k (hk.2.1 h4))
  b5 := by
    simp only [e4]
    exact fun _ => ⟨hz, _, rfl, setRow_heap w z5 cs _ ty (0, 0) hr, fun _ => rfl⟩
  b6 := by
    simp only [e5, e7]
    intro h
    obtain ⟨hz', cs', h6', hr', hc'⟩ := H.b6 h
    exact ⟨hz', cs', h6', (hother _ (fun e => H.ne h4 h e.symm)).trans hr', hc'⟩
  ne := by simp only [e4, e5]; exact H.ne
  n6 := by
    simp only [e1, e4]
    exact fun _ => ⟨h1, h4⟩
  n7 := by simp only [e7, e3, e5]; exact H.n7
  }
theorem PI.store7 {ty : TypeId} {d0 d1 d2 d3 s5 s6 : Nat} {ra rb : Array Value} {T U : Tr} {a0 : Act} {w0 w : World} {l : Array Bool} {a : Act} {z5 z6 : Nat} {A C : Ad} (H : PI ty d0 d1 d2 d3 s5 s6 ra rb T U a0 w0 l a w z5 z6 A C) (h1 : l.getD 3 false = true) (h4 : l.getD 5 false = true) :
    PI ty d0 d1 d2 d3 s5 s6 ra rb T U a0 w0 (l.setIfInBounds 7 true) a (w.setRow z6 (U.cs C).toArray) z5 z6 A C := by
  have e0 : (l.setIfInBounds 7 true).getD 0 false = l.getD 0 false := lset (by decide)
  have e1 : (l.setIfInBounds 7 true).getD 1 false = l.getD 1 false := lset (by decide)
  have e2 : (l.setIfInBounds 7 true).getD 2 false = l.getD 2 false := lset (by decide)
  have e3 : (l.setIfInBounds 7 true).getD 3 false = l.getD 3 false := lset (by decide)
  have e4 : (l.setIfInBounds 7 true).getD 4 false = l.getD 4 false := lset (by decide)
  have e5 : (l.setIfInBounds 7 true).getD 5 false = l.getD 5 false := lset (by decide)
  have e6 : (l.setIfInBounds 7 true).getD 6 false = l.getD 6 false := lset (by decide)
  obtain ⟨hz, cs, h6, hr, _⟩ := H.b6 h4
  have hother : ∀ k, k ≠ z6 → (w.setRow z6 (U.cs C).toArray).heap[k]? = w.heap[k]? := fun k hk => setRow_other w z6 k _ hk
  exact {
  len := by simp [H.len]
  df := H.df
  sz := H.sz
  rest := H.rest
  v0 := by simp only [e0]; exact H.v0
  v1 := by simp only [e1]; exact H.v1
  v2 := by simp only [e2]; exact H.v2
  v3 := by simp only [e3]; exact H.v3
  v4 := by simp only [e4]; exact H.v4
  v5 := by simp only [e5]; exact H.v5
  hb := below_setRow H.hb hz _
  l1 := by
    simp only [e1, e4, e5, size_setRow]
    exact fun h => (H.l1 h).kept (fun k hk => hother k (hk.2.2 h4))
  l3 := by
    simp only [e3, e4, e5, size_setRow]
    exact fun h => (H.l3 h).kept (fun k hk => hother k (hk.2.2 h4))
  b6 := by
    simp only [e5]
    exact fun _ => ⟨hz, _, rfl, setRow_heap w z6 cs _ ty (0, 0) hr, fun _ => rfl⟩
  b5 := by
    simp only [e4, e6]
    intro h
    obtain ⟨hz', cs', h6', hr', hc'⟩ := H.b5 h
    exact ⟨hz', cs', h6', (hother _ (H.ne h h4)).trans hr', hc'⟩
  ne := by simp only [e4, e5]; exact H.ne
  n7 := by
    simp only [e3, e5]
    exact fun _ => ⟨h1, h4⟩
  n6 := by simp only [e6, e1, e4]; exact H.n6
  }
/- The region. -/
theorem act_ext {a b : Act} (hd : a.defers = b.defers) (hs : a.tmps.size = b.tmps.size) (h : ∀ j, a.tmps.getD j undef = b.tmps.getD j undef) : a = b := by
  obtain ⟨t, d⟩ := a
  obtain ⟨t', d'⟩ := b
  have e : t = t' := by
    refine Array.ext hs (fun i h1 h2 => ?_)
    have := h i
    simp only [Array.getD_eq_getD_getElem?] at this
    rw [Array.getElem?_eq_getElem h1, Array.getElem?_eq_getElem h2] at this
    exact this
  have e2 : d = d' := hd
  rw [e, e2]
theorem wanted_none {o : Oper} {ops : Array Oper} {t : Array Value} (h : o.guard = none) : Region.wanted o (yielded ops t) = true := by simp [Region.wanted, h]
theorem wpOp_of {P : Program} {ops : Array Oper} {Q : Exit → Act → World → Prop} {i : Nat} {o : Oper} {K : Act → World → Prop} {a : Act} {w : World} (ho : ops[i]? = some o) (hg : o.guard = none) (h : o.wp P a w K Q) : wpOp P ops Q i K a w := by
  unfold wpOp
  rw [ho]
  simp only [wanted_none hg, if_true]
  exact Or.inl h
theorem arr8 {l : Array Bool} (h : l.size = 8) : ∃ b0 b1 b2 b3 b4 b5 b6 b7, l = #[b0, b1, b2, b3, b4, b5, b6, b7] := by
  obtain ⟨l⟩ := l
  match l, h with
  | [a, b, c, d, e, f, g, i], _ => exact ⟨a, b, c, d, e, f, g, i, rfl⟩
def pairReadyB (ops : Array Oper) (l : Array Bool) : Bool :=
  (Region.ready .any ops l).all fun i => decide (i < 8) && !l.getD i true && (i != 1 || l.getD 0 false) && (i != 3 || l.getD 2 false) && (i != 6 || (l.getD 4 false && l.getD 1 false)) && (i != 7 || (l.getD 5 false && l.getD 3 false))
def pairDoneB (ops : Array Oper) (l : Array Bool) : Bool := !(Region.ready .any ops l).isEmpty || (l.getD 0 false && l.getD 1 false && l.getD 2 false && l.getD 3 false && l.getD 4 false && l.getD 5 false && l.getD 6 false && l.getD 7 false)
def pairAllB (p : Array Bool → Bool) : Bool := (List.range 256).all fun n => p #[n.testBit 0, n.testBit 1, n.testBit 2, n.testBit 3, n.testBit 4, n.testBit 5, n.testBit 6, n.testBit 7]
theorem bits8 : ∀ b0 b1 b2 b3 b4 b5 b6 b7 : Bool, ∃ n, n < 256 ∧ #[n.testBit 0, n.testBit 1, n.testBit 2, n.testBit 3, n.testBit 4, n.testBit 5, n.testBit 6, n.testBit 7] = #[b0, b1, b2, b3, b4, b5, b6, b7] := by
  intro b0 b1 b2 b3 b4 b5 b6 b7
  refine ⟨b0.toNat + 2 * b1.toNat + 4 * b2.toNat + 8 * b3.toNat + 16 * b4.toNat + 32 * b5.toNat + 64 * b6.toNat + 128 * b7.toNat, ?_, ?_⟩
  · cases b0 <;> cases b1 <;> cases b2 <;> cases b3 <;> cases b4 <;> cases b5 <;> cases b6 <;> cases b7 <;> decide
  · revert b0 b1 b2 b3 b4 b5 b6 b7
    decide +kernel
theorem pairAll {p : Array Bool → Bool} (h : pairAllB p = true) {l : Array Bool} (hl : l.size = 8) : p l = true := by
  obtain ⟨b0, b1, b2, b3, b4, b5, b6, b7, rfl⟩ := arr8 hl
  obtain ⟨n, hn, he⟩ := bits8 b0 b1 b2 b3 b4 b5 b6 b7
  have := List.all_eq_true.1 h n (List.mem_range.2 hn)
  rw [he] at this
  exact this
set_option maxHeartbeats 4000000 in
theorem pair_region {P : Program} {ops : Array Oper} {Q : Exit → Act → World → Prop} {id : Nat} {a0 : Act} {w : World} (hm : P.follows .mixedOrders = true)
    {ty tl : TypeId} {sx sy d0 d1 d2 d3 s5 s6 : Nat} {ra rb zr : Array Value} {T U : Tr} {B : Nat} {o0 o1 o2 o3 o4 o5 o6 o7 : Oper} {f f' : FuncId} {xs xs' : Array Value} {bx bx' : Nat} {tb tb' : TypeId} {dl : TypeDesc}
    (hops : ops = #[o0, o1, o2, o3, o4, o5, o6, o7]) (hready : pairAllB (pairReadyB ops) = true) (hdone : pairAllB (pairDoneB ops) = true)
    (hg : o0.guard = none ∧ o1.guard = none ∧ o2.guard = none ∧ o3.guard = none ∧ o4.guard = none ∧ o5.guard = none ∧ o6.guard = none ∧ o7.guard = none)
    (hdst : o0.dst = some d0 ∧ o1.dst = some d1 ∧ o2.dst = some d2 ∧ o3.dst = some d3 ∧ o4.dst = some s5 ∧ o5.dst = some s6 ∧ o6.dst = none ∧ o7.dst = none)
    (hop0 : o0.op = .load tl (.tmp sx)) (hop2 : o2.op = .load tl (.tmp sy)) (hop6 : o6.op = .store ty (.tmp s5) (.tmp d1)) (hop7 : o7.op = .store ty (.tmp s6) (.tmp d3))
    (hen1 : ∀ (a : Act) (W : World), a.tmps.getD d0 undef = .agg ra → (execOp a.eval o1).run P W = .ok (.enter f xs) W)
    (hen3 : ∀ (a : Act) (W : World), a.tmps.getD d2 undef = .agg rb → (execOp a.eval o3).run P W = .ok (.enter f' xs') W)
    (hal4 : ∀ (a : Act) (W : World), (execOp a.eval o4).run P W = .ok (.value (.pointer (some ⟨W.heap.size, 0, none⟩))) (W.alloc (.cells zr ty (0, 0))))
    (hal5 : ∀ (a : Act) (W : World), (execOp a.eval o5).run P W = .ok (.value (.pointer (some ⟨W.heap.size, 0, none⟩))) (W.alloc (.cells zr ty (0, 0))))
    (hzr : zr.size = 6) (hsl : [sx, sy, d0, d1, d2, d3, s5, s6].Nodup) (hlt : d0 < a0.tmps.size ∧ d1 < a0.tmps.size ∧ d2 < a0.tmps.size ∧ d3 < a0.tmps.size ∧ s5 < a0.tmps.size ∧ s6 < a0.tmps.size)
    (hxa : a0.tmps.getD sx undef = .pointer (some ⟨bx, 0, none⟩)) (hya : a0.tmps.getD sy undef = .pointer (some ⟨bx', 0, none⟩))
    (hrx : w.heap[bx]? = some (.cells ra tb (0, 0))) (hry : w.heap[bx']? = some (.cells rb tb' (0, 0)))
    (hul : P.underlying tl = some dl) (hdl : (match dl with | .struct _ | .array _ _ => true | _ => false) = true) (hil : (P.info? tl).map (·.size) = some ra.size) (hrr : ra.size = rb.size) (hit : (P.info? ty).map (·.size) = some 6)
    (hB : B ≤ w.heap.size)
    (hcA : ∀ V, Below w.heap.size w V → Calls P f xs V fun e w' => ∃ A, e = .returned (T.val A) ∧ LiesS (fun k => k < B ∨ (V.heap.size ≤ k ∧ k < w'.heap.size)) w' T A ∧ Below V.heap.size V w')
    (hcC : ∀ V, Below w.heap.size w V → Calls P f' xs' V fun e w' => ∃ C, e = .returned (U.val C) ∧ LiesS (fun k => k < B ∨ (V.heap.size ≤ k ∧ k < w'.heap.size)) w' U C ∧ Below V.heap.size V w')
    (hQ : ∀ (W : World) (z5 z6 : Nat) (A C : Ad), Below w.heap.size w W → W.heap[z5]? = some (.cells (T.cs A).toArray ty (0, 0)) → W.heap[z6]? = some (.cells (U.cs C).toArray ty (0, 0)) → w.heap.size ≤ z5 → w.heap.size ≤ z6 →
      Lies W.heap.size W T A → Lies W.heap.size W U C → Q .normal ((((((a0.put (some d0) (.agg ra)).put (some d1) (T.val A)).put (some d2) (.agg rb)).put (some d3) (U.val C)).put (some s5) (.pointer (some ⟨z5, 0, none⟩))).put (some s6) (.pointer (some ⟨z6, 0, none⟩))) W) :
    (Code.region id ops true).wp P Q a0 w := by
  subst hops
  simp only [List.nodup_cons, List.mem_cons, List.not_mem_nil, or_false, not_or, not_false_eq_true, List.nodup_nil, and_true] at hsl
  obtain ⟨⟨x1, x2, x3, x4, x5, x6, x7⟩, ⟨y2, y3, y4, y5, y6, y7⟩, ⟨n01, n02, n03, n04, n05⟩, ⟨n12, n13, n14, n15⟩, ⟨n23, n24, n25⟩, ⟨n34, n35⟩, n45⟩ := hsl
  have hd : [d0, d1, d2, d3, s5, s6].Nodup := by
    simp only [List.nodup_cons, List.mem_cons, List.not_mem_nil, or_false, not_or, not_false_eq_true, List.nodup_nil, and_true]
    exact ⟨⟨n01, n02, n03, n04, n05⟩, ⟨n12, n13, n14, n15⟩, ⟨n23, n24, n25⟩, ⟨n34, n35⟩, n45⟩
  refine wp_region_any hm ?_
  refine any_inv (fun l a W => ∃ z5 z6 A C, PI ty d0 d1 d2 d3 s5 s6 ra rb T U a0 w l a W z5 z6 A C) ?_ ?_ ?_ _ _ _ _ ?_ ?_
  · rintro l a W ⟨z5, z6, A, C, H⟩
    exact H.len
  · rintro l a W ⟨z5, z6, A, C, H⟩ hr
    have hd8 := pairAll hdone H.len
    unfold pairDoneB at hd8
    rw [hr] at hd8
    simp only [List.isEmpty_nil, Bool.not_true, Bool.false_or, Bool.and_eq_true] at hd8
    obtain ⟨⟨⟨⟨⟨⟨⟨t0, t1⟩, t2⟩, t3⟩, t4⟩, t5⟩, t6⟩, t7⟩ := hd8
    obtain ⟨hz5, cs5, _, hr5, hc5⟩ := H.b5 t4
    obtain ⟨hz6, cs6, _, hr6, hc6⟩ := H.b6 t5
    rw [hc5 t6] at hr5
    rw [hc6 t7] at hr6
    have he : a = ((((((a0.put (some d0) (.agg ra)).put (some d1) (T.val A)).put (some d2) (.agg rb)).put (some d3) (U.val C)).put (some s5) (.pointer (some ⟨z5, 0, none⟩))).put (some s6) (.pointer (some ⟨z6, 0, none⟩))) := by
      refine act_ext H.df ?_ (fun j => ?_)
      · rw [put_size', put_size', put_size', put_size', put_size', put_size']
        exact H.sz
      · by_cases j5 : j = s6
        · rw [j5, H.v5 t5, put_eq (by rw [put_size', put_size', put_size', put_size', put_size']; exact hlt.2.2.2.2.2)]
        rw [put_ne (Ne.symm j5)]
        by_cases j4 : j = s5
        · rw [j4, H.v4 t4, put_eq (by rw [put_size', put_size', put_size', put_size']; exact hlt.2.2.2.2.1)]
        rw [put_ne (Ne.symm j4)]
        by_cases j3 : j = d3
        · rw [j3, H.v3 t3, put_eq (by rw [put_size', put_size', put_size']; exact hlt.2.2.2.1)]
        rw [put_ne (Ne.symm j3)]
        by_cases j2 : j = d2
        · rw [j2, H.v2 t2, put_eq (by rw [put_size', put_size']; exact hlt.2.2.1)]
        rw [put_ne (Ne.symm j2)]
        by_cases j1 : j = d1
        · rw [j1, H.v1 t1, put_eq (by rw [put_size']; exact hlt.2.1)]
        rw [put_ne (Ne.symm j1)]
        by_cases j0 : j = d0
        · rw [j0, H.v0 t0, put_eq hlt.1]
        rw [put_ne (Ne.symm j0)]
        exact H.rest j j0 j1 j2 j3 j4 j5
    rw [he]
    exact hQ W z5 z6 A C H.hb hr5 hr6 hz5 hz6 ((H.l1 t1).up (fun k hk => hk.1)) ((H.l3 t3).up (fun k hk => hk.1))
  · rintro l a W ⟨z5, z6, A, C, H⟩ i hi
    have hr8 := pairAll hready H.len
    unfold pairReadyB at hr8
    have hri := List.all_eq_true.1 hr8 i hi
    simp only [Bool.and_eq_true, decide_eq_true_eq, Bool.not_eq_true', Bool.or_eq_true, bne_iff_ne, ne_eq] at hri
    obtain ⟨⟨⟨⟨⟨hi8, hfr⟩, h1⟩, h3⟩, h6⟩, h7⟩ := hri
    have hfr' := fresh_at hfr
    have hsz := H.sz
    obtain rfl | rfl | rfl | rfl | rfl | rfl | rfl | rfl : i = 0 ∨ i = 1 ∨ i = 2 ∨ i = 3 ∨ i = 4 ∨ i = 5 ∨ i = 6 ∨ i = 7 := by omega
    · refine wpOp_of (o := o0) rfl hg.1 (wp_load_row tl (.tmp sx) hop0 bx ?_ tb ra (0, 0) dl ?_ hul hdl hil ?_)
      · exact (H.rest sx x2 x3 x4 x5 x6 x7).trans hxa
      · exact (H.hb.block _ (lt_of_row hrx)).trans hrx
      · rw [hdst.1]
        exact ⟨z5, z6, A, C, H.load0 hd (by omega)⟩
    · have hl0 : l.getD 0 false = true := by simpa using h1
      refine wpOp_of (o := o1) rfl hg.2.1 (wp_enter (hen1 a W (H.v0 hl0)) ((hcA W H.hb).mono ?_))
      rintro e w' ⟨A', rfl, hL, hb⟩
      rw [hdst.2.1]
      exact ⟨_, rfl, z5, z6, A', C, H.call1 hd (by omega) hfr' hB hL hb⟩
    · refine wpOp_of (o := o2) rfl hg.2.2.1 (wp_load_row tl (.tmp sy) hop2 bx' ?_ tb' rb (0, 0) dl ?_ hul hdl (by rw [← hrr]; exact hil) ?_)
      · exact (H.rest sy y2 y3 y4 y5 y6 y7).trans hya
      · exact (H.hb.block _ (lt_of_row hry)).trans hry
      · rw [hdst.2.2.1]
        exact ⟨z5, z6, A, C, H.load2 hd (by omega)⟩
    · have hl2 : l.getD 2 false = true := by simpa using h3
      refine wpOp_of (o := o3) rfl hg.2.2.2.1 (wp_enter (hen3 a W (H.v2 hl2)) ((hcC W H.hb).mono ?_))
      rintro e w' ⟨C', rfl, hL, hb⟩
      rw [hdst.2.2.2.1]
      exact ⟨_, rfl, z5, z6, A, C', H.call3 hd (by omega) hfr' hB hL hb⟩
    · refine wpOp_of (o := o4) rfl hg.2.2.2.2.1 (wp_value (hal4 a W) ?_)
      rw [hdst.2.2.2.2.1]
      exact ⟨_, z6, A, C, H.alloc4 hd (by omega) hfr' hzr⟩
    · refine wpOp_of (o := o5) rfl hg.2.2.2.2.2.1 (wp_value (hal5 a W) ?_)
      rw [hdst.2.2.2.2.2.1]
      exact ⟨z5, _, A, C, H.alloc5 hd (by omega) hfr' hzr⟩
    · have h41 : l.getD 4 false = true ∧ l.getD 1 false = true := by simpa using h6
      obtain ⟨_, cs, hcs, hr, _⟩ := H.b5 h41.1
      refine wpOp_of (o := o6) rfl hg.2.2.2.2.2.2.1 (wp_store_row ty (.tmp s5) (.tmp d1) hop6 z5 (T.cs A).toArray (H.v4 h41.1) (H.v1 h41.2) ty cs hr hit hcs (cells_one T A) ?_)
      rw [hdst.2.2.2.2.2.2.1]
      exact ⟨z5, z6, A, C, H.store6 h41.2 h41.1⟩
    · have h53 : l.getD 5 false = true ∧ l.getD 3 false = true := by simpa using h7
      obtain ⟨_, cs, hcs, hr, _⟩ := H.b6 h53.1
      refine wpOp_of (o := o7) rfl hg.2.2.2.2.2.2.2 (wp_store_row ty (.tmp s6) (.tmp d3) hop7 z6 (U.cs C).toArray (H.v5 h53.1) (H.v3 h53.2) ty cs hr hit hcs (cells_one U C) ?_)
      rw [hdst.2.2.2.2.2.2.2]
      exact ⟨z5, z6, A, C, H.store7 h53.2 h53.1⟩
  · show unl (Array.replicate 8 false) ≤ 8
    decide
  · have hrep : ∀ j, (Array.replicate 8 false).getD j false = false := fun j => by simp [Array.getD_eq_getD_getElem?, Array.getElem?_replicate]; split <;> rfl
    exact ⟨0, 0, ⟨none, 0, none, 0⟩, ⟨none, 0, none, 0⟩, { len := rfl, df := rfl, sz := rfl, rest := fun _ _ _ _ _ _ _ => rfl, v0 := (fun h => absurd ((hrep _).symm.trans h) (by decide)), v1 := (fun h => absurd ((hrep _).symm.trans h) (by decide)), v2 := (fun h => absurd ((hrep _).symm.trans h) (by decide)), v3 := (fun h => absurd ((hrep _).symm.trans h) (by decide)), v4 := (fun h => absurd ((hrep _).symm.trans h) (by decide)), v5 := (fun h => absurd ((hrep _).symm.trans h) (by decide)), hb := (Below.refl _ w).drew, l1 := (fun h => absurd ((hrep _).symm.trans h) (by decide)), l3 := (fun h => absurd ((hrep _).symm.trans h) (by decide)), b5 := (fun h => absurd ((hrep _).symm.trans h) (by decide)), b6 := (fun h => absurd ((hrep _).symm.trans h) (by decide)), ne := (fun h => absurd ((hrep _).symm.trans h) (by decide)), n6 := (fun h => absurd ((hrep _).symm.trans h) (by decide)), n7 := (fun h => absurd ((hrep _).symm.trans h) (by decide)) }⟩
end Go.Proofs.YtaacbcnpagpdnaaDoor
