/- 'a, b, c := f(x), f(y), f(z)' where the calls make memory: whatever order is drawn, the three values lie there, each in a box of its own. -/
import Derived.Test.YtjmjlijmeahmfaaRbf
import Derived.Test.YtjmjlijmeahmfaaCut
import Derived.Orders
import Derived.Laws.Tables
import Derived.Laws.CopyOwn
namespace Go.Proofs.Ytjmjlijmeahmfaa
open Go.RowKit
theorem set_len (l : Array Bool) (i : Nat) : (l.setIfInBounds i true).size = l.size := by simp
def unl (l : Array Bool) : Nat := (l.toList.filter (fun b => !b)).length
theorem unl_set {l : Array Bool} {i : Nat} (hi : i < l.size) (h : l.getD i true = false) : unl (l.setIfInBounds i true) + 1 = unl l := by
  unfold unl
  rw [Array.toList_setIfInBounds]
  have hi' : i < l.toList.length := by simpa using hi
  have hg : l.toList[i] = false := by
    simp only [Array.getD, hi, dite_true] at h
    simpa using h
  have e : l.toList = l.toList.take i ++ false :: l.toList.drop (i + 1) := by
    rw [← hg, ← List.drop_eq_getElem_cons hi', List.take_append_drop]
  have e2 : l.toList.set i true = l.toList.take i ++ true :: l.toList.drop (i + 1) := List.set_eq_take_append_cons_drop.trans (by rw [if_pos hi'])
  have e3 : (l.toList.filter (fun b => !b)).length = ((l.toList.take i ++ false :: l.toList.drop (i + 1)).filter (fun b => !b)).length := by rw [← e]
  rw [e2, e3, List.filter_append, List.filter_append, List.length_append, List.length_append, List.filter_cons_of_neg (by simp), List.filter_cons_of_pos (by simp), List.length_cons]
  omega
theorem ready_unl {md : Region.Mode} {ops : Array Oper} {l : Array Bool} (h : unl l = 0) (hs : l.size = ops.size) : Region.ready md ops l = [] := by
  unfold Region.ready
  rw [List.filter_eq_nil_iff]
  intro i hi
  have hi' : i < l.size := by rw [hs]; exact List.mem_range.1 hi
  have : l.getD i true = true := by
    cases k : l.getD i true with
    | true => rfl
    | false => have := unl_set hi' k; omega
  rw [this]
  simp
theorem any_inv {P : Program} {md : Region.Mode} {ops : Array Oper} {Q : Exit → Act → World → Prop} (I : Array Bool → Act → World → Prop)
    (hsz : ∀ l a w, I l a w → l.size = ops.size) (hdone : ∀ l a w, I l a w → Region.ready md ops l = [] → Q .normal a w)
    (hstep : ∀ l a w, I l a w → ∀ i ∈ Region.ready md ops l, wpOp P ops Q i (I (l.setIfInBounds i true)) a w) :
    ∀ (fuel : Nat) (l : Array Bool) (a : Act) (w : World), unl l ≤ fuel → I l a w → wpAny P md ops Q fuel l a w := by
  intro fuel
  induction fuel with
  | zero =>
    intro l a w hf h
    have hr := ready_unl (md := md) (ops := ops) (by omega : unl l = 0) (hsz l a w h)
    exact ⟨hr, hdone l a w h hr⟩
  | succ fuel ih =>
    intro l a w hf h
    refine ⟨hdone l a w h, fun i hi => ?_⟩
    refine wpOp_mono (fun a' w' h' => ih _ _ _ ?_ h') (hstep l a w h i hi)
    unfold Region.ready at hi
    rw [List.mem_filter, List.mem_range] at hi
    obtain ⟨h1, h2⟩ := hi
    simp only [Bool.and_eq_true, Bool.not_eq_true'] at h2
    have := unl_set (l := l) (i := i) (by rw [hsz l a w h]; exact h1) h2.1
    omega
theorem put_size' (a : Act) (d : Nat) (v : Value) : (a.put (some d) v).tmps.size = a.tmps.size := by simp [Act.put]
theorem put_ne {a : Act} {d j : Nat} {v : Value} (h : d ≠ j) : (a.put (some d) v).tmps.getD j undef = a.tmps.getD j undef := by
  simp only [Act.put, Array.getD_eq_getD_getElem?]
  rw [Array.getElem?_setIfInBounds_ne h]
theorem put_eq {a : Act} {d : Nat} {v : Value} (h : d < a.tmps.size) : (a.put (some d) v).tmps.getD d undef = v := by
  simp only [Act.put, Array.getD_eq_getD_getElem?]
  rw [Array.getElem?_setIfInBounds_self_of_lt h]
  rfl
theorem put_none_tmps (a : Act) (v : Value) : a.put none v = a := rfl
theorem lset {l : Array Bool} {i j : Nat} (h : i ≠ j) : (l.setIfInBounds i true).getD j false = l.getD j false := by
  simp only [Array.getD_eq_getD_getElem?]
  rw [Array.getElem?_setIfInBounds_ne h]
theorem fresh_at {l : Array Bool} {i : Nat} (h : l.getD i true = false) : l.getD i false = false := by
  simp only [Array.getD_eq_getD_getElem?] at h ⊢
  cases k : l[i]? with
  | none => rfl
  | some b => rw [k] at h; exact h
theorem cells_size (T : Tr) (A : Ad) : (T.cs A).toArray.size = 6 := rfl
theorem cells_one (T : Tr) (A : Ad) : (T.cs A).toArray.all (·.oneCell') = true := by
  simp [Tr.cs, Value.oneCell']
theorem wp_enter {P : Program} {o : Oper} {a : Act} {w : World} {K : Act → World → Prop} {Q : Exit → Act → World → Prop} {f : FuncId} {args : Array Value} (hrun : (execOp a.eval o).run P w = .ok (.enter f args) w)
    (hc : Calls P f args w fun e w' => ∃ v, e = .returned v ∧ K (a.put o.dst v) w') : o.wp P a w K Q := by
  unfold Oper.wp
  rw [hrun]
  show Calls P f args w _
  refine hc.mono ?_
  rintro e w' ⟨v, rfl, h⟩
  exact h
theorem wp_value {P : Program} {o : Oper} {a : Act} {w w' : World} {K : Act → World → Prop} {Q : Exit → Act → World → Prop} {v : Value} (hrun : (execOp a.eval o).run P w = .ok (.value v) w') (h : K (a.put o.dst v) w') : o.wp P a w K Q := by
  unfold Oper.wp
  rw [hrun]
  exact h
theorem act_ext {a b : Act} (hd : a.defers = b.defers) (hs : a.tmps.size = b.tmps.size) (h : ∀ j, a.tmps.getD j undef = b.tmps.getD j undef) : a = b := by
  obtain ⟨t, d⟩ := a
  obtain ⟨t', d'⟩ := b
  have e : t = t' := by
    refine Array.ext hs (fun i h1 h2 => ?_)
    have := h i
    simp only [Array.getD_eq_getD_getElem?] at this
    rw [Array.getElem?_eq_getElem h1, Array.getElem?_eq_getElem h2] at this
    exact this
  have e2 : d = d' := hd
  rw [e, e2]
theorem wanted_none {o : Oper} {ops : Array Oper} {t : Array Value} (h : o.guard = none) : Region.wanted o (yielded ops t) = true := by simp [Region.wanted, h]
theorem wpOp_of {P : Program} {ops : Array Oper} {Q : Exit → Act → World → Prop} {i : Nat} {o : Oper} {K : Act → World → Prop} {a : Act} {w : World} (ho : ops[i]? = some o) (hg : o.guard = none) (h : o.wp P a w K Q) : wpOp P ops Q i K a w := by
  unfold wpOp
  rw [ho]
  simp only [wanted_none hg, if_true]
  exact Or.inl h
theorem put_df (a : Act) (d : Nat) (v : Value) : (a.put (some d) v).defers = a.defers := rfl
theorem gset {l : Array Bool} {p q : Nat} (hp : p < l.size) : (l.setIfInBounds p true).getD q false = if p = q then true else l.getD q false := by
  by_cases h : p = q
  · subst h
    rw [if_pos rfl]
    simp [Array.getD_eq_getD_getElem?, Array.getElem?_setIfInBounds_self_of_lt hp]
  · rw [if_neg h, lset h]
structure P3 (ra : Nat → Array Value) (T : Nat → Tr) (a0 : Act) (w0 : World) (l : Array Bool) (a : Act) (w : World) (z : Nat → Nat) (A : Nat → Ad) : Prop where
  len : l.size = 12
  df : a.defers = a0.defers
  sz : a.tmps.size = a0.tmps.size
  rest : ∀ j, (j < 7 ∨ 10 ≤ j) → (j < 17 ∨ 23 ≤ j) → a.tmps.getD j undef = a0.tmps.getD j undef
  vL : ∀ i, i < 3 → l.getD (2 * i) false = true → a.tmps.getD (17 + 2 * i) undef = .agg (ra i)
  vC : ∀ i, i < 3 → l.getD (2 * i + 1) false = true → a.tmps.getD (18 + 2 * i) undef = (T i).val (A i)
  vS : ∀ i, i < 3 → l.getD (6 + i) false = true → a.tmps.getD (7 + i) undef = .pointer (some ⟨z i, 0, none⟩)
  hb : Below w0.heap.size w0 w
  lC : ∀ i, i < 3 → l.getD (2 * i + 1) false = true → LiesS (fun k => k < w.heap.size ∧ ∀ j, j < 3 → l.getD (6 + j) false = true → k ≠ z j) w (T i) (A i)
  bS : ∀ i, i < 3 → l.getD (6 + i) false = true → w0.heap.size ≤ z i ∧ z i < w.heap.size ∧ ∃ cs : Array Value, cs.size = 6 ∧ w.heap[z i]? = some (.cells cs 25 (0, 0)) ∧ (l.getD (9 + i) false = true → cs = ((T i).cs (A i)).toArray)
  ne : ∀ i j, i < 3 → j < 3 → i ≠ j → l.getD (6 + i) false = true → l.getD (6 + j) false = true → z i ≠ z j
  nS : ∀ i, i < 3 → l.getD (9 + i) false = true → l.getD (2 * i + 1) false = true ∧ l.getD (6 + i) false = true
theorem P3.load {ra : Nat → Array Value} {T : Nat → Tr} {a0 : Act} {w0 w : World} {l : Array Bool} {a : Act} {z : Nat → Nat} {A : Nat → Ad} (H : P3 ra T a0 w0 l a w z A) {p : Nat} (hp : p < 3) (hlt : 17 + 2 * p < a.tmps.size) :
    P3 ra T a0 w0 (l.setIfInBounds (2 * p) true) (a.put (some (17 + 2 * p)) (.agg (ra p))) w z A := by
  have hps : 2 * p < l.size := by rw [H.len]; omega
  have e : ∀ q, 2 * p ≠ q → (l.setIfInBounds (2 * p) true).getD q false = l.getD q false := fun q hq => lset hq
  exact {
  len := by simp [H.len]
  df := H.df
  sz := (put_size' _ _ _).trans H.sz
  rest := fun j h1 h2 => (put_ne (by omega)).trans (H.rest j h1 h2)
  vL := fun i hi h => by
    by_cases hip : i = p
    · subst hip; exact put_eq hlt
    · rw [e _ (by omega)] at h; exact (put_ne (by omega)).trans (H.vL i hi h)
  vC := fun i hi h => by rw [e _ (by omega)] at h; exact (put_ne (by omega)).trans (H.vC i hi h)
  vS := fun i hi h => by rw [e _ (by omega)] at h; exact (put_ne (by omega)).trans (H.vS i hi h)
  hb := H.hb
  lC := fun i hi h => by
    rw [e _ (by omega)] at h
    exact (H.lC i hi h).up (fun k hk => ⟨hk.1, fun j hj h2 => hk.2 j hj (by rw [e _ (by omega)] at h2; exact h2)⟩)
  bS := fun i hi h => by
    rw [e _ (by omega)] at h
    rw [e _ (by omega)]
    exact H.bS i hi h
  ne := fun i j hi hj hij h1 h2 => by
    rw [e _ (by omega)] at h1 h2
    exact H.ne i j hi hj hij h1 h2
  nS := fun i hi h => by
    rw [e _ (by omega)] at h
    rw [e _ (by omega), e _ (by omega)]
    exact H.nS i hi h
  }
theorem P3.call {ra : Nat → Array Value} {T : Nat → Tr} {a0 : Act} {w0 w w' : World} {l : Array Bool} {a : Act} {z : Nat → Nat} {A : Nat → Ad} {B : Nat} (H : P3 ra T a0 w0 l a w z A) {p : Nat} (hp : p < 3) (hlt : 18 + 2 * p < a.tmps.size) (hfr : l.getD (2 * p + 1) false = false) (hB : B ≤ w0.heap.size) {A' : Ad}
    (hL : LiesS (fun k => k < B ∨ (w.heap.size ≤ k ∧ k < w'.heap.size)) w' (T p) A') (hb : Below w.heap.size w w') :
    P3 ra T a0 w0 (l.setIfInBounds (2 * p + 1) true) (a.put (some (18 + 2 * p)) ((T p).val A')) w' z (fun i => if i = p then A' else A i) := by
  have hps : 2 * p + 1 < l.size := by rw [H.len]; omega
  have e : ∀ q, 2 * p + 1 ≠ q → (l.setIfInBounds (2 * p + 1) true).getD q false = l.getD q false := fun q hq => lset hq
  have hw0 := H.hb.size
  have hsz := hb.size
  exact {
  len := by simp [H.len]
  df := H.df
  sz := (put_size' _ _ _).trans H.sz
  rest := fun j h1 h2 => (put_ne (by omega)).trans (H.rest j h1 h2)
  vL := fun i hi h => by rw [e _ (by omega)] at h; exact (put_ne (by omega)).trans (H.vL i hi h)
  vC := fun i hi h => by
    by_cases hip : i = p
    · subst hip; rw [if_pos rfl]; exact put_eq hlt
    · rw [e _ (by omega)] at h; rw [if_neg hip]; exact (put_ne (by omega)).trans (H.vC i hi h)
  vS := fun i hi h => by rw [e _ (by omega)] at h; exact (put_ne (by omega)).trans (H.vS i hi h)
  hb := H.hb.trans (hb.mono hw0)
  lC := fun i hi h => by
    by_cases hip : i = p
    · subst hip
      rw [if_pos rfl]
      refine hL.up (fun k hk => ?_)
      refine ⟨by omega, fun j hj h2 => ?_⟩
      rw [e _ (by omega)] at h2
      obtain ⟨z1, z2, _⟩ := H.bS j hj h2
      omega
    · rw [e _ (by omega)] at h
      rw [if_neg hip]
      exact (LiesS.kept (w' := w') (fun k hk => hb.block k hk.1) (H.lC i hi h)).up (fun k hk => ⟨by omega, fun j hj h2 => hk.2 j hj (by rw [e _ (by omega)] at h2; exact h2)⟩)
  bS := fun i hi h => by
    rw [e _ (by omega)] at h
    obtain ⟨z1, z2, cs, c1, c2, c3⟩ := H.bS i hi h
    refine ⟨z1, by omega, cs, c1, (hb.block _ z2).trans c2, fun h9 => ?_⟩
    rw [e _ (by omega)] at h9
    by_cases hip : i = p
    · subst hip
      have := (H.nS i hi h9).1
      rw [hfr] at this
      cases this
    · rw [if_neg hip]; exact c3 h9
  ne := fun i j hi hj hij h1 h2 => by
    rw [e _ (by omega)] at h1 h2
    exact H.ne i j hi hj hij h1 h2
  nS := fun i hi h => by
    rw [e _ (by omega)] at h
    obtain ⟨h1, h2⟩ := H.nS i hi h
    refine ⟨?_, by rw [e _ (by omega)]; exact h2⟩
    rw [gset hps]
    split
    · rfl
    · exact h1
  }
theorem P3.alloc {ra : Nat → Array Value} {T : Nat → Tr} {a0 : Act} {w0 w : World} {l : Array Bool} {a : Act} {z : Nat → Nat} {A : Nat → Ad} (H : P3 ra T a0 w0 l a w z A) {p : Nat} (hp : p < 3) (hlt : 7 + p < a.tmps.size) (hfr : l.getD (6 + p) false = false) {zr : Array Value} (hzr : zr.size = 6) :
    P3 ra T a0 w0 (l.setIfInBounds (6 + p) true) (a.put (some (7 + p)) (.pointer (some ⟨w.heap.size, 0, none⟩))) (w.alloc (.cells zr 25 (0, 0))) (fun i => if i = p then w.heap.size else z i) A := by
  have hps : 6 + p < l.size := by rw [H.len]; omega
  have e : ∀ q, 6 + p ≠ q → (l.setIfInBounds (6 + p) true).getD q false = l.getD q false := fun q hq => lset hq
  have hnew : (w.alloc (.cells zr 25 (0, 0))).heap[w.heap.size]? = some (.cells zr 25 (0, 0)) := heap_alloc_new _ _
  have hsz : (w.alloc (.cells zr 25 (0, 0))).heap.size = w.heap.size + 1 := by simp
  have hold : ∀ k, k < w.heap.size → (w.alloc (.cells zr 25 (0, 0))).heap[k]? = w.heap[k]? := fun k hk => Below.heap_alloc w _ k hk
  have hw0 := H.hb.size
  exact {
  len := by simp [H.len]
  df := H.df
  sz := (put_size' _ _ _).trans H.sz
  rest := fun j h1 h2 => (put_ne (by omega)).trans (H.rest j h1 h2)
  vL := fun i hi h => by rw [e _ (by omega)] at h; exact (put_ne (by omega)).trans (H.vL i hi h)
  vC := fun i hi h => by rw [e _ (by omega)] at h; exact (put_ne (by omega)).trans (H.vC i hi h)
  vS := fun i hi h => by
    by_cases hip : i = p
    · subst hip; rw [if_pos rfl]; exact put_eq hlt
    · rw [e _ (by omega)] at h; rw [if_neg hip]; exact (put_ne (by omega)).trans (H.vS i hi h)
  hb := H.hb.alloc hw0 _
  lC := fun i hi h => by
    rw [e _ (by omega)] at h
    refine (LiesS.kept (w' := w.alloc (.cells zr 25 (0, 0))) (fun k hk => hold k hk.1) (H.lC i hi h)).up (fun k hk => ⟨by omega, fun j hj h2 => ?_⟩)
    by_cases hjp : j = p
    · rw [if_pos hjp]; omega
    · rw [if_neg hjp]
      rw [e _ (by omega)] at h2
      exact hk.2 j hj h2
  bS := fun i hi h => by
    by_cases hip : i = p
    · subst hip
      simp only [if_true]
      refine ⟨hw0, by omega, zr, hzr, hnew, fun h9 => ?_⟩
      rw [e _ (by omega)] at h9
      have := (H.nS i hi h9).2
      rw [hfr] at this
      cases this
    · rw [e _ (by omega)] at h
      obtain ⟨z1, z2, cs, c1, c2, c3⟩ := H.bS i hi h
      simp only [if_neg hip]
      refine ⟨z1, by omega, cs, c1, (hold _ z2).trans c2, fun h9 => ?_⟩
      rw [e _ (by omega)] at h9
      exact c3 h9
  ne := fun i j hi hj hij h1 h2 => by
    by_cases hip : i = p
    · have hjp : j ≠ p := fun h => hij (hip.trans h.symm)
      rw [e _ (by omega)] at h2
      obtain ⟨_, z2, _⟩ := H.bS j hj h2
      simp only [if_pos hip, if_neg hjp]
      omega
    · rw [e _ (by omega)] at h1
      by_cases hjp : j = p
      · obtain ⟨_, z2, _⟩ := H.bS i hi h1
        simp only [if_neg hip, if_pos hjp]
        omega
      · rw [e _ (by omega)] at h2
        simp only [if_neg hip, if_neg hjp]
        exact H.ne i j hi hj hij h1 h2
  nS := fun i hi h => by
    rw [e _ (by omega)] at h
    obtain ⟨h1, h2⟩ := H.nS i hi h
    refine ⟨by rw [e _ (by omega)]; exact h1, ?_⟩
    rw [gset hps]
    split
    · rfl
    · exact h2
  }
theorem P3.store {ra : Nat → Array Value} {T : Nat → Tr} {a0 : Act} {w0 w : World} {l : Array Bool} {a : Act} {z : Nat → Nat} {A : Nat → Ad} (H : P3 ra T a0 w0 l a w z A) {p : Nat} (hp : p < 3) (h1 : l.getD (2 * p + 1) false = true) (h4 : l.getD (6 + p) false = true) :
    P3 ra T a0 w0 (l.setIfInBounds (9 + p) true) a (w.setRow (z p) ((T p).cs (A p)).toArray) z A := by
  have hps : 9 + p < l.size := by rw [H.len]; omega
  have e : ∀ q, 9 + p ≠ q → (l.setIfInBounds (9 + p) true).getD q false = l.getD q false := fun q hq => lset hq
  obtain ⟨hz, hzl, cs, h6, hr, _⟩ := H.bS p hp h4
  have hother : ∀ k, k ≠ z p → (w.setRow (z p) ((T p).cs (A p)).toArray).heap[k]? = w.heap[k]? := fun k hk => setRow_other w (z p) k _ hk
  have hsz : (w.setRow (z p) ((T p).cs (A p)).toArray).heap.size = w.heap.size := size_setRow _ _ _
  exact {
  len := by simp [H.len]
  df := H.df
  sz := H.sz
  rest := H.rest
  vL := fun i hi h => by rw [e _ (by omega)] at h; exact H.vL i hi h
  vC := fun i hi h => by rw [e _ (by omega)] at h; exact H.vC i hi h
  vS := fun i hi h => by rw [e _ (by omega)] at h; exact H.vS i hi h
  hb := below_setRow H.hb hz _
  lC := fun i hi h => by
    rw [e _ (by omega)] at h
    refine (LiesS.kept (w' := w.setRow (z p) ((T p).cs (A p)).toArray) (fun k hk => hother k (hk.2 p hp h4)) (H.lC i hi h)).up (fun k hk => ⟨by omega, fun j hj h2 => ?_⟩)
    rw [e _ (by omega)] at h2
    exact hk.2 j hj h2
  bS := fun i hi h => by
    rw [e _ (by omega)] at h
    by_cases hip : i = p
    · subst hip
      exact ⟨hz, by omega, _, rfl, setRow_heap w (z i) cs _ 25 (0, 0) hr, fun _ => rfl⟩
    · obtain ⟨z1, z2, cs', c1, c2, c3⟩ := H.bS i hi h
      refine ⟨z1, by omega, cs', c1, (hother _ (H.ne i p hi hp hip h h4)).trans c2, fun h9 => ?_⟩
      rw [e _ (by omega)] at h9
      exact c3 h9
  ne := fun i j hi hj hij h1 h2 => by
    rw [e _ (by omega)] at h1 h2
    exact H.ne i j hi hj hij h1 h2
  nS := fun i hi h => by
    by_cases hip : i = p
    · subst hip
      rw [e _ (by omega), e _ (by omega)]
      exact ⟨h1, h4⟩
    · rw [e _ (by omega)] at h
      rw [e _ (by omega), e _ (by omega)]
      exact H.nS i hi h
  }
def depOf (ops : Array Oper) (i : Nat) : List Nat := ((ops[i]?).map (fun o => (o.after.toList.filter (fun e => Region.binds .any e)).map (fun e => e.on))).getD []
def depB (ops : Array Oper) : Bool :=
  (depOf ops 1).contains 0 && (depOf ops 3).contains 2 && (depOf ops 5).contains 4 && (depOf ops 9).contains 6 && (depOf ops 9).contains 1 && (depOf ops 10).contains 7 && (depOf ops 10).contains 3 && (depOf ops 11).contains 8 && (depOf ops 11).contains 5 &&
  (List.range 12).all (fun i => (depOf ops i).all (fun n => decide (n < i)))
theorem mem_ready {ops : Array Oper} {l : Array Bool} {i : Nat} : i ∈ Region.ready .any ops l ↔ i < ops.size ∧ l.getD i true = false ∧ ∀ n ∈ depOf ops i, l.getD n false = true := by
  unfold Region.ready depOf
  rw [List.mem_filter, List.mem_range]
  constructor
  · rintro ⟨h1, h2⟩
    rw [Bool.and_eq_true, Bool.not_eq_true'] at h2
    refine ⟨h1, h2.1, ?_⟩
    have h3 := h2.2
    rw [Array.getElem?_eq_getElem h1] at h3 ⊢
    simp only [Option.map_some, Option.getD_some] at h3 ⊢
    rw [Array.all_eq_true'] at h3
    intro n hn
    obtain ⟨e, he, rfl⟩ := List.mem_map.1 hn
    obtain ⟨he1, he2⟩ := List.mem_filter.1 he
    have := h3 e (by simpa using he1)
    rw [he2] at this
    simpa using this
  · rintro ⟨h1, h2, h3⟩
    refine ⟨h1, ?_⟩
    rw [Bool.and_eq_true, Bool.not_eq_true']
    refine ⟨h2, ?_⟩
    rw [Array.getElem?_eq_getElem h1] at h3 ⊢
    simp only [Option.map_some, Option.getD_some] at h3 ⊢
    rw [Array.all_eq_true']
    intro e he
    by_cases hb : Region.binds .any e = true
    · have := h3 e.on (List.mem_map.2 ⟨e, List.mem_filter.2 ⟨by simpa using he, hb⟩, rfl⟩)
      rw [this]
      simp
    · simp [hb]
theorem all_done {ops : Array Oper} {l : Array Bool} (hsz : ops.size = 12) (hl : l.size = 12) (hdep : ∀ i, i < 12 → ∀ n ∈ depOf ops i, n < i) (hr : Region.ready .any ops l = []) : ∀ i, i < 12 → l.getD i false = true := by
  intro i
  induction i using Nat.strongRecOn with
  | ind i ih =>
    intro hi
    cases h : l.getD i true with
    | false =>
      have : i ∈ Region.ready .any ops l := mem_ready.2 ⟨by omega, h, fun n hn => ih n (hdep i hi n hn) (by have := hdep i hi n hn; omega)⟩
      rw [hr] at this
      cases this
    | true =>
      have hi' : i < l.size := by omega
      simp only [Array.getD_eq_getD_getElem?, Array.getElem?_eq_getElem hi', Option.getD_some] at h ⊢
      exact h
set_option maxHeartbeats 4000000 in
theorem tri_region {ops : Array Oper} {Q : Exit → Act → World → Prop} {id : Nat} {a0 : Act} {w : World} (hm : Try.prog.follows .mixedOrders = true) (hsz : ops.size = 12)
    {ra : Nat → Array Value} {zr : Array Value} {T : Nat → Tr} {B : Nat} {bx : Nat → Nat}
    (hdep : depB ops = true)
    (hL : ∀ i, i < 3 → ∃ o, ops[2 * i]? = some o ∧ o.guard = none ∧ o.dst = some (17 + 2 * i) ∧ o.op = .load 25 (.tmp (3 + i)))
    (hC : ∀ i, i < 3 → ∃ o, ops[2 * i + 1]? = some o ∧ o.guard = none ∧ o.dst = some (18 + 2 * i) ∧ ∀ (a : Act) (W : World), a.tmps.getD (17 + 2 * i) undef = .agg (ra i) → (execOp a.eval o).run Try.prog W = .ok (.enter 9 #[.agg (ra i), .int .i64 8, .int .i64 32]) W)
    (hA : ∀ i, i < 3 → ∃ o, ops[6 + i]? = some o ∧ o.guard = none ∧ o.dst = some (7 + i) ∧ ∀ (a : Act) (W : World), (execOp a.eval o).run Try.prog W = .ok (.value (.pointer (some ⟨W.heap.size, 0, none⟩))) (W.alloc (.cells zr 25 (0, 0))))
    (hS : ∀ i, i < 3 → ∃ o, ops[9 + i]? = some o ∧ o.guard = none ∧ o.dst = none ∧ o.op = .store 25 (.tmp (7 + i)) (.tmp (18 + 2 * i)))
    (hzr : zr.size = 6) (ht : 23 ≤ a0.tmps.size)
    (hx : ∀ i, i < 3 → a0.tmps.getD (3 + i) undef = .pointer (some ⟨bx i, 0, none⟩)) (hrx : ∀ i, i < 3 → w.heap[bx i]? = some (.cells (ra i) 25 (0, 0)))
    (hil : ∀ i, i < 3 → (Try.prog.info? 25).map (·.size) = some (ra i).size) (hit : (Try.prog.info? 25).map (·.size) = some 6)
    (hB : B ≤ w.heap.size)
    (hc : ∀ i, i < 3 → ∀ V, Below w.heap.size w V → Calls Try.prog 9 #[.agg (ra i), .int .i64 8, .int .i64 32] V fun e w' => ∃ A, e = .returned ((T i).val A) ∧ LiesS (fun k => k < B ∨ (V.heap.size ≤ k ∧ k < w'.heap.size)) w' (T i) A ∧ Below V.heap.size V w')
    (hQ : ∀ (W : World) (z : Nat → Nat) (A : Nat → Ad), Below w.heap.size w W → (∀ i, i < 3 → W.heap[z i]? = some (.cells ((T i).cs (A i)).toArray 25 (0, 0)) ∧ w.heap.size ≤ z i ∧ Lies W.heap.size W (T i) (A i)) →
      Q .normal (((((((((a0.put (some 17) (.agg (ra 0))).put (some 18) ((T 0).val (A 0))).put (some 19) (.agg (ra 1))).put (some 20) ((T 1).val (A 1))).put (some 21) (.agg (ra 2))).put (some 22) ((T 2).val (A 2))).put (some 7) (.pointer (some ⟨z 0, 0, none⟩))).put (some 8) (.pointer (some ⟨z 1, 0, none⟩))).put (some 9) (.pointer (some ⟨z 2, 0, none⟩))) W) :
    (Code.region id ops true).wp Try.prog Q a0 w := by
  unfold depB at hdep
  simp only [Bool.and_eq_true, List.contains_iff_mem, List.all_eq_true, List.mem_range, decide_eq_true_eq] at hdep
  obtain ⟨⟨⟨⟨⟨⟨⟨⟨⟨g1, g3⟩, g5⟩, g96⟩, g91⟩, g107⟩, g103⟩, g118⟩, g115⟩, hlow⟩ := hdep
  refine wp_region_any hm ?_
  refine any_inv (fun l a W => ∃ z A, P3 ra T a0 w l a W z A) ?_ ?_ ?_ _ _ _ _ ?_ ?_
  · rintro l a W ⟨z, A, H⟩
    rw [hsz]
    exact H.len
  · rintro l a W ⟨z, A, H⟩ hr
    have tt : ∀ j, j < 12 → l.getD j false = true := all_done hsz H.len hlow hr
    have he : a = (((((((((a0.put (some 17) (.agg (ra 0))).put (some 18) ((T 0).val (A 0))).put (some 19) (.agg (ra 1))).put (some 20) ((T 1).val (A 1))).put (some 21) (.agg (ra 2))).put (some 22) ((T 2).val (A 2))).put (some 7) (.pointer (some ⟨z 0, 0, none⟩))).put (some 8) (.pointer (some ⟨z 1, 0, none⟩))).put (some 9) (.pointer (some ⟨z 2, 0, none⟩))) := by
      refine act_ext ?_ ?_ (fun j => ?_)
      · rw [put_df, put_df, put_df, put_df, put_df, put_df, put_df, put_df, put_df]
        exact H.df
      · rw [put_size', put_size', put_size', put_size', put_size', put_size', put_size', put_size', put_size']
        exact H.sz
      · by_cases j9 : j = 9
        · rw [j9, put_eq (by rw [put_size', put_size', put_size', put_size', put_size', put_size', put_size', put_size']; omega)]; exact H.vS 2 (by decide) (tt 8 (by decide))
        rw [put_ne (Ne.symm j9)]
        by_cases j8 : j = 8
        · rw [j8, put_eq (by rw [put_size', put_size', put_size', put_size', put_size', put_size', put_size']; omega)]; exact H.vS 1 (by decide) (tt 7 (by decide))
        rw [put_ne (Ne.symm j8)]
        by_cases j7 : j = 7
        · rw [j7, put_eq (by rw [put_size', put_size', put_size', put_size', put_size', put_size']; omega)]; exact H.vS 0 (by decide) (tt 6 (by decide))
        rw [put_ne (Ne.symm j7)]
        by_cases j22 : j = 22
        · rw [j22, put_eq (by rw [put_size', put_size', put_size', put_size', put_size']; omega)]; exact H.vC 2 (by decide) (tt 5 (by decide))
        rw [put_ne (Ne.symm j22)]
        by_cases j21 : j = 21
        · rw [j21, put_eq (by rw [put_size', put_size', put_size', put_size']; omega)]; exact H.vL 2 (by decide) (tt 4 (by decide))
        rw [put_ne (Ne.symm j21)]
        by_cases j20 : j = 20
        · rw [j20, put_eq (by rw [put_size', put_size', put_size']; omega)]; exact H.vC 1 (by decide) (tt 3 (by decide))
        rw [put_ne (Ne.symm j20)]
        by_cases j19 : j = 19
        · rw [j19, put_eq (by rw [put_size', put_size']; omega)]; exact H.vL 1 (by decide) (tt 2 (by decide))
        rw [put_ne (Ne.symm j19)]
        by_cases j18 : j = 18
        · rw [j18, put_eq (by rw [put_size']; omega)]; exact H.vC 0 (by decide) (tt 1 (by decide))
        rw [put_ne (Ne.symm j18)]
        by_cases j17 : j = 17
        · rw [j17, put_eq (by omega)]; exact H.vL 0 (by decide) (tt 0 (by decide))
        rw [put_ne (Ne.symm j17)]
        exact H.rest j (by omega) (by omega)
    rw [he]
    refine hQ W z A H.hb (fun i hi => ?_)
    obtain ⟨z1, z2, cs, _, c2, c3⟩ := H.bS i hi (tt _ (by omega))
    rw [c3 (tt _ (by omega))] at c2
    exact ⟨c2, z1, (H.lC i hi (tt _ (by omega))).up (fun k hk => hk.1)⟩
  · rintro l a W ⟨z, A, H⟩ i hi
    obtain ⟨hi12, hfr, hdd⟩ := mem_ready.1 hi
    rw [hsz] at hi12
    have hfr' := fresh_at hfr
    have hszz := H.sz
    have hload : ∀ p, p < 3 → wpOp Try.prog ops Q (2 * p) (fun a w_1 => ∃ z A, P3 ra T a0 w (l.setIfInBounds (2 * p) true) a w_1 z A) a W := fun p hp => by
      obtain ⟨o, ho, hg, hd, hop⟩ := hL p hp
      refine wpOp_of ho hg (wp_load_row 25 (.tmp (3 + p)) hop (bx p) ((H.rest (3 + p) (by omega) (by omega)).trans (hx p hp)) 25 (ra p) (0, 0) _ ((H.hb.block _ (lt_of_row (hrx p hp))).trans (hrx p hp)) Try.underlying25 rfl (hil p hp) ?_)
      rw [hd]
      exact ⟨z, A, H.load hp (by omega)⟩
    have hcall : ∀ p, p < 3 → l.getD (2 * p) false = true → l.getD (2 * p + 1) false = false → wpOp Try.prog ops Q (2 * p + 1) (fun a w_1 => ∃ z A, P3 ra T a0 w (l.setIfInBounds (2 * p + 1) true) a w_1 z A) a W := fun p hp hl hf => by
      obtain ⟨o, ho, hg, hd, hop⟩ := hC p hp
      refine wpOp_of ho hg (wp_enter (hop a W (H.vL p hp hl)) ((hc p hp W H.hb).mono ?_))
      rintro e w' ⟨A', rfl, hLL, hb⟩
      rw [hd]
      exact ⟨_, rfl, z, _, H.call hp (by omega) hf hB hLL hb⟩
    have halloc : ∀ p, p < 3 → l.getD (6 + p) false = false → wpOp Try.prog ops Q (6 + p) (fun a w_1 => ∃ z A, P3 ra T a0 w (l.setIfInBounds (6 + p) true) a w_1 z A) a W := fun p hp hf => by
      obtain ⟨o, ho, hg, hd, hop⟩ := hA p hp
      refine wpOp_of ho hg (wp_value (hop a W) ?_)
      rw [hd]
      exact ⟨_, A, H.alloc hp (by omega) hf hzr⟩
    have hstore : ∀ p, p < 3 → l.getD (6 + p) false = true → l.getD (2 * p + 1) false = true → wpOp Try.prog ops Q (9 + p) (fun a w_1 => ∃ z A, P3 ra T a0 w (l.setIfInBounds (9 + p) true) a w_1 z A) a W := fun p hp hf hl => by
      obtain ⟨o, ho, hg, hd, hop⟩ := hS p hp
      obtain ⟨_, _, cs, hcs, hr, _⟩ := H.bS p hp hf
      refine wpOp_of ho hg (wp_store_row 25 (.tmp (7 + p)) (.tmp (18 + 2 * p)) hop (z p) ((T p).cs (A p)).toArray (H.vS p hp hf) (H.vC p hp hl) 25 cs hr hit hcs (cells_one (T p) (A p)) ?_)
      rw [hd]
      exact ⟨z, A, H.store hp hl hf⟩
    obtain rfl | rfl | rfl | rfl | rfl | rfl | rfl | rfl | rfl | rfl | rfl | rfl : i = 0 ∨ i = 1 ∨ i = 2 ∨ i = 3 ∨ i = 4 ∨ i = 5 ∨ i = 6 ∨ i = 7 ∨ i = 8 ∨ i = 9 ∨ i = 10 ∨ i = 11 := by omega
    · exact hload 0 (by decide)
    · exact hcall 0 (by decide) (hdd _ g1) hfr'
    · exact hload 1 (by decide)
    · exact hcall 1 (by decide) (hdd _ g3) hfr'
    · exact hload 2 (by decide)
    · exact hcall 2 (by decide) (hdd _ g5) hfr'
    · exact halloc 0 (by decide) hfr'
    · exact halloc 1 (by decide) hfr'
    · exact halloc 2 (by decide) hfr'
    · exact hstore 0 (by decide) (hdd _ g96) (hdd _ g91)
    · exact hstore 1 (by decide) (hdd _ g107) (hdd _ g103)
    · exact hstore 2 (by decide) (hdd _ g118) (hdd _ g115)
  · rw [hsz]
    decide
  · have hrep : ∀ j, (Array.replicate ops.size false).getD j false = false := fun j => by simp [Array.getD_eq_getD_getElem?, Array.getElem?_replicate]; split <;> rfl
    refine ⟨fun _ => 0, fun _ => ⟨none, 0, none, 0⟩, { len := by simp [hsz], df := rfl, sz := rfl, rest := fun _ _ _ => rfl, vL := (fun i _ h => absurd ((hrep _).symm.trans h) (by decide)), vC := (fun i _ h => absurd ((hrep _).symm.trans h) (by decide)), vS := (fun i _ h => absurd ((hrep _).symm.trans h) (by decide)), hb := (Below.refl _ w).drew, lC := (fun i _ h => absurd ((hrep _).symm.trans h) (by decide)), bS := (fun i _ h => absurd ((hrep _).symm.trans h) (by decide)), ne := (fun i j _ _ _ h => absurd ((hrep _).symm.trans h) (by decide)), nS := (fun i _ h => absurd ((hrep _).symm.trans h) (by decide)) }⟩
end Go.Proofs.Ytjmjlijmeahmfaa
