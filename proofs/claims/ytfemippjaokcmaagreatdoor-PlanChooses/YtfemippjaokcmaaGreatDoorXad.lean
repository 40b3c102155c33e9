/- A region whose order is drawn, whose operations make memory and change none: whatever order is drawn, each slot holds what its operation makes (R), which new memory leaves standing. The parser's block (Ps), and what each call on words does: word, fail, take, is, took, key, sign, end, name. -/
import Derived.Test.YtfemippjaokcmaaGreatDoorRows
import Derived.WalkKit
import Derived.WalkSpells
import Derived.WalkLawsBesides
import Derived.Orders
import Derived.Deep.QuietTactic
import Derived.BigQuiet
import Derived.Test.YtfemippjaokcmaaGreatDoorXac
namespace Go.Proofs.YtfemippjaokcmaaGreatDoor
open Go.RowKit
def unl (l : Array Bool) : Nat := (l.toList.filter (fun b => !b)).length
theorem unl_set {l : Array Bool} {i : Nat} (hi : i < l.size) (h : l.getD i true = false) : unl (l.setIfInBounds i true) + 1 = unl l := by
  unfold unl
  rw [Array.toList_setIfInBounds]
  have hi' : i < l.toList.length := by simpa using hi
  have hg : l.toList[i] = false := by
    simp only [Array.getD, hi, dite_true] at h
    simpa using h
  have e : l.toList = l.toList.take i ++ false :: l.toList.drop (i + 1) := by
    rw [← hg, ← List.drop_eq_getElem_cons hi', List.take_append_drop]
  have e2 : l.toList.set i true = l.toList.take i ++ true :: l.toList.drop (i + 1) := List.set_eq_take_append_cons_drop.trans (by rw [if_pos hi'])
  have e3 : (l.toList.filter (fun b => !b)).length = ((l.toList.take i ++ false :: l.toList.drop (i + 1)).filter (fun b => !b)).length := by rw [← e]
  rw [e2, e3, List.filter_append, List.filter_append, List.length_append, List.length_append, List.filter_cons_of_neg (by simp), List.filter_cons_of_pos (by simp), List.length_cons]
  omega
theorem ready_unl {md : Region.Mode} {ops : Array Oper} {l : Array Bool} (h : unl l = 0) (hs : l.size = ops.size) : Region.ready md ops l = [] := by
  unfold Region.ready
  rw [List.filter_eq_nil_iff]
  intro i hi
  have hi' : i < l.size := by rw [hs]; exact List.mem_range.1 hi
  have : l.getD i true = true := by
    cases k : l.getD i true with
    | true => rfl
    | false => have := unl_set hi' k; omega
  rw [this]
  simp
theorem any_inv {P : Program} {md : Region.Mode} {ops : Array Oper} {Q : Exit → Act → World → Prop} (I : Array Bool → Act → World → Prop)
    (hsz : ∀ l a w, I l a w → l.size = ops.size) (hdone : ∀ l a w, I l a w → Region.ready md ops l = [] → Q .normal a w)
    (hstep : ∀ l a w, I l a w → ∀ i ∈ Region.ready md ops l, wpOp P ops Q i (I (l.setIfInBounds i true)) a w) :
    ∀ (fuel : Nat) (l : Array Bool) (a : Act) (w : World), unl l ≤ fuel → I l a w → wpAny P md ops Q fuel l a w := by
  intro fuel
  induction fuel with
  | zero =>
    intro l a w hf h
    have hr := ready_unl (md := md) (ops := ops) (by omega : unl l = 0) (hsz l a w h)
    exact ⟨hr, hdone l a w h hr⟩
  | succ fuel ih =>
    intro l a w hf h
    refine ⟨hdone l a w h, fun i hi => ?_⟩
    refine wpOp_mono (fun a' w' h' => ih _ _ _ ?_ h') (hstep l a w h i hi)
    unfold Region.ready at hi
    rw [List.mem_filter, List.mem_range] at hi
    obtain ⟨h1, h2⟩ := hi
    simp only [Bool.and_eq_true, Bool.not_eq_true'] at h2
    have := unl_set (l := l) (i := i) (by rw [hsz l a w h]; exact h1) h2.1
    omega
theorem put_size' (a : Act) (d : Nat) (v : Value) : (a.put (some d) v).tmps.size = a.tmps.size := by simp [Act.put]
theorem put_ne {a : Act} {d j : Nat} {v : Value} (h : d ≠ j) : (a.put (some d) v).tmps.getD j undef = a.tmps.getD j undef := by
  simp only [Act.put, Array.getD_eq_getD_getElem?]
  rw [Array.getElem?_setIfInBounds_ne h]
theorem put_eq {a : Act} {d : Nat} {v : Value} (h : d < a.tmps.size) : (a.put (some d) v).tmps.getD d undef = v := by
  simp only [Act.put, Array.getD_eq_getD_getElem?]
  rw [Array.getElem?_setIfInBounds_self_of_lt h]
  rfl
theorem lset {l : Array Bool} {i j : Nat} (h : i ≠ j) : (l.setIfInBounds i true).getD j false = l.getD j false := by
  simp only [Array.getD_eq_getD_getElem?]
  rw [Array.getElem?_setIfInBounds_ne h]
theorem fresh_at {l : Array Bool} {i : Nat} (h : l.getD i true = false) : l.getD i false = false := by
  simp only [Array.getD_eq_getD_getElem?] at h ⊢
  cases k : l[i]? with
  | none => rfl
  | some b => rw [k] at h; exact h
theorem wp_enter {P : Program} {o : Oper} {a : Act} {w : World} {K : Act → World → Prop} {Q : Exit → Act → World → Prop} {f : FuncId} {args : Array Value} (hrun : (execOp a.eval o).run P w = .ok (.enter f args) w)
    (hc : Calls P f args w fun e w' => ∃ v, e = .returned v ∧ K (a.put o.dst v) w') : o.wp P a w K Q := by
  unfold Oper.wp
  rw [hrun]
  show Calls P f args w _
  refine hc.mono ?_
  rintro e w' ⟨v, rfl, h⟩
  exact h
theorem wp_value {P : Program} {o : Oper} {a : Act} {w w' : World} {K : Act → World → Prop} {Q : Exit → Act → World → Prop} {v : Value} (hrun : (execOp a.eval o).run P w = .ok (.value v) w') (h : K (a.put o.dst v) w') : o.wp P a w K Q := by
  unfold Oper.wp
  rw [hrun]
  exact h
theorem act_ext {a b : Act} (hd : a.defers = b.defers) (hs : a.tmps.size = b.tmps.size) (h : ∀ j, a.tmps.getD j undef = b.tmps.getD j undef) : a = b := by
  obtain ⟨t, d⟩ := a
  obtain ⟨t', d'⟩ := b
  have e : t = t' := by
    refine Array.ext hs (fun i h1 h2 => ?_)
    have := h i
    simp only [Array.getD_eq_getD_getElem?] at this
    rw [Array.getElem?_eq_getElem h1, Array.getElem?_eq_getElem h2] at this
    exact this
  have e2 : d = d' := hd
  rw [e, e2]
theorem wanted_none {o : Oper} {ops : Array Oper} {t : Array Value} (h : o.guard = none) : Region.wanted o (yielded ops t) = true := by simp [Region.wanted, h]
theorem wpOp_of {P : Program} {ops : Array Oper} {Q : Exit → Act → World → Prop} {i : Nat} {o : Oper} {K : Act → World → Prop} {a : Act} {w : World} (ho : ops[i]? = some o) (hg : o.guard = none) (h : o.wp P a w K Q) : wpOp P ops Q i K a w := by
  unfold wpOp
  rw [ho]
  simp only [wanted_none hg, if_true]
  exact Or.inl h
theorem gset {l : Array Bool} {p q : Nat} (hp : p < l.size) : (l.setIfInBounds p true).getD q false = if p = q then true else l.getD q false := by
  by_cases h : p = q
  · subst h
    rw [if_pos rfl]
    simp [Array.getD_eq_getD_getElem?, Array.getElem?_setIfInBounds_self_of_lt hp]
  · rw [if_neg h, lset h]
def depOf (ops : Array Oper) (i : Nat) : List Nat := ((ops[i]?).map (fun o => (o.after.toList.filter (fun e => Region.binds .any e)).map (fun e => e.on))).getD []
theorem mem_ready {ops : Array Oper} {l : Array Bool} {i : Nat} : i ∈ Region.ready .any ops l ↔ i < ops.size ∧ l.getD i true = false ∧ ∀ n ∈ depOf ops i, l.getD n false = true := by
  unfold Region.ready depOf
  rw [List.mem_filter, List.mem_range]
  constructor
  · rintro ⟨h1, h2⟩
    rw [Bool.and_eq_true, Bool.not_eq_true'] at h2
    refine ⟨h1, h2.1, ?_⟩
    have h3 := h2.2
    rw [Array.getElem?_eq_getElem h1] at h3 ⊢
    simp only [Option.map_some, Option.getD_some] at h3 ⊢
    rw [Array.all_eq_true'] at h3
    intro n hn
    obtain ⟨e, he, rfl⟩ := List.mem_map.1 hn
    obtain ⟨he1, he2⟩ := List.mem_filter.1 he
    have := h3 e (by simpa using he1)
    rw [he2] at this
    simpa using this
  · rintro ⟨h1, h2, h3⟩
    refine ⟨h1, ?_⟩
    rw [Bool.and_eq_true, Bool.not_eq_true']
    refine ⟨h2, ?_⟩
    rw [Array.getElem?_eq_getElem h1] at h3 ⊢
    simp only [Option.map_some, Option.getD_some] at h3 ⊢
    rw [Array.all_eq_true']
    intro e he
    by_cases hb : Region.binds .any e = true
    · have := h3 e.on (List.mem_map.2 ⟨e, List.mem_filter.2 ⟨by simpa using he, hb⟩, rfl⟩)
      rw [this]
      simp
    · simp [hb]
theorem all_done {ops : Array Oper} {l : Array Bool} {n : Nat} (hsz : ops.size = n) (hl : l.size = n) (hdep : ∀ i, i < n → ∀ k ∈ depOf ops i, k < i) (hr : Region.ready .any ops l = []) : ∀ i, i < n → l.getD i false = true := by
  intro i
  induction i using Nat.strongRecOn with
  | ind i ih =>
    intro hi
    cases h : l.getD i true with
    | false =>
      have : i ∈ Region.ready .any ops l := mem_ready.2 ⟨by omega, h, fun k hk => ih k (hdep i hi k hk) (by have := hdep i hi k hk; omega)⟩
      rw [hr] at this
      cases this
    | true =>
      have hi' : i < l.size := by omega
      simp only [Array.getD_eq_getD_getElem?, Array.getElem?_eq_getElem hi', Option.getD_some] at h ⊢
      exact h
structure AI (n : Nat) (ds : Nat → Nat) (R : Nat → Value → World → Prop) (a0 : Act) (w0 : World) (l : Array Bool) (a : Act) (w : World) : Prop where
  len : l.size = n
  df : a.defers = a0.defers
  sz : a.tmps.size = a0.tmps.size
  rest : ∀ j, (∀ i, i < n → ds i ≠ j) → a.tmps.getD j undef = a0.tmps.getD j undef
  hb : Below w0.heap.size w0 w
  val : ∀ i, i < n → l.getD i false = true → R i (a.tmps.getD (ds i) undef) w
theorem AI.step {n : Nat} {ds : Nat → Nat} {R : Nat → Value → World → Prop} {a0 : Act} {w0 : World} {l : Array Bool} {a : Act} {w w' : World} (H : AI n ds R a0 w0 l a w) (hR : ∀ i v W W', R i v W → Below W.heap.size W W' → R i v W')
    (hinj : ∀ i j, i < n → j < n → ds i = ds j → i = j) (hlt : ∀ i, i < n → ds i < a0.tmps.size) {i : Nat} (hi : i < n) {v : Value} (hb : Below w.heap.size w w') (hv : R i v w') :
    AI n ds R a0 w0 (l.setIfInBounds i true) (a.put (some (ds i)) v) w' := by
  have hil : i < l.size := by rw [H.len]; exact hi
  have hid : ds i < a.tmps.size := by rw [H.sz]; exact hlt i hi
  refine { len := by simp [H.len], df := H.df, sz := (put_size' _ _ _).trans H.sz, rest := fun j hj => (put_ne (hj i hi)).trans (H.rest j hj), hb := H.hb.trans (hb.mono H.hb.size), val := fun k hk h => ?_ }
  by_cases e : k = i
  · subst e
    rw [put_eq hid]
    exact hv
  · rw [gset hil, if_neg (Ne.symm e)] at h
    rw [put_ne (fun h2 => e (hinj i k hi hk h2).symm)]
    exact hR k _ _ _ (H.val k hk h) hb
def putAll (a : Act) (ds : Nat → Nat) (V : Nat → Value) : Nat → Act
  | 0 => a
  | n + 1 => (putAll a ds V n).put (some (ds n)) (V n)
theorem putAll_df (a : Act) (ds : Nat → Nat) (V : Nat → Value) : ∀ n, (putAll a ds V n).defers = a.defers
  | 0 => rfl
  | n + 1 => putAll_df a ds V n
theorem putAll_sz (a : Act) (ds : Nat → Nat) (V : Nat → Value) : ∀ n, (putAll a ds V n).tmps.size = a.tmps.size
  | 0 => rfl
  | n + 1 => (put_size' _ _ _).trans (putAll_sz a ds V n)
theorem putAll_ne (a : Act) (ds : Nat → Nat) (V : Nat → Value) (j : Nat) : ∀ n, (∀ i, i < n → ds i ≠ j) → (putAll a ds V n).tmps.getD j undef = a.tmps.getD j undef
  | 0, _ => rfl
  | n + 1, h => (put_ne (h n (by omega))).trans (putAll_ne a ds V j n (fun i hi => h i (by omega)))
theorem putAll_eq (a : Act) (ds : Nat → Nat) (V : Nat → Value) (i : Nat) : ∀ n, (∀ i j, i < n → j < n → ds i = ds j → i = j) → (∀ i, i < n → ds i < a.tmps.size) → i < n → (putAll a ds V n).tmps.getD (ds i) undef = V i
  | 0, _, _, h => absurd h (by omega)
  | n + 1, hinj, hlt, h => by
    by_cases e : i = n
    · subst e
      exact put_eq (by rw [putAll_sz]; exact hlt i h)
    · refine (put_ne (fun h2 => e (hinj n i (by omega) h h2).symm)).trans ?_
      exact putAll_eq a ds V i n (fun i j hi hj => hinj i j (by omega) (by omega)) (fun i hi => hlt i (by omega)) (by omega)
def injB (ds : Nat → Nat) (n : Nat) : Bool := (List.range n).all fun i => (List.range n).all fun j => decide (ds i = ds j → i = j)
def depB (ops : Array Oper) : Bool := (List.range ops.size).all fun i => (depOf ops i).all fun k => decide (k < i)
def sltB (ds : Nat → Nat) (n m : Nat) : Bool := (List.range n).all fun i => decide (ds i < m)
theorem quiet_class {P : Program} {C : World → Prop} {id : Nat} {Q : Exit → Act → World → Prop} {a : Act} {w : World} {l : List Oper} (hm : P.follows .mixedOrders = true) (hB : Region.lexB .any l.toArray = true) (hC : C { w with drawn := w.drawn + 1 })
    (h : wpQuiet P l.toArray C (fun a' => ∀ w', C w' → Q .normal a' w') l a) : (Code.region id l.toArray true).wp P Q a w :=
  wp_region_quiet hm hB hC (by simpa using h)
theorem ev {a : Act} {j : Nat} {v : Value} (h : a.eval (.tmp j) = v) : a.tmps[j]?.getD undef = v := by rw [← Array.getD_eq_getD_getElem?]; exact h
theorem mem_of {l : List Nat} {k : Nat} (h : l.contains k = true) : k ∈ l := List.contains_iff_mem.1 h
/- Operations that must wait for all ahead of them, at the end of a region whose order is drawn. -/
def covL (ops : Array Oper) : Nat → List Nat → List Nat
  | 0, acc => acc
  | k + 1, acc => covL ops k (if acc.any (fun m => (depOf ops m).contains k) then k :: acc else acc)
def tailB (ops : Array Oper) (n : Nat) : Bool := (List.range ops.size).all fun i => decide (i < n) || (List.range i).all (fun k => (covL ops i [i]).contains k)
theorem covL_done {ops : Array Oper} {l : Array Bool} {i : Nat} (hi : ∀ k ∈ depOf ops i, l.getD k false = true) (hcl : ∀ m, l.getD m false = true → ∀ k ∈ depOf ops m, l.getD k false = true) :
    ∀ (f : Nat) (acc : List Nat), (∀ m ∈ acc, m = i ∨ l.getD m false = true) → ∀ m ∈ covL ops f acc, m = i ∨ l.getD m false = true
  | 0, _, h => h
  | k + 1, acc, h => by
    refine covL_done hi hcl k _ ?_
    split
    · next hk =>
      intro m hm
      rcases List.mem_cons.1 hm with rfl | hm
      · obtain ⟨m', h1, h2⟩ := List.any_eq_true.1 hk
        have h3 := List.contains_iff_mem.1 h2
        rcases h m' h1 with rfl | h4
        · exact Or.inr (hi _ h3)
        · exact Or.inr (hcl _ h4 _ h3)
      · exact h m hm
    · exact h
theorem tail_ready {ops : Array Oper} {n : Nat} (ht : tailB ops n = true) {l : Array Bool} (hcl : ∀ m, l.getD m false = true → ∀ k ∈ depOf ops m, l.getD k false = true) {i : Nat} (hi : i < ops.size) (hn : n ≤ i) (hd : ∀ k ∈ depOf ops i, l.getD k false = true) : ∀ k, k < i → l.getD k false = true := by
  intro k hk
  unfold tailB at ht
  have h1 := List.all_eq_true.1 ht i (List.mem_range.2 hi)
  rw [decide_eq_false (by omega), Bool.false_or] at h1
  have h2 := List.contains_iff_mem.1 (List.all_eq_true.1 h1 k (List.mem_range.2 hk))
  rcases covL_done hd hcl i [i] (fun m hm => Or.inl (List.mem_singleton.1 hm)) k h2 with rfl | h
  · omega
  · exact h
structure TI (N n : Nat) (ds : Nat → Nat) (R : Nat → Value → World → Prop) (a0 : Act) (w0 : World) (l : Array Bool) (a : Act) (w : World) : Prop where
  len : l.size = N
  df : a.defers = a0.defers
  sz : a.tmps.size = a0.tmps.size
  rest : ∀ j, (∀ i, i < n → ds i ≠ j) → a.tmps.getD j undef = a0.tmps.getD j undef
  hb : Below w0.heap.size w0 w
  val : ∀ i, i < n → l.getD i false = true → R i (a.tmps.getD (ds i) undef) w
theorem TI.step {N n : Nat} {ds : Nat → Nat} {R : Nat → Value → World → Prop} {a0 : Act} {w0 : World} {l : Array Bool} {a : Act} {w w' : World} (H : TI N n ds R a0 w0 l a w) (hR : ∀ i v W W', R i v W → Below W.heap.size W W' → R i v W')
    (hinj : ∀ i j, i < n → j < n → ds i = ds j → i = j) (hlt : ∀ i, i < n → ds i < a0.tmps.size) (hN : n ≤ N) {i : Nat} (hi : i < n) {v : Value} (hb : Below w.heap.size w w') (hv : R i v w') :
    TI N n ds R a0 w0 (l.setIfInBounds i true) (a.put (some (ds i)) v) w' := by
  have hil : i < l.size := by rw [H.len]; omega
  have hid : ds i < a.tmps.size := by rw [H.sz]; exact hlt i hi
  refine { len := by simp [H.len], df := H.df, sz := (put_size' _ _ _).trans H.sz, rest := fun j hj => (put_ne (hj i hi)).trans (H.rest j hj), hb := H.hb.trans (hb.mono H.hb.size), val := fun k hk h => ?_ }
  by_cases e : k = i
  · subst e
    rw [put_eq hid]
    exact hv
  · rw [gset hil, if_neg (Ne.symm e)] at h
    rw [put_ne (fun h2 => e (hinj i k hi hk h2).symm)]
    exact hR k _ _ _ (H.val k hk h) hb
theorem any_tail {P : Program} {ops : Array Oper} {Q : Exit → Act → World → Prop} {id : Nat} {a0 : Act} {w : World} (hm : P.follows .mixedOrders = true) (n : Nat) (hsz : n ≤ ops.size) (ds : Nat → Nat) (R : Nat → Value → World → Prop)
    (hdep : depB ops = true) (htl : tailB ops n = true) (hinj : injB ds n = true) (hlt : sltB ds n a0.tmps.size = true)
    (hR : ∀ i v W W', R i v W → Below W.heap.size W W' → R i v W')
    (hstep : ∀ i, i < n → ∀ (a : Act) (W : World), (∀ j, (∀ i, i < n → ds i ≠ j) → a.eval (.tmp j) = a0.eval (.tmp j)) → Below w.heap.size w W → (∀ k ∈ depOf ops i, R k (a.eval (.tmp (ds k))) W) →
      ∃ o, ops[i]? = some o ∧ o.guard = none ∧ o.dst = some (ds i) ∧ o.wp P a W (fun a' W' => ∃ v, a' = a.put o.dst v ∧ Below W.heap.size W W' ∧ R i v W') Q)
    (hQ : ∀ (V : Nat → Value) (W : World), Below w.heap.size w W → (∀ i, i < n → R i (V i) W) → wpList P ops Q (ops.toList.drop n) (putAll a0 ds V n) W) :
    (Code.region id ops true).wp P Q a0 w := by
  have hdep' : ∀ i, i < ops.size → ∀ k ∈ depOf ops i, k < i := by
    intro i hi k hk
    unfold depB at hdep
    simp only [List.all_eq_true, List.mem_range, decide_eq_true_eq] at hdep
    exact hdep i (by omega) k hk
  have hinj' : ∀ i j, i < n → j < n → ds i = ds j → i = j := by
    unfold injB at hinj
    simp only [List.all_eq_true, List.mem_range, decide_eq_true_eq] at hinj
    exact fun i j hi hj => hinj i hi j hj
  have hlt' : ∀ i, i < n → ds i < a0.tmps.size := by
    unfold sltB at hlt
    simp only [List.all_eq_true, List.mem_range, decide_eq_true_eq] at hlt
    exact hlt
  have hops : ∀ a W, wpList P ops Q (ops.toList.drop n) a W → wpOps P ops Q (List.range' n (ops.size - n)) a W := by
    intro a W h
    have e := wpOps_eq_wpList (P := P) (ops := ops) (Q := Q) (ops.toList.drop n) n (fun j => by rw [List.getElem?_drop]; simp)
    rw [List.length_drop, Array.length_toList] at e
    rw [e]
    exact h
  have hfin : ∀ (l : Array Bool) (a : Act) (W : World), TI ops.size n ds R a0 w l a W → (∀ i, i < n → l.getD i false = true) → wpOps P ops Q (List.range' n (ops.size - n)) a W := by
    intro l a W H tt
    have he : a = putAll a0 ds (fun i => a.tmps.getD (ds i) undef) n := by
      refine act_ext (H.df.trans (putAll_df _ _ _ _).symm) (H.sz.trans (putAll_sz _ _ _ _).symm) (fun j => ?_)
      by_cases hj : ∃ i, i < n ∧ ds i = j
      · obtain ⟨i, hi, rfl⟩ := hj
        rw [putAll_eq a0 ds _ i n hinj' hlt' hi]
      · have hj' : ∀ i, i < n → ds i ≠ j := fun i hi e => hj ⟨i, hi, e⟩
        rw [putAll_ne a0 ds _ j n hj']
        exact H.rest j hj'
    have h2 := hops _ _ (hQ (fun i => a.tmps.getD (ds i) undef) W H.hb (fun i hi => H.val i hi (tt i hi)))
    rw [← he] at h2
    exact h2
  refine wp_region_any hm ?_
  refine any_inv (fun l a W => l.size = ops.size ∧ (∀ m, l.getD m false = true → ∀ k ∈ depOf ops m, l.getD k false = true) ∧
    ((TI ops.size n ds R a0 w l a W ∧ (∀ i, n ≤ i → l.getD i false = false) ∧ ∃ i, i < n ∧ l.getD i false = false) ∨
      ∃ j, n ≤ j ∧ j ≤ ops.size ∧ (∀ i, i < j → l.getD i false = true) ∧ (∀ i, j ≤ i → l.getD i false = false) ∧ wpOps P ops Q (List.range' j (ops.size - j)) a W)) ?_ ?_ ?_ _ _ _ _ ?_ ?_
  · intro l a W H
    exact H.1
  · intro l a W H hr
    obtain ⟨hl, hcl, H⟩ := H
    have tt := all_done rfl hl hdep' hr
    rcases H with ⟨_, _, i, hi, h0⟩ | ⟨j, h1, h2, h3, h4, h5⟩
    · rw [tt i (by omega)] at h0; cases h0
    · have hj : j = ops.size := by
        rcases Nat.lt_or_ge j ops.size with h | h
        · have h6 := h4 j (Nat.le_refl _)
          rw [tt j h] at h6
          cases h6
        · omega
      subst hj
      rw [Nat.sub_self] at h5
      simpa [wpOps] using h5
  · intro l a W H i hi
    obtain ⟨hl, hcl, H⟩ := H
    obtain ⟨hin, hfr, hdd⟩ := mem_ready.1 hi
    have hil : i < l.size := by omega
    have hcl2 : ∀ m, (l.setIfInBounds i true).getD m false = true → ∀ k ∈ depOf ops m, (l.setIfInBounds i true).getD k false = true := by
      intro m hm2 k hk
      rw [gset hil] at hm2 ⊢
      by_cases e : i = m
      · subst e
        split
        · rfl
        · exact hdd k hk
      · rw [if_neg e] at hm2
        split
        · rfl
        · exact hcl m hm2 k hk
    have hfr2 := fresh_at hfr
    rcases H with ⟨H, h0, i0, hi0, h00⟩ | ⟨j, h1, h2, h3, h4, h5⟩
    · by_cases hn : i < n
      · obtain ⟨o, ho, hg, hd, hw⟩ := hstep i hn a W (fun j hj => H.rest j hj) H.hb (fun k hk => H.val k (by have := hdep' i hin k hk; omega) (hdd k hk))
        refine wpOp_of ho hg (Oper.wp_mono ?_ hw)
        rintro a' W' ⟨v, rfl, hb, hv⟩
        rw [hd]
        have H2 := H.step hR hinj' hlt' hsz hn hb hv
        refine ⟨H2.len, hcl2, ?_⟩
        by_cases hall : ∀ k, k < n → (l.setIfInBounds i true).getD k false = true
        · refine Or.inr ⟨n, Nat.le_refl _, hsz, hall, fun k hk => ?_, hfin _ _ _ H2 hall⟩
          rw [lset (by omega)]
          exact h0 k hk
        · refine Or.inl ⟨H2, fun k hk => ?_, ?_⟩
          · rw [lset (by omega)]
            exact h0 k hk
          · obtain ⟨k, hk⟩ := Classical.not_forall.1 hall
            obtain ⟨hk1, hk2⟩ := Classical.not_imp.1 hk
            exact ⟨k, hk1, by simpa using hk2⟩
      · have := tail_ready htl hcl hin (by omega) hdd i0 (by omega)
        rw [h00] at this
        cases this
    · have hij : i = j := by
        rcases Nat.lt_trichotomy i j with h | h | h
        · rw [h3 i h] at hfr2; cases hfr2
        · exact h
        · have h6 := tail_ready htl hcl hin (by omega) hdd j h
          rw [h4 j (Nat.le_refl _)] at h6
          cases h6
      subst hij
      have e : ops.size - i = (ops.size - (i + 1)) + 1 := by omega
      rw [e, List.range'_succ, wpOps_cons] at h5
      refine wpOp_mono (fun a' W' h' => ?_) h5
      refine ⟨by simp [hl], hcl2, Or.inr ⟨i + 1, by omega, by omega, fun k hk => ?_, fun k hk => ?_, h'⟩⟩
      · rw [gset hil]
        split
        · rfl
        · exact h3 k (by omega)
      · rw [lset (by omega)]
        exact h4 k (by omega)
  · simp only [unl, Array.toList_replicate]
    exact Nat.le_trans (List.length_filter_le _ _) (by simp)
  · have hrep : ∀ j, (Array.replicate ops.size false).getD j false = false := fun j => by simp [Array.getD_eq_getD_getElem?, Array.getElem?_replicate]; split <;> rfl
    have H0 : TI ops.size n ds R a0 w (Array.replicate ops.size false) a0 w.drew := { len := by simp, df := rfl, sz := rfl, rest := fun _ _ => rfl, hb := (Below.refl _ w).drew, val := fun i _ h => absurd ((hrep _).symm.trans h) (by decide) }
    refine ⟨by simp, fun m h => absurd ((hrep _).symm.trans h) (by decide), ?_⟩
    by_cases hn : n = 0
    · refine Or.inr ⟨0, by omega, by omega, fun i hi => absurd hi (by omega), fun i _ => hrep i, ?_⟩
      have := hfin _ _ _ H0 (fun i hi => absurd hi (by omega))
      rw [hn] at this
      exact this
    · exact Or.inl ⟨H0, fun i _ => hrep i, 0, by omega, hrep 0⟩
def pickS : List (Nat × (Value → World → Prop)) → Nat → Option (Value → World → Prop)
  | [], _ => none
  | x :: l, i => if i = x.1 then some x.2 else pickS l i
def mixR (S : List (Nat × (Value → World → Prop))) (L : List Value) (i : Nat) (v : Value) (W : World) : Prop := match pickS S i with | some f => f v W | none => v = L.getD i undef
theorem pickS_mem {S : List (Nat × (Value → World → Prop))} {i : Nat} {f : Value → World → Prop} (h : pickS S i = some f) : ∃ x ∈ S, x.2 = f := by
  induction S with
  | nil => cases h
  | cons x S ih =>
    unfold pickS at h
    split at h
    · exact ⟨x, List.mem_cons_self, Option.some.inj h⟩
    · obtain ⟨y, h1, h2⟩ := ih h
      exact ⟨y, List.mem_cons_of_mem _ h1, h2⟩
theorem stab_nil : ∀ x ∈ ([] : List (Nat × (Value → World → Prop))), ∀ v W W', x.2 v W → Below W.heap.size W W' → x.2 v W' := fun _ h => (by cases h)
theorem stab_cons {i : Nat} {f : Value → World → Prop} {S : List (Nat × (Value → World → Prop))} (hf : ∀ v W W', f v W → Below W.heap.size W W' → f v W') (hS : ∀ x ∈ S, ∀ v W W', x.2 v W → Below W.heap.size W W' → x.2 v W') : ∀ x ∈ (i, f) :: S, ∀ v W W', x.2 v W → Below W.heap.size W W' → x.2 v W' := by
  intro x hx
  rcases List.mem_cons.1 hx with rfl | h
  · exact hf
  · exact hS x h
theorem mixR_later (S : List (Nat × (Value → World → Prop))) (L : List Value) (hS : ∀ x ∈ S, ∀ v W W', x.2 v W → Below W.heap.size W W' → x.2 v W') : ∀ i v W W', mixR S L i v W → Below W.heap.size W W' → mixR S L i v W' := by
  intro i v W W' h hb
  unfold mixR at h ⊢
  cases hp : pickS S i with
  | none => rw [hp] at h; exact h
  | some f =>
    rw [hp] at h
    obtain ⟨x, h1, rfl⟩ := pickS_mem hp
    exact hS x h1 v W W' h hb
end Go.Proofs.YtfemippjaokcmaaGreatDoor
namespace Go.Proofs.YtfemippjaokcmaaGreatDoor
open Go.RowKit Go.Shelf
attribute [local go_sem] Oper.semAt_some
/- Where a parser stands: the next word, whole expressions, how deep, the first error and its place. -/
structure PS where
  at' : Nat
  ex : Nat
  ne : Nat
  er : Nat
  pl : Nat
def psRow (p : Option Addr) (n c : Nat) (s : PS) : Array Value := #[.slice p n c, .int .i64 (s.at' : Int), .int .i64 (s.ex : Int), .int .i64 (s.ne : Int), .int .i64 (s.er : Int), .int .i64 (s.pl : Int)]
structure Onl (b : Nat) (w w' : World) : Prop where
  os : w'.os = w.os
  tape : w'.tape = w.tape
  output : w'.output = w.output
  size : w.heap.size ≤ w'.heap.size
  block : ∀ k, k < w.heap.size → k ≠ b → w'.heap[k]? = w.heap[k]?
theorem Onl.of {b : Nat} {w w' : World} (h : Below w.heap.size w w') : Onl b w w' := ⟨h.os, h.tape, h.output, h.size, fun k hk _ => h.block k hk⟩
theorem Onl.trans {b : Nat} {a c d : World} (h : Onl b a c) (k : Onl b c d) : Onl b a d :=
  ⟨k.os.trans h.os, k.tape.trans h.tape, k.output.trans h.output, Nat.le_trans h.size k.size, fun j hj hb => (k.block j (Nat.lt_of_lt_of_le hj h.size) hb).trans (h.block j hj hb)⟩
theorem Onl.setCell {b : Nat} {a c : World} (h : Onl b a c) (o : Nat) (v : Value) : Onl b a (c.setCell ⟨b, o, none⟩ v) :=
  ⟨h.os, h.tape, h.output, by simpa [World.setCell] using h.size, fun k hk hb => (heap_setCell_other c ⟨b, o, none⟩ k v hb).trans (h.block k hk hb)⟩
structure Ps (w : World) (b : Nat) (p : Option Addr) (c : Nat) (ws : List Wd) (s : PS) : Prop where
  row : w.heap[b]? = some (.cells (psRow p ws.length c s) 102 (0, 0))
  sl : Sl w p ws.length c (wdC ws)
  lt : s.at' < ws.length
  few : ws.length ≤ 3000
theorem Ps.later {w w' : World} {b : Nat} {p : Option Addr} {c : Nat} {ws : List Wd} {s : PS} (H : Ps w b p c ws s) (hb : Below w.heap.size w w') : Ps w' b p c ws s :=
  ⟨(hb.block _ (lt_of_row H.row)).trans H.row, H.sl.later hb, H.lt, H.few⟩
def wdS (x : Wd) : ByteArray := ⟨x.s.toArray⟩
def wAt (ws : List Wd) (i : Nat) : Wd := ws.getD i ⟨0, [], 0⟩
theorem wdC_at : ∀ (ws : List Wd) (i : Nat), i < ws.length → (wdC ws)[i * 3]? = some (.int .i64 ((wAt ws i).k : Int)) ∧ (wdC ws)[i * 3 + 1]? = some (.string (wdS (wAt ws i))) ∧ (wdC ws)[i * 3 + 2]? = some (.int .i64 ((wAt ws i).a : Int))
  | [], i, h => by simp at h
  | x :: ws, 0, _ => ⟨rfl, rfl, rfl⟩
  | x :: ws, i + 1, h => by
    have h2 := wdC_at ws i (by simpa using h)
    have e : wdC (x :: ws) = wd1 x ++ wdC ws := rfl
    have e0 : (i + 1) * 3 = i * 3 + 1 + 1 + 1 := by omega
    rw [e, e0]
    refine ⟨?_, ?_, ?_⟩
    · exact h2.1
    · exact h2.2.1
    · exact h2.2.2
theorem Ps.word_at {w : World} {b : Nat} {p : Option Addr} {c : Nat} {ws : List Wd} {s : PS} (H : Ps w b p c ws s) : ∃ g, p = some ⟨g, 0, none⟩ ∧ g < w.heap.size ∧ g ≠ b ∧
    w.cell? ⟨g, s.at' * 3, none⟩ = some (.int .i64 ((wAt ws s.at').k : Int)) ∧ w.cell? ⟨g, s.at' * 3 + 1, none⟩ = some (.string (wdS (wAt ws s.at'))) ∧ w.cell? ⟨g, s.at' * 3 + 2, none⟩ = some (.int .i64 ((wAt ws s.at').a : Int)) := by
  have hl := H.lt
  obtain ⟨g, rfl, hg, hc⟩ := H.sl.lies (by omega)
  obtain ⟨h1, h2, h3⟩ := wdC_at ws s.at' H.lt
  refine ⟨g, rfl, hg, fun e => ?_, hc _ _ h1, hc _ _ h2, hc _ _ h3⟩
  subst e
  have h4 := hc _ _ h2
  rw [cell_of_row w g _ _ _ _ H.row] at h4
  have := Array.mem_of_getElem? h4
  simp [psRow] at this
theorem Ps.upd {w w' : World} {b : Nat} {p : Option Addr} {c : Nat} {ws : List Wd} {s t : PS} (H : Ps w b p c ws s) (ho : Onl b w w') (hr : w'.heap[b]? = some (.cells (psRow p ws.length c t) 102 (0, 0))) (hl : t.at' < ws.length) : Ps w' b p c ws t := by
  obtain ⟨g, rfl, hg, hne, -, -, -⟩ := H.word_at
  refine ⟨hr, ⟨H.sl.cap, H.sl.len, fun h0 => ?_⟩, hl, H.few⟩
  obtain ⟨g', e, h2, h3⟩ := H.sl.lies h0
  obtain rfl : g = g' := by injection e with e; injection e
  exact ⟨g, rfl, Nat.lt_of_lt_of_le h2 ho.size, fun j u hu => (World.cell?_of_block (a := ⟨g, j, none⟩) (ho.block g h2 hne)).trans (h3 j u hu)⟩
def wdV (x : Wd) : Value := .agg #[.int .i64 (x.k : Int), .string (wdS x), .int .i64 (x.a : Int)]
theorem fw0 (x y z : Value) (W : World) : (Instr.field 128 (.agg #[x, y, z]) 0).run Tryz.prog W = .ok x W := by kernel_rfl
theorem fw1 (x y z : Value) (W : World) : (Instr.field 128 (.agg #[x, y, z]) 1).run Tryz.prog W = .ok y W := by kernel_rfl
theorem fw2 (x y z : Value) (W : World) : (Instr.field 128 (.agg #[x, y, z]) 2).run Tryz.prog W = .ok z W := by kernel_rfl
attribute [local go_sem] fw0 fw1 fw2
set_option maxRecDepth 100000 in
set_option maxHeartbeats 4000000 in
theorem word_any {w : World} {b : Nat} {p : Option Addr} {c : Nat} {ws : List Wd} {s : PS} (H : Ps w b p c ws s) :
    Calls Tryz.prog 87 #[.pointer (some ⟨b, 0, none⟩)] w fun e w' => e = .returned (wdV (wAt ws s.at')) ∧ Below w.heap.size w w' := by
  obtain ⟨g, rfl, hg, hne, c0, c1, c2⟩ := H.word_at
  have hrow := H.row
  have hcap := H.sl.cap
  have hlt := H.lt
  unfold psRow at hrow
  unfold wdV
  generalize ((wAt ws s.at').k : Int) = k at c0 ⊢
  generalize wdS (wAt ws s.at') = t at c1 ⊢
  generalize ((wAt ws s.at').a : Int) = m at c2 ⊢
  generalize ws.length = n at hrow hcap hlt
  generalize s.at' = i at hrow hlt c0 c1 c2
  generalize Value.int .i64 (s.ex : Int) = ex at hrow
  generalize Value.int .i64 (s.ne : Int) = ne at hrow
  generalize Value.int .i64 (s.er : Int) = er at hrow
  generalize Value.int .i64 (s.pl : Int) = pl at hrow
  have hmx : maxLen = 9223372036854775807 := rfl
  have hlt' : (i : Int) < (n : Int) := by omega
  obtain ⟨w1, hw1⟩ : ∃ w1, w.alloc (.cells #[.int .i64 0, .string ⟨#[]⟩, .int .i64 0] 128) = w1 := ⟨_, rfl⟩
  have hb1 : Below w.heap.size w w1 := by rw [← hw1]; exact (Below.refl _ w).alloc (Nat.le_refl _) _
  have rz : w1.heap[w.heap.size]? = some (.cells #[.int .i64 0, .string ⟨#[]⟩, .int .i64 0] 128 (0, 0)) := by rw [← hw1]; exact heap_alloc_new _ _
  have r1 := (hb1.block _ (lt_of_row hrow)).trans hrow
  replace c0 := (cell_later hb1 hg).trans c0
  replace c1 := (cell_later hb1 hg).trans c1
  replace c2 := (cell_later hb1 hg).trans c2
  have hg1 : g < w1.heap.size := Nat.lt_of_lt_of_le hg hb1.size
  clear H hrow
  go_enter Tryz.func87, Tryz.ntmps87
  go_wp2
  refine any_tail (by kernel_rfl) 10 (by exact Nat.le_of_ble_eq_true rfl) (fun i => i + 3) (mixR [] [.pointer (some ⟨b, 0, none⟩), .pointer (some ⟨b, 0, none⟩), .pointer (some ⟨b, 0, none⟩), .slice (some ⟨g, 0, none⟩) n c, .pointer (some ⟨b, 0, none⟩), .pointer (some ⟨b, 0, none⟩), .pointer (some ⟨b, 1, none⟩), .int .i64 (i : Int), .pointer (some ⟨g, i * 3, none⟩), .agg #[.int .i64 k, .string t, .int .i64 m]]) (by kernel_rfl) (by kernel_rfl) (by kernel_rfl) (by kernel_rfl) (mixR_later _ _ (stab_nil)) ?step ?post
  case step =>
    intro iq hiq a W hrest hb hk
    have hp0 : a.eval (.tmp 0) = .pointer (some ⟨b, 0, none⟩) := (hrest 0 (by intro iq2 hiq2; (repeat' split) <;> omega)).trans rfl
    have fp0 := ev hp0
    have hx0 : W.heap[b]? = some (.cells #[.slice (some ⟨g, 0, none⟩) n c, .int .i64 (i : Int), ex, ne, er, pl] 102 (0, 0)) := (hb.block _ (lt_of_row r1)).trans r1
    clear hrest
    obtain rfl | rfl | rfl | rfl | rfl | rfl | rfl | rfl | rfl | rfl : iq = 0 ∨ iq = 1 ∨ iq = 2 ∨ iq = 3 ∨ iq = 4 ∨ iq = 5 ∨ iq = 6 ∨ iq = 7 ∨ iq = 8 ∨ iq = 9 := by omega
    · clear hiq
      clear hk
      refine ⟨_, rfl, rfl, rfl, wp_value (v := .pointer (some ⟨b, 0, none⟩)) (w' := W) ?_ ⟨_, rfl, Below.refl _ _, rfl⟩⟩
      go_simp
    · clear hiq
      have e0 : a.eval (.tmp 3) = .pointer (some ⟨b, 0, none⟩) := hk 0 (mem_of (by kernel_rfl))
      have f0 := ev e0
      clear hk
      refine ⟨_, rfl, rfl, rfl, wp_value (v := .pointer (some ⟨b, 0, none⟩)) (w' := W) ?_ ⟨_, rfl, Below.refl _ _, rfl⟩⟩
      go_simp
    · clear hiq
      have e1 : a.eval (.tmp 4) = .pointer (some ⟨b, 0, none⟩) := hk 1 (mem_of (by kernel_rfl))
      have f1 := ev e1
      clear hk
      refine ⟨_, rfl, rfl, rfl, wp_value (v := .pointer (some ⟨b, 0, none⟩)) (w' := W) ?_ ⟨_, rfl, Below.refl _ _, rfl⟩⟩
      go_simp
    · clear hiq
      have e2 : a.eval (.tmp 5) = .pointer (some ⟨b, 0, none⟩) := hk 2 (mem_of (by kernel_rfl))
      have f2 := ev e2
      have hc : W.cell? ⟨b, 0, none⟩ = some (.slice (some ⟨g, 0, none⟩) n c) := cell_of_row W _ 0 _ _ _ hx0
      clear hk
      refine ⟨_, rfl, rfl, rfl, wp_value (v := .slice (some ⟨g, 0, none⟩) n c) (w' := W) ?_ ⟨_, rfl, Below.refl _ _, rfl⟩⟩
      go_simp
    · clear hiq
      clear hk
      refine ⟨_, rfl, rfl, rfl, wp_value (v := .pointer (some ⟨b, 0, none⟩)) (w' := W) ?_ ⟨_, rfl, Below.refl _ _, rfl⟩⟩
      go_simp
    · clear hiq
      have e4 : a.eval (.tmp 7) = .pointer (some ⟨b, 0, none⟩) := hk 4 (mem_of (by kernel_rfl))
      have f4 := ev e4
      clear hk
      refine ⟨_, rfl, rfl, rfl, wp_value (v := .pointer (some ⟨b, 0, none⟩)) (w' := W) ?_ ⟨_, rfl, Below.refl _ _, rfl⟩⟩
      go_simp
    · clear hiq
      have e5 : a.eval (.tmp 8) = .pointer (some ⟨b, 0, none⟩) := hk 5 (mem_of (by kernel_rfl))
      have f5 := ev e5
      clear hk
      refine ⟨_, rfl, rfl, rfl, wp_value (v := .pointer (some ⟨b, 1, none⟩)) (w' := W) ?_ ⟨_, rfl, Below.refl _ _, rfl⟩⟩
      go_simp
    · clear hiq
      have e6 : a.eval (.tmp 9) = .pointer (some ⟨b, 1, none⟩) := hk 6 (mem_of (by kernel_rfl))
      have f6 := ev e6
      have hc : W.cell? ⟨b, 1, none⟩ = some (.int .i64 (i : Int)) := cell_of_row W _ 1 _ _ _ hx0
      clear hk
      refine ⟨_, rfl, rfl, rfl, wp_value (v := .int .i64 (i : Int)) (w' := W) ?_ ⟨_, rfl, Below.refl _ _, rfl⟩⟩
      go_simp
    · clear hiq
      have e3 : a.eval (.tmp 6) = .slice (some ⟨g, 0, none⟩) n c := hk 3 (mem_of (by kernel_rfl))
      have f3 := ev e3
      have e7 : a.eval (.tmp 10) = .int .i64 (i : Int) := hk 7 (mem_of (by kernel_rfl))
      have f7 := ev e7
      clear hk
      refine ⟨_, rfl, rfl, rfl, wp_value (v := .pointer (some ⟨g, i * 3, none⟩)) (w' := W) ?_ ⟨_, rfl, Below.refl _ _, rfl⟩⟩
      go_simp
    · clear hiq
      have e8 : a.eval (.tmp 11) = .pointer (some ⟨g, i * 3, none⟩) := hk 8 (mem_of (by kernel_rfl))
      have f8 := ev e8
      have k0 := (cell_later hb hg1).trans c0
      have k1 := (cell_later hb hg1).trans c1
      have k2 := (cell_later hb hg1).trans c2
      clear hk
      refine ⟨_, rfl, rfl, rfl, wp_value (v := .agg #[.int .i64 k, .string t, .int .i64 m]) (w' := W) ?_ ⟨_, rfl, Below.refl _ _, rfl⟩⟩
      go_simp
  case post =>
    intro V W hbW hV
    have e9 : V 9 = .agg #[.int .i64 k, .string t, .int .i64 m] := hV 9 (by omega)
    clear hV
    simp only [putAll, Nat.reduceAdd]
    rw [e9]
    simp only [Act.put, List.setIfInBounds_toArray, List.set_cons_zero, List.set_cons_succ]
    have q := (hbW.block _ (lt_of_row rz)).trans rz
    have x0 := cell_of_row W _ 0 _ _ _ q
    have x1 := cell_of_row W _ 1 _ _ _ q
    have x2 := cell_of_row W _ 2 _ _ _ q
    have f0 := frozen_of_row W _ 0 _ _ q
    have f1 := frozen_of_row W _ 1 _ _ q
    have f2 := frozen_of_row W _ 2 _ _ q
    have hBW : Below w.heap.size w W := hb1.trans (hbW.mono hb1.size)
    clear e9 c0 c1 c2 r1 hw1
    go_wp2
    exact bodyPost_ret (results_cell_row Tryz.results87 _ _ w.heap.size 128 _ (0, 0) _ rfl (set3_row q _ _ _) Tryz.underlying128 rfl (by kernel_rfl)) rfl ⟨rfl, set3_below hBW _ (Nat.le_refl _) _ _ _⟩
def failP (ws : List Wd) (s : PS) (e : Nat) : PS := if s.er = 0 then ⟨ws.length - 1, s.ex, s.ne, e, (wAt ws s.at').a⟩ else s
theorem failP_at (ws : List Wd) (s : PS) (e : Nat) (h : s.at' < ws.length) : (failP ws s e).at' < ws.length := by
  unfold failP
  split
  · show ws.length - 1 < ws.length
    omega
  · exact h
set_option maxRecDepth 100000 in
set_option maxHeartbeats 4000000 in
theorem fail_any {w : World} {b : Nat} {p : Option Addr} {c : Nat} {ws : List Wd} {s : PS} (H : Ps w b p c ws s) (e : Nat) :
    Calls Tryz.prog 86 #[.pointer (some ⟨b, 0, none⟩), .int .i64 (e : Int)] w fun r w' => r = .returned (.tuple #[]) ∧ Ps w' b p c ws (failP ws s e) ∧ Onl b w w' := by
  have hlt := H.lt
  have hfw := H.few
  have r0 := H.row
  have a4 := cell_of_row w _ 4 _ _ _ r0
  have hmx : maxLen = 9223372036854775807 := rfl
  have h2 := failP_at ws s e H.lt
  by_cases he : s.er = 0
  · have hf : failP ws s e = ⟨ws.length - 1, s.ex, s.ne, e, (wAt ws s.at').a⟩ := if_pos he
    rw [hf] at h2 ⊢
    have kw := word_any H
    unfold wdV at kw
    have HH : Hid (Ps w b p c ws s) := H
    obtain ⟨n, hn⟩ : ∃ n, ws.length = n := ⟨_, rfl⟩
    have hn1 : IntKind.i64.wrap ((n : Int) - 1) = ((n - 1 : Nat) : Int) := by rw [IntKind.wrap_i64]; omega
    have hn2 : wrap64 ((n : Int) - 1) = ((n - 1 : Nat) : Int) := by unfold wrap64; omega
    have HN : Hid (ws.length = n) := hn
    simp only [psRow, he, hn] at r0 a4
    rw [hn] at h2 ⊢
    have H2 : Hid (n - 1 < n) := h2
    clear H hf he h2
    go_enter Tryz.func86, Tryz.ntmps86
    go_wp2_with fail
    refine kw.mono ?_
    rintro q w1 ⟨rfl, hb1⟩
    have r1 := (hb1.block _ (lt_of_row r0)).trans r0
    have c0 := cell_of_row w1 _ 0 _ _ _ r1
    have c1 := cell_of_row w1 _ 1 _ _ _ r1
    have c4 := cell_of_row w1 _ 4 _ _ _ r1
    have c5 := cell_of_row w1 _ 5 _ _ _ r1
    have f1 := frozen_of_row w1 _ 1 _ _ r1
    have f4 := frozen_of_row w1 _ 4 _ _ r1
    have f5 := frozen_of_row w1 _ 5 _ _ r1
    have s1 := heap_setCell_same w1 b 4 _ _ (.int .i64 (e : Int)) r1
    have s2 := heap_setCell_same _ b 5 _ _ (.int .i64 ((wAt ws s.at').a : Int)) s1
    have s3 := heap_setCell_same _ b 1 _ _ (.int .i64 ((n - 1 : Nat) : Int)) s2
    have ho := (((Onl.of (b := b) hb1).setCell 4 (.int .i64 (e : Int))).setCell 5 (.int .i64 ((wAt ws s.at').a : Int))).setCell 1 (.int .i64 ((n - 1 : Nat) : Int))
    clear kw a4 r0 s1 s2
    go_wp2
    go_end0
    refine ⟨rfl, HH.out.upd ho ?_ ?_, ho⟩
    · rw [HN.out]
      exact s3
    · rw [HN.out]
      exact H2.out
  · have hf : failP ws s e = s := if_neg he
    rw [hf]
    have he' : ¬ ((s.er : Int) = 0) := by omega
    simp only [psRow] at a4
    have HH : Hid (Ps w b p c ws s) := H
    clear H r0 hf he h2
    go_enter Tryz.func86, Tryz.ntmps86
    go_wp2
    exact bodyPost_ret (results_none rfl _ _ _) rfl ⟨rfl, HH.out, Onl.of (Below.refl _ _)⟩
def takeP (s : PS) : PS := { s with at' := s.at' + 1 }
set_option maxRecDepth 100000 in
set_option maxHeartbeats 4000000 in
theorem take_any {w : World} {b : Nat} {p : Option Addr} {c : Nat} {ws : List Wd} {s : PS} (H : Ps w b p c ws s) (h1 : s.at' + 1 < ws.length) :
    Calls Tryz.prog 143 #[.pointer (some ⟨b, 0, none⟩)] w fun r w' => r = .returned (.string (wdS (wAt ws s.at'))) ∧ Ps w' b p c ws (takeP s) ∧ Onl b w w' := by
  have hlt := H.lt
  have hfw := H.few
  have r0 := H.row
  have kw := word_any H
  unfold wdV at kw
  have HH : Hid (Ps w b p c ws s) := H
  obtain ⟨i, hi⟩ : ∃ i, s.at' = i := ⟨_, rfl⟩
  have HI : Hid (s.at' = i) := hi
  have H1 : Hid (s.at' + 1 < ws.length) := h1
  simp only [psRow] at r0
  rw [hi] at r0 hlt
  have hw1 : wrap64 ((i : Int) + 1) = (i : Int) + 1 := by unfold wrap64; omega
  have hw2 : IntKind.i64.wrap ((i : Int) + 1) = (i : Int) + 1 := by rw [IntKind.wrap_i64]; omega
  clear H hi h1
  go_enter Tryz.func143, Tryz.ntmps143
  go_wp2_with fail
  refine kw.mono ?_
  rintro q w1 ⟨rfl, hb1⟩
  have r1 := (hb1.block _ (lt_of_row r0)).trans r0
  have c1 := cell_of_row w1 _ 1 _ _ _ r1
  have f1 := frozen_of_row w1 _ 1 _ _ r1
  have s1 := heap_setCell_same w1 b 1 _ _ (.int .i64 ((i : Int) + 1)) r1
  have ho := (Onl.of (b := b) hb1).setCell 1 (.int .i64 ((i : Int) + 1))
  clear kw r0
  go_wp2
  go_ret
  refine ⟨rfl, HH.out.upd ho ?_ H1.out, ho⟩
  rw [s1]
  unfold psRow takeP
  rw [HI.out]
  rfl
def isW (x : Wd) (k : Nat) (t : ByteArray) : Bool := decide (x.k = k) && ((wdS x).toList == t.toList)
set_option maxRecDepth 100000 in
set_option maxHeartbeats 4000000 in
theorem is_any {w : World} {b : Nat} {p : Option Addr} {c : Nat} {ws : List Wd} {s : PS} (H : Ps w b p c ws s) (k : Nat) (t : ByteArray) :
    Calls Tryz.prog 142 #[.pointer (some ⟨b, 0, none⟩), .int .i64 (k : Int), .string t] w fun r w' => r = .returned (.bool (isW (wAt ws s.at') k t)) ∧ Below w.heap.size w w' := by
  have kw := word_any H
  unfold wdV at kw
  obtain ⟨x, hx⟩ : ∃ x, wAt ws s.at' = x := ⟨_, rfl⟩
  rw [hx] at kw
  rw [hx]
  obtain ⟨R, hR⟩ : ∃ R, isW x k t = R := ⟨_, rfl⟩
  rw [hR]
  have HR : Hid (isW x k t = R) := hR
  clear H hx hR
  obtain ⟨xk, hxk⟩ : ∃ xk, x.k = xk := ⟨_, rfl⟩
  obtain ⟨xt, hxt⟩ : ∃ xt, wdS x = xt := ⟨_, rfl⟩
  have HX : Hid (isW x k t = (decide (xk = k) && (xt.toList == t.toList))) := by unfold Hid isW; rw [hxk, hxt]
  rw [hxk, hxt] at kw
  clear hxk hxt
  go_enter Tryz.func142, Tryz.ntmps142
  go_wp2_with fail
  refine kw.mono ?_
  rintro q w1 ⟨rfl, hb1⟩
  have hB : ∀ o, Below w.heap.size w (w1.alloc o) := fun o => hb1.trans (((Below.refl _ w1).alloc (Nat.le_refl _) o).mono hb1.size)
  clear kw hb1
  by_cases hk : xk = k
  · subst hk
    go_wp2
    go_ret
    refine ⟨?_, hB _⟩
    rw [← HR.out, HX.out]
    show Ending.returned (Value.bool (xt.toList == t.toList)) = _
    simp
  · have hk' : ¬ ((xk : Int) = (k : Int)) := by omega
    go_wp2
    go_ret
    refine ⟨?_, hB _⟩
    rw [← HR.out, HX.out, decide_eq_false hk, Bool.false_and]
    rfl
/- A word that was next is taken. -/
def tookP (ws : List Wd) (s : PS) (k : Nat) (t : ByteArray) : PS := if isW (wAt ws s.at') k t then takeP s else s
/- The last word is the end, and nothing else is. -/
def Wz (ws : List Wd) : Prop := ∀ i, i < ws.length → ((wAt ws i).k = 0 ↔ i + 1 = ws.length)
theorem Wz.next {ws : List Wd} (h : Wz ws) {i : Nat} (hi : i < ws.length) (hk : (wAt ws i).k ≠ 0) : i + 1 < ws.length := by
  have := h i hi
  omega
theorem isW_kind {x : Wd} {k : Nat} {t : ByteArray} (h : isW x k t = true) : x.k = k := by
  unfold isW at h
  simp only [Bool.and_eq_true, decide_eq_true_eq] at h
  exact h.1
set_option maxHeartbeats 2000000 in
theorem took_any {w : World} {b : Nat} {p : Option Addr} {c : Nat} {ws : List Wd} {s : PS} (H : Ps w b p c ws s) (hz : Wz ws) (k : Nat) (hk : k ≠ 0) (t : ByteArray) :
    Calls Tryz.prog 116 #[.pointer (some ⟨b, 0, none⟩), .int .i64 (k : Int), .string t] w fun r w' => r = .returned (.bool (isW (wAt ws s.at') k t)) ∧ Ps w' b p c ws (tookP ws s k t) ∧ Onl b w w' := by
  have ki := is_any H k t
  unfold tookP
  cases hi : isW (wAt ws s.at') k t with
  | true =>
    rw [hi] at ki
    rw [if_pos rfl]
    have h1 := hz.next H.lt (by rw [isW_kind hi]; exact hk)
    have HH : Hid (Ps w b p c ws s) := H
    clear H hi
    go_enter Tryz.func116, Tryz.ntmps116
    go_wp2_with fail
    refine ki.mono ?_
    rintro q w1 ⟨rfl, hb1⟩
    have kt := take_any (HH.out.later hb1) h1
    go_wp2_with fail
    refine kt.mono ?_
    rintro q w2 ⟨rfl, hP, hO⟩
    have HP : Hid (Ps w2 b p c ws (takeP s) ∧ Onl b w w2) := ⟨hP, (Onl.of hb1).trans hO⟩
    clear kt hP hO ki h1
    go_wp2
    go_ret
    exact ⟨rfl, HP.out.1, HP.out.2⟩
  | false =>
    rw [hi] at ki
    rw [if_neg Bool.false_ne_true]
    have HH : Hid (Ps w b p c ws s) := H
    clear H hi
    go_enter Tryz.func116, Tryz.ntmps116
    go_wp2_with fail
    refine ki.mono ?_
    rintro q w1 ⟨rfl, hb1⟩
    go_wp2
    go_ret
    exact ⟨rfl, HH.out.later hb1, Onl.of hb1⟩
theorem tookKey_any {w : World} {b : Nat} {p : Option Addr} {c : Nat} {ws : List Wd} {s : PS} (H : Ps w b p c ws s) (hz : Wz ws) (t : ByteArray) :
    Calls Tryz.prog 80 #[.pointer (some ⟨b, 0, none⟩), .string t] w fun r w' => r = .returned (.bool (isW (wAt ws s.at') 2 t)) ∧ Ps w' b p c ws (tookP ws s 2 t) ∧ Onl b w w' := by
  have kt := took_any H hz 2 (by decide) t
  clear H
  go_enter Tryz.func80, Tryz.ntmps80
  go_wp2_with fail
  refine kt.mono ?_
  rintro q w1 ⟨rfl, hP, hO⟩
  have HP : Hid (Ps w1 b p c ws (tookP ws s 2 t) ∧ Onl b w w1) := ⟨hP, hO⟩
  clear kt hP hO
  go_wp2
  go_ret
  exact ⟨rfl, HP.out.1, HP.out.2⟩
theorem tookSign_any {w : World} {b : Nat} {p : Option Addr} {c : Nat} {ws : List Wd} {s : PS} (H : Ps w b p c ws s) (hz : Wz ws) (t : ByteArray) :
    Calls Tryz.prog 146 #[.pointer (some ⟨b, 0, none⟩), .string t] w fun r w' => r = .returned (.bool (isW (wAt ws s.at') 6 t)) ∧ Ps w' b p c ws (tookP ws s 6 t) ∧ Onl b w w' := by
  have kt := took_any H hz 6 (by decide) t
  clear H
  go_enter Tryz.func146, Tryz.ntmps146
  go_wp2_with fail
  refine kt.mono ?_
  rintro q w1 ⟨rfl, hP, hO⟩
  have HP : Hid (Ps w1 b p c ws (tookP ws s 6 t) ∧ Onl b w w1) := ⟨hP, hO⟩
  clear kt hP hO
  go_wp2
  go_ret
  exact ⟨rfl, HP.out.1, HP.out.2⟩
/- A word that must stand there. -/
def mustP (ws : List Wd) (s : PS) (k : Nat) (t : ByteArray) : PS := if isW (wAt ws s.at') k t then takeP s else failP ws s 120
theorem pkey_any {w : World} {b : Nat} {p : Option Addr} {c : Nat} {ws : List Wd} {s : PS} (H : Ps w b p c ws s) (hz : Wz ws) (t : ByteArray) :
    Calls Tryz.prog 118 #[.pointer (some ⟨b, 0, none⟩), .string t] w fun r w' => r = .returned (.tuple #[]) ∧ Ps w' b p c ws (mustP ws s 2 t) ∧ Onl b w w' := by
  have kt := tookKey_any H hz t
  unfold tookP at kt
  unfold mustP
  cases hi : isW (wAt ws s.at') 2 t with
  | true =>
    rw [hi, if_pos rfl] at kt
    rw [if_pos rfl]
    clear H hi
    go_enter Tryz.func118, Tryz.ntmps118
    go_wp2_with fail
    refine kt.mono ?_
    rintro q w1 ⟨rfl, hP, hO⟩
    have HP : Hid (Ps w1 b p c ws (takeP s) ∧ Onl b w w1) := ⟨hP, hO⟩
    clear kt hP hO
    go_wp2
    go_end0
    exact ⟨rfl, HP.out.1, HP.out.2⟩
  | false =>
    rw [hi, if_neg Bool.false_ne_true] at kt
    rw [if_neg Bool.false_ne_true]
    clear H hi
    go_enter Tryz.func118, Tryz.ntmps118
    go_wp2_with fail
    refine kt.mono ?_
    rintro q w1 ⟨rfl, hP, hO⟩
    have kf := fail_any hP 120
    have HO : Hid (Onl b w w1) := hO
    clear kt hP hO
    go_wp2_with fail
    refine kf.mono ?_
    rintro q w2 ⟨rfl, hP2, hO2⟩
    have HP : Hid (Ps w2 b p c ws (failP ws s 120) ∧ Onl b w w2) := ⟨hP2, HO.out.trans hO2⟩
    clear kf hP2 hO2
    go_wp2
    go_end0
    exact ⟨rfl, HP.out.1, HP.out.2⟩
theorem psign_any {w : World} {b : Nat} {p : Option Addr} {c : Nat} {ws : List Wd} {s : PS} (H : Ps w b p c ws s) (hz : Wz ws) (t : ByteArray) :
    Calls Tryz.prog 144 #[.pointer (some ⟨b, 0, none⟩), .string t] w fun r w' => r = .returned (.tuple #[]) ∧ Ps w' b p c ws (mustP ws s 6 t) ∧ Onl b w w' := by
  have kt := tookSign_any H hz t
  unfold tookP at kt
  unfold mustP
  cases hi : isW (wAt ws s.at') 6 t with
  | true =>
    rw [hi, if_pos rfl] at kt
    rw [if_pos rfl]
    clear H hi
    go_enter Tryz.func144, Tryz.ntmps144
    go_wp2_with fail
    refine kt.mono ?_
    rintro q w1 ⟨rfl, hP, hO⟩
    have HP : Hid (Ps w1 b p c ws (takeP s) ∧ Onl b w w1) := ⟨hP, hO⟩
    clear kt hP hO
    go_wp2
    go_end0
    exact ⟨rfl, HP.out.1, HP.out.2⟩
  | false =>
    rw [hi, if_neg Bool.false_ne_true] at kt
    rw [if_neg Bool.false_ne_true]
    clear H hi
    go_enter Tryz.func144, Tryz.ntmps144
    go_wp2_with fail
    refine kt.mono ?_
    rintro q w1 ⟨rfl, hP, hO⟩
    have kf := fail_any hP 120
    have HO : Hid (Onl b w w1) := hO
    clear kt hP hO
    go_wp2_with fail
    refine kf.mono ?_
    rintro q w2 ⟨rfl, hP2, hO2⟩
    have HP : Hid (Ps w2 b p c ws (failP ws s 120) ∧ Onl b w w2) := ⟨hP2, HO.out.trans hO2⟩
    clear kf hP2 hO2
    go_wp2
    go_end0
    exact ⟨rfl, HP.out.1, HP.out.2⟩
theorem end_any {w : World} {b : Nat} {p : Option Addr} {c : Nat} {ws : List Wd} {s : PS} (H : Ps w b p c ws s) :
    Calls Tryz.prog 55 #[.pointer (some ⟨b, 0, none⟩)] w fun r w' => r = .returned (.tuple #[]) ∧ Ps w' b p c ws (if (wAt ws s.at').k = 0 then s else failP ws s 120) ∧ Onl b w w' := by
  have kw := word_any H
  unfold wdV at kw
  by_cases hk : (wAt ws s.at').k = 0
  · rw [if_pos hk]
    have hk' : ((wAt ws s.at').k : Int) = 0 := by omega
    rw [hk'] at kw
    have HH : Hid (Ps w b p c ws s) := H
    clear H hk hk'
    go_enter Tryz.func55, Tryz.ntmps55
    go_wp2_with fail
    refine kw.mono ?_
    rintro q w1 ⟨rfl, hb1⟩
    go_wp2
    go_end0
    exact ⟨rfl, HH.out.later hb1, Onl.of hb1⟩
  · rw [if_neg hk]
    have hk' : ¬ ((wAt ws s.at').k : Int) = 0 := by omega
    generalize ((wAt ws s.at').k : Int) = kk at kw hk'
    have HH : Hid (Ps w b p c ws s) := H
    clear H hk
    go_enter Tryz.func55, Tryz.ntmps55
    go_wp2_with fail
    refine kw.mono ?_
    rintro q w1 ⟨rfl, hb1⟩
    have kf := fail_any (HH.out.later hb1) 120
    clear kw
    go_wp2_with fail
    refine kf.mono ?_
    rintro q w2 ⟨rfl, hP2, hO2⟩
    have HP : Hid (Ps w2 b p c ws (failP ws s 120) ∧ Onl b w w2) := ⟨hP2, (Onl.of hb1).trans hO2⟩
    clear kf hP2 hO2
    go_wp2
    go_end0
    exact ⟨rfl, HP.out.1, HP.out.2⟩
/- A name that must stand there: the text, and where the parser stands then. -/
def nameP (ws : List Wd) (s : PS) : PS := if (wAt ws s.at').k = 1 then takeP s else failP ws s 120
def nameS (ws : List Wd) (s : PS) : ByteArray := if (wAt ws s.at').k = 1 then wdS (wAt ws s.at') else ⟨#[]⟩
theorem pname_any {w : World} {b : Nat} {p : Option Addr} {c : Nat} {ws : List Wd} {s : PS} (H : Ps w b p c ws s) (hz : Wz ws) :
    Calls Tryz.prog 117 #[.pointer (some ⟨b, 0, none⟩)] w fun r w' => r = .returned (.string (nameS ws s)) ∧ Ps w' b p c ws (nameP ws s) ∧ Onl b w w' := by
  have kw := word_any H
  unfold wdV at kw
  unfold nameS nameP
  by_cases hk : (wAt ws s.at').k = 1
  · rw [if_pos hk, if_pos hk]
    have h1 := hz.next H.lt (by omega)
    have hk' : ((wAt ws s.at').k : Int) = 1 := by omega
    rw [hk'] at kw
    have HH : Hid (Ps w b p c ws s) := H
    clear H hk hk'
    go_enter Tryz.func117, Tryz.ntmps117
    go_wp2_with fail
    refine kw.mono ?_
    rintro q w1 ⟨rfl, hb1⟩
    have kt := take_any (HH.out.later hb1) h1
    clear kw h1
    go_wp2_with fail
    refine kt.mono ?_
    rintro q w2 ⟨rfl, hP, hO⟩
    have HP : Hid (Ps w2 b p c ws (takeP s) ∧ Onl b w w2) := ⟨hP, (Onl.of hb1).trans hO⟩
    clear kt hP hO
    go_wp2
    go_ret
    exact ⟨rfl, HP.out.1, HP.out.2⟩
  · rw [if_neg hk, if_neg hk]
    have hk' : ¬ ((wAt ws s.at').k : Int) = 1 := by omega
    generalize ((wAt ws s.at').k : Int) = kk at kw hk'
    have HH : Hid (Ps w b p c ws s) := H
    clear H hk
    go_enter Tryz.func117, Tryz.ntmps117
    go_wp2_with fail
    refine kw.mono ?_
    rintro q w1 ⟨rfl, hb1⟩
    have kf := fail_any (HH.out.later hb1) 120
    clear kw
    go_wp2_with fail
    refine kf.mono ?_
    rintro q w2 ⟨rfl, hP2, hO2⟩
    have HP : Hid (Ps w2 b p c ws (failP ws s 120) ∧ Onl b w w2) := ⟨hP2, (Onl.of hb1).trans hO2⟩
    clear kf hP2 hO2
    go_wp2
    go_ret
    exact ⟨rfl, HP.out.1, HP.out.2⟩
end Go.Proofs.YtfemippjaokcmaaGreatDoor
