/- A region whose order is drawn (any_tail). -/
import Derived.Test.YtgjalfcpfgbneaaGreatDoorLoo
import Derived.WalkKit
import Derived.WalkSpells
import Derived.WalkLawsBesides
import Derived.Orders
import Derived.Deep.QuietTactic
import Derived.BigQuiet
namespace Go.Proofs.YtgjalfcpfgbneaaGreatDoor
open Go.RowKit
set_option maxRecDepth 100000 in
theorem set_len (l : Array Bool) (i : Nat) : (l.setIfInBounds i true).size = l.size := by simp
def unl (l : Array Bool) : Nat := (l.toList.filter (fun b => !b)).length
set_option maxRecDepth 100000 in
theorem unl_set {l : Array Bool} {i : Nat} (hi : i < l.size) (h : l.getD i true = false) : unl (l.setIfInBounds i true) + 1 = unl l := by
  unfold unl
  rw [Array.toList_setIfInBounds]
  have hi' : i < l.toList.length := by simpa using hi
  have hg : l.toList[i] = false := by
    simp only [Array.getD, hi, dite_true] at h
    simpa using h
  have e : l.toList = l.toList.take i ++ false :: l.toList.drop (i + 1) := by
    rw [← hg, ← List.drop_eq_getElem_cons hi', List.take_append_drop]
  have e2 : l.toList.set i true = l.toList.take i ++ true :: l.toList.drop (i + 1) := List.set_eq_take_append_cons_drop.trans (by rw [if_pos hi'])
  have e3 : (l.toList.filter (fun b => !b)).length = ((l.toList.take i ++ false :: l.toList.drop (i + 1)).filter (fun b => !b)).length := by rw [← e]
  rw [e2, e3, List.filter_append, List.filter_append, List.length_append, List.length_append, List.filter_cons_of_neg (by simp), List.filter_cons_of_pos (by simp), List.length_cons]
  omega
set_option maxRecDepth 100000 in
theorem ready_unl {md : Region.Mode} {ops : Array Oper} {l : Array Bool} (h : unl l = 0) (hs : l.size = ops.size) : Region.ready md ops l = [] := by
  unfold Region.ready
  rw [List.filter_eq_nil_iff]
  intro i hi
  have hi' : i < l.size := by rw [hs]; exact List.mem_range.1 hi
  have : l.getD i true = true := by
    cases k : l.getD i true with
    | true => rfl
    | false => have := unl_set hi' k; omega
  rw [this]
  simp
set_option maxRecDepth 100000 in
theorem any_inv {P : Program} {md : Region.Mode} {ops : Array Oper} {Q : Exit → Act → World → Prop} (I : Array Bool → Act → World → Prop)
    (hsz : ∀ l a w, I l a w → l.size = ops.size) (hdone : ∀ l a w, I l a w → Region.ready md ops l = [] → Q .normal a w)
    (hstep : ∀ l a w, I l a w → ∀ i ∈ Region.ready md ops l, wpOp P ops Q i (I (l.setIfInBounds i true)) a w) :
    ∀ (fuel : Nat) (l : Array Bool) (a : Act) (w : World), unl l ≤ fuel → I l a w → wpAny P md ops Q fuel l a w := by
  intro fuel
  induction fuel with
  | zero =>
    intro l a w hf h
    have hr := ready_unl (md := md) (ops := ops) (by omega : unl l = 0) (hsz l a w h)
    exact ⟨hr, hdone l a w h hr⟩
  | succ fuel ih =>
    intro l a w hf h
    refine ⟨hdone l a w h, fun i hi => ?_⟩
    refine wpOp_mono (fun a' w' h' => ih _ _ _ ?_ h') (hstep l a w h i hi)
    unfold Region.ready at hi
    rw [List.mem_filter, List.mem_range] at hi
    obtain ⟨h1, h2⟩ := hi
    simp only [Bool.and_eq_true, Bool.not_eq_true'] at h2
    have := unl_set (l := l) (i := i) (by rw [hsz l a w h]; exact h1) h2.1
    omega
set_option maxRecDepth 100000 in
theorem put_size' (a : Act) (d : Nat) (v : Value) : (a.put (some d) v).tmps.size = a.tmps.size := by simp [Act.put]
set_option maxRecDepth 100000 in
theorem put_ne {a : Act} {d j : Nat} {v : Value} (h : d ≠ j) : (a.put (some d) v).tmps.getD j undef = a.tmps.getD j undef := by
  simp only [Act.put, Array.getD_eq_getD_getElem?]
  rw [Array.getElem?_setIfInBounds_ne h]
set_option maxRecDepth 100000 in
theorem put_eq {a : Act} {d : Nat} {v : Value} (h : d < a.tmps.size) : (a.put (some d) v).tmps.getD d undef = v := by
  simp only [Act.put, Array.getD_eq_getD_getElem?]
  rw [Array.getElem?_setIfInBounds_self_of_lt h]
  rfl
set_option maxRecDepth 100000 in
theorem put_none_tmps (a : Act) (v : Value) : a.put none v = a := rfl
set_option maxRecDepth 100000 in
theorem lset {l : Array Bool} {i j : Nat} (h : i ≠ j) : (l.setIfInBounds i true).getD j false = l.getD j false := by
  simp only [Array.getD_eq_getD_getElem?]
  rw [Array.getElem?_setIfInBounds_ne h]
set_option maxRecDepth 100000 in
theorem fresh_at {l : Array Bool} {i : Nat} (h : l.getD i true = false) : l.getD i false = false := by
  simp only [Array.getD_eq_getD_getElem?] at h ⊢
  cases k : l[i]? with
  | none => rfl
  | some b => rw [k] at h; exact h
set_option maxRecDepth 100000 in
theorem wp_enter {P : Program} {o : Oper} {a : Act} {w : World} {K : Act → World → Prop} {Q : Exit → Act → World → Prop} {f : FuncId} {args : Array Value} (hrun : (execOp a.eval o).run P w = .ok (.enter f args) w)
    (hc : Calls P f args w fun e w' => ∃ v, e = .returned v ∧ K (a.put o.dst v) w') : o.wp P a w K Q := by
  unfold Oper.wp
  rw [hrun]
  show Calls P f args w _
  refine hc.mono ?_
  rintro e w' ⟨v, rfl, h⟩
  exact h
set_option maxRecDepth 100000 in
theorem wp_value {P : Program} {o : Oper} {a : Act} {w w' : World} {K : Act → World → Prop} {Q : Exit → Act → World → Prop} {v : Value} (hrun : (execOp a.eval o).run P w = .ok (.value v) w') (h : K (a.put o.dst v) w') : o.wp P a w K Q := by
  unfold Oper.wp
  rw [hrun]
  exact h
set_option maxRecDepth 100000 in
theorem act_ext {a b : Act} (hd : a.defers = b.defers) (hs : a.tmps.size = b.tmps.size) (h : ∀ j, a.tmps.getD j undef = b.tmps.getD j undef) : a = b := by
  obtain ⟨t, d⟩ := a
  obtain ⟨t', d'⟩ := b
  have e : t = t' := by
    refine Array.ext hs (fun i h1 h2 => ?_)
    have := h i
    simp only [Array.getD_eq_getD_getElem?] at this
    rw [Array.getElem?_eq_getElem h1, Array.getElem?_eq_getElem h2] at this
    exact this
  have e2 : d = d' := hd
  rw [e, e2]
set_option maxRecDepth 100000 in
theorem wanted_none {o : Oper} {ops : Array Oper} {t : Array Value} (h : o.guard = none) : Region.wanted o (yielded ops t) = true := by simp [Region.wanted, h]
set_option maxRecDepth 100000 in
theorem wpOp_of {P : Program} {ops : Array Oper} {Q : Exit → Act → World → Prop} {i : Nat} {o : Oper} {K : Act → World → Prop} {a : Act} {w : World} (ho : ops[i]? = some o) (hg : o.guard = none) (h : o.wp P a w K Q) : wpOp P ops Q i K a w := by
  unfold wpOp
  rw [ho]
  simp only [wanted_none hg, if_true]
  exact Or.inl h
set_option maxRecDepth 100000 in
theorem put_df (a : Act) (d : Nat) (v : Value) : (a.put (some d) v).defers = a.defers := rfl
set_option maxRecDepth 100000 in
theorem gset {l : Array Bool} {p q : Nat} (hp : p < l.size) : (l.setIfInBounds p true).getD q false = if p = q then true else l.getD q false := by
  by_cases h : p = q
  · subst h
    rw [if_pos rfl]
    simp [Array.getD_eq_getD_getElem?, Array.getElem?_setIfInBounds_self_of_lt hp]
  · rw [if_neg h, lset h]
def depOf (ops : Array Oper) (i : Nat) : List Nat := ((ops[i]?).map (fun o => (o.after.toList.filter (fun e => Region.binds .any e)).map (fun e => e.on))).getD []
set_option maxRecDepth 100000 in
theorem mem_ready {ops : Array Oper} {l : Array Bool} {i : Nat} : i ∈ Region.ready .any ops l ↔ i < ops.size ∧ l.getD i true = false ∧ ∀ n ∈ depOf ops i, l.getD n false = true := by
  unfold Region.ready depOf
  rw [List.mem_filter, List.mem_range]
  constructor
  · rintro ⟨h1, h2⟩
    rw [Bool.and_eq_true, Bool.not_eq_true'] at h2
    refine ⟨h1, h2.1, ?_⟩
    have h3 := h2.2
    rw [Array.getElem?_eq_getElem h1] at h3 ⊢
    simp only [Option.map_some, Option.getD_some] at h3 ⊢
    rw [Array.all_eq_true'] at h3
    intro n hn
    obtain ⟨e, he, rfl⟩ := List.mem_map.1 hn
    obtain ⟨he1, he2⟩ := List.mem_filter.1 he
    have := h3 e (by simpa using he1)
    rw [he2] at this
    simpa using this
  · rintro ⟨h1, h2, h3⟩
    refine ⟨h1, ?_⟩
    rw [Bool.and_eq_true, Bool.not_eq_true']
    refine ⟨h2, ?_⟩
    rw [Array.getElem?_eq_getElem h1] at h3 ⊢
    simp only [Option.map_some, Option.getD_some] at h3 ⊢
    rw [Array.all_eq_true']
    intro e he
    by_cases hb : Region.binds .any e = true
    · have := h3 e.on (List.mem_map.2 ⟨e, List.mem_filter.2 ⟨by simpa using he, hb⟩, rfl⟩)
      rw [this]
      simp
    · simp [hb]
set_option maxRecDepth 100000 in
theorem all_done {ops : Array Oper} {l : Array Bool} {n : Nat} (hsz : ops.size = n) (hl : l.size = n) (hdep : ∀ i, i < n → ∀ k ∈ depOf ops i, k < i) (hr : Region.ready .any ops l = []) : ∀ i, i < n → l.getD i false = true := by
  intro i
  induction i using Nat.strongRecOn with
  | ind i ih =>
    intro hi
    cases h : l.getD i true with
    | false =>
      have : i ∈ Region.ready .any ops l := mem_ready.2 ⟨by omega, h, fun k hk => ih k (hdep i hi k hk) (by have := hdep i hi k hk; omega)⟩
      rw [hr] at this
      cases this
    | true =>
      have hi' : i < l.size := by omega
      simp only [Array.getD_eq_getD_getElem?, Array.getElem?_eq_getElem hi', Option.getD_some] at h ⊢
      exact h
structure AI (n : Nat) (ds : Nat → Nat) (R : Nat → Value → World → Prop) (a0 : Act) (w0 : World) (l : Array Bool) (a : Act) (w : World) : Prop where
  len : l.size = n
  df : a.defers = a0.defers
  sz : a.tmps.size = a0.tmps.size
  rest : ∀ j, (∀ i, i < n → ds i ≠ j) → a.tmps.getD j undef = a0.tmps.getD j undef
  hb : Below w0.heap.size w0 w
  val : ∀ i, i < n → l.getD i false = true → R i (a.tmps.getD (ds i) undef) w
set_option maxRecDepth 100000 in
theorem AI.step {n : Nat} {ds : Nat → Nat} {R : Nat → Value → World → Prop} {a0 : Act} {w0 : World} {l : Array Bool} {a : Act} {w w' : World} (H : AI n ds R a0 w0 l a w) (hR : ∀ i v W W', R i v W → Below W.heap.size W W' → R i v W')
    (hinj : ∀ i j, i < n → j < n → ds i = ds j → i = j) (hlt : ∀ i, i < n → ds i < a0.tmps.size) {i : Nat} (hi : i < n) {v : Value} (hb : Below w.heap.size w w') (hv : R i v w') :
    AI n ds R a0 w0 (l.setIfInBounds i true) (a.put (some (ds i)) v) w' := by
  have hil : i < l.size := by rw [H.len]; exact hi
  have hid : ds i < a.tmps.size := by rw [H.sz]; exact hlt i hi
  refine { len := by simp [H.len], df := H.df, sz := (put_size' _ _ _).trans H.sz, rest := fun j hj => (put_ne (hj i hi)).trans (H.rest j hj), hb := H.hb.trans (hb.mono H.hb.size), val := fun k hk h => ?_ }
  by_cases e : k = i
  · subst e
    rw [put_eq hid]
    exact hv
  · rw [gset hil, if_neg (Ne.symm e)] at h
    rw [put_ne (fun h2 => e (hinj i k hi hk h2).symm)]
    exact hR k _ _ _ (H.val k hk h) hb
def putAll (a : Act) (ds : Nat → Nat) (V : Nat → Value) : Nat → Act
  | 0 => a
  | n + 1 => (putAll a ds V n).put (some (ds n)) (V n)
set_option maxRecDepth 100000 in
theorem putAll_df (a : Act) (ds : Nat → Nat) (V : Nat → Value) : ∀ n, (putAll a ds V n).defers = a.defers
  | 0 => rfl
  | n + 1 => putAll_df a ds V n
set_option maxRecDepth 100000 in
theorem putAll_sz (a : Act) (ds : Nat → Nat) (V : Nat → Value) : ∀ n, (putAll a ds V n).tmps.size = a.tmps.size
  | 0 => rfl
  | n + 1 => (put_size' _ _ _).trans (putAll_sz a ds V n)
set_option maxRecDepth 100000 in
theorem putAll_ne (a : Act) (ds : Nat → Nat) (V : Nat → Value) (j : Nat) : ∀ n, (∀ i, i < n → ds i ≠ j) → (putAll a ds V n).tmps.getD j undef = a.tmps.getD j undef
  | 0, _ => rfl
  | n + 1, h => (put_ne (h n (by omega))).trans (putAll_ne a ds V j n (fun i hi => h i (by omega)))
set_option maxRecDepth 100000 in
theorem putAll_eq (a : Act) (ds : Nat → Nat) (V : Nat → Value) (i : Nat) : ∀ n, (∀ i j, i < n → j < n → ds i = ds j → i = j) → (∀ i, i < n → ds i < a.tmps.size) → i < n → (putAll a ds V n).tmps.getD (ds i) undef = V i
  | 0, _, _, h => absurd h (by omega)
  | n + 1, hinj, hlt, h => by
    by_cases e : i = n
    · subst e
      exact put_eq (by rw [putAll_sz]; exact hlt i h)
    · refine (put_ne (fun h2 => e (hinj n i (by omega) h h2).symm)).trans ?_
      exact putAll_eq a ds V i n (fun i j hi hj => hinj i j (by omega) (by omega)) (fun i hi => hlt i (by omega)) (by omega)
def injB (ds : Nat → Nat) (n : Nat) : Bool := (List.range n).all fun i => (List.range n).all fun j => decide (ds i = ds j → i = j)
def depB (ops : Array Oper) : Bool := (List.range ops.size).all fun i => (depOf ops i).all fun k => decide (k < i)
def sltB (ds : Nat → Nat) (n m : Nat) : Bool := (List.range n).all fun i => decide (ds i < m)
set_option maxRecDepth 100000 in
theorem any_region {P : Program} {ops : Array Oper} {Q : Exit → Act → World → Prop} {id : Nat} {a0 : Act} {w : World} (hm : P.follows .mixedOrders = true) (n : Nat) (hsz : ops.size = n) (ds : Nat → Nat) (R : Nat → Value → World → Prop)
    (hdep : depB ops = true) (hinj : injB ds n = true) (hlt : sltB ds n a0.tmps.size = true)
    (hR : ∀ i v W W', R i v W → Below W.heap.size W W' → R i v W')
    (hstep : ∀ i, i < n → ∀ (a : Act) (W : World), (∀ j, (∀ i, i < n → ds i ≠ j) → a.eval (.tmp j) = a0.eval (.tmp j)) → Below w.heap.size w W → (∀ k ∈ depOf ops i, R k (a.eval (.tmp (ds k))) W) →
      ∃ o, ops[i]? = some o ∧ o.guard = none ∧ o.dst = some (ds i) ∧ o.wp P a W (fun a' W' => ∃ v, a' = a.put o.dst v ∧ Below W.heap.size W W' ∧ R i v W') Q)
    (hQ : ∀ (V : Nat → Value) (W : World), Below w.heap.size w W → (∀ i, i < n → R i (V i) W) → Q .normal (putAll a0 ds V n) W) :
    (Code.region id ops true).wp P Q a0 w := by
  have hdep' : ∀ i, i < n → ∀ k ∈ depOf ops i, k < i := by
    intro i hi k hk
    unfold depB at hdep
    simp only [List.all_eq_true, List.mem_range, decide_eq_true_eq] at hdep
    exact hdep i (by omega) k hk
  have hinj' : ∀ i j, i < n → j < n → ds i = ds j → i = j := by
    unfold injB at hinj
    simp only [List.all_eq_true, List.mem_range, decide_eq_true_eq] at hinj
    exact fun i j hi hj => hinj i hi j hj
  have hlt' : ∀ i, i < n → ds i < a0.tmps.size := by
    unfold sltB at hlt
    simp only [List.all_eq_true, List.mem_range, decide_eq_true_eq] at hlt
    exact hlt
  refine wp_region_any hm ?_
  refine any_inv (fun l a W => AI n ds R a0 w l a W) ?_ ?_ ?_ _ _ _ _ ?_ ?_
  · intro l a W H
    rw [hsz]
    exact H.len
  · intro l a W H hr
    have tt := all_done hsz H.len hdep' hr
    have he : a = putAll a0 ds (fun i => a.tmps.getD (ds i) undef) n := by
      refine act_ext (H.df.trans (putAll_df _ _ _ _).symm) (H.sz.trans (putAll_sz _ _ _ _).symm) (fun j => ?_)
      by_cases hj : ∃ i, i < n ∧ ds i = j
      · obtain ⟨i, hi, rfl⟩ := hj
        rw [putAll_eq a0 ds _ i n hinj' hlt' hi]
      · have hj' : ∀ i, i < n → ds i ≠ j := fun i hi e => hj ⟨i, hi, e⟩
        rw [putAll_ne a0 ds _ j n hj']
        exact H.rest j hj'
    rw [he]
    exact hQ _ W H.hb (fun i hi => H.val i hi (tt i hi))
  · intro l a W H i hi
    obtain ⟨hin, hfr, hdd⟩ := mem_ready.1 hi
    rw [hsz] at hin
    obtain ⟨o, ho, hg, hd, hw⟩ := hstep i hin a W (fun j hj => H.rest j hj) H.hb (fun k hk => H.val k (by have := hdep' i hin k hk; omega) (hdd k hk))
    refine wpOp_of ho hg (Oper.wp_mono ?_ hw)
    rintro a' W' ⟨v, rfl, hb, hv⟩
    rw [hd]
    exact H.step hR hinj' hlt' hin hb hv
  · simp only [unl, Array.toList_replicate]
    exact Nat.le_trans (List.length_filter_le _ _) (by simp)
  · have hrep : ∀ j, (Array.replicate ops.size false).getD j false = false := fun j => by simp [Array.getD_eq_getD_getElem?, Array.getElem?_replicate]; split <;> rfl
    exact { len := by simp [hsz], df := rfl, sz := rfl, rest := fun _ _ => rfl, hb := (Below.refl _ w).drew, val := fun i _ h => absurd ((hrep _).symm.trans h) (by decide) }
set_option maxRecDepth 100000 in
theorem quiet_class {P : Program} {C : World → Prop} {id : Nat} {Q : Exit → Act → World → Prop} {a : Act} {w : World} {l : List Oper} (hm : P.follows .mixedOrders = true) (hB : Region.lexB .any l.toArray = true) (hC : C { w with drawn := w.drawn + 1 })
    (h : wpQuiet P l.toArray C (fun a' => ∀ w', C w' → Q .normal a' w') l a) : (Code.region id l.toArray true).wp P Q a w :=
  wp_region_quiet hm hB hC (by simpa using h)
set_option maxRecDepth 100000 in
theorem ev {a : Act} {j : Nat} {v : Value} (h : a.eval (.tmp j) = v) : a.tmps[j]?.getD undef = v := by rw [← Array.getD_eq_getD_getElem?]; exact h
set_option maxRecDepth 100000 in
theorem mem_of {l : List Nat} {k : Nat} (h : l.contains k = true) : k ∈ l := List.contains_iff_mem.1 h
def oneR (sp : Nat) (S : Value → World → Prop) (L : List Value) (i : Nat) (v : Value) (W : World) : Prop := if i = sp then S v W else v = L.getD i undef
set_option maxRecDepth 100000 in
theorem oneR_later (sp : Nat) (S : Value → World → Prop) (L : List Value) (hS : ∀ v W W', S v W → Below W.heap.size W W' → S v W') : ∀ i v W W', oneR sp S L i v W → Below W.heap.size W W' → oneR sp S L i v W' := by
  intro i v W W' h hb
  unfold oneR at h ⊢
  split
  · rw [if_pos (by assumption)] at h
    exact hS v W W' h hb
  · rw [if_neg (by assumption)] at h
    exact h
/- Operations that must wait for all ahead of them, at the end of a region whose order is drawn. -/
def covL (ops : Array Oper) : Nat → List Nat → List Nat
  | 0, acc => acc
  | k + 1, acc => covL ops k (if acc.any (fun m => (depOf ops m).contains k) then k :: acc else acc)
def tailB (ops : Array Oper) (n : Nat) : Bool := (List.range ops.size).all fun i => decide (i < n) || (List.range i).all (fun k => (covL ops i [i]).contains k)
set_option maxRecDepth 100000 in
theorem covL_done {ops : Array Oper} {l : Array Bool} {i : Nat} (hi : ∀ k ∈ depOf ops i, l.getD k false = true) (hcl : ∀ m, l.getD m false = true → ∀ k ∈ depOf ops m, l.getD k false = true) :
    ∀ (f : Nat) (acc : List Nat), (∀ m ∈ acc, m = i ∨ l.getD m false = true) → ∀ m ∈ covL ops f acc, m = i ∨ l.getD m false = true
  | 0, _, h => h
  | k + 1, acc, h => by
    refine covL_done hi hcl k _ ?_
    split
    · next hk =>
      intro m hm
      rcases List.mem_cons.1 hm with rfl | hm
      · obtain ⟨m', h1, h2⟩ := List.any_eq_true.1 hk
        have h3 := List.contains_iff_mem.1 h2
        rcases h m' h1 with rfl | h4
        · exact Or.inr (hi _ h3)
        · exact Or.inr (hcl _ h4 _ h3)
      · exact h m hm
    · exact h
set_option maxRecDepth 100000 in
theorem tail_ready {ops : Array Oper} {n : Nat} (ht : tailB ops n = true) {l : Array Bool} (hcl : ∀ m, l.getD m false = true → ∀ k ∈ depOf ops m, l.getD k false = true) {i : Nat} (hi : i < ops.size) (hn : n ≤ i) (hd : ∀ k ∈ depOf ops i, l.getD k false = true) : ∀ k, k < i → l.getD k false = true := by
  intro k hk
  unfold tailB at ht
  have h1 := List.all_eq_true.1 ht i (List.mem_range.2 hi)
  rw [decide_eq_false (by omega), Bool.false_or] at h1
  have h2 := List.contains_iff_mem.1 (List.all_eq_true.1 h1 k (List.mem_range.2 hk))
  rcases covL_done hd hcl i [i] (fun m hm => Or.inl (List.mem_singleton.1 hm)) k h2 with rfl | h
  · omega
  · exact h
structure TI (N n : Nat) (ds : Nat → Nat) (R : Nat → Value → World → Prop) (a0 : Act) (w0 : World) (l : Array Bool) (a : Act) (w : World) : Prop where
  len : l.size = N
  df : a.defers = a0.defers
  sz : a.tmps.size = a0.tmps.size
  rest : ∀ j, (∀ i, i < n → ds i ≠ j) → a.tmps.getD j undef = a0.tmps.getD j undef
  hb : Below w0.heap.size w0 w
  val : ∀ i, i < n → l.getD i false = true → R i (a.tmps.getD (ds i) undef) w
set_option maxRecDepth 100000 in
theorem TI.step {N n : Nat} {ds : Nat → Nat} {R : Nat → Value → World → Prop} {a0 : Act} {w0 : World} {l : Array Bool} {a : Act} {w w' : World} (H : TI N n ds R a0 w0 l a w) (hR : ∀ i v W W', R i v W → Below W.heap.size W W' → R i v W')
    (hinj : ∀ i j, i < n → j < n → ds i = ds j → i = j) (hlt : ∀ i, i < n → ds i < a0.tmps.size) (hN : n ≤ N) {i : Nat} (hi : i < n) {v : Value} (hb : Below w.heap.size w w') (hv : R i v w') :
    TI N n ds R a0 w0 (l.setIfInBounds i true) (a.put (some (ds i)) v) w' := by
  have hil : i < l.size := by rw [H.len]; omega
  have hid : ds i < a.tmps.size := by rw [H.sz]; exact hlt i hi
  refine { len := by simp [H.len], df := H.df, sz := (put_size' _ _ _).trans H.sz, rest := fun j hj => (put_ne (hj i hi)).trans (H.rest j hj), hb := H.hb.trans (hb.mono H.hb.size), val := fun k hk h => ?_ }
  by_cases e : k = i
  · subst e
    rw [put_eq hid]
    exact hv
  · rw [gset hil, if_neg (Ne.symm e)] at h
    rw [put_ne (fun h2 => e (hinj i k hi hk h2).symm)]
    exact hR k _ _ _ (H.val k hk h) hb
set_option maxRecDepth 100000 in
theorem any_tail {P : Program} {ops : Array Oper} {Q : Exit → Act → World → Prop} {id : Nat} {a0 : Act} {w : World} (hm : P.follows .mixedOrders = true) (n : Nat) (hsz : n ≤ ops.size) (ds : Nat → Nat) (R : Nat → Value → World → Prop)
    (hdep : depB ops = true) (htl : tailB ops n = true) (hinj : injB ds n = true) (hlt : sltB ds n a0.tmps.size = true)
    (hR : ∀ i v W W', R i v W → Below W.heap.size W W' → R i v W')
    (hstep : ∀ i, i < n → ∀ (a : Act) (W : World), (∀ j, (∀ i, i < n → ds i ≠ j) → a.eval (.tmp j) = a0.eval (.tmp j)) → Below w.heap.size w W → (∀ k ∈ depOf ops i, R k (a.eval (.tmp (ds k))) W) →
      ∃ o, ops[i]? = some o ∧ o.guard = none ∧ o.dst = some (ds i) ∧ o.wp P a W (fun a' W' => ∃ v, a' = a.put o.dst v ∧ Below W.heap.size W W' ∧ R i v W') Q)
    (hQ : ∀ (V : Nat → Value) (W : World), Below w.heap.size w W → (∀ i, i < n → R i (V i) W) → wpList P ops Q (ops.toList.drop n) (putAll a0 ds V n) W) :
    (Code.region id ops true).wp P Q a0 w := by
  have hdep' : ∀ i, i < ops.size → ∀ k ∈ depOf ops i, k < i := by
    intro i hi k hk
    unfold depB at hdep
    simp only [List.all_eq_true, List.mem_range, decide_eq_true_eq] at hdep
    exact hdep i (by omega) k hk
  have hinj' : ∀ i j, i < n → j < n → ds i = ds j → i = j := by
    unfold injB at hinj
    simp only [List.all_eq_true, List.mem_range, decide_eq_true_eq] at hinj
    exact fun i j hi hj => hinj i hi j hj
  have hlt' : ∀ i, i < n → ds i < a0.tmps.size := by
    unfold sltB at hlt
    simp only [List.all_eq_true, List.mem_range, decide_eq_true_eq] at hlt
    exact hlt
  have hops : ∀ a W, wpList P ops Q (ops.toList.drop n) a W → wpOps P ops Q (List.range' n (ops.size - n)) a W := by
    intro a W h
    have e := wpOps_eq_wpList (P := P) (ops := ops) (Q := Q) (ops.toList.drop n) n (fun j => by rw [List.getElem?_drop]; simp)
    rw [List.length_drop, Array.length_toList] at e
    rw [e]
    exact h
  have hfin : ∀ (l : Array Bool) (a : Act) (W : World), TI ops.size n ds R a0 w l a W → (∀ i, i < n → l.getD i false = true) → wpOps P ops Q (List.range' n (ops.size - n)) a W := by
    intro l a W H tt
    have he : a = putAll a0 ds (fun i => a.tmps.getD (ds i) undef) n := by
      refine act_ext (H.df.trans (putAll_df _ _ _ _).symm) (H.sz.trans (putAll_sz _ _ _ _).symm) (fun j => ?_)
      by_cases hj : ∃ i, i < n ∧ ds i = j
      · obtain ⟨i, hi, rfl⟩ := hj
        rw [putAll_eq a0 ds _ i n hinj' hlt' hi]
      · have hj' : ∀ i, i < n → ds i ≠ j := fun i hi e => hj ⟨i, hi, e⟩
        rw [putAll_ne a0 ds _ j n hj']
        exact H.rest j hj'
    have h2 := hops _ _ (hQ (fun i => a.tmps.getD (ds i) undef) W H.hb (fun i hi => H.val i hi (tt i hi)))
    rw [← he] at h2
    exact h2
  refine wp_region_any hm ?_
  refine any_inv (fun l a W => l.size = ops.size ∧ (∀ m, l.getD m false = true → ∀ k ∈ depOf ops m, l.getD k false = true) ∧
    ((TI ops.size n ds R a0 w l a W ∧ (∀ i, n ≤ i → l.getD i false = false) ∧ ∃ i, i < n ∧ l.getD i false = false) ∨
      ∃ j, n ≤ j ∧ j ≤ ops.size ∧ (∀ i, i < j → l.getD i false = true) ∧ (∀ i, j ≤ i → l.getD i false = false) ∧ wpOps P ops Q (List.range' j (ops.size - j)) a W)) ?_ ?_ ?_ _ _ _ _ ?_ ?_
  · intro l a W H
    exact H.1
  · intro l a W H hr
    obtain ⟨hl, hcl, H⟩ := H
    have tt := all_done rfl hl hdep' hr
    rcases H with ⟨_, _, i, hi, h0⟩ | ⟨j, h1, h2, h3, h4, h5⟩
    · rw [tt i (by omega)] at h0; cases h0
    · have hj : j = ops.size := by
        rcases Nat.lt_or_ge j ops.size with h | h
        · have h6 := h4 j (Nat.le_refl _)
          rw [tt j h] at h6
          cases h6
        · omega
      subst hj
      rw [Nat.sub_self] at h5
      simpa [wpOps] using h5
  · intro l a W H i hi
    obtain ⟨hl, hcl, H⟩ := H
    obtain ⟨hin, hfr, hdd⟩ := mem_ready.1 hi
    have hil : i < l.size := by omega
    have hcl2 : ∀ m, (l.setIfInBounds i true).getD m false = true → ∀ k ∈ depOf ops m, (l.setIfInBounds i true).getD k false = true := by
      intro m hm2 k hk
      rw [gset hil] at hm2 ⊢
      by_cases e : i = m
      · subst e
        split
        · rfl
        · exact hdd k hk
      · rw [if_neg e] at hm2
        split
        · rfl
        · exact hcl m hm2 k hk
    have hfr2 := fresh_at hfr
    rcases H with ⟨H, h0, i0, hi0, h00⟩ | ⟨j, h1, h2, h3, h4, h5⟩
    · by_cases hn : i < n
      · obtain ⟨o, ho, hg, hd, hw⟩ := hstep i hn a W (fun j hj => H.rest j hj) H.hb (fun k hk => H.val k (by have := hdep' i hin k hk; omega) (hdd k hk))
        refine wpOp_of ho hg (Oper.wp_mono ?_ hw)
        rintro a' W' ⟨v, rfl, hb, hv⟩
        rw [hd]
        have H2 := H.step hR hinj' hlt' hsz hn hb hv
        refine ⟨H2.len, hcl2, ?_⟩
        by_cases hall : ∀ k, k < n → (l.setIfInBounds i true).getD k false = true
        · refine Or.inr ⟨n, Nat.le_refl _, hsz, hall, fun k hk => ?_, hfin _ _ _ H2 hall⟩
          rw [lset (by omega)]
          exact h0 k hk
        · refine Or.inl ⟨H2, fun k hk => ?_, ?_⟩
          · rw [lset (by omega)]
            exact h0 k hk
          · obtain ⟨k, hk⟩ := Classical.not_forall.1 hall
            obtain ⟨hk1, hk2⟩ := Classical.not_imp.1 hk
            exact ⟨k, hk1, by simpa using hk2⟩
      · have := tail_ready htl hcl hin (by omega) hdd i0 (by omega)
        rw [h00] at this
        cases this
    · have hij : i = j := by
        rcases Nat.lt_trichotomy i j with h | h | h
        · rw [h3 i h] at hfr2; cases hfr2
        · exact h
        · have h6 := tail_ready htl hcl hin (by omega) hdd j h
          rw [h4 j (Nat.le_refl _)] at h6
          cases h6
      subst hij
      have e : ops.size - i = (ops.size - (i + 1)) + 1 := by omega
      rw [e, List.range'_succ, wpOps_cons] at h5
      refine wpOp_mono (fun a' W' h' => ?_) h5
      refine ⟨by simp [hl], hcl2, Or.inr ⟨i + 1, by omega, by omega, fun k hk => ?_, fun k hk => ?_, h'⟩⟩
      · rw [gset hil]
        split
        · rfl
        · exact h3 k (by omega)
      · rw [lset (by omega)]
        exact h4 k (by omega)
  · simp only [unl, Array.toList_replicate]
    exact Nat.le_trans (List.length_filter_le _ _) (by simp)
  · have hrep : ∀ j, (Array.replicate ops.size false).getD j false = false := fun j => by simp [Array.getD_eq_getD_getElem?, Array.getElem?_replicate]; split <;> rfl
    have H0 : TI ops.size n ds R a0 w (Array.replicate ops.size false) a0 w.drew := { len := by simp, df := rfl, sz := rfl, rest := fun _ _ => rfl, hb := (Below.refl _ w).drew, val := fun i _ h => absurd ((hrep _).symm.trans h) (by decide) }
    refine ⟨by simp, fun m h => absurd ((hrep _).symm.trans h) (by decide), ?_⟩
    by_cases hn : n = 0
    · refine Or.inr ⟨0, by omega, by omega, fun i hi => absurd hi (by omega), fun i _ => hrep i, ?_⟩
      have := hfin _ _ _ H0 (fun i hi => absurd hi (by omega))
      rw [hn] at this
      exact this
    · exact Or.inl ⟨H0, fun i _ => hrep i, 0, by omega, hrep 0⟩
def pickS : List (Nat × (Value → World → Prop)) → Nat → Option (Value → World → Prop)
  | [], _ => none
  | x :: l, i => if i = x.1 then some x.2 else pickS l i
def mixR (S : List (Nat × (Value → World → Prop))) (L : List Value) (i : Nat) (v : Value) (W : World) : Prop := match pickS S i with | some f => f v W | none => v = L.getD i undef
set_option maxRecDepth 100000 in
theorem pickS_mem {S : List (Nat × (Value → World → Prop))} {i : Nat} {f : Value → World → Prop} (h : pickS S i = some f) : ∃ x ∈ S, x.2 = f := by
  induction S with
  | nil => cases h
  | cons x S ih =>
    unfold pickS at h
    split at h
    · exact ⟨x, List.mem_cons_self, Option.some.inj h⟩
    · obtain ⟨y, h1, h2⟩ := ih h
      exact ⟨y, List.mem_cons_of_mem _ h1, h2⟩
set_option maxRecDepth 100000 in
theorem stab_nil : ∀ x ∈ ([] : List (Nat × (Value → World → Prop))), ∀ v W W', x.2 v W → Below W.heap.size W W' → x.2 v W' := fun _ h => (by cases h)
set_option maxRecDepth 100000 in
theorem stab_cons {i : Nat} {f : Value → World → Prop} {S : List (Nat × (Value → World → Prop))} (hf : ∀ v W W', f v W → Below W.heap.size W W' → f v W') (hS : ∀ x ∈ S, ∀ v W W', x.2 v W → Below W.heap.size W W' → x.2 v W') : ∀ x ∈ (i, f) :: S, ∀ v W W', x.2 v W → Below W.heap.size W W' → x.2 v W' := by
  intro x hx
  rcases List.mem_cons.1 hx with rfl | h
  · exact hf
  · exact hS x h
set_option maxRecDepth 100000 in
theorem mixR_later (S : List (Nat × (Value → World → Prop))) (L : List Value) (hS : ∀ x ∈ S, ∀ v W W', x.2 v W → Below W.heap.size W W' → x.2 v W') : ∀ i v W W', mixR S L i v W → Below W.heap.size W W' → mixR S L i v W' := by
  intro i v W W' h hb
  unfold mixR at h ⊢
  cases hp : pickS S i with
  | none => rw [hp] at h; exact h
  | some f =>
    rw [hp] at h
    obtain ⟨x, h1, rfl⟩ := pickS_mem hp
    exact hS x h1 v W W' h hb
end Go.Proofs.YtgjalfcpfgbneaaGreatDoor
