/- A region whose order is drawn, with guards, in the body of a function that is called with a loop's yield: its last operations wait for all others (the call of yield among them). A range over a function (a loop's body may leave it): what the function asks of the body, and leaves, in words that serve a function which itself ranges over another one. -/
import Derived.Test.YtniljoojoafiaaaGreatDoorBAny
import Derived.RangeFuncNested
import Derived.RangeFuncBound
import Derived.RangeFuncCalls
import Derived.RangeFuncLeaves
import Derived.Shelf.Abstract
import Derived.Shelf.RegionOpen
import Derived.OwnWalkIn
import Derived.TacticsInMore
import Derived.LoopNIn
import Derived.LoopIn
import Derived.RangeFuncBox
namespace Go.Proofs.YtniljoojoafiaaaGreatDoor.B
open Go.RowKit Go.Shelf
set_option maxRecDepth 100000 in
theorem wanted_of {ops : Array Oper} {o : Oper} {a : Act} {k d : Nat} {b : Bool} (hg : o.guard = some (k, b)) (hk : (ops[k]?).bind (·.dst) = some d) (hv : a.eval (.tmp d) = .bool b) : Region.wanted o (yielded ops a.tmps) = true := by
  have h1 : a.tmps[d]?.getD undef = .bool b := ev hv
  have h2 : a.tmps[d]? = some (.bool b) := by
    cases h : a.tmps[d]? with
    | none => rw [h] at h1; cases h1
    | some v => rw [h] at h1; exact congrArg some h1
  unfold Region.wanted yielded
  simp only [hg, hk, Option.bind_some, h2]
  simp
set_option maxRecDepth 100000 in
theorem op_wide {P : Program} {m : Nat} {o : Oper} {a : Act} {w : World} {K : Act → World → Prop} {Q : Exit → Act → World → Prop} (h : o.wp P a w K Q) (hr : ∀ row args w', (execOp a.eval o).run P w ≠ .ok (.row row args) w') : o.wpIn Fence.wide m P a w K Q := by
  unfold Oper.wpIn
  refine ⟨fun _ _ => trivial, ?_⟩
  have e2 : o.semAt Fence.wide.round a.eval = execOp a.eval o := rfl
  rw [e2]
  unfold Oper.wp at h
  generalize (execOp a.eval o).run P w = r at *
  cases r with
  | ok x w' =>
    cases x with
    | value v => exact h
    | skip => exact h
    | defer d => exact h
    | enter f args => exact ⟨fun h => (by cases h), callsIn_wide.2 h⟩
    | row row args => exact absurd rfl (hr row args w')
    | _ => exact h.elim
  | halt x w' => cases x <;> first | exact h | exact h.elim
set_option maxRecDepth 100000 in
theorem any_invIn {P : Program} {m : Nat} {md : Region.Mode} {ops : Array Oper} {Q : Exit → Act → World → Prop} (I : Array Bool → Act → World → Prop)
    (hsz : ∀ l a w, I l a w → l.size = ops.size) (hdone : ∀ l a w, I l a w → Region.ready md ops l = [] → Q .normal a w)
    (hstep : ∀ l a w, I l a w → ∀ i ∈ Region.ready md ops l, wpOpIn Fence.wide m P ops Q i (I (l.setIfInBounds i true)) a w) :
    ∀ (fuel : Nat) (l : Array Bool) (a : Act) (w : World), unl l ≤ fuel → I l a w → wpAnyIn Fence.wide m P md ops Q fuel l a w := by
  intro fuel
  induction fuel with
  | zero =>
    intro l a w hf h
    have hr := ready_unl (md := md) (ops := ops) (by omega : unl l = 0) (hsz l a w h)
    exact ⟨hr, hdone l a w h hr⟩
  | succ fuel ih =>
    intro l a w hf h
    refine ⟨hdone l a w h, fun i hi => ?_⟩
    refine wpOpIn_mono (fun a' w' h' => ih _ _ _ ?_ h') (hstep l a w h i hi)
    unfold Region.ready at hi
    rw [List.mem_filter, List.mem_range] at hi
    obtain ⟨h1, h2⟩ := hi
    simp only [Bool.and_eq_true, Bool.not_eq_true'] at h2
    have := unl_set (l := l) (i := i) (by rw [hsz l a w h]; exact h1) h2.1
    omega
set_option maxRecDepth 100000 in
theorem wpOpIn_want {P : Program} {m : Nat} {ops : Array Oper} {Q : Exit → Act → World → Prop} {i : Nat} {o : Oper} {K : Act → World → Prop} {a : Act} {w : World} (ho : ops[i]? = some o) (hg : Region.wanted o (yielded ops a.tmps) = true) (h : o.wpIn Fence.wide m P a w K Q) : wpOpIn Fence.wide m P ops Q i K a w := by
  unfold wpOpIn
  rw [ho]
  simp only [hg, if_true]
  exact h
set_option maxRecDepth 100000 in
theorem wpOpIn_skip {P : Program} {m : Nat} {ops : Array Oper} {Q : Exit → Act → World → Prop} {i : Nat} {o : Oper} {K : Act → World → Prop} {a : Act} {w : World} (ho : ops[i]? = some o) (hg : Region.wanted o (yielded ops a.tmps) = false) (h : K (a.put o.dst undef) w) : wpOpIn Fence.wide m P ops Q i K a w := by
  unfold wpOpIn
  rw [ho]
  simp only [hg]
  exact ⟨fun _ _ => trivial, h⟩
set_option maxRecDepth 100000 in
theorem any_tailIn {P : Program} {m : Nat} {ops : Array Oper} {Q : Exit → Act → World → Prop} {id : Nat} {a0 : Act} {w : World} (hm : P.follows .mixedOrders = true) (n : Nat) (hsz : n ≤ ops.size) (ds : Nat → Nat) (R : Nat → Value → World → Prop)
    (hdep : depB ops = true) (htl : tailB ops n = true) (hinj : injB ds n = true) (hlt : sltB ds n a0.tmps.size = true)
    (hR : ∀ i v W W', R i v W → Below W.heap.size W W' → R i v W')
    (hstep : ∀ i, i < n → ∀ (a : Act) (W : World), (∀ j, (∀ i, i < n → ds i ≠ j) → a.eval (.tmp j) = a0.eval (.tmp j)) → Below w.heap.size w W → (∀ k ∈ depOf ops i, R k (a.eval (.tmp (ds k))) W) →
      ∃ o, ops[i]? = some o ∧ o.dst = some (ds i) ∧ ((Region.wanted o (yielded ops a.tmps) = true ∧ o.wpIn Fence.wide m P a W (fun a' W' => ∃ v, a' = a.put o.dst v ∧ Below W.heap.size W W' ∧ R i v W') Q) ∨ (Region.wanted o (yielded ops a.tmps) = false ∧ R i undef W)))
    (hQ : ∀ (V : Nat → Value) (W : World), Below w.heap.size w W → (∀ i, i < n → R i (V i) W) → wpListIn Fence.wide m P ops Q (ops.toList.drop n) (putAll a0 ds V n) W) :
    (Code.region id ops true).wpIn Fence.wide m P Q a0 w := by
  have hdep' : ∀ i, i < ops.size → ∀ k ∈ depOf ops i, k < i := by
    intro i hi k hk
    unfold depB at hdep
    simp only [List.all_eq_true, List.mem_range, decide_eq_true_eq] at hdep
    exact hdep i (by omega) k hk
  have hinj' : ∀ i j, i < n → j < n → ds i = ds j → i = j := by
    unfold injB at hinj
    simp only [List.all_eq_true, List.mem_range, decide_eq_true_eq] at hinj
    exact fun i j hi hj => hinj i hi j hj
  have hlt' : ∀ i, i < n → ds i < a0.tmps.size := by
    unfold sltB at hlt
    simp only [List.all_eq_true, List.mem_range, decide_eq_true_eq] at hlt
    exact hlt
  have hops : ∀ a W, wpListIn Fence.wide m P ops Q (ops.toList.drop n) a W → wpOpsIn Fence.wide m P ops Q (List.range' n (ops.size - n)) a W := by
    intro a W h
    have e := wpOpsIn_eq_wpListIn (F := Fence.wide) (n := m) (P := P) (ops := ops) (Q := Q) (ops.toList.drop n) n (fun j => by rw [List.getElem?_drop]; simp)
    rw [List.length_drop, Array.length_toList] at e
    rw [e]
    exact h
  have hfin : ∀ (l : Array Bool) (a : Act) (W : World), TI ops.size n ds R a0 w l a W → (∀ i, i < n → l.getD i false = true) → wpOpsIn Fence.wide m P ops Q (List.range' n (ops.size - n)) a W := by
    intro l a W H tt
    have he : a = putAll a0 ds (fun i => a.tmps.getD (ds i) undef) n := by
      refine act_ext (H.df.trans (putAll_df _ _ _ _).symm) (H.sz.trans (putAll_sz _ _ _ _).symm) (fun j => ?_)
      by_cases hj : ∃ i, i < n ∧ ds i = j
      · obtain ⟨i, hi, rfl⟩ := hj
        rw [putAll_eq a0 ds _ i n hinj' hlt' hi]
      · have hj' : ∀ i, i < n → ds i ≠ j := fun i hi e => hj ⟨i, hi, e⟩
        rw [putAll_ne a0 ds _ j n hj']
        exact H.rest j hj'
    have h2 := hops _ _ (hQ (fun i => a.tmps.getD (ds i) undef) W H.hb (fun i hi => H.val i hi (tt i hi)))
    rw [← he] at h2
    exact h2
  refine wpIn_region_any hm ?_
  refine any_invIn (fun l a W => l.size = ops.size ∧ (∀ m, l.getD m false = true → ∀ k ∈ depOf ops m, l.getD k false = true) ∧
    ((TI ops.size n ds R a0 w l a W ∧ (∀ i, n ≤ i → l.getD i false = false) ∧ ∃ i, i < n ∧ l.getD i false = false) ∨
      ∃ j, n ≤ j ∧ j ≤ ops.size ∧ (∀ i, i < j → l.getD i false = true) ∧ (∀ i, j ≤ i → l.getD i false = false) ∧ wpOpsIn Fence.wide m P ops Q (List.range' j (ops.size - j)) a W)) ?_ ?_ ?_ _ _ _ _ ?_ ?_
  · intro l a W H
    exact H.1
  · intro l a W H hr
    obtain ⟨hl, hcl, H⟩ := H
    have tt := all_done rfl hl hdep' hr
    rcases H with ⟨_, _, i, hi, h0⟩ | ⟨j, h1, h2, h3, h4, h5⟩
    · rw [tt i (by omega)] at h0; cases h0
    · have hj : j = ops.size := by
        rcases Nat.lt_or_ge j ops.size with h | h
        · have h6 := h4 j (Nat.le_refl _)
          rw [tt j h] at h6
          cases h6
        · omega
      subst hj
      rw [Nat.sub_self] at h5
      simpa [wpOpsIn] using h5
  · intro l a W H i hi
    obtain ⟨hl, hcl, H⟩ := H
    obtain ⟨hin, hfr, hdd⟩ := mem_ready.1 hi
    have hil : i < l.size := by omega
    have hcl2 : ∀ m, (l.setIfInBounds i true).getD m false = true → ∀ k ∈ depOf ops m, (l.setIfInBounds i true).getD k false = true := by
      intro m hm2 k hk
      rw [gset hil] at hm2 ⊢
      by_cases e : i = m
      · subst e
        split
        · rfl
        · exact hdd k hk
      · rw [if_neg e] at hm2
        split
        · rfl
        · exact hcl m hm2 k hk
    have hfr2 := fresh_at hfr
    rcases H with ⟨H, h0, i0, hi0, h00⟩ | ⟨j, h1, h2, h3, h4, h5⟩
    · by_cases hn : i < n
      · obtain ⟨o, ho, hd, hw⟩ := hstep i hn a W (fun j hj => H.rest j hj) H.hb (fun k hk => H.val k (by have := hdep' i hin k hk; omega) (hdd k hk))
        have hgo : ∀ v W', Below W.heap.size W W' → R i v W' → (fun (l : Array Bool) (a : Act) (W : World) => l.size = ops.size ∧ (∀ m, l.getD m false = true → ∀ k ∈ depOf ops m, l.getD k false = true) ∧
          ((TI ops.size n ds R a0 w l a W ∧ (∀ i, n ≤ i → l.getD i false = false) ∧ ∃ i, i < n ∧ l.getD i false = false) ∨
            ∃ j, n ≤ j ∧ j ≤ ops.size ∧ (∀ i, i < j → l.getD i false = true) ∧ (∀ i, j ≤ i → l.getD i false = false) ∧ wpOpsIn Fence.wide m P ops Q (List.range' j (ops.size - j)) a W)) (l.setIfInBounds i true) (a.put (some (ds i)) v) W' := by
          intro v W' hb hv
          have H2 := H.step hR hinj' hlt' hsz hn hb hv
          refine ⟨H2.len, hcl2, ?_⟩
          by_cases hall : ∀ k, k < n → (l.setIfInBounds i true).getD k false = true
          · refine Or.inr ⟨n, Nat.le_refl _, hsz, hall, fun k hk => ?_, hfin _ _ _ H2 hall⟩
            rw [lset (by omega)]
            exact h0 k hk
          · refine Or.inl ⟨H2, fun k hk => ?_, ?_⟩
            · rw [lset (by omega)]
              exact h0 k hk
            · obtain ⟨k, hk⟩ := Classical.not_forall.1 hall
              obtain ⟨hk1, hk2⟩ := Classical.not_imp.1 hk
              exact ⟨k, hk1, by simpa using hk2⟩
        rcases hw with ⟨hg, hw⟩ | ⟨hg, hw⟩
        · refine wpOpIn_want ho hg (Oper.wpIn_mono ?_ hw)
          rintro a' W' ⟨v, rfl, hb, hv⟩
          rw [hd]
          exact hgo v W' hb hv
        · refine wpOpIn_skip ho hg ?_
          rw [hd]
          exact hgo _ W (Below.refl _ _) hw
      · have := tail_ready htl hcl hin (by omega) hdd i0 (by omega)
        rw [h00] at this
        cases this
    · have hij : i = j := by
        rcases Nat.lt_trichotomy i j with h | h | h
        · rw [h3 i h] at hfr2; cases hfr2
        · exact h
        · have h6 := tail_ready htl hcl hin (by omega) hdd j h
          rw [h4 j (Nat.le_refl _)] at h6
          cases h6
      subst hij
      have e : ops.size - i = (ops.size - (i + 1)) + 1 := by omega
      rw [e, List.range'_succ, wpOpsIn_cons] at h5
      refine wpOpIn_mono (fun a' W' h' => ?_) h5
      refine ⟨by simp [hl], hcl2, Or.inr ⟨i + 1, by omega, by omega, fun k hk => ?_, fun k hk => ?_, h'⟩⟩
      · rw [gset hil]
        split
        · rfl
        · exact h3 k (by omega)
      · rw [lset (by omega)]
        exact h4 k (by omega)
  · simp only [unl, Array.toList_replicate]
    exact Nat.le_trans (List.length_filter_le _ _) (by simp)
  · have hrep : ∀ j, (Array.replicate ops.size false).getD j false = false := fun j => by simp [Array.getD_eq_getD_getElem?, Array.getElem?_replicate]; split <;> rfl
    have H0 : TI ops.size n ds R a0 w (Array.replicate ops.size false) a0 w.drew := { len := by simp, df := rfl, sz := rfl, rest := fun _ _ => rfl, hb := (Below.refl _ w).drew, val := fun i _ h => absurd ((hrep _).symm.trans h) (by decide) }
    refine ⟨by simp, fun m h => absurd ((hrep _).symm.trans h) (by decide), ?_⟩
    by_cases hn : n = 0
    · refine Or.inr ⟨0, by omega, by omega, fun i hi => absurd hi (by omega), fun i _ => hrep i, ?_⟩
      have := hfin _ _ _ H0 (fun i hi => absurd hi (by omega))
      rw [hn] at this
      exact this
    · exact Or.inl ⟨H0, fun i _ => hrep i, 0, by omega, hrep 0⟩
set_option maxRecDepth 100000 in
theorem unwanted_of {ops : Array Oper} {o : Oper} {a : Act} {k d : Nat} {b c : Bool} (hg : o.guard = some (k, b)) (hk : (ops[k]?).bind (·.dst) = some d) (hv : a.eval (.tmp d) = .bool c) (hbc : (c == b) = false) : Region.wanted o (yielded ops a.tmps) = false := by
  have h1 : a.tmps[d]?.getD undef = .bool c := ev hv
  have h2 : a.tmps[d]? = some (.bool c) := by
    cases h : a.tmps[d]? with
    | none => rw [h] at h1; cases h1
    | some v => rw [h] at h1; exact congrArg some h1
  unfold Region.wanted yielded
  simp only [hg, hk, Option.bind_some, h2]
  cases c <;> cases b <;> first | rfl | (cases hbc)
set_option maxRecDepth 100000 in
theorem wpListIn_skip {P : Program} {m : Nat} {ops : Array Oper} {Q : Exit → Act → World → Prop} {o : Oper} {rest : List Oper} {a : Act} {w : World} (hg : Region.wanted o (yielded ops a.tmps) = false) (h : wpListIn Fence.wide m P ops Q rest (a.put o.dst undef) w) : wpListIn Fence.wide m P ops Q (o :: rest) a w := by
  unfold wpListIn
  rw [if_neg (by rw [hg]; simp)]
  exact ⟨fun _ _ => trivial, h⟩
set_option maxRecDepth 100000 in
theorem wpIn_value {P : Program} {m : Nat} {o : Oper} {a : Act} {w w' : World} {K : Act → World → Prop} {Q : Exit → Act → World → Prop} {v : Value} (hrun : (execOp a.eval o).run P w = .ok (.value v) w') (h : K (a.put o.dst v) w') : o.wpIn Fence.wide m P a w K Q := by
  refine op_wide (wp_value hrun h) ?_
  intro row args w2 e
  rw [hrun] at e
  cases e
set_option maxRecDepth 100000 in
theorem wpIn_enter {P : Program} {m : Nat} {o : Oper} {a : Act} {w : World} {K : Act → World → Prop} {Q : Exit → Act → World → Prop} {f : FuncId} {args : Array Value} (hrun : (execOp a.eval o).run P w = .ok (.enter f args) w)
    (hc : Calls P f args w fun e w' => ∃ v, e = .returned v ∧ K (a.put o.dst v) w') : o.wpIn Fence.wide m P a w K Q := by
  refine op_wide (wp_enter hrun hc) ?_
  intro row args w2 e
  rw [hrun] at e
  cases e
end Go.Proofs.YtniljoojoafiaaaGreatDoor.B
namespace Go.Proofs.YtniljoojoafiaaaGreatDoor.B
open Go Go.RowKit
/-- All blocks but those of C are as they were. -/
structure KC (C : Nat → Prop) (A B : World) : Prop where
  os : B.os = A.os
  tape : B.tape = A.tape
  output : B.output = A.output
  size : A.heap.size ≤ B.heap.size
  block : ∀ k, k < A.heap.size → ¬ C k → B.heap[k]? = A.heap[k]?
set_option maxRecDepth 100000 in
theorem KC.of {C : Nat → Prop} {A B : World} (h : Below A.heap.size A B) : KC C A B := ⟨h.os, h.tape, h.output, h.size, fun k hk _ => h.block k hk⟩
set_option maxRecDepth 100000 in
theorem KC.trans {C : Nat → Prop} {A B D : World} (h : KC C A B) (k : KC C B D) : KC C A D :=
  ⟨k.os.trans h.os, k.tape.trans h.tape, k.output.trans h.output, Nat.le_trans h.size k.size, fun i hi hc => (k.block i (Nat.lt_of_lt_of_le hi h.size) hc).trans (h.block i hi hc)⟩
set_option maxRecDepth 100000 in
theorem KC.setCell {C : Nat → Prop} {A B : World} (h : KC C A B) {b o : Nat} (hb : C b) (v : Value) : KC C A (B.setCell ⟨b, o, none⟩ v) :=
  h.trans ⟨rfl, rfl, rfl, by simp [World.setCell], fun k _ hk => heap_setCell_other _ _ _ _ (fun e => hk (e ▸ hb))⟩
set_option maxRecDepth 100000 in
theorem KC.mono {C D : Nat → Prop} {A B : World} (h : KC C A B) (hcd : ∀ k, C k → D k) : KC D A B := ⟨h.os, h.tape, h.output, h.size, fun k hk hd => h.block k hk (fun hc => hd (hcd k hc))⟩
set_option maxRecDepth 100000 in
theorem putObj_below (W : World) {B l : Nat} (o : Obj) (h : B ≤ l) : Below B W (W.putObj l o) := by
  have hg := grownBy_putObj' W l o
  exact ⟨hg.os, hg.tape, hg.output, hg.size, fun k hk => World.putObj_heap_other (by omega)⟩
set_option maxRecDepth 100000 in
theorem putObj_kc {C : Nat → Prop} (W : World) {l : Nat} (o : Obj) (h : C l) : KC C W (W.putObj l o) := by
  have hg := grownBy_putObj' W l o
  exact ⟨hg.os, hg.tape, hg.output, hg.size, fun k _ hk => World.putObj_heap_other (fun e => hk (e ▸ h))⟩
def SeqB {α : Type} (P : Program) (g : Nat) (lb : Array Value) (encs : α → Array Value) (xs : List α) (A : Nat → Prop) (w : World) : Prop :=
  ∀ (C : Nat → Prop) (l : Nat) (J Jx : List α → World → Prop) (W : World), Below w.heap.size w W → (∀ k, A k → ¬ C k) → (∀ k, C k → k < W.heap.size) →
    (∀ s A B, J s A → Below W.heap.size A B → J s B) → (∀ s A B, Jx s A → Below W.heap.size A B → Jx s B) →
    (∀ pre x A, J pre A → pre ++ [x] <+: xs → YieldAt Fence.wide 0 P l (encs x) A fun e B =>
      (e = .returned (.bool true) ∧ J (pre ++ [x]) B ∧ KC C A B) ∨ (e = .returned (.bool false) ∧ Jx (pre ++ [x]) B ∧ KC C A B)) →
    J [] W →
    CallsIn Fence.wide 0 P g (#[.func (.yield l) #[] #[]] ++ lb) W fun e W' => (∃ v, e = .returned v) ∧ (J xs W' ∨ ∃ pre, pre <+: xs ∧ Jx pre W') ∧ KC C W W'
def bPost {α : Type} (C : Nat → Prop) (I : List α → World → Prop) (Ix : Code → List α → World → Prop) (xs : List α) (W : World) : Exit → Act → World → Prop
  | .normal, _, W' => KC C W W' ∧ I xs W'
  | .ret, _, W' => KC C W W' ∧ Ix .ret xs W'
  | .exit id, _, W' => KC C W W' ∧ Ix (.exit id) xs W'
  | .goto t, _, W' => KC C W W' ∧ Ix (.goto t) xs W'
  | _, _, _ => False
set_option maxRecDepth 100000 in
theorem range_b {P : Program} {α : Type} {m : Nat} {g : Operand} {ps : Array Tmp} {assign body : Code} {Q : Exit → Act → World → Prop} {a : Act} {w : World}
    {gf : Nat} {lb : Array Value} (hg : a.eval g = .func (.func gf) #[] lb) (eg : ∀ args W, (callFunc gf args).run P W = .ok (.enter gf args) W)
    {encs : α → Array Value} {xs : List α} {A : Nat → Prop} (hseq : SeqB P gf lb encs xs A w) (hps : ∀ x, (encs x).size = ps.size)
    (C : Nat → Prop) (hA : ∀ k, A k → k < w.heap.size ∧ ¬ C k) (hC : ∀ k, C k → k < w.heap.size)
    (I : List α → World → Prop) (Ix : Code → List α → World → Prop) (hI : ∀ s A B, I s A → Below w.heap.size A B → I s B) (hIx : ∀ c s A B, Ix c s A → Below w.heap.size A B → Ix c s B) (h0 : I [] w) (a₁ : α → Act)
    (hassign : ∀ (l : Nat) (x : α) (W : World) (K : Act → World → Prop), K (a₁ x) W →
      assign.wpIn (Fence.wide.inRound l) 0 P (Exit.then K (fun _ _ _ => False)) { tmps := (ps.zip (encs x)).foldl (fun t (p, v) => t.setIfInBounds p v) a.tmps, defers := [] } W)
    (hbody : ∀ (l : Nat) (pre : List α) (x : α) (W : World), I pre W → pre ++ [x] <+: xs → w.heap.size ≤ W.heap.size → body.wpIn (Fence.wide.inRound l) 0 P (bPost C I Ix (pre ++ [x]) W) (a₁ x) W)
    (hdone : ∀ (W : World), I xs W → KC (fun k => C k ∨ w.heap.size ≤ k) w W → W.heap[w.heap.size]? = some (.deferred (some [])) → Q .normal { a with defers := { target := .collected w.heap.size, args := #[] } :: a.defers } W)
    (hstop : ∀ (c : Code) (pre : List α) (W : World), pre <+: xs → Ix c pre W → KC (fun k => C k ∨ w.heap.size ≤ k) w W → W.heap[w.heap.size]? = some (.deferred (some [])) → c.wpIn Fence.wide m P Q { a with defers := { target := .collected w.heap.size, args := #[] } :: a.defers } W) :
    (Code.rangeFunc g ps assign body).wpIn Fence.wide m P Q a w := by
  refine wpIn_rangeFunc fun fn hfn => ?_
  obtain ⟨rc, hrc⟩ : ∃ rc : LoopState → Option Code → Loop, rc = fun st pe => { state := st, pending := pe, fn, tmps := a.tmps, params := ps, assign, body, defers := w.heap.size } := ⟨_, rfl⟩
  have he := run_enterLoop_outer (P := P) (w := w) fn a.tmps ps assign body
  obtain ⟨W1, hW1⟩ : ∃ W1, (w.alloc (.deferred (some []))).alloc (.loop (rc .ready none)) = W1 := ⟨_, rfl⟩
  have hl1 : W1.heap[w.heap.size + 1]? = some (.loop (rc .ready none)) := by
    rw [← hW1]
    have h := World.alloc_heap_new (w.alloc (.deferred (some []))) (.loop (rc .ready none))
    rwa [World.size_alloc] at h
  have hk1 : W1.heap[w.heap.size]? = some (.deferred (some [])) := by
    rw [← hW1, Below.heap_alloc _ _ _ (by simp)]; exact World.alloc_heap_new w _
  have hb1 : Below w.heap.size w W1 := by
    rw [← hW1]; exact ((Below.refl _ w).alloc (Nat.le_refl _) _).alloc (by simp) _
  have hs1 : W1.heap.size = w.heap.size + 2 := by rw [← hW1]; simp
  have hrd : ∀ (o : Obj) (U V : World), Below W1.heap.size U V → U.heap[w.heap.size + 1]? = some o → V.heap[w.heap.size + 1]? = some o := fun o U V hb h => (hb.block _ (by omega)).trans h
  have hrk : ∀ (o : Obj) (U V : World), Below W1.heap.size U V → U.heap[w.heap.size]? = some o → V.heap[w.heap.size]? = some o := fun o U V hb h => (hb.block _ (by omega)).trans h
  have hR := hseq (fun k => C k ∨ k = w.heap.size ∨ k = w.heap.size + 1) (w.heap.size + 1)
    (fun pre U => I pre U ∧ U.heap[w.heap.size + 1]? = some (.loop (rc .ready none)) ∧ U.heap[w.heap.size]? = some (.deferred (some [])))
    (fun pre U => ∃ c, Ix c pre U ∧ U.heap[w.heap.size + 1]? = some (.loop (rc .done (some c))) ∧ U.heap[w.heap.size]? = some (.deferred (some [])))
    W1 hb1 (fun k hk h => by
      obtain ⟨h1, h2⟩ := hA k hk
      rcases h with h | rfl | rfl
      · exact h2 h
      · omega
      · omega) (fun k h => by
      rcases h with h | rfl | rfl
      · have := hC k h; omega
      · omega
      · omega)
    (fun s U V hs hb => ⟨hI s U V hs.1 (hb.mono (by omega)), hrd _ U V hb hs.2.1, hrk _ U V hb hs.2.2⟩)
    (fun s U V hs hb => by
      obtain ⟨c, h1, h2, h3⟩ := hs
      exact ⟨c, hIx c s U V h1 (hb.mono (by omega)), hrd _ U V hb h2, hrk _ U V hb h3⟩) ?round ⟨hI [] w W1 h0 hb1, hl1, hk1⟩
  case round =>
    rintro pre x W ⟨hi, hl, hk⟩ hpre
    have hy := run_yield (P := P) (args := encs x) hl (by rw [hrc]; exact hps x)
    rw [hrc] at hy
    have hlt : w.heap.size + 1 < W.heap.size := (Array.getElem?_eq_some_iff.1 hl).1
    refine ⟨fn, _, assign, body, hy, roundIn_of_wpIn hfn (hassign _ x W _ ?_)⟩
    refine ⟨_, run_beginRound hl (by rw [hrc]), ?_⟩
    obtain ⟨W2, hW2⟩ : ∃ W2, W.putObj (w.heap.size + 1) (.loop { rc .ready none with state := .busy }) = W2 := ⟨_, rfl⟩
    rw [hW2]
    have hl2 : W2.heap[w.heap.size + 1]? = some (.loop { rc .ready none with state := .busy }) := by rw [← hW2]; exact World.putObj_heap_same hlt
    have hk2 : W2.heap[w.heap.size]? = some (.deferred (some [])) := by rw [← hW2]; exact (World.putObj_heap_other (by omega)).trans hk
    have hb2 : Below w.heap.size W W2 := by rw [← hW2]; exact putObj_below W _ (by omega)
    have hc2 : KC (fun k => C k ∨ k = w.heap.size ∨ k = w.heap.size + 1) W W2 := by rw [← hW2]; exact putObj_kc W _ (Or.inr (Or.inr rfl))
    refine wpIn_mono (hbody _ pre x W2 (hI _ _ _ hi hb2) hpre (by have := hb2.size; omega)) ?_
    have fin : ∀ (jump : Option Code) (W3 : World), KC C W2 W3 →
        ∃ W4, (Instr.endRound (w.heap.size + 1) jump).run P W3 = .ok (.bool jump.isNone) W4 ∧ W4.heap[w.heap.size + 1]? = some (.loop (rc (if jump.isNone then .ready else .done) jump)) ∧ W4.heap[w.heap.size]? = some (.deferred (some [])) ∧ Below w.heap.size W3 W4 ∧
          KC (fun k => C k ∨ k = w.heap.size ∨ k = w.heap.size + 1) W W4 := fun jump W3 h3 => by
      have hl2s := (Array.getElem?_eq_some_iff.1 hl2).1
      have hk2s := (Array.getElem?_eq_some_iff.1 hk2).1
      have hl3 := (h3.block _ hl2s (fun h => by have := hC _ h; omega)).trans hl2
      have hk3 := (h3.block _ hk2s (fun h => by have := hC _ h; omega)).trans hk2
      have hlt3 := (Array.getElem?_eq_some_iff.1 hl3).1
      have hend := run_endRound (P := P) jump hl3
      refine ⟨_, hend, ?_, ?_, putObj_below W3 _ (by omega), (hc2.trans (h3.mono (fun k h => Or.inl h))).trans (putObj_kc W3 _ (Or.inr (Or.inr rfl)))⟩
      · rw [World.putObj_heap_same hlt3, hrc]
      · exact (World.putObj_heap_other (by omega)).trans hk3
    rintro e a3 W3 hp
    cases e with
    | normal =>
      obtain ⟨h3, hi3⟩ := hp
      obtain ⟨W4, hr, hl4, hk4, hb4, hc4⟩ := fin none W3 h3
      exact ⟨_, _, hr, .inl ⟨rfl, ⟨hI _ _ _ hi3 hb4, hl4, hk4⟩, hc4⟩⟩
    | ret =>
      obtain ⟨h3, hi3⟩ := hp
      obtain ⟨W4, hr, hl4, hk4, hb4, hc4⟩ := fin (some .ret) W3 h3
      exact ⟨_, _, hr, .inr ⟨rfl, ⟨.ret, hIx _ _ _ _ hi3 hb4, hl4, hk4⟩, hc4⟩⟩
    | exit id =>
      obtain ⟨h3, hi3⟩ := hp
      obtain ⟨W4, hr, hl4, hk4, hb4, hc4⟩ := fin (some (.exit id)) W3 h3
      exact ⟨_, _, hr, .inr ⟨rfl, ⟨.exit id, hIx _ _ _ _ hi3 hb4, hl4, hk4⟩, hc4⟩⟩
    | goto t =>
      obtain ⟨h3, hi3⟩ := hp
      obtain ⟨W4, hr, hl4, hk4, hb4, hc4⟩ := fin (some (.goto t)) W3 h3
      exact ⟨_, _, hr, .inr ⟨rfl, ⟨.goto t, hIx _ _ _ _ hi3 hb4, hl4, hk4⟩, hc4⟩⟩
    | panic ch => exact hp.elim
    | outgrown => exact hp.elim
  refine ⟨w.heap.size + 1, [{ target := .collected w.heap.size, args := #[] }], W1, { target := .fn (.func gf) lb, args := #[.func (.yield (w.heap.size + 1)) #[] #[]] }, W1, gf,
    #[.func (.yield (w.heap.size + 1)) #[] #[]] ++ lb, W1, ?_, ?_, fun _ _ => trivial, ?_, fun h => (by cases h), ?_⟩
  · rw [← hW1, hrc]; exact he
  · simp only [resolve, hg]
    simp [go_sem]
  · simp [invoke, go_sem, eg]
  · refine (callsIn_wide.2 (callsIn_wide.1 hR)).mono ?_
    rintro e W2 ⟨⟨v, rfl⟩, hz, hkc⟩
    have hkc2 : KC (fun k => C k ∨ w.heap.size ≤ k) w W2 := (KC.of hb1).trans (hkc.mono (fun k h => h.elim Or.inl (fun h => Or.inr (by omega))))
    have hp2 : ∀ o, KC (fun k => C k ∨ w.heap.size ≤ k) w (W2.putObj (w.heap.size + 1) o) := fun o => hkc2.trans (putObj_kc W2 o (Or.inr (Nat.le_succ _)))
    rcases hz with ⟨hi, hl, hk⟩ | ⟨pre, hpre, c, hi, hl, hk⟩
    · exact ⟨none, _, by have := run_endLoop (P := P) hl (by rw [hrc]; simp); rw [hrc] at this; exact this, hdone _ (hI _ _ _ hi (putObj_below W2 _ (by omega))) (hp2 _) ((World.putObj_heap_other (by omega)).trans hk)⟩
    · exact ⟨some c, _, by have := run_endLoop (P := P) hl (by rw [hrc]; simp); rw [hrc] at this; exact this, hstop c pre _ hpre (hIx _ _ _ _ hi (putObj_below W2 _ (by omega))) (hp2 _) ((World.putObj_heap_other (by omega)).trans hk)⟩
end Go.Proofs.YtniljoojoafiaaaGreatDoor.B
