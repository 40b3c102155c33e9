/- The laws' parsed: the expression of a text. A region whose order is drawn, with guards, in the body of a function that is called with a loop's yield: its last operations wait for all others (the call of yield among them). Plain: the plan of the laws' awake; what an expression's parts are where it is known at its top. The laws' awake. -/
import Derived.Test.YtfemippjaokcmaaGreatDoorXbe
import Derived.Test.YtfemippjaokcmaaGreatDoorXap
import Derived.Test.YtfemippjaokcmaaGreatDoorXad
import Derived.RangeFuncNested
import Derived.RangeFuncBound
import Derived.RangeFuncCalls
import Derived.RangeFuncLeaves
import Derived.Shelf.Abstract
import Derived.Shelf.RegionOpen
import Derived.OwnWalkIn
import Derived.TacticsInMore
import Derived.LoopNIn
import Derived.LoopIn
import Derived.Test.YtfemippjaokcmaaGreatDoorXbd
import Derived.Test.YtfemippjaokcmaaGreatDoorXat
namespace Go.Proofs.YtfemippjaokcmaaGreatDoor
open Go.RowKit Go.Shelf
attribute [local go_sem] Oper.semAt_some fw0 fw1 fw2
def preL : List UInt8 := [68, 69, 76, 69, 84, 69, 32, 70, 82, 79, 77, 32, 116, 32, 87, 72, 69, 82, 69, 32]
def psF (l : List UInt8) : Et × Bool := if 1000 < l.length then (zeroT, false) else ((parF (preL ++ l)).1.wh, decide ((parF (preL ++ l)).2.2 = 0))
def GivesE (w : World) (X : Et × Bool) (r : Ending) (w' : World) : Prop := ∃ R d, r = .returned (.tuple #[rowX R, .bool X.2]) ∧ LiesE w' (fun k => w.heap.size ≤ k) d X.1 (rowX R) ∧ Below w.heap.size w w'
theorem pre_list (s : ByteArray) : ((⟨#[68, 69, 76, 69, 84, 69, 32, 70, 82, 79, 77, 32, 116, 32, 87, 72, 69, 82, 69, 32]⟩ : ByteArray) ++ s).data.toList = preL ++ s.data.toList := by
  simp [preL]
def zeroX : XR := ⟨0, ⟨#[]⟩, 0, false, 0, ⟨#[]⟩, none, 0, 0, none, 0, 0⟩
theorem zero_x (w : World) (S : Nat → Prop) : LiesE w S 1 zeroT (rowX zeroX) := LiesE.leaf w S zeroE rfl rfl _
set_option maxRecDepth 100000 in
set_option maxHeartbeats 8000000 in
theorem parsed_by (s : ByteArray) (hs : s.size ≤ 140737488355328) (hst : StmC (preL ++ s.data.toList)) (w : World) (he : Ev w) : Calls Tryz.prog 7 #[.string s] w (GivesE w (psF s.data.toList)) := by
  obtain ⟨w1, hw1⟩ : ∃ w1, w.alloc (.cells #[.int .i64 0, .string ⟨#[]⟩, .int .i64 0, .bool false, .int .i64 0, .string ⟨#[]⟩, .slice none 0 0, .slice none 0 0, .slice none 0 0, .slice none 0 0] 28) = w1 := ⟨_, rfl⟩
  obtain ⟨r1, hb1⟩ := alloc1 hw1
  have hlen : s.data.toList.length = s.size := by simp
  by_cases hl : 1000 < s.size
  · have hl2 : (1000 : Int) < (s.size : Int) := by omega
    have e : psF s.data.toList = (zeroT, false) := by
      unfold psF
      rw [if_pos (by rw [hlen]; exact hl)]
    rw [e]
    have HH : Hid (Below w.heap.size w w1 ∧ w1.heap[w.heap.size]? = some (.cells #[.int .i64 0, .string ⟨#[]⟩, .int .i64 0, .bool false, .int .i64 0, .string ⟨#[]⟩, .slice none 0 0, .slice none 0 0, .slice none 0 0, .slice none 0 0] 28 (0, 0))) := ⟨hb1, r1⟩
    have HW := mkHid hw1
    clear hb1 r1 hlen e he hl hw1 hst
    go_enter Tryz.func7, Tryz.ntmps7
    go_wp2_with (first | rw [HW.out] | (refine wpList_put rfl 28 (.tmp 2) (.tmp 10) rfl rfl rfl rfl HH.out.2 rfl info28 (by simp [Value.oneCell']) ?_) | fail)
    exact bodyPost_ret (results_row_tmp Tryz.results7 _ _ w.heap.size 28 _ (0, 0) _ rfl (put_row _ HH.out.2 rfl) Tryz.underlying28 rfl info28) rfl ⟨zeroX, 1, rfl, zero_x _ _, put_below HH.out.1 _ (Nat.le_refl _) _⟩
  · have hl2 : ¬ (1000 : Int) < (s.size : Int) := by omega
    have hsz : ((⟨#[68, 69, 76, 69, 84, 69, 32, 70, 82, 79, 77, 32, 116, 32, 87, 72, 69, 82, 69, 32]⟩ : ByteArray) ++ s).size = 20 + s.size := by simp; rfl
    have kp := parse_by (⟨#[68, 69, 76, 69, 84, 69, 32, 70, 82, 79, 77, 32, 116, 32, 87, 72, 69, 82, 69, 32]⟩ ++ s) (by omega) (by rw [pre_list]; exact hst) w1 (he.later hb1)
    rw [pre_list] at kp
    have e : psF s.data.toList = ((parF (preL ++ s.data.toList)).1.wh, decide ((parF (preL ++ s.data.toList)).2.2 = 0)) := by
      unfold psF
      rw [if_neg (by rw [hlen]; exact hl)]
    rw [e]
    obtain ⟨X, hX⟩ : ∃ X, parF (preL ++ s.data.toList) = X := ⟨_, rfl⟩
    rw [hX] at kp ⊢
    have HH : Hid (Below w.heap.size w w1 ∧ w1.heap[w.heap.size]? = some (.cells #[.int .i64 0, .string ⟨#[]⟩, .int .i64 0, .bool false, .int .i64 0, .string ⟨#[]⟩, .slice none 0 0, .slice none 0 0, .slice none 0 0, .slice none 0 0] 28 (0, 0))) := ⟨hb1, r1⟩
    have HW := mkHid hw1
    have s1 := hb1.size
    have l1 := lt_of_row r1
    have hsum : ¬ 9223372036854775807 < ((⟨#[68, 69, 76, 69, 84, 69, 32, 70, 82, 79, 77, 32, 116, 32, 87, 72, 69, 82, 69, 32]⟩ : ByteArray)).size + s.size := by
      show ¬ 9223372036854775807 < 20 + s.size
      omega
    obtain ⟨t, ht⟩ : ∃ t, ((⟨#[68, 69, 76, 69, 84, 69, 32, 70, 82, 79, 77, 32, 116, 32, 87, 72, 69, 82, 69, 32]⟩ : ByteArray) ++ s) = t := ⟨_, rfl⟩
    have HT := mkHid ht
    rw [ht] at kp
    clear hb1 r1 hlen e he hl hX hw1 hsz ht hst
    obtain ⟨y, hy⟩ : ∃ y, decide (X.2.2 = 0) = y := ⟨_, rfl⟩
    rw [hy]
    have HY := mkHid hy
    clear hy
    go_enter Tryz.func7, Tryz.ntmps7
    go_wp2_with (first | rw [HW.out] | fail)
    rw [HT.out]
    refine kp.mono ?_
    rintro q w2 ⟨R, rfl, hx, hb2⟩
    obtain ⟨w3, hw3⟩ : ∃ w3, put (w2.alloc (.cells #[.int .i64 0, .string ⟨#[]⟩, .string ⟨#[]⟩, .int .i64 0, .string ⟨#[]⟩, .int .i64 0, .bool false, .int .i64 0, .string ⟨#[]⟩, .slice none 0 0, .slice none 0 0, .slice none 0 0, .slice none 0 0, .slice none 0 0, .slice none 0 0, .int .i64 0, .string ⟨#[]⟩, .int .i64 0, .bool false, .int .i64 0, .string ⟨#[]⟩, .slice none 0 0, .slice none 0 0, .slice none 0 0, .slice none 0 0, .slice none 0 0, .bool false, .bool false, .string ⟨#[]⟩, .bool false, .int .i64 (0)] 62)) w2.heap.size (stA R) = w3 := ⟨_, rfl⟩
    have ra : (w2.alloc (.cells #[.int .i64 0, .string ⟨#[]⟩, .string ⟨#[]⟩, .int .i64 0, .string ⟨#[]⟩, .int .i64 0, .bool false, .int .i64 0, .string ⟨#[]⟩, .slice none 0 0, .slice none 0 0, .slice none 0 0, .slice none 0 0, .slice none 0 0, .slice none 0 0, .int .i64 0, .string ⟨#[]⟩, .int .i64 0, .bool false, .int .i64 0, .string ⟨#[]⟩, .slice none 0 0, .slice none 0 0, .slice none 0 0, .slice none 0 0, .slice none 0 0, .bool false, .bool false, .string ⟨#[]⟩, .bool false, .int .i64 (0)] 62)).heap[w2.heap.size]? = some (.cells zero31 62 (0, 0)) := heap_alloc_new _ _
    have hb3 : Below w2.heap.size w2 w3 := by rw [← hw3]; exact put_below ((Below.refl _ w2).alloc (Nat.le_refl _) _) _ (Nat.le_refl _) _
    have r3 : w3.heap[w2.heap.size]? = some (.cells (stA R) 62 (0, 0)) := by rw [← hw3]; exact put_row _ ra rfl
    have s2 := hb2.size
    have rz : w3.heap[w.heap.size]? = some (.cells #[.int .i64 0, .string ⟨#[]⟩, .int .i64 0, .bool false, .int .i64 0, .string ⟨#[]⟩, .slice none 0 0, .slice none 0 0, .slice none 0 0, .slice none 0 0] 28 (0, 0)) := ((hb3.block _ (by omega)).trans (hb2.block _ l1)).trans HH.out.2
    have hW3 := mkHid hw3
    have hxw := hx.wh
    have H3 : Hid (Below w.heap.size w w3 ∧ w3.heap[w.heap.size]? = some (.cells #[.int .i64 0, .string ⟨#[]⟩, .int .i64 0, .bool false, .int .i64 0, .string ⟨#[]⟩, .slice none 0 0, .slice none 0 0, .slice none 0 0, .slice none 0 0] 28 (0, 0)) ∧ (w2.alloc (.cells #[.int .i64 0, .string ⟨#[]⟩, .string ⟨#[]⟩, .int .i64 0, .string ⟨#[]⟩, .int .i64 0, .bool false, .int .i64 0, .string ⟨#[]⟩, .slice none 0 0, .slice none 0 0, .slice none 0 0, .slice none 0 0, .slice none 0 0, .slice none 0 0, .int .i64 0, .string ⟨#[]⟩, .int .i64 0, .bool false, .int .i64 0, .string ⟨#[]⟩, .slice none 0 0, .slice none 0 0, .slice none 0 0, .slice none 0 0, .slice none 0 0, .bool false, .bool false, .string ⟨#[]⟩, .bool false, .int .i64 (0)] 62)).heap[w2.heap.size]? = some (.cells zero31 62 (0, 0)) ∧ (stA R).all (·.oneCell') = true ∧ ∃ d, LiesE w3 (fun k => w1.heap.size ≤ k) d X.1.wh (rowX R.wh)) := by
      have a1 := HH.out.1.trans (hb2.mono HH.out.1.size)
      obtain ⟨d, hd⟩ := hxw
      exact ⟨a1.trans (hb3.mono a1.size), rz, ra, hx.ones, d, hd.since (Since.below hb3)⟩
    have k0 : w3.cell? ⟨w2.heap.size, 15, none⟩ = some (.int .i64 R.wh.k) := cell_of_row w3 _ 15 _ _ _ r3
    have k1 : w3.cell? ⟨w2.heap.size, 16, none⟩ = some (.string R.wh.s) := cell_of_row w3 _ 16 _ _ _ r3
    have k2 : w3.cell? ⟨w2.heap.size, 17, none⟩ = some (.int .i64 R.wh.vk) := cell_of_row w3 _ 17 _ _ _ r3
    have k3 : w3.cell? ⟨w2.heap.size, 18, none⟩ = some (.bool R.wh.vb) := cell_of_row w3 _ 18 _ _ _ r3
    have k4 : w3.cell? ⟨w2.heap.size, 19, none⟩ = some (.int .i64 R.wh.vn) := cell_of_row w3 _ 19 _ _ _ r3
    have k5 : w3.cell? ⟨w2.heap.size, 20, none⟩ = some (.string R.wh.vs) := cell_of_row w3 _ 20 _ _ _ r3
    have k6 : w3.cell? ⟨w2.heap.size, 21, none⟩ = some (.slice none 0 0) := cell_of_row w3 _ 21 _ _ _ r3
    have k7 : w3.cell? ⟨w2.heap.size, 22, none⟩ = some (.slice none 0 0) := cell_of_row w3 _ 22 _ _ _ r3
    have k8 : w3.cell? ⟨w2.heap.size, 23, none⟩ = some (.slice R.wh.kp R.wh.n R.wh.kc) := cell_of_row w3 _ 23 _ _ _ r3
    have k9 : w3.cell? ⟨w2.heap.size, 24, none⟩ = some (.slice R.wh.np R.wh.m R.wh.nc) := cell_of_row w3 _ 24 _ _ _ r3
    have l3 := lt_of_row rz
    have l32 := lt_of_row r3
    have HFIN : Hid (∃ d, LiesE (put w3 w.heap.size #[.int .i64 R.wh.k, .string R.wh.s, .int .i64 R.wh.vk, .bool R.wh.vb, .int .i64 R.wh.vn, .string R.wh.vs, .slice none 0 0, .slice none 0 0, .slice R.wh.kp R.wh.n R.wh.kc, .slice R.wh.np R.wh.m R.wh.nc]) (fun k => w.heap.size ≤ k) d X.1.wh (rowX R.wh)) := by
      obtain ⟨d, hd⟩ := H3.out.2.2.2.2
      have a1 := hd.since (Since.put (z := w.heap.size) (by show ¬ w1.heap.size ≤ w.heap.size; omega) w3 #[.int .i64 R.wh.k, .string R.wh.s, .int .i64 R.wh.vk, .bool R.wh.vb, .int .i64 R.wh.vn, .string R.wh.vs, .slice none 0 0, .slice none 0 0, .slice R.wh.kp R.wh.n R.wh.kc, .slice R.wh.np R.wh.m R.wh.nc])
      exact ⟨d, a1.imp fun k hk _ => by omega⟩
    clear kp hx hb2 hb3 ra r3 rz hw3 hxw
    by_cases h0 : X.2.2 = 0
    · have hy1 : y = true := by rw [← HY.out]; exact decide_eq_true h0
      subst hy1
      have hc : ((X.2.2 : Nat) : Int) = 0 := by omega
      rw [hc]
      clear h0 hc
      go_wp2_with (first
        | (refine wpList_put rfl 62 (.tmp 4) (.tmp 15) rfl rfl rfl rfl H3.out.2.2.1 rfl info30 H3.out.2.2.2.1 ?_; rw [hW3.out])
        | (refine wpList_put rfl 28 (.tmp 2) (.tmp 19) rfl rfl rfl rfl H3.out.2.1 rfl info28 (by simp [Value.oneCell']) ?_)
        | fail)
      obtain ⟨d, hd⟩ := HFIN.out
      exact bodyPost_ret (results_row_tmp Tryz.results7 _ _ w.heap.size 28 _ (0, 0) _ rfl (put_row _ H3.out.2.1 rfl) Tryz.underlying28 rfl info28) rfl ⟨R.wh, d, rfl, hd, put_below H3.out.1 _ (Nat.le_refl _) _⟩
    · have hy1 : y = false := by rw [← HY.out]; exact decide_eq_false h0
      subst hy1
      have hc : (((X.2.2 : Nat) : Int) == 0) = false := by simpa using h0
      go_wp2_with (first
        | (refine wpList_put rfl 62 (.tmp 4) (.tmp 15) rfl rfl rfl rfl H3.out.2.2.1 rfl info30 H3.out.2.2.2.1 ?_; rw [hW3.out])
        | (refine wpList_put rfl 28 (.tmp 2) (.tmp 19) rfl rfl rfl rfl H3.out.2.1 rfl info28 (by simp [Value.oneCell']) ?_)
        | fail)
      obtain ⟨d, hd⟩ := HFIN.out
      exact bodyPost_ret (results_row_tmp Tryz.results7 _ _ w.heap.size 28 _ (0, 0) _ rfl (put_row _ H3.out.2.1 rfl) Tryz.underlying28 rfl info28) rfl ⟨R.wh, d, rfl, hd, put_below H3.out.1 _ (Nat.le_refl _) _⟩
theorem parsed_any (s : ByteArray) (hs : s.size ≤ 140737488355328) (w : World) (he : Ev w) : Calls Tryz.prog 7 #[.string s] w (GivesE w (psF s.data.toList)) :=
  parsed_by s hs (fun hb _ _ _ _ H g he2 h2 => by
    obtain ⟨hz, hl, ha, -, -⟩ := words_ok hb
    exact statement_any H hz hl g ha he2 h2) w he
end Go.Proofs.YtfemippjaokcmaaGreatDoor
namespace Go.Proofs.YtfemippjaokcmaaGreatDoor
open Go.RowKit Go.Shelf
theorem wanted_of {ops : Array Oper} {o : Oper} {a : Act} {k d : Nat} {b : Bool} (hg : o.guard = some (k, b)) (hk : (ops[k]?).bind (·.dst) = some d) (hv : a.eval (.tmp d) = .bool b) : Region.wanted o (yielded ops a.tmps) = true := by
  have h1 : a.tmps[d]?.getD undef = .bool b := ev hv
  have h2 : a.tmps[d]? = some (.bool b) := by
    cases h : a.tmps[d]? with
    | none => rw [h] at h1; cases h1
    | some v => rw [h] at h1; exact congrArg some h1
  unfold Region.wanted yielded
  simp only [hg, hk, Option.bind_some, h2]
  simp
theorem op_wide {P : Program} {m : Nat} {o : Oper} {a : Act} {w : World} {K : Act → World → Prop} {Q : Exit → Act → World → Prop} (h : o.wp P a w K Q) (hr : ∀ row args w', (execOp a.eval o).run P w ≠ .ok (.row row args) w') : o.wpIn Fence.wide m P a w K Q := by
  unfold Oper.wpIn
  refine ⟨fun _ _ => trivial, ?_⟩
  have e2 : o.semAt Fence.wide.round a.eval = execOp a.eval o := rfl
  rw [e2]
  unfold Oper.wp at h
  generalize (execOp a.eval o).run P w = r at *
  cases r with
  | ok x w' =>
    cases x with
    | value v => exact h
    | skip => exact h
    | defer d => exact h
    | enter f args => exact ⟨fun h => (by cases h), callsIn_wide.2 h⟩
    | row row args => exact absurd rfl (hr row args w')
    | _ => exact h.elim
  | halt x w' => cases x <;> first | exact h | exact h.elim
theorem any_invIn {P : Program} {m : Nat} {md : Region.Mode} {ops : Array Oper} {Q : Exit → Act → World → Prop} (I : Array Bool → Act → World → Prop)
    (hsz : ∀ l a w, I l a w → l.size = ops.size) (hdone : ∀ l a w, I l a w → Region.ready md ops l = [] → Q .normal a w)
    (hstep : ∀ l a w, I l a w → ∀ i ∈ Region.ready md ops l, wpOpIn Fence.wide m P ops Q i (I (l.setIfInBounds i true)) a w) :
    ∀ (fuel : Nat) (l : Array Bool) (a : Act) (w : World), unl l ≤ fuel → I l a w → wpAnyIn Fence.wide m P md ops Q fuel l a w := by
  intro fuel
  induction fuel with
  | zero =>
    intro l a w hf h
    have hr := ready_unl (md := md) (ops := ops) (by omega : unl l = 0) (hsz l a w h)
    exact ⟨hr, hdone l a w h hr⟩
  | succ fuel ih =>
    intro l a w hf h
    refine ⟨hdone l a w h, fun i hi => ?_⟩
    refine wpOpIn_mono (fun a' w' h' => ih _ _ _ ?_ h') (hstep l a w h i hi)
    unfold Region.ready at hi
    rw [List.mem_filter, List.mem_range] at hi
    obtain ⟨h1, h2⟩ := hi
    simp only [Bool.and_eq_true, Bool.not_eq_true'] at h2
    have := unl_set (l := l) (i := i) (by rw [hsz l a w h]; exact h1) h2.1
    omega
theorem wpOpIn_want {P : Program} {m : Nat} {ops : Array Oper} {Q : Exit → Act → World → Prop} {i : Nat} {o : Oper} {K : Act → World → Prop} {a : Act} {w : World} (ho : ops[i]? = some o) (hg : Region.wanted o (yielded ops a.tmps) = true) (h : o.wpIn Fence.wide m P a w K Q) : wpOpIn Fence.wide m P ops Q i K a w := by
  unfold wpOpIn
  rw [ho]
  simp only [hg, if_true]
  exact h
theorem wpOpIn_skip {P : Program} {m : Nat} {ops : Array Oper} {Q : Exit → Act → World → Prop} {i : Nat} {o : Oper} {K : Act → World → Prop} {a : Act} {w : World} (ho : ops[i]? = some o) (hg : Region.wanted o (yielded ops a.tmps) = false) (h : K (a.put o.dst undef) w) : wpOpIn Fence.wide m P ops Q i K a w := by
  unfold wpOpIn
  rw [ho]
  simp only [hg]
  exact ⟨fun _ _ => trivial, h⟩
theorem any_tailIn {P : Program} {m : Nat} {ops : Array Oper} {Q : Exit → Act → World → Prop} {id : Nat} {a0 : Act} {w : World} (hm : P.follows .mixedOrders = true) (n : Nat) (hsz : n ≤ ops.size) (ds : Nat → Nat) (R : Nat → Value → World → Prop)
    (hdep : depB ops = true) (htl : tailB ops n = true) (hinj : injB ds n = true) (hlt : sltB ds n a0.tmps.size = true)
    (hR : ∀ i v W W', R i v W → Below W.heap.size W W' → R i v W')
    (hstep : ∀ i, i < n → ∀ (a : Act) (W : World), (∀ j, (∀ i, i < n → ds i ≠ j) → a.eval (.tmp j) = a0.eval (.tmp j)) → Below w.heap.size w W → (∀ k ∈ depOf ops i, R k (a.eval (.tmp (ds k))) W) →
      ∃ o, ops[i]? = some o ∧ o.dst = some (ds i) ∧ ((Region.wanted o (yielded ops a.tmps) = true ∧ o.wpIn Fence.wide m P a W (fun a' W' => ∃ v, a' = a.put o.dst v ∧ Below W.heap.size W W' ∧ R i v W') Q) ∨ (Region.wanted o (yielded ops a.tmps) = false ∧ R i undef W)))
    (hQ : ∀ (V : Nat → Value) (W : World), Below w.heap.size w W → (∀ i, i < n → R i (V i) W) → wpListIn Fence.wide m P ops Q (ops.toList.drop n) (putAll a0 ds V n) W) :
    (Code.region id ops true).wpIn Fence.wide m P Q a0 w := by
  have hdep' : ∀ i, i < ops.size → ∀ k ∈ depOf ops i, k < i := by
    intro i hi k hk
    unfold depB at hdep
    simp only [List.all_eq_true, List.mem_range, decide_eq_true_eq] at hdep
    exact hdep i (by omega) k hk
  have hinj' : ∀ i j, i < n → j < n → ds i = ds j → i = j := by
    unfold injB at hinj
    simp only [List.all_eq_true, List.mem_range, decide_eq_true_eq] at hinj
    exact fun i j hi hj => hinj i hi j hj
  have hlt' : ∀ i, i < n → ds i < a0.tmps.size := by
    unfold sltB at hlt
    simp only [List.all_eq_true, List.mem_range, decide_eq_true_eq] at hlt
    exact hlt
  have hops : ∀ a W, wpListIn Fence.wide m P ops Q (ops.toList.drop n) a W → wpOpsIn Fence.wide m P ops Q (List.range' n (ops.size - n)) a W := by
    intro a W h
    have e := wpOpsIn_eq_wpListIn (F := Fence.wide) (n := m) (P := P) (ops := ops) (Q := Q) (ops.toList.drop n) n (fun j => by rw [List.getElem?_drop]; simp)
    rw [List.length_drop, Array.length_toList] at e
    rw [e]
    exact h
  have hfin : ∀ (l : Array Bool) (a : Act) (W : World), TI ops.size n ds R a0 w l a W → (∀ i, i < n → l.getD i false = true) → wpOpsIn Fence.wide m P ops Q (List.range' n (ops.size - n)) a W := by
    intro l a W H tt
    have he : a = putAll a0 ds (fun i => a.tmps.getD (ds i) undef) n := by
      refine act_ext (H.df.trans (putAll_df _ _ _ _).symm) (H.sz.trans (putAll_sz _ _ _ _).symm) (fun j => ?_)
      by_cases hj : ∃ i, i < n ∧ ds i = j
      · obtain ⟨i, hi, rfl⟩ := hj
        rw [putAll_eq a0 ds _ i n hinj' hlt' hi]
      · have hj' : ∀ i, i < n → ds i ≠ j := fun i hi e => hj ⟨i, hi, e⟩
        rw [putAll_ne a0 ds _ j n hj']
        exact H.rest j hj'
    have h2 := hops _ _ (hQ (fun i => a.tmps.getD (ds i) undef) W H.hb (fun i hi => H.val i hi (tt i hi)))
    rw [← he] at h2
    exact h2
  refine wpIn_region_any hm ?_
  refine any_invIn (fun l a W => l.size = ops.size ∧ (∀ m, l.getD m false = true → ∀ k ∈ depOf ops m, l.getD k false = true) ∧
    ((TI ops.size n ds R a0 w l a W ∧ (∀ i, n ≤ i → l.getD i false = false) ∧ ∃ i, i < n ∧ l.getD i false = false) ∨
      ∃ j, n ≤ j ∧ j ≤ ops.size ∧ (∀ i, i < j → l.getD i false = true) ∧ (∀ i, j ≤ i → l.getD i false = false) ∧ wpOpsIn Fence.wide m P ops Q (List.range' j (ops.size - j)) a W)) ?_ ?_ ?_ _ _ _ _ ?_ ?_
  · intro l a W H
    exact H.1
  · intro l a W H hr
    obtain ⟨hl, hcl, H⟩ := H
    have tt := all_done rfl hl hdep' hr
    rcases H with ⟨_, _, i, hi, h0⟩ | ⟨j, h1, h2, h3, h4, h5⟩
    · rw [tt i (by omega)] at h0; cases h0
    · have hj : j = ops.size := by
        rcases Nat.lt_or_ge j ops.size with h | h
        · have h6 := h4 j (Nat.le_refl _)
          rw [tt j h] at h6
          cases h6
        · omega
      subst hj
      rw [Nat.sub_self] at h5
      simpa [wpOpsIn] using h5
  · intro l a W H i hi
    obtain ⟨hl, hcl, H⟩ := H
    obtain ⟨hin, hfr, hdd⟩ := mem_ready.1 hi
    have hil : i < l.size := by omega
    have hcl2 : ∀ m, (l.setIfInBounds i true).getD m false = true → ∀ k ∈ depOf ops m, (l.setIfInBounds i true).getD k false = true := by
      intro m hm2 k hk
      rw [gset hil] at hm2 ⊢
      by_cases e : i = m
      · subst e
        split
        · rfl
        · exact hdd k hk
      · rw [if_neg e] at hm2
        split
        · rfl
        · exact hcl m hm2 k hk
    have hfr2 := fresh_at hfr
    rcases H with ⟨H, h0, i0, hi0, h00⟩ | ⟨j, h1, h2, h3, h4, h5⟩
    · by_cases hn : i < n
      · obtain ⟨o, ho, hd, hw⟩ := hstep i hn a W (fun j hj => H.rest j hj) H.hb (fun k hk => H.val k (by have := hdep' i hin k hk; omega) (hdd k hk))
        have hgo : ∀ v W', Below W.heap.size W W' → R i v W' → (fun (l : Array Bool) (a : Act) (W : World) => l.size = ops.size ∧ (∀ m, l.getD m false = true → ∀ k ∈ depOf ops m, l.getD k false = true) ∧
          ((TI ops.size n ds R a0 w l a W ∧ (∀ i, n ≤ i → l.getD i false = false) ∧ ∃ i, i < n ∧ l.getD i false = false) ∨
            ∃ j, n ≤ j ∧ j ≤ ops.size ∧ (∀ i, i < j → l.getD i false = true) ∧ (∀ i, j ≤ i → l.getD i false = false) ∧ wpOpsIn Fence.wide m P ops Q (List.range' j (ops.size - j)) a W)) (l.setIfInBounds i true) (a.put (some (ds i)) v) W' := by
          intro v W' hb hv
          have H2 := H.step hR hinj' hlt' hsz hn hb hv
          refine ⟨H2.len, hcl2, ?_⟩
          by_cases hall : ∀ k, k < n → (l.setIfInBounds i true).getD k false = true
          · refine Or.inr ⟨n, Nat.le_refl _, hsz, hall, fun k hk => ?_, hfin _ _ _ H2 hall⟩
            rw [lset (by omega)]
            exact h0 k hk
          · refine Or.inl ⟨H2, fun k hk => ?_, ?_⟩
            · rw [lset (by omega)]
              exact h0 k hk
            · obtain ⟨k, hk⟩ := Classical.not_forall.1 hall
              obtain ⟨hk1, hk2⟩ := Classical.not_imp.1 hk
              exact ⟨k, hk1, by simpa using hk2⟩
        rcases hw with ⟨hg, hw⟩ | ⟨hg, hw⟩
        · refine wpOpIn_want ho hg (Oper.wpIn_mono ?_ hw)
          rintro a' W' ⟨v, rfl, hb, hv⟩
          rw [hd]
          exact hgo v W' hb hv
        · refine wpOpIn_skip ho hg ?_
          rw [hd]
          exact hgo _ W (Below.refl _ _) hw
      · have := tail_ready htl hcl hin (by omega) hdd i0 (by omega)
        rw [h00] at this
        cases this
    · have hij : i = j := by
        rcases Nat.lt_trichotomy i j with h | h | h
        · rw [h3 i h] at hfr2; cases hfr2
        · exact h
        · have h6 := tail_ready htl hcl hin (by omega) hdd j h
          rw [h4 j (Nat.le_refl _)] at h6
          cases h6
      subst hij
      have e : ops.size - i = (ops.size - (i + 1)) + 1 := by omega
      rw [e, List.range'_succ, wpOpsIn_cons] at h5
      refine wpOpIn_mono (fun a' W' h' => ?_) h5
      refine ⟨by simp [hl], hcl2, Or.inr ⟨i + 1, by omega, by omega, fun k hk => ?_, fun k hk => ?_, h'⟩⟩
      · rw [gset hil]
        split
        · rfl
        · exact h3 k (by omega)
      · rw [lset (by omega)]
        exact h4 k (by omega)
  · simp only [unl, Array.toList_replicate]
    exact Nat.le_trans (List.length_filter_le _ _) (by simp)
  · have hrep : ∀ j, (Array.replicate ops.size false).getD j false = false := fun j => by simp [Array.getD_eq_getD_getElem?, Array.getElem?_replicate]; split <;> rfl
    have H0 : TI ops.size n ds R a0 w (Array.replicate ops.size false) a0 w.drew := { len := by simp, df := rfl, sz := rfl, rest := fun _ _ => rfl, hb := (Below.refl _ w).drew, val := fun i _ h => absurd ((hrep _).symm.trans h) (by decide) }
    refine ⟨by simp, fun m h => absurd ((hrep _).symm.trans h) (by decide), ?_⟩
    by_cases hn : n = 0
    · refine Or.inr ⟨0, by omega, by omega, fun i hi => absurd hi (by omega), fun i _ => hrep i, ?_⟩
      have := hfin _ _ _ H0 (fun i hi => absurd hi (by omega))
      rw [hn] at this
      exact this
    · exact Or.inl ⟨H0, fun i _ => hrep i, 0, by omega, hrep 0⟩
theorem wpIn_value {P : Program} {m : Nat} {o : Oper} {a : Act} {w w' : World} {K : Act → World → Prop} {Q : Exit → Act → World → Prop} {v : Value} (hrun : (execOp a.eval o).run P w = .ok (.value v) w') (h : K (a.put o.dst v) w') : o.wpIn Fence.wide m P a w K Q := by
  refine op_wide (wp_value hrun h) ?_
  intro row args w2 e
  rw [hrun] at e
  cases e
theorem wpIn_enter {P : Program} {m : Nat} {o : Oper} {a : Act} {w : World} {K : Act → World → Prop} {Q : Exit → Act → World → Prop} {f : FuncId} {args : Array Value} (hrun : (execOp a.eval o).run P w = .ok (.enter f args) w)
    (hc : Calls P f args w fun e w' => ∃ v, e = .returned v ∧ K (a.put o.dst v) w') : o.wpIn Fence.wide m P a w K Q := by
  refine op_wide (wp_enter hrun hc) ?_
  intro row args w2 e
  rw [hrun] at e
  cases e
end Go.Proofs.YtfemippjaokcmaaGreatDoor
namespace Go.Proofs.YtfemippjaokcmaaGreatDoor
open Go.RowKit Go.Shelf
attribute [local go_sem] Oper.semAt_some fw0 fw1 fw2
def awkL : List UInt8 := [97, 32, 62, 32, 51, 32, 65, 78, 68, 32, 57, 32, 62, 32, 97]
set_option maxRecDepth 100000 in
theorem awk_ok : (psF awkL).2 = true := by decide +kernel
def key3 : ByteArray := ⟨(V.keyT (V.leafT 2 false 3 ⟨#[]⟩)).toArray⟩
def key9 : ByteArray := ⟨(V.keyT (V.leafT 2 false 9 ⟨#[]⟩)).toArray⟩
set_option maxRecDepth 100000 in
theorem awk_top : ((psF awkL).1 []).k = 6 ∧ ((psF awkL).1 []).s.data.toList = [65, 78, 68] ∧ ((psF awkL).1 []).n = 2 := by decide +kernel
theorem awk_0 : saidE ((psF awkL).1.sub 0) = (⟨#[97]⟩, V.nextB key3, ⟨#[]⟩) := by decide +kernel
theorem awk_1 : saidE ((psF awkL).1.sub 1) = (⟨#[97]⟩, ⟨#[]⟩, key9) := by decide +kernel
theorem parts_and {d : Nat} {t : Et} (h : (t []).k = 6 ∧ (t []).s.data.toList = [65, 78, 68] ∧ (t []).n = 2) : partsE (d + 1) t = partsE d (t.sub 0) ++ partsE d (t.sub 1) := by
  rw [partsE, if_neg (by rw [h.1]; decide), if_pos h]
theorem parts_one {d : Nat} {t : Et} (h0 : (t []).k ≠ 0) (h : ¬ ((t []).k = 6 ∧ (t []).s.data.toList = [65, 78, 68] ∧ (t []).n = 2)) : partsE (d + 1) t = [t] := by
  rw [partsE, if_neg h0, if_neg h]
theorem awk_parts (d : Nat) : partsE (d + 2) (psF awkL).1 = [(psF awkL).1.sub 0, (psF awkL).1.sub 1] := by
  rw [parts_and awk_top, parts_one (by decide +kernel) (by decide +kernel), parts_one (by decide +kernel) (by decide +kernel)]
  rfl
def litB (e : En) : Bool := decide (e.k = 1 → e.vk ≤ 4 ∧ e.vs.size ≤ 4096 ∧ -9223372036854775808 ≤ e.vn ∧ e.vn < 9223372036854775808)
theorem lits_of {t : Et} (h0 : litB (t.sub 0 []) = true) (h1 : litB (t.sub 1 []) = true) : LitsOk t := by
  intro i hi _ hk
  obtain rfl | rfl : i = 0 ∨ i = 1 := by omega
  · obtain ⟨a, b, c⟩ := of_decide_eq_true h0 hk
    exact ⟨⟨a, b⟩, c⟩
  · obtain ⟨a, b, c⟩ := of_decide_eq_true h1 hk
    exact ⟨⟨a, b⟩, c⟩
theorem awk_lits (d : Nat) : ∀ x ∈ partsE (d + 2) (psF awkL).1, LitsOk x := by
  rw [awk_parts]
  intro x hx
  simp only [List.mem_cons, List.not_mem_nil, or_false] at hx
  rcases hx with rfl | rfl
  · exact lits_of (by decide +kernel) (by decide +kernel)
  · exact lits_of (by decide +kernel) (by decide +kernel)
theorem awk_said (d : Nat) : (partsE (d + 2) (psF awkL).1).map saidE = [(⟨#[97]⟩, V.nextB key3, ⟨#[]⟩), (⟨#[97]⟩, ⟨#[]⟩, key9)] := by
  rw [awk_parts, List.map_cons, List.map_cons, awk_0, awk_1]
  rfl
theorem awk_short : Short [(⟨#[97]⟩, V.nextB key3, ⟨#[]⟩), (⟨#[97]⟩, ⟨#[]⟩, key9)] := by
  intro p hp
  simp only [List.mem_cons, List.not_mem_nil, or_false] at hp
  rcases hp with rfl | rfl
  · exact Nat.zero_le _
  · show key9.size ≤ 20000
    decide +kernel
theorem awk_plan : chooseL [(⟨#[97]⟩, V.nextB key3, ⟨#[]⟩), (⟨#[97]⟩, ⟨#[]⟩, key9)] [⟨#[97]⟩] = (⟨#[97]⟩, V.nextB key3, key9) := by decide +kernel
theorem serves_nil (f : ByteArray) : servesB f [] = false := by
  unfold servesB
  have : Lib.containsS [] f = false := rfl
  rw [this, Bool.and_false, Bool.and_false]
theorem choose_nil (m : List P3) : chooseL m [] = noP := by
  unfold chooseL
  rw [List.find?_eq_none.2 (fun x _ => by rw [serves_nil]; exact Bool.false_ne_true)]
set_option maxRecDepth 100000 in
theorem eql33 (a b c d : ByteArray) (w : World) : (Op.equalIn 9999 33 (.agg #[.string a, .string b]) (.agg #[.string c, .string d])).run Tryz.prog w = .ok ((a.toList == c.toList) && (b.toList == d.toList)) w := by
  have u3 := Tryz.underlying9
  have a3 := Tryz.isAgg9
  have z3 := Tryz.sizeOf9
  rw [show (9999 : Nat) = 9998 + 1 from rfl, Op.equalIn]
  simp only [Sem.run_bind, run_underlying Tryz.underlying33, Result.andThen_ok]
  go_simp
  by_cases h1 : a.toList = c.toList <;> by_cases h2 : b.toList = d.toList <;> simp [h1, h2]
set_option maxRecDepth 100000 in
theorem eql35 (a b c d e f : ByteArray) (w : World) : (Op.equalIn 10000 35 (.agg #[.string a, .string b, .string c]) (.agg #[.string d, .string e, .string f])).run Tryz.prog w = .ok ((a.toList == d.toList) && ((b.toList == e.toList) && (c.toList == f.toList))) w := by
  have u3 := Tryz.underlying9
  have a3 := Tryz.isAgg9
  have z3 := Tryz.sizeOf9
  have u4 := Tryz.underlying33
  have a4 := Tryz.isAgg33
  have z4 := Tryz.sizeOf33
  have e4 := eql33 b c e f w
  rw [show (10000 : Nat) = 9999 + 1 from rfl, Op.equalIn]
  simp only [Sem.run_bind, run_underlying Tryz.underlying35, Result.andThen_ok]
  go_simp
  by_cases h1 : a.toList = d.toList <;> by_cases h2 : b.toList = e.toList <;> by_cases h3 : c.toList = f.toList <;> simp [h1, h2, h3]
end Go.Proofs.YtfemippjaokcmaaGreatDoor
namespace Go.Proofs.YtfemippjaokcmaaGreatDoor
open Go.RowKit Go.Shelf
attribute [local go_sem] Oper.semAt_some fw0 fw1 fw2 eql35
/- What Ref leaves of a number. -/
def RfS (v : Value) (W : World) : Prop := ∃ A, v = (V.leafT 2 false 3 ⟨#[]⟩).val A ∧ V.Lies W.heap.size W (V.leafT 2 false 3 ⟨#[]⟩) A
theorem RfS.later : ∀ v W W', RfS v W → Below W.heap.size W W' → RfS v W' := fun _ _ _ ⟨A, h1, h2⟩ hb => ⟨A, h1, (V.Lies.later hb h2).up hb.size⟩
theorem slim3 : V.slim (V.leafT 2 false 3 ⟨#[]⟩) := by
  unfold V.leafT V.slim
  exact ⟨by decide, fun i hi => by omega⟩
theorem ref3 (W : World) : Calls Tryz.prog 17 #[.agg #[.int .i64 2, .bool false, .int .i64 3, .string ⟨#[]⟩, .slice none 0 0, .slice none 0 0]] W fun e w' => (∃ v, e = .returned v ∧ RfS v w') ∧ Below W.heap.size W w' := by
  have hL : V.Lies W.heap.size W (V.leafT 2 false 3 ⟨#[]⟩) ⟨none, 0, none, 0⟩ := V.lies_leaf (by omega) (by omega) (by decide)
  refine (V.ref_all _ slim3 W.heap.size W ⟨none, 0, none, 0⟩ hL (Nat.le_refl _)).mono ?_
  rintro e w' ⟨A, rfl, hl, hb⟩
  exact ⟨⟨_, rfl, A, rfl, hl.up (fun k hk => by have := hb.size; omega)⟩, hb⟩
theorem awk_choose {d : Nat} {R : XR} {W : World} (hx : LiesE W (fun k => k < W.heap.size) (d + 2) (psF awkL).1 (rowX R)) (hg : V.Gm W) (p : Option Addr) (c : Nat) (l : List ByteArray) (hI : Ixs W p l) :
    Calls Tryz.prog 9 #[rowX R, .slice p l.length c] W (GivesP3 W (chooseL [(⟨#[97]⟩, V.nextB key3, ⟨#[]⟩), (⟨#[97]⟩, ⟨#[]⟩, key9)] l)) := by
  have h := choose_any (k := R.k) (s := R.s) (vk := R.vk) (vb := R.vb) (vn := R.vn) (vs := R.vs) (kp := R.kp) (nk := R.n) (kc := R.kc) (np := R.np) (nm := R.m) (nc := R.nc) hx hg (by rw [awk_parts]; decide) (awk_lits d) (by rw [awk_said]; exact awk_short) p c l hI
  rw [awk_said] at h
  exact h
theorem ix_one {w : World} {b : Nat} {x : ByteArray} (h : w.heap[b]? = some (.cells #[.string x] 9 (0, 0))) : Ixs w (some ⟨b, 0, none⟩) [x] := by
  refine ⟨(by show 1 ≤ 100000; decide), .inr ⟨b, 0, rfl, lt_of_row h, fun j hj => ?_⟩⟩
  obtain rfl : j = 0 := by simpa using hj
  exact cell_of_row w b 0 _ _ _ h
theorem sound3 : V.soundT (V.leafT 2 false 3 ⟨#[]⟩) 1 = 0 := by decide +kernel
theorem small3 : V.small (V.leafT 2 false 3 ⟨#[]⟩) := ⟨by decide, fun i hi => by omega⟩
theorem key_3 (W : World) (A : V.Ad) (h : V.Lies W.heap.size W (V.leafT 2 false 3 ⟨#[]⟩) A) : Calls Tryz.prog 18 #[.agg #[.int .i64 2, .bool false, .int .i64 3, .string ⟨#[]⟩, .slice A.pa 0 A.pc, .slice A.na 0 A.nc]] W fun e w' => e = .returned (.string key3) ∧ Below W.heap.size W w' :=
  V.dkey_all (V.leafT 2 false 3 ⟨#[]⟩) 1 sound3 small3 W.heap.size W A h (Nat.le_refl _) (by decide +kernel)
set_option maxRecDepth 100000 in
set_option maxHeartbeats 8000000 in
theorem awake_any (w : World) (he : Ev w) (hg : V.Gm w) : Calls Tryz.prog 8 #[] w fun e w' => e = .returned (.bool true) ∧ Below w.heap.size w w' := by
  have kp := parsed_by ⟨#[97, 32, 62, 32, 51, 32, 65, 78, 68, 32, 57, 32, 62, 32, 97]⟩ (by decide) (stm_del fun _ => by decide +kernel) w he
  change Calls Tryz.prog 7 #[.string ⟨#[97, 32, 62, 32, 51, 32, 65, 78, 68, 32, 57, 32, 62, 32, 97]⟩] w (GivesE w (psF awkL)) at kp
  have HG := mkHid hg
  clear hg he
  go_enter Tryz.func8, Tryz.ntmps8
  go_wp2_with fail
  refine kp.mono ?_
  rintro q w1 ⟨R, d, rfl, hx, hb1⟩
  rw [awk_ok]
  have hx2 := hx.mono (show d ≤ d + 2 by omega)
  obtain ⟨k, s, vk, vb, vn, vs, kp2, nk, kc, np, nm, nc⟩ := R
  obtain ⟨kp, hkp⟩ : ∃ kp, kp2 = kp := ⟨_, rfl⟩
  subst hkp
  obtain ⟨w2, hw2⟩ : ∃ w2, w1.alloc (.cells #[.int .i64 k, .string s, .int .i64 vk, .bool vb, .int .i64 vn, .string vs, .slice none 0 0, .slice none 0 0, .slice kp2 nk kc, .slice np nm nc] 28) = w2 := ⟨_, rfl⟩
  obtain ⟨r2, hb2⟩ := alloc1 hw2
  have HW2 := mkHid hw2
  have hB2 : Below w.heap.size w w2 := hb1.trans (hb2.mono hb1.size)
  have hx3 := (hx2.since (Since.below hb2)).imp (R := fun k => k < w2.heap.size) (fun k _ hl => hl)
  have H2 : Hid (Below w.heap.size w w2 ∧ LiesE w2 (fun k => k < w2.heap.size) (d + 2) (psF awkL).1 (rowX ⟨k, s, vk, vb, vn, vs, kp2, nk, kc, np, nm, nc⟩)) := ⟨hB2, hx3⟩
  obtain ⟨bk, hbk⟩ : ∃ bk, w1.heap.size = bk := ⟨_, rfl⟩
  have c0 : w2.cell? ⟨w1.heap.size, 0, none⟩ = some (.int .i64 k) := cell_of_row w2 _ 0 _ _ _ r2
  have c1 : w2.cell? ⟨w1.heap.size, 1, none⟩ = some (.string s) := cell_of_row w2 _ 1 _ _ _ r2
  have c2 : w2.cell? ⟨w1.heap.size, 2, none⟩ = some (.int .i64 vk) := cell_of_row w2 _ 2 _ _ _ r2
  have c3 : w2.cell? ⟨w1.heap.size, 3, none⟩ = some (.bool vb) := cell_of_row w2 _ 3 _ _ _ r2
  have c4 : w2.cell? ⟨w1.heap.size, 4, none⟩ = some (.int .i64 vn) := cell_of_row w2 _ 4 _ _ _ r2
  have c5 : w2.cell? ⟨w1.heap.size, 5, none⟩ = some (.string vs) := cell_of_row w2 _ 5 _ _ _ r2
  have c6 : w2.cell? ⟨w1.heap.size, 6, none⟩ = some (.slice none 0 0) := cell_of_row w2 _ 6 _ _ _ r2
  have c7 : w2.cell? ⟨w1.heap.size, 7, none⟩ = some (.slice none 0 0) := cell_of_row w2 _ 7 _ _ _ r2
  have c8 : w2.cell? ⟨w1.heap.size, 8, none⟩ = some (.slice kp2 nk kc) := cell_of_row w2 _ 8 _ _ _ r2
  have c9 : w2.cell? ⟨w1.heap.size, 9, none⟩ = some (.slice np nm nc) := cell_of_row w2 _ 9 _ _ _ r2
  have HR2 := mkHid r2
  clear hx hx2 hx3 hw2 hb1 hb2 hB2 r2 hbk
  unfold rowX
  go_wp2_with (first | rw [HW2.out] | fail)
  obtain ⟨w3, hw3⟩ : ∃ u, w2.alloc (.cells #[.string ⟨#[97]⟩] 9) = u := ⟨_, rfl⟩
  obtain ⟨r3, hb3⟩ := alloc1 hw3
  rw [hw3]
  have hx3 := (H2.out.2.since (Since.below hb3)).imp (R := fun k => k < w3.heap.size) (fun k _ hl => hl)
  have k1 := awk_choose hx3 (HG.out.later (H2.out.1.trans (hb3.mono H2.out.1.size)) HG.out.pos) (some ⟨w2.heap.size, 0, none⟩) 1 [⟨#[97]⟩] (ix_one r3)
  rw [awk_plan] at k1
  refine k1.mono ?_
  rintro e w4 ⟨rfl, hb4⟩
  obtain ⟨nk3, hnk⟩ : ∃ x, V.nextB key3 = x := ⟨_, rfl⟩
  obtain ⟨k9, hk9⟩ : ∃ x, key9 = x := ⟨_, rfl⟩
  rw [hnk, hk9]
  have HNK := mkHid hnk
  have hb24 : Below w2.heap.size w2 w4 := hb3.trans (hb4.mono hb3.size)
  obtain ⟨w5, hw5⟩ : ∃ u, w4.alloc (.cells #[.string ⟨#[97]⟩, .string nk3, .string k9] 35) = u := ⟨_, rfl⟩
  obtain ⟨r5, hb5⟩ := alloc1 hw5
  have hb25 : Below w2.heap.size w2 w5 := hb24.trans (hb5.mono hb24.size)
  have HW5 := mkHid hw5
  have hx5 := (H2.out.2.since (Since.below hb25)).imp (R := fun k => k < w5.heap.size) (fun k _ hl => hl)
  have rr := Below.row hb25 HR2.out
  have H5 : Hid (Below w.heap.size w w5 ∧ LiesE w5 (fun k => k < w5.heap.size) (d + 2) (psF awkL).1 (rowX ⟨k, s, vk, vb, vn, vs, kp2, nk, kc, np, nm, nc⟩)) := ⟨H2.out.1.trans (hb25.mono H2.out.1.size), hx5⟩
  obtain ⟨z1, hz1⟩ : ∃ z, w1.heap.size = z := ⟨_, rfl⟩
  rw [hz1] at rr ⊢
  clear k1 hx3 hw3 r3 hb3 hb4 hnk hk9 hb24 hw5 hb5 hb25 hx5 H2 HR2 HW2 hz1 c0 c1 c2 c3 c4 c5 c6 c7 c8 c9
  go_wp2_with (first | rw [HW5.out] | fail)
  obtain ⟨z5, hz5⟩ : ∃ z, w4.heap.size = z := ⟨_, rfl⟩
  rw [hz5] at r5 ⊢
  clear HW5 hz5
  have kint : ∀ W : World, Calls Tryz.prog 24 #[.int .i64 3] W fun r w' => r = .returned (.agg #[.int .i64 2, .bool false, .int .i64 3, .string ⟨#[]⟩, .slice none 0 0, .slice none 0 0]) ∧ Below W.heap.size W w' := V.vint 3
  have kref := ref3
  have kkey := key_3
  have kplus : ∀ W : World, Calls Tryz.prog 23 #[.string key3] W fun e w' => e = .returned (.string nk3) ∧ Below W.heap.size W w' := fun W => by rw [← HNK.out]; exact plus_any key3 (by decide +kernel) W
  have kch : ∀ W : World, Below w5.heap.size w5 W → Calls Tryz.prog 9 #[.agg #[.int .i64 k, .string s, .int .i64 vk, .bool vb, .int .i64 vn, .string vs, .slice none 0 0, .slice none 0 0, .slice kp2 nk kc, .slice np nm nc], .slice none 0 0] W fun e w' => e = .returned (.agg #[.string ⟨#[]⟩, .string ⟨#[]⟩, .string ⟨#[]⟩]) ∧ Below W.heap.size W w' := fun W hb => by
    have hxw := (H5.out.2.since (Since.below hb)).imp (R := fun k => k < W.heap.size) (fun k _ hl => hl)
    have k1 := awk_choose hxw (HG.out.later (H5.out.1.trans (hb.mono H5.out.1.size)) HG.out.pos) none 0 [] ⟨Nat.zero_le _, .inl rfl⟩
    rw [choose_nil] at k1
    exact k1
  refine (wpIn_wide (n := 0)).1 ?_
  refine any_tailIn (m := 0) (by kernel_rfl) 23 (by exact Nat.le_of_ble_eq_true rfl) (fun i => if i < 22 then i + 11 else 0) (mixR [(11, RfS)] [.bool true, .bool true, .pointer (some ⟨z5, 0, none⟩), .string ⟨#[97]⟩, .bool true, .bool true, .bool true, .pointer (some ⟨z5, 1, none⟩), .pointer (some ⟨z5, 1, none⟩), .string nk3, .agg #[.int .i64 2, .bool false, .int .i64 3, .string ⟨#[]⟩, .slice none 0 0, .slice none 0 0], undef, .string key3, .string nk3, .bool true, .bool true, .bool true, .agg #[.int .i64 k, .string s, .int .i64 vk, .bool vb, .int .i64 vn, .string vs, .slice none 0 0, .slice none 0 0, .slice kp2 nk kc, .slice np nm nc], .agg #[.string ⟨#[]⟩, .string ⟨#[]⟩, .string ⟨#[]⟩], .agg #[.string ⟨#[]⟩, .string ⟨#[]⟩, .string ⟨#[]⟩], .bool true, .bool true, .bool true]) (by kernel_rfl) (by kernel_rfl) (by kernel_rfl) (by kernel_rfl) (mixR_later _ _ (stab_cons (RfS.later) (stab_nil))) ?step ?post
  case step =>
    intro iq hiq a W hrest hb hk
    have hp3 : a.eval (.tmp 3) = .pointer (some ⟨z5, 0, none⟩) := (hrest 3 (by intro iq2 hiq2; (repeat' split) <;> omega)).trans rfl
    have fp3 := ev hp3
    have hx3 : W.heap[z5]? = some (.cells #[.string ⟨#[97]⟩, .string nk3, .string k9] 35 (0, 0)) := (hb.block _ (lt_of_row r5)).trans r5
    have hp1 : a.eval (.tmp 1) = .pointer (some ⟨z1, 0, none⟩) := (hrest 1 (by intro iq2 hiq2; (repeat' split) <;> omega)).trans rfl
    have fp1 := ev hp1
    have hx1 : W.heap[z1]? = some (.cells #[.int .i64 k, .string s, .int .i64 vk, .bool vb, .int .i64 vn, .string vs, .slice none 0 0, .slice none 0 0, .slice kp2 nk kc, .slice np nm nc] 28 (0, 0)) := (hb.block _ (lt_of_row rr)).trans rr
    have hp2 : a.eval (.tmp 2) = .bool true := (hrest 2 (by intro iq2 hiq2; (repeat' split) <;> omega)).trans rfl
    have fp2 := ev hp2
    clear hrest
    obtain rfl | rfl | rfl | rfl | rfl | rfl | rfl | rfl | rfl | rfl | rfl | rfl | rfl | rfl | rfl | rfl | rfl | rfl | rfl | rfl | rfl | rfl | rfl : iq = 0 ∨ iq = 1 ∨ iq = 2 ∨ iq = 3 ∨ iq = 4 ∨ iq = 5 ∨ iq = 6 ∨ iq = 7 ∨ iq = 8 ∨ iq = 9 ∨ iq = 10 ∨ iq = 11 ∨ iq = 12 ∨ iq = 13 ∨ iq = 14 ∨ iq = 15 ∨ iq = 16 ∨ iq = 17 ∨ iq = 18 ∨ iq = 19 ∨ iq = 20 ∨ iq = 21 ∨ iq = 22 := by omega
    · clear hiq
      clear hk
      refine ⟨_, rfl, rfl, Or.inl ⟨wanted_none rfl, wpIn_value (v := .bool true) (w' := W) ?_ ⟨_, rfl, Below.refl _ _, rfl⟩⟩⟩
      go_simp
    · clear hiq
      have e0 : a.eval (.tmp 11) = .bool true := hk 0 (mem_of (by kernel_rfl))
      have f0 := ev e0
      clear hk
      refine ⟨_, rfl, rfl, Or.inl ⟨wanted_none rfl, wpIn_value (v := .bool true) (w' := W) ?_ ⟨_, rfl, Below.refl _ _, rfl⟩⟩⟩
      go_simp
    · clear hiq
      have e1 : a.eval (.tmp 12) = .bool true := hk 1 (mem_of (by kernel_rfl))
      have f1 := ev e1
      clear hk
      refine ⟨_, rfl, rfl, Or.inl ⟨wanted_of (k := 1) (b := true) rfl rfl e1, wpIn_value (v := .pointer (some ⟨z5, 0, none⟩)) (w' := W) ?_ ⟨_, rfl, Below.refl _ _, rfl⟩⟩⟩
      go_simp
    · clear hiq
      have e1 : a.eval (.tmp 12) = .bool true := hk 1 (mem_of (by kernel_rfl))
      have f1 := ev e1
      have e2 : a.eval (.tmp 13) = .pointer (some ⟨z5, 0, none⟩) := hk 2 (mem_of (by kernel_rfl))
      have f2 := ev e2
      have hc0 := cell_of_row W z5 0 _ _ _ hx3
      clear hk
      refine ⟨_, rfl, rfl, Or.inl ⟨wanted_of (k := 1) (b := true) rfl rfl e1, wpIn_value (v := .string ⟨#[97]⟩) (w' := W) ?_ ⟨_, rfl, Below.refl _ _, rfl⟩⟩⟩
      go_simp
    · clear hiq
      have e1 : a.eval (.tmp 12) = .bool true := hk 1 (mem_of (by kernel_rfl))
      have f1 := ev e1
      have e3 : a.eval (.tmp 14) = .string ⟨#[97]⟩ := hk 3 (mem_of (by kernel_rfl))
      have f3 := ev e3
      clear hk
      refine ⟨_, rfl, rfl, Or.inl ⟨wanted_of (k := 1) (b := true) rfl rfl e1, wpIn_value (v := .bool true) (w' := W) ?_ ⟨_, rfl, Below.refl _ _, rfl⟩⟩⟩
      go_simp
    · clear hiq
      have e1 : a.eval (.tmp 12) = .bool true := hk 1 (mem_of (by kernel_rfl))
      have f1 := ev e1
      have e4 : a.eval (.tmp 15) = .bool true := hk 4 (mem_of (by kernel_rfl))
      have f4 := ev e4
      clear hk
      refine ⟨_, rfl, rfl, Or.inl ⟨wanted_none rfl, wpIn_value (v := .bool true) (w' := W) ?_ ⟨_, rfl, Below.refl _ _, rfl⟩⟩⟩
      go_simp
    · clear hiq
      have e5 : a.eval (.tmp 16) = .bool true := hk 5 (mem_of (by kernel_rfl))
      have f5 := ev e5
      clear hk
      refine ⟨_, rfl, rfl, Or.inl ⟨wanted_none rfl, wpIn_value (v := .bool true) (w' := W) ?_ ⟨_, rfl, Below.refl _ _, rfl⟩⟩⟩
      go_simp
    · clear hiq
      have e6 : a.eval (.tmp 17) = .bool true := hk 6 (mem_of (by kernel_rfl))
      have f6 := ev e6
      clear hk
      refine ⟨_, rfl, rfl, Or.inl ⟨wanted_of (k := 6) (b := true) rfl rfl e6, wpIn_value (v := .pointer (some ⟨z5, 1, none⟩)) (w' := W) ?_ ⟨_, rfl, Below.refl _ _, rfl⟩⟩⟩
      go_simp
    · clear hiq
      have e6 : a.eval (.tmp 17) = .bool true := hk 6 (mem_of (by kernel_rfl))
      have f6 := ev e6
      have e7 : a.eval (.tmp 18) = .pointer (some ⟨z5, 1, none⟩) := hk 7 (mem_of (by kernel_rfl))
      have f7 := ev e7
      clear hk
      refine ⟨_, rfl, rfl, Or.inl ⟨wanted_of (k := 6) (b := true) rfl rfl e6, wpIn_value (v := .pointer (some ⟨z5, 1, none⟩)) (w' := W) ?_ ⟨_, rfl, Below.refl _ _, rfl⟩⟩⟩
      go_simp
    · clear hiq
      have e6 : a.eval (.tmp 17) = .bool true := hk 6 (mem_of (by kernel_rfl))
      have f6 := ev e6
      have e8 : a.eval (.tmp 19) = .pointer (some ⟨z5, 1, none⟩) := hk 8 (mem_of (by kernel_rfl))
      have f8 := ev e8
      have hc1 := cell_of_row W z5 1 _ _ _ hx3
      clear hk
      refine ⟨_, rfl, rfl, Or.inl ⟨wanted_of (k := 6) (b := true) rfl rfl e6, wpIn_value (v := .string nk3) (w' := W) ?_ ⟨_, rfl, Below.refl _ _, rfl⟩⟩⟩
      go_simp
    · clear hiq
      have e6 : a.eval (.tmp 17) = .bool true := hk 6 (mem_of (by kernel_rfl))
      have f6 := ev e6
      clear hk
      refine ⟨_, rfl, rfl, Or.inl ⟨wanted_of (k := 6) (b := true) rfl rfl e6, wpIn_enter (f := 24) (args := #[.int .i64 3]) ?_ ((kint W).mono ?_)⟩⟩
      · go_simp
      · rintro e w2 ⟨rfl, hb2⟩
        exact ⟨_, rfl, _, rfl, hb2, rfl⟩
    · clear hiq
      have e6 : a.eval (.tmp 17) = .bool true := hk 6 (mem_of (by kernel_rfl))
      have f6 := ev e6
      have e10 : a.eval (.tmp 21) = .agg #[.int .i64 2, .bool false, .int .i64 3, .string ⟨#[]⟩, .slice none 0 0, .slice none 0 0] := hk 10 (mem_of (by kernel_rfl))
      have f10 := ev e10
      clear hk
      refine ⟨_, rfl, rfl, Or.inl ⟨wanted_of (k := 6) (b := true) rfl rfl e6, wpIn_enter (f := 17) (args := #[.agg #[.int .i64 2, .bool false, .int .i64 3, .string ⟨#[]⟩, .slice none 0 0, .slice none 0 0]]) ?_ ((kref W).mono ?_)⟩⟩
      · go_simp
      · rintro e w2 ⟨⟨v, rfl, hv⟩, hb2⟩
        exact ⟨_, rfl, _, rfl, hb2, hv⟩
    · clear hiq
      have e6 : a.eval (.tmp 17) = .bool true := hk 6 (mem_of (by kernel_rfl))
      have f6 := ev e6
      obtain ⟨A11, e11, h11⟩ := show RfS (a.eval (.tmp 22)) W from hk 11 (mem_of (by kernel_rfl))
      replace e11 : a.eval (.tmp 22) = .agg #[.int .i64 2, .bool false, .int .i64 3, .string ⟨#[]⟩, .slice A11.pa 0 A11.pc, .slice A11.na 0 A11.nc] := e11
      have f11 := ev e11
      clear hk
      refine ⟨_, rfl, rfl, Or.inl ⟨wanted_of (k := 6) (b := true) rfl rfl e6, wpIn_enter (f := 18) (args := #[.agg #[.int .i64 2, .bool false, .int .i64 3, .string ⟨#[]⟩, .slice A11.pa 0 A11.pc, .slice A11.na 0 A11.nc]]) ?_ ((kkey W A11 h11).mono ?_)⟩⟩
      · go_simp
      · rintro e w2 ⟨rfl, hb2⟩
        exact ⟨_, rfl, _, rfl, hb2, rfl⟩
    · clear hiq
      have e6 : a.eval (.tmp 17) = .bool true := hk 6 (mem_of (by kernel_rfl))
      have f6 := ev e6
      have e12 : a.eval (.tmp 23) = .string key3 := hk 12 (mem_of (by kernel_rfl))
      have f12 := ev e12
      clear hk
      refine ⟨_, rfl, rfl, Or.inl ⟨wanted_of (k := 6) (b := true) rfl rfl e6, wpIn_enter (f := 23) (args := #[.string key3]) ?_ ((kplus W).mono ?_)⟩⟩
      · go_simp
      · rintro e w2 ⟨rfl, hb2⟩
        exact ⟨_, rfl, _, rfl, hb2, rfl⟩
    · clear hiq
      have e6 : a.eval (.tmp 17) = .bool true := hk 6 (mem_of (by kernel_rfl))
      have f6 := ev e6
      have e9 : a.eval (.tmp 20) = .string nk3 := hk 9 (mem_of (by kernel_rfl))
      have f9 := ev e9
      have e13 : a.eval (.tmp 24) = .string nk3 := hk 13 (mem_of (by kernel_rfl))
      have f13 := ev e13
      clear hk
      refine ⟨_, rfl, rfl, Or.inl ⟨wanted_of (k := 6) (b := true) rfl rfl e6, wpIn_value (v := .bool true) (w' := W) ?_ ⟨_, rfl, Below.refl _ _, rfl⟩⟩⟩
      go_simp
    · clear hiq
      have e6 : a.eval (.tmp 17) = .bool true := hk 6 (mem_of (by kernel_rfl))
      have f6 := ev e6
      have e14 : a.eval (.tmp 25) = .bool true := hk 14 (mem_of (by kernel_rfl))
      have f14 := ev e14
      clear hk
      refine ⟨_, rfl, rfl, Or.inl ⟨wanted_none rfl, wpIn_value (v := .bool true) (w' := W) ?_ ⟨_, rfl, Below.refl _ _, rfl⟩⟩⟩
      go_simp
    · clear hiq
      have e15 : a.eval (.tmp 26) = .bool true := hk 15 (mem_of (by kernel_rfl))
      have f15 := ev e15
      clear hk
      refine ⟨_, rfl, rfl, Or.inl ⟨wanted_none rfl, wpIn_value (v := .bool true) (w' := W) ?_ ⟨_, rfl, Below.refl _ _, rfl⟩⟩⟩
      go_simp
    · clear hiq
      have e16 : a.eval (.tmp 27) = .bool true := hk 16 (mem_of (by kernel_rfl))
      have f16 := ev e16
      have hc0 := cell_of_row W z1 0 _ _ _ hx1
      have hc1 := cell_of_row W z1 1 _ _ _ hx1
      have hc2 := cell_of_row W z1 2 _ _ _ hx1
      have hc3 := cell_of_row W z1 3 _ _ _ hx1
      have hc4 := cell_of_row W z1 4 _ _ _ hx1
      have hc5 := cell_of_row W z1 5 _ _ _ hx1
      have hc6 := cell_of_row W z1 6 _ _ _ hx1
      have hc7 := cell_of_row W z1 7 _ _ _ hx1
      have hc8 := cell_of_row W z1 8 _ _ _ hx1
      have hc9 := cell_of_row W z1 9 _ _ _ hx1
      clear hk
      refine ⟨_, rfl, rfl, Or.inl ⟨wanted_of (k := 16) (b := true) rfl rfl e16, wpIn_value (v := .agg #[.int .i64 k, .string s, .int .i64 vk, .bool vb, .int .i64 vn, .string vs, .slice none 0 0, .slice none 0 0, .slice kp2 nk kc, .slice np nm nc]) (w' := W) ?_ ⟨_, rfl, Below.refl _ _, rfl⟩⟩⟩
      go_simp
    · clear hiq
      have e16 : a.eval (.tmp 27) = .bool true := hk 16 (mem_of (by kernel_rfl))
      have f16 := ev e16
      have e17 : a.eval (.tmp 28) = .agg #[.int .i64 k, .string s, .int .i64 vk, .bool vb, .int .i64 vn, .string vs, .slice none 0 0, .slice none 0 0, .slice kp2 nk kc, .slice np nm nc] := hk 17 (mem_of (by kernel_rfl))
      have f17 := ev e17
      clear hk
      refine ⟨_, rfl, rfl, Or.inl ⟨wanted_of (k := 16) (b := true) rfl rfl e16, wpIn_enter (f := 9) (args := #[.agg #[.int .i64 k, .string s, .int .i64 vk, .bool vb, .int .i64 vn, .string vs, .slice none 0 0, .slice none 0 0, .slice kp2 nk kc, .slice np nm nc], .slice none 0 0]) ?_ ((kch W hb).mono ?_)⟩⟩
      · go_simp
      · rintro e w2 ⟨rfl, hb2⟩
        exact ⟨_, rfl, _, rfl, hb2, rfl⟩
    · clear hiq
      have e16 : a.eval (.tmp 27) = .bool true := hk 16 (mem_of (by kernel_rfl))
      have f16 := ev e16
      clear hk
      refine ⟨_, rfl, rfl, Or.inl ⟨wanted_of (k := 16) (b := true) rfl rfl e16, wpIn_value (v := .agg #[.string ⟨#[]⟩, .string ⟨#[]⟩, .string ⟨#[]⟩]) (w' := W) ?_ ⟨_, rfl, Below.refl _ _, rfl⟩⟩⟩
      go_simp
    · clear hiq
      have e16 : a.eval (.tmp 27) = .bool true := hk 16 (mem_of (by kernel_rfl))
      have f16 := ev e16
      have e18 : a.eval (.tmp 29) = .agg #[.string ⟨#[]⟩, .string ⟨#[]⟩, .string ⟨#[]⟩] := hk 18 (mem_of (by kernel_rfl))
      have f18 := ev e18
      have e19 : a.eval (.tmp 30) = .agg #[.string ⟨#[]⟩, .string ⟨#[]⟩, .string ⟨#[]⟩] := hk 19 (mem_of (by kernel_rfl))
      have f19 := ev e19
      clear hk
      refine ⟨_, rfl, rfl, Or.inl ⟨wanted_of (k := 16) (b := true) rfl rfl e16, wpIn_value (v := .bool true) (w' := W) ?_ ⟨_, rfl, Below.refl _ _, rfl⟩⟩⟩
      go_simp
    · clear hiq
      have e16 : a.eval (.tmp 27) = .bool true := hk 16 (mem_of (by kernel_rfl))
      have f16 := ev e16
      have e20 : a.eval (.tmp 31) = .bool true := hk 20 (mem_of (by kernel_rfl))
      have f20 := ev e20
      clear hk
      refine ⟨_, rfl, rfl, Or.inl ⟨wanted_none rfl, wpIn_value (v := .bool true) (w' := W) ?_ ⟨_, rfl, Below.refl _ _, rfl⟩⟩⟩
      go_simp
    · clear hiq
      have e21 : a.eval (.tmp 32) = .bool true := hk 21 (mem_of (by kernel_rfl))
      have f21 := ev e21
      clear hk
      refine ⟨_, rfl, rfl, Or.inl ⟨wanted_none rfl, wpIn_value (v := .bool true) (w' := W) ?_ ⟨_, rfl, Below.refl _ _, rfl⟩⟩⟩
      go_simp
  case post =>
    intro V1 W hbW hV
    have v22 : V1 22 = .bool true := hV 22 (by omega)
    have H6 : Hid (Below w.heap.size w W) := H5.out.1.trans (hbW.mono H5.out.1.size)
    clear hV hbW r5 rr kint kref kkey kplus kch H5
    simp only [putAll, reduceIte, Nat.reduceLT, Nat.reduceAdd]
    rw [v22]
    simp only [Act.put, List.setIfInBounds_toArray, List.set_cons_zero, List.set_cons_succ]
    change wpListIn _ _ _ _ _ [] _ _
    gi_wp2
    go_wp2
    go_ret
    exact ⟨rfl, H6.out⟩
end Go.Proofs.YtfemippjaokcmaaGreatDoor
