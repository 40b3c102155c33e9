/- The law BlockFrames as a walk: where the block may not follow, or the digest ahead is too long. A region whose order is drawn, with guards that all say yes: as any_region. A region whose order is drawn, whose last operations wait for all others. -/
import Derived.Test.YtaocbkloafhmeaaDoorAwk
import Derived.Test.YtaocbkloafhmeaaDoorBlc
import Derived.Test.YtaocbkloafhmeaaDoorRfr
import Derived.Test.YtaocbkloafhmeaaDoorFra
import Derived.Test.YtaocbkloafhmeaaDoorFol
import Derived.Test.YtaocbkloafhmeaaDoorAny
namespace Go.Proofs.YtaocbkloafhmeaaDoor
open Go.RowKit
set_option maxRecDepth 100000 in
set_option maxHeartbeats 8000000 in
theorem frames_no (x : Bk) (hx : x.fit) (hfs : ∀ i, i ≤ (cutB x).n → (frameS (cutB x) i).size ≤ 1000000000) (p : Option Addr) (c : Nat) (w : World) (hw : 3 ≤ w.heap.size) (hG : GL w) (hD : GD w) (hX : Revs w p x.n c x.R) (HC : folR (cutB x) (cutB x).seq (cutB x).prev ≠ 0 ∨ 32 < (cutB x).prev.size) :
    Calls Tryd.prog 5 #[x.val p c] w fun e w' => e = .returned (.bool true) ∧ Below w.heap.size w w' := by
  have kb := fun W hX => block_any x p c W hX
  have hxc : (cutB x).fit := ⟨hx.seq, hx.tx, hx.prev⟩
  have hnc := cutB_n x
  have hnx : (cutB x).n ≤ x.n := Nat.min_le_left _ _
  have hXc : Revs w p (cutB x).n c (cutB x).R := hX.less _ hnx
  have hX2 : Revs w p x.n c (cutB x).R := hX
  have xv : x.val p c = .agg #[.int .u64 (x.seq : Int), .string x.prev, .int .u64 (x.tx : Int), .slice p x.n c] := rfl
  rw [xv] at kb ⊢
  rw [show x.R = (cutB x).R from rfl] at kb
  obtain ⟨X, hXX⟩ : ∃ X, cutB x = X := ⟨_, rfl⟩
  rw [hXX] at kb hxc hnc hnx hXc hX2 hfs HC
  have e1 : X.seq = x.seq := by rw [← hXX]; rfl
  have e2 : X.prev = x.prev := by rw [← hXX]; rfl
  have e3 : X.tx = x.tx := by rw [← hXX]; rfl
  clear hXX hx hX
  obtain ⟨xs, xp, xt, xn, xR⟩ := x
  simp only at e1 e2 e3 kb hX2 hnx ⊢
  rw [← e1, ← e2, ← e3]
  rw [← e1, ← e2, ← e3] at kb
  clear e1 e2 e3 xv
  have kfr := fun W p c hX => frame_any X hxc hnc hfs p c W hX
  have krf := fun W p c hX => rframe_any X hxc hnc p c W hX
  have kg1 := fun W p c hG hX => follows_any X p c X.seq X.prev W hG hX
  obtain ⟨F, hF⟩ : ∃ F, frameT X = F := ⟨_, rfl⟩
  rw [hF] at kfr krf
  obtain ⟨G, hGG⟩ : ∃ G, folR X X.seq X.prev = G := ⟨_, rfl⟩
  rw [hGG] at kg1 HC
  clear hF hGG hfs
  obtain ⟨seq, prev, tx, m, R⟩ := X
  have hv : ∀ q d, (Bk.mk seq prev tx m R).val q d = .agg #[.int .u64 (seq : Int), .string prev, .int .u64 (tx : Int), .slice q m d] := fun _ _ => rfl
  simp only [hv] at kb kfr krf kg1 
  simp only at hXc hnc hnx hX2 ⊢
  go_enter Tryd.func5, Tryd.ntmps5
  go_wp2_with fail
  have b0 : ∀ o, Below w.heap.size w (w.alloc o) := fun o => (Below.refl _ w).alloc (Nat.le_refl _) o
  refine (kb _ (hX2.later (b0 _))).mono ?_
  rintro e w1 ⟨q, d, rfl, hXq, hb1⟩
  have hb01 := (b0 _).trans (hb1.mono (by simp))
  have hs1 := hb01.size
  obtain ⟨w5, hw5⟩ : ∃ w5, (w1.alloc (.cells #[.int .u64 (seq : Int), .string prev, .int .u64 (tx : Int), .slice p m c] 38)).alloc (.cells #[.int .u64 (seq : Int), .string prev, .int .u64 (tx : Int), .slice q m d] 41) = w5 := ⟨_, rfl⟩
  have b15 : Below w1.heap.size w1 w5 := by rw [← hw5]; exact ((Below.refl _ _).alloc (Nat.le_refl _) _).alloc (by simp) _
  have hx5 : w5.heap[w1.heap.size]? = some (.cells #[.int .u64 (seq : Int), .string prev, .int .u64 (tx : Int), .slice p m c] 38 (0, 0)) := by rw [← hw5]; exact (Below.heap_alloc _ _ _ (by simp)).trans (heap_alloc_new _ _)
  have hy5 : w5.heap[w1.heap.size + 1]? = some (.cells #[.int .u64 (seq : Int), .string prev, .int .u64 (tx : Int), .slice q m d] 41 (0, 0)) := by rw [← hw5]; exact two_new _ _ _
  have hb5 := hb01.trans (b15.mono hs1)
  have hXq5 := hXq.later b15
  have hXp5 := hXc.later hb5
  have hs5 := hb5.size
  have u0 := cell_of_row w5 _ 0 _ _ _ hx5
  have u1 := cell_of_row w5 _ 1 _ _ _ hx5
  have u2 := cell_of_row w5 _ 2 _ _ _ hx5
  have u3 := cell_of_row w5 _ 3 _ _ _ hx5
  go_wp2_with fail
  refine (kfr _ _ _ hXp5).mono ?_
  rintro e w6 ⟨rfl, hb56⟩
  obtain ⟨b1, hbb1⟩ : ∃ b1, w1.heap.size = b1 := ⟨_, rfl⟩
  simp only [hbb1] at hx5 hy5 u0 u1 u2 u3 ⊢
  obtain ⟨b2, hbb2⟩ : ∃ b2, b1 + 1 = b2 := ⟨_, rfl⟩
  simp only [hbb2] at hy5 ⊢
  have hb6 := hb5.trans (hb56.mono hs5)
  have hs6 := hb6.size
  have hx6 := cell_later4 hb56 hx5
  have hy6 := cell_later4 hb56 hy5
  have hXp6 := hXp5.later hb56
  have hXq6 := hXq5.later hb56
  clear u0 u1 u2 u3 hb56 hXp5 hXq5 hx5 hy5 hw5 hbb1 hbb2 b15 hb01 hb1 hXq b0 kb kfr hs1
  go_wp2_with fail
  refine (awake_any w6 (by omega) (hG.later hb6) (hD.later hb6)).mono ?_
  rintro e w7 ⟨rfl, hb67⟩
  have hb7 := hb6.trans (hb67.mono hs6)
  have hs7 := hb7.size
  have hx7 := cell_later4 hb67 hx6
  have hy7 := cell_later4 hb67 hy6
  have hXp7 := hXp6.later hb67
  have hXq7 := hXq6.later hb67
  have v0 := cell_of_row w7 _ 0 _ _ _ hy7
  have v1 := cell_of_row w7 _ 1 _ _ _ hy7
  have v2 := cell_of_row w7 _ 2 _ _ _ hy7
  have v3 := cell_of_row w7 _ 3 _ _ _ hy7
  clear hb67 hx6 hy6 hXp6 hXq6
  go_wp2_with fail
  refine (krf _ _ _ hXq7).mono ?_
  rintro e w8 ⟨rfl, hb78⟩
  have hb8 := hb7.trans (hb78.mono hs7)
  have hs8 := hb8.size
  have hx8 := cell_later4 hb78 hx7
  have hXp8 := hXp7.later hb78
  have u0 := cell_of_row w8 _ 0 _ _ _ hx8
  have u1 := cell_of_row w8 _ 1 _ _ _ hx8
  have u2 := cell_of_row w8 _ 2 _ _ _ hx8
  have u3 := cell_of_row w8 _ 3 _ _ _ hx8
  clear v0 v1 v2 v3 hb78 hx7 hy7 hXp7 hXq7 krf hb7 hs7 hb6 hs6
  go_wp2_with fail
  refine (kg1 _ _ _ (hG.later hb8) hXp8).mono ?_
  rintro e w9 ⟨rfl, hb89⟩
  have hb9 := hb8.trans (hb89.mono hs8)
  have hs9 := hb9.size
  have hx9 := cell_later4 hb89 hx8
  have hXp9 := hXp8.later hb89
  have u1' := cell_of_row w9 _ 1 _ _ _ hx9
  clear u0 u1 u2 u3 hb89 hx8 hXp8 kg1 hb8 hs8
  by_cases hg0 : G = 0
  · have hp : (32 : Int) < (prev.size : Int) := by
      rcases HC with h | h
      · exact absurd hg0 h
      · have h2 : 32 < prev.size := h
        omega
    subst hg0
    clear HC
    go_wp2
    go_ret
    exact ⟨rfl, hb9⟩
  · have hgd : decide (G = 0) = false := decide_eq_false hg0
    clear HC
    go_wp2
    go_ret
    exact ⟨rfl, hb9⟩
end Go.Proofs.YtaocbkloafhmeaaDoor
namespace Go.Proofs.YtaocbkloafhmeaaDoor
open Go.RowKit
theorem wanted_of {ops : Array Oper} {o : Oper} {a : Act} {k d : Nat} {b : Bool} (hg : o.guard = some (k, b)) (hk : (ops[k]?).bind (·.dst) = some d) (hv : a.eval (.tmp d) = .bool b) : Region.wanted o (yielded ops a.tmps) = true := by
  have h1 : a.tmps[d]?.getD undef = .bool b := ev hv
  have h2 : a.tmps[d]? = some (.bool b) := by
    cases h : a.tmps[d]? with
    | none => rw [h] at h1; cases h1
    | some v => rw [h] at h1; exact congrArg some h1
  unfold Region.wanted yielded
  simp only [hg, hk, Option.bind_some, h2]
  simp
theorem wpOp_want {P : Program} {ops : Array Oper} {Q : Exit → Act → World → Prop} {i : Nat} {o : Oper} {K : Act → World → Prop} {a : Act} {w : World} (ho : ops[i]? = some o) (hg : Region.wanted o (yielded ops a.tmps) = true) (h : o.wp P a w K Q) : wpOp P ops Q i K a w := by
  unfold wpOp
  rw [ho]
  simp only [hg, if_true]
  exact Or.inl h
theorem wpOp_skip {P : Program} {ops : Array Oper} {Q : Exit → Act → World → Prop} {i : Nat} {o : Oper} {K : Act → World → Prop} {a : Act} {w : World} (ho : ops[i]? = some o) (hg : Region.wanted o (yielded ops a.tmps) = false) (h : K (a.put o.dst undef) w) : wpOp P ops Q i K a w := by
  unfold wpOp
  rw [ho]
  simp only [hg]
  exact h
theorem any_regionG {P : Program} {ops : Array Oper} {Q : Exit → Act → World → Prop} {id : Nat} {a0 : Act} {w : World} (hm : P.follows .mixedOrders = true) (n : Nat) (hsz : ops.size = n) (ds : Nat → Nat) (R : Nat → Value → World → Prop)
    (hdep : depB ops = true) (hinj : injB ds n = true) (hlt : ltB ds n a0.tmps.size = true)
    (hR : ∀ i v W W', R i v W → Below W.heap.size W W' → R i v W')
    (hstep : ∀ i, i < n → ∀ (a : Act) (W : World), (∀ j, (∀ i, i < n → ds i ≠ j) → a.eval (.tmp j) = a0.eval (.tmp j)) → Below w.heap.size w W → (∀ k ∈ depOf ops i, R k (a.eval (.tmp (ds k))) W) →
      ∃ o, ops[i]? = some o ∧ o.dst = some (ds i) ∧ ((Region.wanted o (yielded ops a.tmps) = true ∧ o.wp P a W (fun a' W' => ∃ v, a' = a.put o.dst v ∧ Below W.heap.size W W' ∧ R i v W') Q) ∨ (Region.wanted o (yielded ops a.tmps) = false ∧ R i undef W)))
    (hQ : ∀ (V : Nat → Value) (W : World), Below w.heap.size w W → (∀ i, i < n → R i (V i) W) → Q .normal (putAll a0 ds V n) W) :
    (Code.region id ops true).wp P Q a0 w := by
  have hdep' : ∀ i, i < n → ∀ k ∈ depOf ops i, k < i := by
    intro i hi k hk
    unfold depB at hdep
    simp only [List.all_eq_true, List.mem_range, decide_eq_true_eq] at hdep
    exact hdep i (by omega) k hk
  have hinj' : ∀ i j, i < n → j < n → ds i = ds j → i = j := by
    unfold injB at hinj
    simp only [List.all_eq_true, List.mem_range, decide_eq_true_eq] at hinj
    exact fun i j hi hj => hinj i hi j hj
  have hlt' : ∀ i, i < n → ds i < a0.tmps.size := by
    unfold ltB at hlt
    simp only [List.all_eq_true, List.mem_range, decide_eq_true_eq] at hlt
    exact hlt
  refine wp_region_any hm ?_
  refine any_inv (fun l a W => AI n ds R a0 w l a W) ?_ ?_ ?_ _ _ _ _ ?_ ?_
  · intro l a W H
    rw [hsz]
    exact H.len
  · intro l a W H hr
    have tt := all_done hsz H.len hdep' hr
    have he : a = putAll a0 ds (fun i => a.tmps.getD (ds i) undef) n := by
      refine act_ext (H.df.trans (putAll_df _ _ _ _).symm) (H.sz.trans (putAll_sz _ _ _ _).symm) (fun j => ?_)
      by_cases hj : ∃ i, i < n ∧ ds i = j
      · obtain ⟨i, hi, rfl⟩ := hj
        rw [putAll_eq a0 ds _ i n hinj' hlt' hi]
      · have hj' : ∀ i, i < n → ds i ≠ j := fun i hi e => hj ⟨i, hi, e⟩
        rw [putAll_ne a0 ds _ j n hj']
        exact H.rest j hj'
    rw [he]
    exact hQ _ W H.hb (fun i hi => H.val i hi (tt i hi))
  · intro l a W H i hi
    obtain ⟨hin, hfr, hdd⟩ := mem_ready.1 hi
    rw [hsz] at hin
    obtain ⟨o, ho, hd, hw⟩ := hstep i hin a W (fun j hj => H.rest j hj) H.hb (fun k hk => H.val k (by have := hdep' i hin k hk; omega) (hdd k hk))
    rcases hw with ⟨hg, hw⟩ | ⟨hg, hw⟩
    · refine wpOp_want ho hg (Oper.wp_mono ?_ hw)
      rintro a' W' ⟨v, rfl, hb, hv⟩
      rw [hd]
      exact H.step hR hinj' hlt' hin hb hv
    · refine wpOp_skip ho hg ?_
      rw [hd]
      exact H.step hR hinj' hlt' hin (Below.refl _ _) hw
  · simp only [unl, Array.toList_replicate]
    exact Nat.le_trans (List.length_filter_le _ _) (by simp)
  · have hrep : ∀ j, (Array.replicate ops.size false).getD j false = false := fun j => by simp [Array.getD_eq_getD_getElem?, Array.getElem?_replicate]; split <;> rfl
    exact { len := by simp [hsz], df := rfl, sz := rfl, rest := fun _ _ => rfl, hb := (Below.refl _ w).drew, val := fun i _ h => absurd ((hrep _).symm.trans h) (by decide) }
end Go.Proofs.YtaocbkloafhmeaaDoor
namespace Go.Proofs.YtaocbkloafhmeaaDoor
open Go.RowKit
/- Operations that must wait for all ahead of them, at the end of a region whose order is drawn. -/
def covL (ops : Array Oper) : Nat → List Nat → List Nat
  | 0, acc => acc
  | k + 1, acc => covL ops k (if acc.any (fun m => (depOf ops m).contains k) then k :: acc else acc)
def tailB (ops : Array Oper) (n : Nat) : Bool := (List.range ops.size).all fun i => decide (i < n) || (List.range i).all (fun k => (covL ops i [i]).contains k)
theorem covL_done {ops : Array Oper} {l : Array Bool} {i : Nat} (hi : ∀ k ∈ depOf ops i, l.getD k false = true) (hcl : ∀ m, l.getD m false = true → ∀ k ∈ depOf ops m, l.getD k false = true) :
    ∀ (f : Nat) (acc : List Nat), (∀ m ∈ acc, m = i ∨ l.getD m false = true) → ∀ m ∈ covL ops f acc, m = i ∨ l.getD m false = true
  | 0, _, h => h
  | k + 1, acc, h => by
    refine covL_done hi hcl k _ ?_
    split
    · next hk =>
      intro m hm
      rcases List.mem_cons.1 hm with rfl | hm
      · obtain ⟨m', h1, h2⟩ := List.any_eq_true.1 hk
        have h3 := List.contains_iff_mem.1 h2
        rcases h m' h1 with rfl | h4
        · exact Or.inr (hi _ h3)
        · exact Or.inr (hcl _ h4 _ h3)
      · exact h m hm
    · exact h
theorem tail_ready {ops : Array Oper} {n : Nat} (ht : tailB ops n = true) {l : Array Bool} (hcl : ∀ m, l.getD m false = true → ∀ k ∈ depOf ops m, l.getD k false = true) {i : Nat} (hi : i < ops.size) (hn : n ≤ i) (hd : ∀ k ∈ depOf ops i, l.getD k false = true) : ∀ k, k < i → l.getD k false = true := by
  intro k hk
  unfold tailB at ht
  have h1 := List.all_eq_true.1 ht i (List.mem_range.2 hi)
  rw [decide_eq_false (by omega), Bool.false_or] at h1
  have h2 := List.contains_iff_mem.1 (List.all_eq_true.1 h1 k (List.mem_range.2 hk))
  rcases covL_done hd hcl i [i] (fun m hm => Or.inl (List.mem_singleton.1 hm)) k h2 with rfl | h
  · omega
  · exact h
structure TI (N n : Nat) (ds : Nat → Nat) (R : Nat → Value → World → Prop) (a0 : Act) (w0 : World) (l : Array Bool) (a : Act) (w : World) : Prop where
  len : l.size = N
  df : a.defers = a0.defers
  sz : a.tmps.size = a0.tmps.size
  rest : ∀ j, (∀ i, i < n → ds i ≠ j) → a.tmps.getD j undef = a0.tmps.getD j undef
  hb : Below w0.heap.size w0 w
  val : ∀ i, i < n → l.getD i false = true → R i (a.tmps.getD (ds i) undef) w
theorem TI.step {N n : Nat} {ds : Nat → Nat} {R : Nat → Value → World → Prop} {a0 : Act} {w0 : World} {l : Array Bool} {a : Act} {w w' : World} (H : TI N n ds R a0 w0 l a w) (hR : ∀ i v W W', R i v W → Below W.heap.size W W' → R i v W')
    (hinj : ∀ i j, i < n → j < n → ds i = ds j → i = j) (hlt : ∀ i, i < n → ds i < a0.tmps.size) (hN : n ≤ N) {i : Nat} (hi : i < n) {v : Value} (hb : Below w.heap.size w w') (hv : R i v w') :
    TI N n ds R a0 w0 (l.setIfInBounds i true) (a.put (some (ds i)) v) w' := by
  have hil : i < l.size := by rw [H.len]; omega
  have hid : ds i < a.tmps.size := by rw [H.sz]; exact hlt i hi
  refine { len := by simp [H.len], df := H.df, sz := (put_size' _ _ _).trans H.sz, rest := fun j hj => (put_ne (hj i hi)).trans (H.rest j hj), hb := H.hb.trans (hb.mono H.hb.size), val := fun k hk h => ?_ }
  by_cases e : k = i
  · subst e
    rw [put_eq hid]
    exact hv
  · rw [gset hil, if_neg (Ne.symm e)] at h
    rw [put_ne (fun h2 => e (hinj i k hi hk h2).symm)]
    exact hR k _ _ _ (H.val k hk h) hb
theorem any_tail {P : Program} {ops : Array Oper} {Q : Exit → Act → World → Prop} {id : Nat} {a0 : Act} {w : World} (hm : P.follows .mixedOrders = true) (n : Nat) (hsz : n ≤ ops.size) (ds : Nat → Nat) (R : Nat → Value → World → Prop)
    (hdep : depB ops = true) (htl : tailB ops n = true) (hinj : injB ds n = true) (hlt : ltB ds n a0.tmps.size = true)
    (hR : ∀ i v W W', R i v W → Below W.heap.size W W' → R i v W')
    (hstep : ∀ i, i < n → ∀ (a : Act) (W : World), (∀ j, (∀ i, i < n → ds i ≠ j) → a.eval (.tmp j) = a0.eval (.tmp j)) → Below w.heap.size w W → (∀ k ∈ depOf ops i, R k (a.eval (.tmp (ds k))) W) →
      ∃ o, ops[i]? = some o ∧ o.guard = none ∧ o.dst = some (ds i) ∧ o.wp P a W (fun a' W' => ∃ v, a' = a.put o.dst v ∧ Below W.heap.size W W' ∧ R i v W') Q)
    (hQ : ∀ (V : Nat → Value) (W : World), Below w.heap.size w W → (∀ i, i < n → R i (V i) W) → wpList P ops Q (ops.toList.drop n) (putAll a0 ds V n) W) :
    (Code.region id ops true).wp P Q a0 w := by
  have hdep' : ∀ i, i < ops.size → ∀ k ∈ depOf ops i, k < i := by
    intro i hi k hk
    unfold depB at hdep
    simp only [List.all_eq_true, List.mem_range, decide_eq_true_eq] at hdep
    exact hdep i (by omega) k hk
  have hinj' : ∀ i j, i < n → j < n → ds i = ds j → i = j := by
    unfold injB at hinj
    simp only [List.all_eq_true, List.mem_range, decide_eq_true_eq] at hinj
    exact fun i j hi hj => hinj i hi j hj
  have hlt' : ∀ i, i < n → ds i < a0.tmps.size := by
    unfold ltB at hlt
    simp only [List.all_eq_true, List.mem_range, decide_eq_true_eq] at hlt
    exact hlt
  have hops : ∀ a W, wpList P ops Q (ops.toList.drop n) a W → wpOps P ops Q (List.range' n (ops.size - n)) a W := by
    intro a W h
    have e := wpOps_eq_wpList (P := P) (ops := ops) (Q := Q) (ops.toList.drop n) n (fun j => by rw [List.getElem?_drop]; simp)
    rw [List.length_drop, Array.length_toList] at e
    rw [e]
    exact h
  have hfin : ∀ (l : Array Bool) (a : Act) (W : World), TI ops.size n ds R a0 w l a W → (∀ i, i < n → l.getD i false = true) → wpOps P ops Q (List.range' n (ops.size - n)) a W := by
    intro l a W H tt
    have he : a = putAll a0 ds (fun i => a.tmps.getD (ds i) undef) n := by
      refine act_ext (H.df.trans (putAll_df _ _ _ _).symm) (H.sz.trans (putAll_sz _ _ _ _).symm) (fun j => ?_)
      by_cases hj : ∃ i, i < n ∧ ds i = j
      · obtain ⟨i, hi, rfl⟩ := hj
        rw [putAll_eq a0 ds _ i n hinj' hlt' hi]
      · have hj' : ∀ i, i < n → ds i ≠ j := fun i hi e => hj ⟨i, hi, e⟩
        rw [putAll_ne a0 ds _ j n hj']
        exact H.rest j hj'
    have h2 := hops _ _ (hQ (fun i => a.tmps.getD (ds i) undef) W H.hb (fun i hi => H.val i hi (tt i hi)))
    rw [← he] at h2
    exact h2
  refine wp_region_any hm ?_
  refine any_inv (fun l a W => l.size = ops.size ∧ (∀ m, l.getD m false = true → ∀ k ∈ depOf ops m, l.getD k false = true) ∧
    ((TI ops.size n ds R a0 w l a W ∧ (∀ i, n ≤ i → l.getD i false = false) ∧ ∃ i, i < n ∧ l.getD i false = false) ∨
      ∃ j, n ≤ j ∧ j ≤ ops.size ∧ (∀ i, i < j → l.getD i false = true) ∧ (∀ i, j ≤ i → l.getD i false = false) ∧ wpOps P ops Q (List.range' j (ops.size - j)) a W)) ?_ ?_ ?_ _ _ _ _ ?_ ?_
  · intro l a W H
    exact H.1
  · intro l a W H hr
    obtain ⟨hl, hcl, H⟩ := H
    have tt := all_done rfl hl hdep' hr
    rcases H with ⟨_, _, i, hi, h0⟩ | ⟨j, h1, h2, h3, h4, h5⟩
    · rw [tt i (by omega)] at h0; cases h0
    · have hj : j = ops.size := by
        rcases Nat.lt_or_ge j ops.size with h | h
        · have h6 := h4 j (Nat.le_refl _)
          rw [tt j h] at h6
          cases h6
        · omega
      subst hj
      rw [Nat.sub_self] at h5
      simpa [wpOps] using h5
  · intro l a W H i hi
    obtain ⟨hl, hcl, H⟩ := H
    obtain ⟨hin, hfr, hdd⟩ := mem_ready.1 hi
    have hil : i < l.size := by omega
    have hcl2 : ∀ m, (l.setIfInBounds i true).getD m false = true → ∀ k ∈ depOf ops m, (l.setIfInBounds i true).getD k false = true := by
      intro m hm2 k hk
      rw [gset hil] at hm2 ⊢
      by_cases e : i = m
      · subst e
        split
        · rfl
        · exact hdd k hk
      · rw [if_neg e] at hm2
        split
        · rfl
        · exact hcl m hm2 k hk
    have hfr2 := fresh_at hfr
    rcases H with ⟨H, h0, i0, hi0, h00⟩ | ⟨j, h1, h2, h3, h4, h5⟩
    · by_cases hn : i < n
      · obtain ⟨o, ho, hg, hd, hw⟩ := hstep i hn a W (fun j hj => H.rest j hj) H.hb (fun k hk => H.val k (by have := hdep' i hin k hk; omega) (hdd k hk))
        refine wpOp_of ho hg (Oper.wp_mono ?_ hw)
        rintro a' W' ⟨v, rfl, hb, hv⟩
        rw [hd]
        have H2 := H.step hR hinj' hlt' hsz hn hb hv
        refine ⟨H2.len, hcl2, ?_⟩
        by_cases hall : ∀ k, k < n → (l.setIfInBounds i true).getD k false = true
        · refine Or.inr ⟨n, Nat.le_refl _, hsz, hall, fun k hk => ?_, hfin _ _ _ H2 hall⟩
          rw [lset (by omega)]
          exact h0 k hk
        · refine Or.inl ⟨H2, fun k hk => ?_, ?_⟩
          · rw [lset (by omega)]
            exact h0 k hk
          · obtain ⟨k, hk⟩ := Classical.not_forall.1 hall
            obtain ⟨hk1, hk2⟩ := Classical.not_imp.1 hk
            exact ⟨k, hk1, by simpa using hk2⟩
      · have := tail_ready htl hcl hin (by omega) hdd i0 (by omega)
        rw [h00] at this
        cases this
    · have hij : i = j := by
        rcases Nat.lt_trichotomy i j with h | h | h
        · rw [h3 i h] at hfr2; cases hfr2
        · exact h
        · have h6 := tail_ready htl hcl hin (by omega) hdd j h
          rw [h4 j (Nat.le_refl _)] at h6
          cases h6
      subst hij
      have e : ops.size - i = (ops.size - (i + 1)) + 1 := by omega
      rw [e, List.range'_succ, wpOps_cons] at h5
      refine wpOp_mono (fun a' W' h' => ?_) h5
      refine ⟨by simp [hl], hcl2, Or.inr ⟨i + 1, by omega, by omega, fun k hk => ?_, fun k hk => ?_, h'⟩⟩
      · rw [gset hil]
        split
        · rfl
        · exact h3 k (by omega)
      · rw [lset (by omega)]
        exact h4 k (by omega)
  · simp only [unl, Array.toList_replicate]
    exact Nat.le_trans (List.length_filter_le _ _) (by simp)
  · have hrep : ∀ j, (Array.replicate ops.size false).getD j false = false := fun j => by simp [Array.getD_eq_getD_getElem?, Array.getElem?_replicate]; split <;> rfl
    have H0 : TI ops.size n ds R a0 w (Array.replicate ops.size false) a0 w.drew := { len := by simp, df := rfl, sz := rfl, rest := fun _ _ => rfl, hb := (Below.refl _ w).drew, val := fun i _ h => absurd ((hrep _).symm.trans h) (by decide) }
    refine ⟨by simp, fun m h => absurd ((hrep _).symm.trans h) (by decide), ?_⟩
    by_cases hn : n = 0
    · refine Or.inr ⟨0, by omega, by omega, fun i hi => absurd hi (by omega), fun i _ => hrep i, ?_⟩
      have := hfin _ _ _ H0 (fun i hi => absurd hi (by omega))
      rw [hn] at this
      exact this
    · exact Or.inl ⟨H0, fun i _ => hrep i, 0, by omega, hrep 0⟩
/- As any_tail, where one operation ahead of the last ones (f) may come behind the first of these. -/
def tailF (ops : Array Oper) (n f : Nat) : Bool := ((List.range n).all fun k => decide (k = f) || (covL ops n [n]).contains k) && (List.range ops.size).all fun i => decide (i ≤ n) || (List.range i).all (fun k => (covL ops i [i]).contains k)
theorem tailF_first {ops : Array Oper} {n f : Nat} (ht : tailF ops n f = true) {l : Array Bool} (hcl : ∀ m, l.getD m false = true → ∀ k ∈ depOf ops m, l.getD k false = true) (hd : ∀ k ∈ depOf ops n, l.getD k false = true) : ∀ k, k < n → k ≠ f → l.getD k false = true := by
  intro k hk hf
  unfold tailF at ht
  rw [Bool.and_eq_true] at ht
  have h1 := List.all_eq_true.1 ht.1 k (List.mem_range.2 hk)
  rw [decide_eq_false hf, Bool.false_or] at h1
  rcases covL_done hd hcl n [n] (fun m hm => Or.inl (List.mem_singleton.1 hm)) k (List.contains_iff_mem.1 h1) with rfl | h
  · omega
  · exact h
theorem tailF_rest {ops : Array Oper} {n f : Nat} (ht : tailF ops n f = true) {l : Array Bool} (hcl : ∀ m, l.getD m false = true → ∀ k ∈ depOf ops m, l.getD k false = true) {i : Nat} (hi : i < ops.size) (hn : n < i) (hd : ∀ k ∈ depOf ops i, l.getD k false = true) : ∀ k, k < i → l.getD k false = true := by
  intro k hk
  unfold tailF at ht
  rw [Bool.and_eq_true] at ht
  have h1 := List.all_eq_true.1 ht.2 i (List.mem_range.2 hi)
  rw [decide_eq_false (by omega), Bool.false_or] at h1
  have h2 := List.contains_iff_mem.1 (List.all_eq_true.1 h1 k (List.mem_range.2 hk))
  rcases covL_done hd hcl i [i] (fun m hm => Or.inl (List.mem_singleton.1 hm)) k h2 with rfl | h
  · omega
  · exact h
theorem any_tailF {P : Program} {ops : Array Oper} {Q : Exit → Act → World → Prop} {id : Nat} {a0 : Act} {w : World} (hm : P.follows .mixedOrders = true) (n f : Nat) (hf : f < n) (hsz : n < ops.size) (ds : Nat → Nat) (R : Nat → Value → World → Prop)
    (hdep : depB ops = true) (htl : tailF ops n f = true) (hinj : injB ds n = true) (hlt : ltB ds n a0.tmps.size = true)
    (hR : ∀ i v W W', R i v W → Below W.heap.size W W' → R i v W')
    (hstep : ∀ i, i < n → ∀ (a : Act) (W : World), (∀ j, (∀ i, i < n → ds i ≠ j) → a.eval (.tmp j) = a0.eval (.tmp j)) → Below w.heap.size w W → (∀ k ∈ depOf ops i, R k (a.eval (.tmp (ds k))) W) →
      ∃ o, ops[i]? = some o ∧ o.guard = none ∧ o.dst = some (ds i) ∧ o.wp P a W (fun a' W' => ∃ v, a' = a.put o.dst v ∧ Below W.heap.size W W' ∧ R i v W') Q)
    (hQ : ∀ (V : Nat → Value) (W : World), Below w.heap.size w W → (∀ i, i < n → R i (V i) W) → wpList P ops Q (ops.toList.drop n) (putAll a0 ds V n) W)
    (hQ2 : ∀ (V : Nat → Value) (W : World), Below w.heap.size w W → (∀ i, i < n → i ≠ f → R i (V i) W) → V f = a0.tmps.getD (ds f) undef → wpOps P ops Q (n :: f :: List.range' (n + 1) (ops.size - (n + 1))) (putAll a0 ds V n) W) :
    (Code.region id ops true).wp P Q a0 w := by
  have hdep' : ∀ i, i < ops.size → ∀ k ∈ depOf ops i, k < i := by
    intro i hi k hk
    unfold depB at hdep
    simp only [List.all_eq_true, List.mem_range, decide_eq_true_eq] at hdep
    exact hdep i (by omega) k hk
  have hinj' : ∀ i j, i < n → j < n → ds i = ds j → i = j := by
    unfold injB at hinj
    simp only [List.all_eq_true, List.mem_range, decide_eq_true_eq] at hinj
    exact fun i j hi hj => hinj i hi j hj
  have hlt' : ∀ i, i < n → ds i < a0.tmps.size := by
    unfold ltB at hlt
    simp only [List.all_eq_true, List.mem_range, decide_eq_true_eq] at hlt
    exact hlt
  have hops : ∀ a W, wpList P ops Q (ops.toList.drop n) a W → wpOps P ops Q (List.range' n (ops.size - n)) a W := by
    intro a W h
    have e := wpOps_eq_wpList (P := P) (ops := ops) (Q := Q) (ops.toList.drop n) n (fun j => by rw [List.getElem?_drop]; simp)
    rw [List.length_drop, Array.length_toList] at e
    rw [e]
    exact h
  have hsz' : n ≤ ops.size := by omega
  have hfin : ∀ (l : Array Bool) (a : Act) (W : World), TI ops.size n ds R a0 w l a W → (∀ i, i < n → l.getD i false = true) → wpOps P ops Q (List.range' n (ops.size - n)) a W := by
    intro l a W H tt
    have he : a = putAll a0 ds (fun i => a.tmps.getD (ds i) undef) n := by
      refine act_ext (H.df.trans (putAll_df _ _ _ _).symm) (H.sz.trans (putAll_sz _ _ _ _).symm) (fun j => ?_)
      by_cases hj : ∃ i, i < n ∧ ds i = j
      · obtain ⟨i, hi, rfl⟩ := hj
        rw [putAll_eq a0 ds _ i n hinj' hlt' hi]
      · have hj' : ∀ i, i < n → ds i ≠ j := fun i hi e => hj ⟨i, hi, e⟩
        rw [putAll_ne a0 ds _ j n hj']
        exact H.rest j hj'
    have h2 := hops _ _ (hQ (fun i => a.tmps.getD (ds i) undef) W H.hb (fun i hi => H.val i hi (tt i hi)))
    rw [← he] at h2
    exact h2
  have hfin2 : ∀ (l : Array Bool) (a : Act) (W : World), TI ops.size n ds R a0 w l a W → (∀ i, i < n → i ≠ f → l.getD i false = true) → a.tmps.getD (ds f) undef = a0.tmps.getD (ds f) undef → wpOps P ops Q (n :: f :: List.range' (n + 1) (ops.size - (n + 1))) a W := by
    intro l a W H tt hu
    have he : a = putAll a0 ds (fun i => a.tmps.getD (ds i) undef) n := by
      refine act_ext (H.df.trans (putAll_df _ _ _ _).symm) (H.sz.trans (putAll_sz _ _ _ _).symm) (fun j => ?_)
      by_cases hj : ∃ i, i < n ∧ ds i = j
      · obtain ⟨i, hi, rfl⟩ := hj
        rw [putAll_eq a0 ds _ i n hinj' hlt' hi]
      · have hj' : ∀ i, i < n → ds i ≠ j := fun i hi e => hj ⟨i, hi, e⟩
        rw [putAll_ne a0 ds _ j n hj']
        exact H.rest j hj'
    have h2 := hQ2 (fun i => a.tmps.getD (ds i) undef) W H.hb (fun i hi hif => H.val i hi (tt i hi hif)) hu
    rw [← he] at h2
    exact h2
  refine wp_region_any hm ?_
  refine any_inv (fun l a W => l.size = ops.size ∧ (∀ m, l.getD m false = true → ∀ k ∈ depOf ops m, l.getD k false = true) ∧
    ((TI ops.size n ds R a0 w l a W ∧ (l.getD f false = false → a.tmps.getD (ds f) undef = a0.tmps.getD (ds f) undef) ∧ (∀ i, n ≤ i → l.getD i false = false) ∧ ∃ i, i < n ∧ i ≠ f ∧ l.getD i false = false) ∨
      (l.getD f false = false ∧ (∀ i, i < n → i ≠ f → l.getD i false = true) ∧ (∀ i, n ≤ i → l.getD i false = false) ∧ TI ops.size n ds R a0 w l a W ∧ (a.tmps.getD (ds f) undef = a0.tmps.getD (ds f) undef)) ∨
      (l.getD f false = false ∧ (∀ i, i ≤ n → i ≠ f → l.getD i false = true) ∧ (∀ i, n < i → l.getD i false = false) ∧ wpOps P ops Q (f :: List.range' (n + 1) (ops.size - (n + 1))) a W) ∨
      ∃ j, n ≤ j ∧ j ≤ ops.size ∧ (∀ i, i < j → l.getD i false = true) ∧ (∀ i, j ≤ i → l.getD i false = false) ∧ wpOps P ops Q (List.range' j (ops.size - j)) a W)) ?_ ?_ ?_ _ _ _ _ ?_ ?_
  · intro l a W H
    exact H.1
  · intro l a W H hr
    obtain ⟨hl, hcl, H⟩ := H
    have tt := all_done rfl hl hdep' hr
    rcases H with ⟨_, _, _, i, hi, _, h0⟩ | ⟨h0, _⟩ | ⟨h0, _⟩ | ⟨j, h1, h2, h3, h4, h5⟩
    · rw [tt i (by omega)] at h0; cases h0
    · rw [tt f (by omega)] at h0; cases h0
    · rw [tt f (by omega)] at h0; cases h0
    · have hj : j = ops.size := by
        rcases Nat.lt_or_ge j ops.size with h | h
        · have h6 := h4 j (Nat.le_refl _)
          rw [tt j h] at h6
          cases h6
        · omega
      subst hj
      rw [Nat.sub_self] at h5
      simpa [wpOps] using h5
  · intro l a W H i hi
    obtain ⟨hl, hcl, H⟩ := H
    obtain ⟨hin, hfr, hdd⟩ := mem_ready.1 hi
    have hil : i < l.size := by omega
    have hcl2 : ∀ m, (l.setIfInBounds i true).getD m false = true → ∀ k ∈ depOf ops m, (l.setIfInBounds i true).getD k false = true := by
      intro m hm2 k hk
      rw [gset hil] at hm2 ⊢
      by_cases e : i = m
      · subst e
        split
        · rfl
        · exact hdd k hk
      · rw [if_neg e] at hm2
        split
        · rfl
        · exact hcl m hm2 k hk
    have hfr2 := fresh_at hfr
    -- one of the first operations
    have hone : ∀ (H : TI ops.size n ds R a0 w l a W), (l.getD f false = false → a.tmps.getD (ds f) undef = a0.tmps.getD (ds f) undef) → (∀ i, n ≤ i → l.getD i false = false) → i < n → wpOp P ops Q i ((fun l a W => l.size = ops.size ∧ (∀ m, l.getD m false = true → ∀ k ∈ depOf ops m, l.getD k false = true) ∧
    ((TI ops.size n ds R a0 w l a W ∧ (l.getD f false = false → a.tmps.getD (ds f) undef = a0.tmps.getD (ds f) undef) ∧ (∀ i, n ≤ i → l.getD i false = false) ∧ ∃ i, i < n ∧ i ≠ f ∧ l.getD i false = false) ∨
          (l.getD f false = false ∧ (∀ i, i < n → i ≠ f → l.getD i false = true) ∧ (∀ i, n ≤ i → l.getD i false = false) ∧ TI ops.size n ds R a0 w l a W ∧ (a.tmps.getD (ds f) undef = a0.tmps.getD (ds f) undef)) ∨
          (l.getD f false = false ∧ (∀ i, i ≤ n → i ≠ f → l.getD i false = true) ∧ (∀ i, n < i → l.getD i false = false) ∧ wpOps P ops Q (f :: List.range' (n + 1) (ops.size - (n + 1))) a W) ∨
          ∃ j, n ≤ j ∧ j ≤ ops.size ∧ (∀ i, i < j → l.getD i false = true) ∧ (∀ i, j ≤ i → l.getD i false = false) ∧ wpOps P ops Q (List.range' j (ops.size - j)) a W)) (l.setIfInBounds i true)) a W := by
      intro H hu h0 hn
      obtain ⟨o, ho, hg, hd, hw⟩ := hstep i hn a W (fun j hj => H.rest j hj) H.hb (fun k hk => H.val k (by have := hdep' i hin k hk; omega) (hdd k hk))
      refine wpOp_of ho hg (Oper.wp_mono ?_ hw)
      rintro a' W' ⟨v, rfl, hb, hv⟩
      rw [hd]
      have H2 := H.step hR hinj' hlt' hsz' hn hb hv
      have hu2 : (l.setIfInBounds i true).getD f false = false → (a.put (some (ds i)) v).tmps.getD (ds f) undef = a0.tmps.getD (ds f) undef := by
        intro hff
        by_cases e : i = f
        · subst e
          rw [gset hil, if_pos rfl] at hff
          cases hff
        · rw [lset e] at hff
          rw [put_ne (fun h2 => e (hinj' i f hn hf h2))]
          exact hu hff
      have h02 : ∀ k, n ≤ k → (l.setIfInBounds i true).getD k false = false := fun k hk => by rw [lset (by omega)]; exact h0 k hk
      refine ⟨H2.len, hcl2, ?_⟩
      by_cases hall : ∀ k, k < n → (l.setIfInBounds i true).getD k false = true
      · exact Or.inr (Or.inr (Or.inr ⟨n, Nat.le_refl _, hsz', hall, h02, hfin _ _ _ H2 hall⟩))
      · by_cases hall2 : ∀ k, k < n → k ≠ f → (l.setIfInBounds i true).getD k false = true
        · have hff : (l.setIfInBounds i true).getD f false = false := by
            cases hq : (l.setIfInBounds i true).getD f false with
            | false => rfl
            | true => exact absurd (fun k hk => if e : k = f then e ▸ hq else hall2 k hk e) hall
          exact Or.inr (Or.inl ⟨hff, hall2, h02, H2, hu2 hff⟩)
        · obtain ⟨k, hk⟩ := Classical.not_forall.1 hall2
          obtain ⟨hk1, hk2⟩ := Classical.not_imp.1 hk
          obtain ⟨hk3, hk4⟩ := Classical.not_imp.1 hk2
          exact Or.inl ⟨H2, hu2, h02, k, hk1, hk3, by simpa using hk4⟩
    rcases H with ⟨H, hu, h0, i0, hi0, hif0, h00⟩ | ⟨hff, hall, h0, H, hu⟩ | ⟨hff, hall, h0, h5⟩ | ⟨j, h1, h2, h3, h4, h5⟩
    · by_cases hn : i < n
      · exact hone H hu h0 hn
      · exfalso
        have := (if e : i = n then tailF_first htl hcl (e ▸ hdd) i0 hi0 hif0 else tailF_rest htl hcl hin (by omega) hdd i0 (by omega))
        rw [h00] at this
        cases this
    · by_cases hn : i < n
      · exact hone H (fun _ => hu) h0 hn
      · have hin2 : i = n := by
          rcases Nat.lt_or_ge n i with h | h
          · have h6 := tailF_rest htl hcl hin h hdd f (by omega)
            rw [hff] at h6; cases h6
          · omega
        subst hin2
        have h5 := hfin2 _ _ _ H hall hu
        rw [wpOps_cons] at h5
        refine wpOp_mono (fun a' W' h' => ?_) h5
        refine ⟨by simp [hl], hcl2, Or.inr (Or.inr (Or.inl ⟨?_, fun k hk hkf => ?_, fun k hk => ?_, h'⟩))⟩
        · rw [lset (by omega)]; exact hff
        · rw [gset hil]
          split
          · rfl
          · exact hall k (by omega) hkf
        · rw [lset (by omega)]; exact h0 k (by omega)
    · have hif : i = f := by
        rcases Nat.lt_or_ge n i with h | h
        · have h6 := tailF_rest htl hcl hin h hdd f (by omega)
          rw [hff] at h6; cases h6
        · by_cases e : i = f
          · exact e
          · rw [hall i h e] at hfr2; cases hfr2
      subst hif
      rw [wpOps_cons] at h5
      refine wpOp_mono (fun a' W' h' => ?_) h5
      refine ⟨by simp [hl], hcl2, Or.inr (Or.inr (Or.inr ⟨n + 1, by omega, by omega, fun k hk => ?_, fun k hk => ?_, h'⟩))⟩
      · rw [gset hil]
        split
        · rfl
        · exact hall k (by omega) (by omega)
      · rw [lset (by omega)]; exact h0 k (by omega)
    · have hij : i = j := by
        rcases Nat.lt_trichotomy i j with h | h | h
        · rw [h3 i h] at hfr2; cases hfr2
        · exact h
        · have h6 := tailF_rest htl hcl hin (by omega) hdd j h
          rw [h4 j (Nat.le_refl _)] at h6
          cases h6
      subst hij
      have e : ops.size - i = (ops.size - (i + 1)) + 1 := by omega
      rw [e, List.range'_succ, wpOps_cons] at h5
      refine wpOp_mono (fun a' W' h' => ?_) h5
      refine ⟨by simp [hl], hcl2, Or.inr (Or.inr (Or.inr ⟨i + 1, by omega, by omega, fun k hk => ?_, fun k hk => ?_, h'⟩))⟩
      · rw [gset hil]
        split
        · rfl
        · exact h3 k (by omega)
      · rw [lset (by omega)]
        exact h4 k (by omega)
  · simp only [unl, Array.toList_replicate]
    exact Nat.le_trans (List.length_filter_le _ _) (by simp)
  · have hrep : ∀ j, (Array.replicate ops.size false).getD j false = false := fun j => by simp [Array.getD_eq_getD_getElem?, Array.getElem?_replicate]; split <;> rfl
    have H0 : TI ops.size n ds R a0 w (Array.replicate ops.size false) a0 w.drew := { len := by simp, df := rfl, sz := rfl, rest := fun _ _ => rfl, hb := (Below.refl _ w).drew, val := fun i _ h => absurd ((hrep _).symm.trans h) (by decide) }
    refine ⟨by simp, fun m h => absurd ((hrep _).symm.trans h) (by decide), ?_⟩
    by_cases hn : ∃ i, i < n ∧ i ≠ f
    · obtain ⟨i, h1, h2⟩ := hn
      exact Or.inl ⟨H0, fun _ => rfl, fun i _ => hrep i, i, h1, h2, hrep i⟩
    · exact Or.inr (Or.inl ⟨hrep f, fun i h1 h2 => absurd ⟨i, h1, h2⟩ hn, fun i _ => hrep i, H0, rfl⟩)
theorem wpOps_of_list {P : Program} {ops : Array Oper} {Q : Exit → Act → World → Prop} : ∀ (is : List Nat) (os : List Oper), is.map (fun i => ops[i]?) = os.map some → ∀ a w, wpList P ops Q os a w → wpOps P ops Q is a w
  | [], [], _, _, _, h => h
  | [], _ :: _, e, _, _, _ => by cases e
  | _ :: _, [], e, _, _, _ => by cases e
  | i :: is, o :: os, e, a, w, h => by
    simp only [List.map_cons, List.cons.injEq] at e
    rw [wpOps_cons]
    unfold wpOp
    rw [e.1]
    unfold wpList at h
    have ih := wpOps_of_list (P := P) (Q := Q) is os e.2
    simp only
    split
    · next hw =>
      rw [if_pos hw] at h
      rcases h with h | h
      · exact Or.inl (Oper.wp_mono (fun a w => ih a w) h)
      · exact Or.inr h
    · next hw =>
      rw [if_neg hw] at h
      exact ih _ _ h
def pickS : List (Nat × (Value → World → Prop)) → Nat → Option (Value → World → Prop)
  | [], _ => none
  | x :: l, i => if i = x.1 then some x.2 else pickS l i
def mixR (S : List (Nat × (Value → World → Prop))) (L : List Value) (i : Nat) (v : Value) (W : World) : Prop := match pickS S i with | some f => f v W | none => v = L.getD i undef
theorem pickS_mem {S : List (Nat × (Value → World → Prop))} {i : Nat} {f : Value → World → Prop} (h : pickS S i = some f) : ∃ x ∈ S, x.2 = f := by
  induction S with
  | nil => cases h
  | cons x S ih =>
    unfold pickS at h
    split at h
    · exact ⟨x, List.mem_cons_self, Option.some.inj h⟩
    · obtain ⟨y, h1, h2⟩ := ih h
      exact ⟨y, List.mem_cons_of_mem _ h1, h2⟩
theorem stab_nil : ∀ x ∈ ([] : List (Nat × (Value → World → Prop))), ∀ v W W', x.2 v W → Below W.heap.size W W' → x.2 v W' := fun _ h => (by cases h)
theorem stab_cons {i : Nat} {f : Value → World → Prop} {S : List (Nat × (Value → World → Prop))} (hf : ∀ v W W', f v W → Below W.heap.size W W' → f v W') (hS : ∀ x ∈ S, ∀ v W W', x.2 v W → Below W.heap.size W W' → x.2 v W') : ∀ x ∈ (i, f) :: S, ∀ v W W', x.2 v W → Below W.heap.size W W' → x.2 v W' := by
  intro x hx
  rcases List.mem_cons.1 hx with rfl | h
  · exact hf
  · exact hS x h
theorem mixR_later (S : List (Nat × (Value → World → Prop))) (L : List Value) (hS : ∀ x ∈ S, ∀ v W W', x.2 v W → Below W.heap.size W W' → x.2 v W') : ∀ i v W W', mixR S L i v W → Below W.heap.size W W' → mixR S L i v W' := by
  intro i v W W' h hb
  unfold mixR at h ⊢
  cases hp : pickS S i with
  | none => rw [hp] at h; exact h
  | some f =>
    rw [hp] at h
    obtain ⟨x, h1, rfl⟩ := pickS_mem hp
    exact hS x h1 v W W' h hb
end Go.Proofs.YtaocbkloafhmeaaDoor
