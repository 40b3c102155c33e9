/- any_tail with rows that are taken over: an append may write into the row that it takes, which nobody else holds. -/
import Derived.Test.YtiplmlalhmldbaaAnt
import Derived.Laws.AppendOwn
import Derived.Below
namespace Go.Proofs.Ytiplmlalhmldbaa
open Go.RowKit
def Liv (con : Nat → Option Nat) (n : Nat) (l : Array Bool) (i : Nat) : Prop := l.getD i false = true ∧ ∀ j, j < n → con j = some i → l.getD j false = false
structure TJ (N n : Nat) (ds : Nat → Nat) (R : Nat → Value → World → Prop) (bx : Nat → Bool) (con : Nat → Option Nat) (a0 : Act) (w0 : World) (l : Array Bool) (a : Act) (w : World) : Prop where
  len : l.size = N
  df : a.defers = a0.defers
  sz : a.tmps.size = a0.tmps.size
  rest : ∀ j, (∀ i, i < n → ds i ≠ j) → a.tmps.getD j undef = a0.tmps.getD j undef
  hb : Below w0.heap.size w0 w
  val : ∀ i, i < n → Liv con n l i → R i (a.tmps.getD (ds i) undef) w
  own : ∀ i, i < n → Liv con n l i → bx i = true → ∀ g, (a.tmps.getD (ds i) undef).ownBlock = some g → w0.heap.size ≤ g ∧ g < w.heap.size
  apt : ∀ i j, i < n → j < n → i ≠ j → Liv con n l i → Liv con n l j → bx i = true → bx j = true → ∀ g, (a.tmps.getD (ds i) undef).ownBlock = some g → (a.tmps.getD (ds j) undef).ownBlock ≠ some g
/- What is taken over is taken over once, by the one operation that waits for it. -/
def conB (ops : Array Oper) (n : Nat) (bx : Nat → Bool) (con : Nat → Option Nat) : Bool :=
  (List.range n).all fun j => (match con j with | none => true | some k => decide (k < n) && bx k && bx j && (depOf ops j).contains k && decide (k ≠ j)) &&
    (List.range n).all fun i => (depOf ops i).all fun k => decide (con j = some k → j = i)
theorem conB_at {ops : Array Oper} {n : Nat} {bx : Nat → Bool} {con : Nat → Option Nat} (h : conB ops n bx con = true) :
    (∀ j, j < n → ∀ k, con j = some k → k < n ∧ bx k = true ∧ bx j = true ∧ k ∈ depOf ops j ∧ k ≠ j) ∧ (∀ j, j < n → ∀ i, i < n → ∀ k ∈ depOf ops i, con j = some k → j = i) := by
  unfold conB at h
  simp only [List.all_eq_true, List.mem_range, Bool.and_eq_true, decide_eq_true_eq] at h
  refine ⟨fun j hj k hk => ?_, fun j hj i hi k hk e => (h j hj).2 i hi k hk e⟩
  have h1 := (h j hj).1
  rw [hk] at h1
  simp only [Bool.and_eq_true, decide_eq_true_eq, List.contains_iff_mem] at h1
  exact ⟨h1.1.1.1.1, h1.1.1.1.2, h1.1.1.2, h1.1.2, h1.2⟩
theorem TJ.step {ops : Array Oper} {N n : Nat} {ds : Nat → Nat} {R : Nat → Value → World → Prop} {bx : Nat → Bool} {con : Nat → Option Nat} {a0 : Act} {w0 : World} {l : Array Bool} {a : Act} {w w' : World} (H : TJ N n ds R bx con a0 w0 l a w)
    (hcon : conB ops n bx con = true)
    (hR0 : ∀ i u W W' row, bx i = false → R i u W → World.grownBy W W' row → (∀ g, row = some g → w0.heap.size ≤ g) → Below w0.heap.size w0 W → R i u W')
    (hR1 : ∀ i u W W' row, bx i = true → R i u W → World.grownBy W W' row → (∀ g, row = some g → u.ownBlock ≠ some g) → R i u W')
    (hinj : ∀ i j, i < n → j < n → ds i = ds j → i = j) (hlt : ∀ i, i < n → ds i < a0.tmps.size) (hN : n ≤ N) {i : Nat} (hi : i < n) (hfr : l.getD i false = false) (hdd : ∀ k ∈ depOf ops i, l.getD k false = true)
    {v : Value} {row : Option Nat} (hg : w.grownBy w' row) (hrow : ∀ g, row = some g → ∃ k, con i = some k ∧ (a.tmps.getD (ds k) undef).ownBlock = some g) (hv : R i v w')
    (hnew : bx i = true → ∀ g, v.ownBlock = some g → g < w'.heap.size ∧ (w.heap.size ≤ g ∨ ∃ k, con i = some k ∧ (a.tmps.getD (ds k) undef).ownBlock = some g)) :
    TJ N n ds R bx con a0 w0 (l.setIfInBounds i true) (a.put (some (ds i)) v) w' := by
  have hil : i < l.size := by rw [H.len]; omega
  have hid : ds i < a.tmps.size := by rw [H.sz]; exact hlt i hi
  obtain ⟨c1, c2⟩ := conB_at hcon
  have hkl : ∀ k, con i = some k → k < n ∧ bx k = true ∧ k ≠ i ∧ Liv con n l k := by
    intro k hk
    obtain ⟨x1, x2, _, x4, x5⟩ := c1 i hi k hk
    refine ⟨x1, x2, x5, hdd k x4, fun j hj hj2 => ?_⟩
    have := c2 j hj i hi k x4 hj2
    rw [this]; exact hfr
  have hlv : ∀ m, m ≠ i → m < n → Liv con n (l.setIfInBounds i true) m → Liv con n l m ∧ con i ≠ some m := by
    intro m hm _ h
    refine ⟨⟨?_, fun j hj hj2 => ?_⟩, fun e => ?_⟩
    · have := h.1
      rwa [gset hil, if_neg (Ne.symm hm)] at this
    · have h2 := h.2 j hj hj2
      rw [gset hil] at h2
      split at h2
      · cases h2
      · exact h2
    · have h2 := h.2 i hi e
      rw [gset hil, if_pos rfl] at h2
      cases h2
  have hrB : ∀ g, row = some g → w0.heap.size ≤ g := by
    intro g hgr
    obtain ⟨k, hk, hk2⟩ := hrow g hgr
    obtain ⟨x1, x2, _, x4⟩ := hkl k hk
    exact (H.own k x1 x4 x2 g hk2).1
  have hoth : ∀ m, m ≠ i → m < n → Liv con n (l.setIfInBounds i true) m → bx m = true → ∀ k, con i = some k → ∀ g, (a.tmps.getD (ds k) undef).ownBlock = some g → (a.tmps.getD (ds m) undef).ownBlock ≠ some g := by
    intro m hm hmn hL hbm k hk g hkg
    obtain ⟨h1, h2⟩ := hlv m hm hmn hL
    obtain ⟨x1, x2, _, x4⟩ := hkl k hk
    exact H.apt k m x1 hmn (fun e => h2 (e ▸ hk)) x4 h1 x2 hbm g hkg
  refine { len := by simp [H.len], df := H.df, sz := (put_size' _ _ _).trans H.sz, rest := fun j hj => (put_ne (hj i hi)).trans (H.rest j hj), hb := H.hb.grown hg H.hb.size hrB, val := fun m hm hL => ?_, own := fun m hm hL hbm g => ?_, apt := fun x y hx hy hxy hLx hLy bxx bxy g => ?_ }
  · by_cases e : m = i
    · subst e
      rw [put_eq hid]
      exact hv
    · rw [put_ne (fun h2 => e (hinj i m hi hm h2).symm)]
      have hL2 := hlv m e hm hL
      cases hbm : bx m with
      | false => exact hR0 m _ _ _ row hbm (H.val m hm hL2.1) hg hrB H.hb
      | true =>
        refine hR1 m _ _ _ row hbm (H.val m hm hL2.1) hg (fun g hgr => ?_)
        obtain ⟨k, hk, hk2⟩ := hrow g hgr
        exact hoth m e hm hL hbm k hk g hk2
  · by_cases e : m = i
    · subst e
      rw [put_eq hid]
      intro h
      obtain ⟨y1, y2⟩ := hnew hbm g h
      refine ⟨?_, y1⟩
      rcases y2 with y2 | ⟨k, hk, hk2⟩
      · exact Nat.le_trans H.hb.size y2
      · obtain ⟨x1, x2, _, x4⟩ := hkl k hk
        exact (H.own k x1 x4 x2 g hk2).1
    · rw [put_ne (fun h2 => e (hinj i m hi hm h2).symm)]
      intro h
      have h2 := H.own m hm (hlv m e hm hL).1 hbm g h
      exact ⟨h2.1, Nat.lt_of_lt_of_le h2.2 hg.size⟩
  · by_cases e1 : x = i
    · subst e1
      rw [put_eq hid, put_ne (fun h2 => hxy (hinj x y hx hy h2))]
      intro h h3
      have e2 : y ≠ x := fun e => hxy e.symm
      obtain ⟨y1, y2⟩ := hnew bxx g h
      rcases y2 with y2 | ⟨k, hk, hk2⟩
      · have := (H.own y hy (hlv y e2 hy hLy).1 bxy g h3).2
        omega
      · exact hoth y e2 hy hLy bxy k hk g hk2 h3
    · rw [put_ne (fun h2 => e1 (hinj i x hi hx h2).symm)]
      by_cases e2 : y = i
      · subst e2
        rw [put_eq hid]
        intro h h3
        obtain ⟨y1, y2⟩ := hnew bxy g h3
        rcases y2 with y2 | ⟨k, hk, hk2⟩
        · have := (H.own x hx (hlv x e1 hx hLx).1 bxx g h).2
          omega
        · exact hoth x e1 hx hLx bxx k hk g hk2 h
      · rw [put_ne (fun h2 => e2 (hinj i y hi hy h2).symm)]
        exact H.apt x y hx hy hxy (hlv x e1 hx hLx).1 (hlv y e2 hy hLy).1 bxx bxy g
theorem any_tail3 {P : Program} {ops : Array Oper} {Q : Exit → Act → World → Prop} {id : Nat} {a0 : Act} {w : World} (hm : P.follows .mixedOrders = true) (n : Nat) (hsz : n ≤ ops.size) (ds : Nat → Nat) (R : Nat → Value → World → Prop) (bx : Nat → Bool) (con : Nat → Option Nat)
    (hdep : depB ops = true) (htl : tailB ops n = true) (hinj : injB ds n = true) (hlt : sltB ds n a0.tmps.size = true) (hcon : conB ops n bx con = true)
    (hR0 : ∀ i u W W' row, bx i = false → R i u W → World.grownBy W W' row → (∀ g, row = some g → w.heap.size ≤ g) → Below w.heap.size w W → R i u W')
    (hR1 : ∀ i u W W' row, bx i = true → R i u W → World.grownBy W W' row → (∀ g, row = some g → u.ownBlock ≠ some g) → R i u W')
    (hstep : ∀ i, i < n → ∀ (a : Act) (W : World), (∀ j, (∀ i, i < n → ds i ≠ j) → a.eval (.tmp j) = a0.eval (.tmp j)) → Below w.heap.size w W → (∀ k ∈ depOf ops i, R k (a.eval (.tmp (ds k))) W) →
      ∃ o, ops[i]? = some o ∧ o.guard = none ∧ o.dst = some (ds i) ∧ o.wp P a W (fun a' W' => ∃ v row, a' = a.put o.dst v ∧ W.grownBy W' row ∧ (∀ g, row = some g → ∃ k, con i = some k ∧ (a.eval (.tmp (ds k))).ownBlock = some g) ∧ R i v W' ∧
        (bx i = true → ∀ g, v.ownBlock = some g → g < W'.heap.size ∧ (W.heap.size ≤ g ∨ ∃ k, con i = some k ∧ (a.eval (.tmp (ds k))).ownBlock = some g))) Q)
    (hQ : ∀ (V : Nat → Value) (W : World), Below w.heap.size w W → (∀ i, i < n → (∀ j, j < n → con j ≠ some i) → R i (V i) W) → wpList P ops Q (ops.toList.drop n) (putAll a0 ds V n) W) :
    (Code.region id ops true).wp P Q a0 w := by
  have hdep' : ∀ i, i < ops.size → ∀ k ∈ depOf ops i, k < i := by
    intro i hi k hk
    unfold depB at hdep
    simp only [List.all_eq_true, List.mem_range, decide_eq_true_eq] at hdep
    exact hdep i (by omega) k hk
  have hinj' : ∀ i j, i < n → j < n → ds i = ds j → i = j := by
    unfold injB at hinj
    simp only [List.all_eq_true, List.mem_range, decide_eq_true_eq] at hinj
    exact fun i j hi hj => hinj i hi j hj
  have hlt' : ∀ i, i < n → ds i < a0.tmps.size := by
    unfold sltB at hlt
    simp only [List.all_eq_true, List.mem_range, decide_eq_true_eq] at hlt
    exact hlt
  have hops : ∀ a W, wpList P ops Q (ops.toList.drop n) a W → wpOps P ops Q (List.range' n (ops.size - n)) a W := by
    intro a W h
    have e := wpOps_eq_wpList (P := P) (ops := ops) (Q := Q) (ops.toList.drop n) n (fun j => by rw [List.getElem?_drop]; simp)
    rw [List.length_drop, Array.length_toList] at e
    rw [e]
    exact h
  have hfin : ∀ (l : Array Bool) (a : Act) (W : World), TJ ops.size n ds R bx con a0 w l a W → (∀ i, i < n → l.getD i false = true) → wpOps P ops Q (List.range' n (ops.size - n)) a W := by
    intro l a W H tt
    have he : a = putAll a0 ds (fun i => a.tmps.getD (ds i) undef) n := by
      refine act_ext (H.df.trans (putAll_df _ _ _ _).symm) (H.sz.trans (putAll_sz _ _ _ _).symm) (fun j => ?_)
      by_cases hj : ∃ i, i < n ∧ ds i = j
      · obtain ⟨i, hi, rfl⟩ := hj
        rw [putAll_eq a0 ds _ i n hinj' hlt' hi]
      · have hj' : ∀ i, i < n → ds i ≠ j := fun i hi e => hj ⟨i, hi, e⟩
        rw [putAll_ne a0 ds _ j n hj']
        exact H.rest j hj'
    have h2 := hops _ _ (hQ (fun i => a.tmps.getD (ds i) undef) W H.hb (fun i hi hc => H.val i hi ⟨tt i hi, fun j hj e => absurd e (hc j hj)⟩))
    rw [← he] at h2
    exact h2
  refine wp_region_any hm ?_
  refine any_inv (fun l a W => l.size = ops.size ∧ (∀ m, l.getD m false = true → ∀ k ∈ depOf ops m, l.getD k false = true) ∧
    ((TJ ops.size n ds R bx con a0 w l a W ∧ (∀ i, n ≤ i → l.getD i false = false) ∧ ∃ i, i < n ∧ l.getD i false = false) ∨
      ∃ j, n ≤ j ∧ j ≤ ops.size ∧ (∀ i, i < j → l.getD i false = true) ∧ (∀ i, j ≤ i → l.getD i false = false) ∧ wpOps P ops Q (List.range' j (ops.size - j)) a W)) ?_ ?_ ?_ _ _ _ _ ?_ ?_
  · intro l a W H
    exact H.1
  · intro l a W H hr
    obtain ⟨hl, hcl, H⟩ := H
    have tt := all_done rfl hl hdep' hr
    rcases H with ⟨_, _, i, hi, h0⟩ | ⟨j, h1, h2, h3, h4, h5⟩
    · rw [tt i (by omega)] at h0; cases h0
    · have hj : j = ops.size := by
        rcases Nat.lt_or_ge j ops.size with h | h
        · have h6 := h4 j (Nat.le_refl _)
          rw [tt j h] at h6
          cases h6
        · omega
      subst hj
      rw [Nat.sub_self] at h5
      simpa [wpOps] using h5
  · intro l a W H i hi
    obtain ⟨hl, hcl, H⟩ := H
    obtain ⟨hin, hfr, hdd⟩ := mem_ready.1 hi
    have hil : i < l.size := by omega
    have hcl2 : ∀ m, (l.setIfInBounds i true).getD m false = true → ∀ k ∈ depOf ops m, (l.setIfInBounds i true).getD k false = true := by
      intro m hm2 k hk
      rw [gset hil] at hm2 ⊢
      by_cases e : i = m
      · subst e
        split
        · rfl
        · exact hdd k hk
      · rw [if_neg e] at hm2
        split
        · rfl
        · exact hcl m hm2 k hk
    have hfr2 := fresh_at hfr
    rcases H with ⟨H, h0, i0, hi0, h00⟩ | ⟨j, h1, h2, h3, h4, h5⟩
    · by_cases hn : i < n
      · obtain ⟨o, ho, hg, hd, hw⟩ := hstep i hn a W (fun j hj => H.rest j hj) H.hb (fun k hk => H.val k (by have := hdep' i hin k hk; omega) ⟨hdd k hk, fun j hj e => by rw [(conB_at hcon).2 j hj i hn k hk e]; exact hfr2⟩)
        refine wpOp_of ho hg (Oper.wp_mono ?_ hw)
        rintro a' W' ⟨v, row, rfl, hgr, hrow, hv, hnw⟩
        rw [hd]
        have H2 := H.step hcon hR0 hR1 hinj' hlt' hsz hn hfr2 hdd hgr hrow hv hnw
        refine ⟨H2.len, hcl2, ?_⟩
        by_cases hall : ∀ k, k < n → (l.setIfInBounds i true).getD k false = true
        · refine Or.inr ⟨n, Nat.le_refl _, hsz, hall, fun k hk => ?_, hfin _ _ _ H2 hall⟩
          rw [lset (by omega)]
          exact h0 k hk
        · refine Or.inl ⟨H2, fun k hk => ?_, ?_⟩
          · rw [lset (by omega)]
            exact h0 k hk
          · obtain ⟨k, hk⟩ := Classical.not_forall.1 hall
            obtain ⟨hk1, hk2⟩ := Classical.not_imp.1 hk
            exact ⟨k, hk1, by simpa using hk2⟩
      · have := tail_ready htl hcl hin (by omega) hdd i0 (by omega)
        rw [h00] at this
        cases this
    · have hij : i = j := by
        rcases Nat.lt_trichotomy i j with h | h | h
        · rw [h3 i h] at hfr2; cases hfr2
        · exact h
        · have h6 := tail_ready htl hcl hin (by omega) hdd j h
          rw [h4 j (Nat.le_refl _)] at h6
          cases h6
      subst hij
      have e : ops.size - i = (ops.size - (i + 1)) + 1 := by omega
      rw [e, List.range'_succ, wpOps_cons] at h5
      refine wpOp_mono (fun a' W' h' => ?_) h5
      refine ⟨by simp [hl], hcl2, Or.inr ⟨i + 1, by omega, by omega, fun k hk => ?_, fun k hk => ?_, h'⟩⟩
      · rw [gset hil]
        split
        · rfl
        · exact h3 k (by omega)
      · rw [lset (by omega)]
        exact h4 k (by omega)
  · simp only [unl, Array.toList_replicate]
    exact Nat.le_trans (List.length_filter_le _ _) (by simp)
  · have hrep : ∀ j, (Array.replicate ops.size false).getD j false = false := fun j => by simp [Array.getD_eq_getD_getElem?, Array.getElem?_replicate]; split <;> rfl
    have H0 : TJ ops.size n ds R bx con a0 w (Array.replicate ops.size false) a0 w.drew := { len := by simp, df := rfl, sz := rfl, rest := fun _ _ => rfl, hb := (Below.refl _ w).drew, val := fun i _ h => absurd ((hrep _).symm.trans h.1) (by decide), own := fun i _ h => absurd ((hrep _).symm.trans h.1) (by decide), apt := fun i j _ _ _ h => absurd ((hrep _).symm.trans h.1) (by decide) }
    refine ⟨by simp, fun m h => absurd ((hrep _).symm.trans h) (by decide), ?_⟩
    by_cases hn : n = 0
    · refine Or.inr ⟨0, by omega, by omega, fun i hi => absurd hi (by omega), fun i _ => hrep i, ?_⟩
      have := hfin _ _ _ H0 (fun i hi => absurd hi (by omega))
      rw [hn] at this
      exact this
    · exact Or.inl ⟨H0, fun i _ => hrep i, 0, by omega, hrep 0⟩
end Go.Proofs.Ytiplmlalhmldbaa
