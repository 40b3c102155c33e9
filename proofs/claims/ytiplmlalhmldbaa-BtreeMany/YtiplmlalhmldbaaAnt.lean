/- any_tail with blocks that are told apart: what one operation makes anew is no other one's. -/
import Derived.Test.YtiplmlalhmldbaaAny
namespace Go.Proofs.Ytiplmlalhmldbaa
open Go.RowKit
def AP (n : Nat) (ds : Nat → Nat) (bx : Nat → Bool) (Apart : Value → Value → Prop) (l : Array Bool) (a : Act) : Prop := ∀ i j, i < n → j < n → i ≠ j → bx i = true → bx j = true → l.getD i false = true → l.getD j false = true → Apart (a.tmps.getD (ds i) undef) (a.tmps.getD (ds j) undef)
theorem AP.step {N n : Nat} {ds : Nat → Nat} {R : Nat → Value → World → Prop} {bx : Nat → Bool} {Nw : Value → World → Prop} {Apart : Value → Value → Prop} {a0 : Act} {w0 : World} {l : Array Bool} {a : Act} {w : World} (H : TI N n ds R a0 w0 l a w) (HA : AP n ds bx Apart l a)
    (hinj : ∀ i j, i < n → j < n → ds i = ds j → i = j) (hlt : ∀ i, i < n → ds i < a0.tmps.size) (hN : n ≤ N) {i : Nat} (hi : i < n) {v : Value}
    (hap : ∀ i v u W, bx i = true → R i u W → Nw v W → Apart v u ∧ Apart u v) (hnw : bx i = true → Nw v w) : AP n ds bx Apart (l.setIfInBounds i true) (a.put (some (ds i)) v) := by
  have hil : i < l.size := by rw [H.len]; omega
  have hid : ds i < a.tmps.size := by rw [H.sz]; exact hlt i hi
  intro x y hx hy hxy bxx bxy lx ly
  rw [gset hil] at lx ly
  by_cases e1 : i = x
  · subst e1
    rw [if_neg hxy] at ly
    rw [put_eq hid, put_ne (fun h2 => hxy (hinj i y hi hy h2))]
    exact (hap y v _ w bxy (H.val y hy ly) (hnw bxx)).1
  · rw [if_neg e1] at lx
    by_cases e2 : i = y
    · subst e2
      rw [put_eq hid, put_ne (fun h2 => e1 (hinj i x hi hx h2))]
      exact (hap x v _ w bxx (H.val x hx lx) (hnw bxy)).2
    · rw [if_neg e2] at ly
      rw [put_ne (fun h2 => e1 (hinj i x hi hx h2)), put_ne (fun h2 => e2 (hinj i y hi hy h2))]
      exact HA x y hx hy hxy bxx bxy lx ly
theorem any_tail2 {P : Program} {ops : Array Oper} {Q : Exit → Act → World → Prop} {id : Nat} {a0 : Act} {w : World} (hm : P.follows .mixedOrders = true) (n : Nat) (hsz : n ≤ ops.size) (ds : Nat → Nat) (R : Nat → Value → World → Prop) (bx : Nat → Bool) (Nw : Value → World → Prop) (Apart : Value → Value → Prop)
    (hap : ∀ i v u W, bx i = true → R i u W → Nw v W → Apart v u ∧ Apart u v)
    (hdep : depB ops = true) (htl : tailB ops n = true) (hinj : injB ds n = true) (hlt : sltB ds n a0.tmps.size = true)
    (hR : ∀ i v W W', R i v W → Below W.heap.size W W' → R i v W')
    (hstep : ∀ i, i < n → ∀ (a : Act) (W : World), (∀ j, (∀ i, i < n → ds i ≠ j) → a.eval (.tmp j) = a0.eval (.tmp j)) → Below w.heap.size w W → (∀ k ∈ depOf ops i, R k (a.eval (.tmp (ds k))) W) →
      ∃ o, ops[i]? = some o ∧ o.guard = none ∧ o.dst = some (ds i) ∧ o.wp P a W (fun a' W' => ∃ v, a' = a.put o.dst v ∧ Below W.heap.size W W' ∧ R i v W' ∧ (bx i = true → Nw v W)) Q)
    (hQ : ∀ (V : Nat → Value) (W : World), Below w.heap.size w W → (∀ i, i < n → R i (V i) W) → (∀ i j, i < n → j < n → i ≠ j → bx i = true → bx j = true → Apart (V i) (V j)) → wpList P ops Q (ops.toList.drop n) (putAll a0 ds V n) W) :
    (Code.region id ops true).wp P Q a0 w := by
  have hdep' : ∀ i, i < ops.size → ∀ k ∈ depOf ops i, k < i := by
    intro i hi k hk
    unfold depB at hdep
    simp only [List.all_eq_true, List.mem_range, decide_eq_true_eq] at hdep
    exact hdep i (by omega) k hk
  have hinj' : ∀ i j, i < n → j < n → ds i = ds j → i = j := by
    unfold injB at hinj
    simp only [List.all_eq_true, List.mem_range, decide_eq_true_eq] at hinj
    exact fun i j hi hj => hinj i hi j hj
  have hlt' : ∀ i, i < n → ds i < a0.tmps.size := by
    unfold sltB at hlt
    simp only [List.all_eq_true, List.mem_range, decide_eq_true_eq] at hlt
    exact hlt
  have hops : ∀ a W, wpList P ops Q (ops.toList.drop n) a W → wpOps P ops Q (List.range' n (ops.size - n)) a W := by
    intro a W h
    have e := wpOps_eq_wpList (P := P) (ops := ops) (Q := Q) (ops.toList.drop n) n (fun j => by rw [List.getElem?_drop]; simp)
    rw [List.length_drop, Array.length_toList] at e
    rw [e]
    exact h
  have hfin : ∀ (l : Array Bool) (a : Act) (W : World), TI ops.size n ds R a0 w l a W → AP n ds bx Apart l a → (∀ i, i < n → l.getD i false = true) → wpOps P ops Q (List.range' n (ops.size - n)) a W := by
    intro l a W H HA tt
    have he : a = putAll a0 ds (fun i => a.tmps.getD (ds i) undef) n := by
      refine act_ext (H.df.trans (putAll_df _ _ _ _).symm) (H.sz.trans (putAll_sz _ _ _ _).symm) (fun j => ?_)
      by_cases hj : ∃ i, i < n ∧ ds i = j
      · obtain ⟨i, hi, rfl⟩ := hj
        rw [putAll_eq a0 ds _ i n hinj' hlt' hi]
      · have hj' : ∀ i, i < n → ds i ≠ j := fun i hi e => hj ⟨i, hi, e⟩
        rw [putAll_ne a0 ds _ j n hj']
        exact H.rest j hj'
    have h2 := hops _ _ (hQ (fun i => a.tmps.getD (ds i) undef) W H.hb (fun i hi => H.val i hi (tt i hi)) (fun i j hi hj hij h1 h2 => HA i j hi hj hij h1 h2 (tt i hi) (tt j hj)))
    rw [← he] at h2
    exact h2
  refine wp_region_any hm ?_
  refine any_inv (fun l a W => l.size = ops.size ∧ (∀ m, l.getD m false = true → ∀ k ∈ depOf ops m, l.getD k false = true) ∧
    ((TI ops.size n ds R a0 w l a W ∧ AP n ds bx Apart l a ∧ (∀ i, n ≤ i → l.getD i false = false) ∧ ∃ i, i < n ∧ l.getD i false = false) ∨
      ∃ j, n ≤ j ∧ j ≤ ops.size ∧ (∀ i, i < j → l.getD i false = true) ∧ (∀ i, j ≤ i → l.getD i false = false) ∧ wpOps P ops Q (List.range' j (ops.size - j)) a W)) ?_ ?_ ?_ _ _ _ _ ?_ ?_
  · intro l a W H
    exact H.1
  · intro l a W H hr
    obtain ⟨hl, hcl, H⟩ := H
    have tt := all_done rfl hl hdep' hr
    rcases H with ⟨_, _, _, i, hi, h0⟩ | ⟨j, h1, h2, h3, h4, h5⟩
    · rw [tt i (by omega)] at h0; cases h0
    · have hj : j = ops.size := by
        rcases Nat.lt_or_ge j ops.size with h | h
        · have h6 := h4 j (Nat.le_refl _)
          rw [tt j h] at h6
          cases h6
        · omega
      subst hj
      rw [Nat.sub_self] at h5
      simpa [wpOps] using h5
  · intro l a W H i hi
    obtain ⟨hl, hcl, H⟩ := H
    obtain ⟨hin, hfr, hdd⟩ := mem_ready.1 hi
    have hil : i < l.size := by omega
    have hcl2 : ∀ m, (l.setIfInBounds i true).getD m false = true → ∀ k ∈ depOf ops m, (l.setIfInBounds i true).getD k false = true := by
      intro m hm2 k hk
      rw [gset hil] at hm2 ⊢
      by_cases e : i = m
      · subst e
        split
        · rfl
        · exact hdd k hk
      · rw [if_neg e] at hm2
        split
        · rfl
        · exact hcl m hm2 k hk
    have hfr2 := fresh_at hfr
    rcases H with ⟨H, HA, h0, i0, hi0, h00⟩ | ⟨j, h1, h2, h3, h4, h5⟩
    · by_cases hn : i < n
      · obtain ⟨o, ho, hg, hd, hw⟩ := hstep i hn a W (fun j hj => H.rest j hj) H.hb (fun k hk => H.val k (by have := hdep' i hin k hk; omega) (hdd k hk))
        refine wpOp_of ho hg (Oper.wp_mono ?_ hw)
        rintro a' W' ⟨v, rfl, hb, hv, hnw⟩
        rw [hd]
        have H2 := H.step hR hinj' hlt' hsz hn hb hv
        have HA2 := AP.step H HA hinj' hlt' hsz hn hap hnw
        refine ⟨H2.len, hcl2, ?_⟩
        by_cases hall : ∀ k, k < n → (l.setIfInBounds i true).getD k false = true
        · refine Or.inr ⟨n, Nat.le_refl _, hsz, hall, fun k hk => ?_, hfin _ _ _ H2 HA2 hall⟩
          rw [lset (by omega)]
          exact h0 k hk
        · refine Or.inl ⟨H2, HA2, fun k hk => ?_, ?_⟩
          · rw [lset (by omega)]
            exact h0 k hk
          · obtain ⟨k, hk⟩ := Classical.not_forall.1 hall
            obtain ⟨hk1, hk2⟩ := Classical.not_imp.1 hk
            exact ⟨k, hk1, by simpa using hk2⟩
      · have := tail_ready htl hcl hin (by omega) hdd i0 (by omega)
        rw [h00] at this
        cases this
    · have hij : i = j := by
        rcases Nat.lt_trichotomy i j with h | h | h
        · rw [h3 i h] at hfr2; cases hfr2
        · exact h
        · have h6 := tail_ready htl hcl hin (by omega) hdd j h
          rw [h4 j (Nat.le_refl _)] at h6
          cases h6
      subst hij
      have e : ops.size - i = (ops.size - (i + 1)) + 1 := by omega
      rw [e, List.range'_succ, wpOps_cons] at h5
      refine wpOp_mono (fun a' W' h' => ?_) h5
      refine ⟨by simp [hl], hcl2, Or.inr ⟨i + 1, by omega, by omega, fun k hk => ?_, fun k hk => ?_, h'⟩⟩
      · rw [gset hil]
        split
        · rfl
        · exact h3 k (by omega)
      · rw [lset (by omega)]
        exact h4 k (by omega)
  · simp only [unl, Array.toList_replicate]
    exact Nat.le_trans (List.length_filter_le _ _) (by simp)
  · have hrep : ∀ j, (Array.replicate ops.size false).getD j false = false := fun j => by simp [Array.getD_eq_getD_getElem?, Array.getElem?_replicate]; split <;> rfl
    have H0 : TI ops.size n ds R a0 w (Array.replicate ops.size false) a0 w.drew := { len := by simp, df := rfl, sz := rfl, rest := fun _ _ => rfl, hb := (Below.refl _ w).drew, val := fun i _ h => absurd ((hrep _).symm.trans h) (by decide) }
    have HA0 : AP n ds bx Apart (Array.replicate ops.size false) a0 := fun i j _ _ _ _ _ h _ => absurd ((hrep _).symm.trans h) (by decide)
    refine ⟨by simp, fun m h => absurd ((hrep _).symm.trans h) (by decide), ?_⟩
    by_cases hn : n = 0
    · refine Or.inr ⟨0, by omega, by omega, fun i hi => absurd hi (by omega), fun i _ => hrep i, ?_⟩
      have := hfin _ _ _ H0 HA0 (fun i hi => absurd hi (by omega))
      rw [hn] at this
      exact this
    · exact Or.inl ⟨H0, HA0, fun i _ => hrep i, 0, by omega, hrep 0⟩
end Go.Proofs.Ytiplmlalhmldbaa
