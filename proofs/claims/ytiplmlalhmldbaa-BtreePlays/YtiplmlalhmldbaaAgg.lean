/- A region whose order is drawn, with guards that all say yes: as any_region. -/
import Derived.Test.YtiplmlalhmldbaaAin
namespace Go.Proofs.Ytiplmlalhmldbaa
open Go.RowKit
theorem wpOp_want {P : Program} {ops : Array Oper} {Q : Exit → Act → World → Prop} {i : Nat} {o : Oper} {K : Act → World → Prop} {a : Act} {w : World} (ho : ops[i]? = some o) (hg : Region.wanted o (yielded ops a.tmps) = true) (h : o.wp P a w K Q) : wpOp P ops Q i K a w := by
  unfold wpOp
  rw [ho]
  simp only [hg, if_true]
  exact Or.inl h
theorem wpOp_skip {P : Program} {ops : Array Oper} {Q : Exit → Act → World → Prop} {i : Nat} {o : Oper} {K : Act → World → Prop} {a : Act} {w : World} (ho : ops[i]? = some o) (hg : Region.wanted o (yielded ops a.tmps) = false) (h : K (a.put o.dst undef) w) : wpOp P ops Q i K a w := by
  unfold wpOp
  rw [ho]
  simp only [hg]
  exact h
theorem any_regionG {P : Program} {ops : Array Oper} {Q : Exit → Act → World → Prop} {id : Nat} {a0 : Act} {w : World} (hm : P.follows .mixedOrders = true) (n : Nat) (hsz : ops.size = n) (ds : Nat → Nat) (R : Nat → Value → World → Prop)
    (hdep : depB ops = true) (hinj : injB ds n = true) (hlt : sltB ds n a0.tmps.size = true)
    (hR : ∀ i v W W', R i v W → Below W.heap.size W W' → R i v W')
    (hstep : ∀ i, i < n → ∀ (a : Act) (W : World), (∀ j, (∀ i, i < n → ds i ≠ j) → a.eval (.tmp j) = a0.eval (.tmp j)) → Below w.heap.size w W → (∀ k ∈ depOf ops i, R k (a.eval (.tmp (ds k))) W) →
      ∃ o, ops[i]? = some o ∧ o.dst = some (ds i) ∧ ((Region.wanted o (yielded ops a.tmps) = true ∧ o.wp P a W (fun a' W' => ∃ v, a' = a.put o.dst v ∧ Below W.heap.size W W' ∧ R i v W') Q) ∨ (Region.wanted o (yielded ops a.tmps) = false ∧ R i undef W)))
    (hQ : ∀ (V : Nat → Value) (W : World), Below w.heap.size w W → (∀ i, i < n → R i (V i) W) → Q .normal (putAll a0 ds V n) W) :
    (Code.region id ops true).wp P Q a0 w := by
  have hdep' : ∀ i, i < n → ∀ k ∈ depOf ops i, k < i := by
    intro i hi k hk
    unfold depB at hdep
    simp only [List.all_eq_true, List.mem_range, decide_eq_true_eq] at hdep
    exact hdep i (by omega) k hk
  have hinj' : ∀ i j, i < n → j < n → ds i = ds j → i = j := by
    unfold injB at hinj
    simp only [List.all_eq_true, List.mem_range, decide_eq_true_eq] at hinj
    exact fun i j hi hj => hinj i hi j hj
  have hlt' : ∀ i, i < n → ds i < a0.tmps.size := by
    unfold sltB at hlt
    simp only [List.all_eq_true, List.mem_range, decide_eq_true_eq] at hlt
    exact hlt
  refine wp_region_any hm ?_
  refine any_inv (fun l a W => AI n ds R a0 w l a W) ?_ ?_ ?_ _ _ _ _ ?_ ?_
  · intro l a W H
    rw [hsz]
    exact H.len
  · intro l a W H hr
    have tt := all_done hsz H.len hdep' hr
    have he : a = putAll a0 ds (fun i => a.tmps.getD (ds i) undef) n := by
      refine act_ext (H.df.trans (putAll_df _ _ _ _).symm) (H.sz.trans (putAll_sz _ _ _ _).symm) (fun j => ?_)
      by_cases hj : ∃ i, i < n ∧ ds i = j
      · obtain ⟨i, hi, rfl⟩ := hj
        rw [putAll_eq a0 ds _ i n hinj' hlt' hi]
      · have hj' : ∀ i, i < n → ds i ≠ j := fun i hi e => hj ⟨i, hi, e⟩
        rw [putAll_ne a0 ds _ j n hj']
        exact H.rest j hj'
    rw [he]
    exact hQ _ W H.hb (fun i hi => H.val i hi (tt i hi))
  · intro l a W H i hi
    obtain ⟨hin, hfr, hdd⟩ := mem_ready.1 hi
    rw [hsz] at hin
    obtain ⟨o, ho, hd, hw⟩ := hstep i hin a W (fun j hj => H.rest j hj) H.hb (fun k hk => H.val k (by have := hdep' i hin k hk; omega) (hdd k hk))
    rcases hw with ⟨hg, hw⟩ | ⟨hg, hw⟩
    · refine wpOp_want ho hg (Oper.wp_mono ?_ hw)
      rintro a' W' ⟨v, rfl, hb, hv⟩
      rw [hd]
      exact H.step hR hinj' hlt' hin hb hv
    · refine wpOp_skip ho hg ?_
      rw [hd]
      exact H.step hR hinj' hlt' hin (Below.refl _ _) hw
  · simp only [unl, Array.toList_replicate]
    exact Nat.le_trans (List.length_filter_le _ _) (by simp)
  · have hrep : ∀ j, (Array.replicate ops.size false).getD j false = false := fun j => by simp [Array.getD_eq_getD_getElem?, Array.getElem?_replicate]; split <;> rfl
    exact { len := by simp [hsz], df := rfl, sz := rfl, rest := fun _ _ => rfl, hb := (Below.refl _ w).drew, val := fun i _ h => absurd ((hrep _).symm.trans h) (by decide) }
end Go.Proofs.Ytiplmlalhmldbaa
