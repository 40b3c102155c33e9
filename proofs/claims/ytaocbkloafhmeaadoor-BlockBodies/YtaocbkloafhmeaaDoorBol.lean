/- What With and Without leave of a block, as plain facts. -/
import Derived.Test.YtaocbkloafhmeaaDoorAwk
import Derived.Test.YtaocbkloafhmeaaDoorWit
namespace Go.Proofs.YtaocbkloafhmeaaDoor
open Go.RowKit
theorem in_other (x : Bk) (k : Int) (bo : ByteArray) : ∀ i : Nat, (i : Int) ≠ k → (inX x k bo).R i = x.R i := fun i hi => by
  unfold inX
  split
  · next h =>
    have h2 : 0 ≤ k := by
      unfold inB bodAt at h
      simp only [Bool.and_eq_true, decide_eq_true_eq] at h
      exact h.1.1.1.1
    show updR x.R k.toNat bo false i = _
    unfold updR
    rw [if_neg (by omega)]
  · rfl
theorem out_other (x : Bk) (k : Int) : ∀ i : Nat, (i : Int) ≠ k → (outX x k).R i = x.R i := fun i hi => by
  unfold outX
  split
  · next h =>
    have h2 : 0 ≤ k := by
      unfold outB bodAt at h
      simp only [Bool.and_eq_true, decide_eq_true_eq] at h
      exact h.1.1.1
    show updR x.R k.toNat ⟨#[]⟩ true i = _
    unfold updR
    rw [if_neg (by omega)]
  · rfl
theorem in_at (x : Bk) (k : Int) (bo : ByteArray) (h : inB x.n x.R k bo = true) : ∃ i0 : Nat, k = (i0 : Int) ∧ i0 < x.n ∧ ((inX x k bo).R i0).b = bo ∧ ((inX x k bo).R i0).g = false := by
  have h2 := h
  unfold inB bodAt at h2
  simp only [Bool.and_eq_true, decide_eq_true_eq] at h2
  obtain ⟨⟨⟨⟨h3, h4⟩, _⟩, _⟩, _⟩ := h2
  refine ⟨k.toNat, by omega, by omega, ?_⟩
  unfold inX
  rw [if_pos h]
  show (updR x.R k.toNat bo false k.toNat).b = bo ∧ (updR x.R k.toNat bo false k.toNat).g = false
  unfold updR
  rw [if_pos rfl]
  exact ⟨rfl, rfl⟩
theorem out_at (x : Bk) (k : Int) (h : outB x.n x.R k = true) : ∃ i0 : Nat, k = (i0 : Int) ∧ i0 < x.n ∧ ((outX x k).R i0).b = ⟨#[]⟩ ∧ ((outX x k).R i0).g = true := by
  have h2 := h
  unfold outB bodAt at h2
  simp only [Bool.and_eq_true, decide_eq_true_eq] at h2
  obtain ⟨⟨⟨h3, h4⟩, _⟩, _⟩ := h2
  refine ⟨k.toNat, by omega, by omega, ?_⟩
  unfold outX
  rw [if_pos h]
  show (updR x.R k.toNat ⟨#[]⟩ true k.toNat).b = ⟨#[]⟩ ∧ (updR x.R k.toNat ⟨#[]⟩ true k.toNat).g = true
  unfold updR
  rw [if_pos rfl]
  exact ⟨rfl, rfl⟩
theorem in_n (x : Bk) (k : Int) (bo : ByteArray) : (inX x k bo).n = x.n := by unfold inX; split <;> rfl
theorem out_n (x : Bk) (k : Int) : (outX x k).n = x.n := by unfold outX; split <;> rfl
theorem in_fit (x : Bk) (h : x.fit) (k : Int) (bo : ByteArray) : (inX x k bo).fit := by
  unfold inX
  split
  · exact ⟨h.seq, h.tx, h.prev⟩
  · exact h
theorem out_fit (x : Bk) (h : x.fit) (k : Int) : (outX x k).fit := by
  unfold outX
  split
  · exact ⟨h.seq, h.tx, h.prev⟩
  · exact h
theorem hash_in (x : Bk) (k : Int) (bo : ByteArray) : hashT (inX x k bo) = hashT x := by
  unfold inX
  split
  · exact hashT_upd x _ _ _
  · rfl
theorem hash_out (x : Bk) (k : Int) : hashT (outX x k) = hashT x := by
  unfold outX
  split
  · exact hashT_upd x _ _ _
  · rfl
theorem in_val (x : Bk) (k : Int) (bo : ByteArray) (q : Option Addr) (d : Nat) : (inX x k bo).val q d = .agg #[.int .u64 (x.seq : Int), .string x.prev, .int .u64 (x.tx : Int), .slice q x.n d] := by unfold inX; split <;> rfl
theorem out_val (x : Bk) (k : Int) (q : Option Addr) (d : Nat) : (outX x k).val q d = .agg #[.int .u64 (x.seq : Int), .string x.prev, .int .u64 (x.tx : Int), .slice q x.n d] := by unfold outX; split <;> rfl
end Go.Proofs.YtaocbkloafhmeaaDoor
