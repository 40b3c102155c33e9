/- A block that may follow, written and read again: its digest is the same, and each body fits where it was. -/
import Derived.Test.YtaocbkloafhmeaaDoorLmx
import Derived.Test.YtaocbkloafhmeaaDoorAwk
import Derived.Test.YtaocbkloafhmeaaDoorWbx
namespace Go.Proofs.YtaocbkloafhmeaaDoor
open Go.RowKit
theorem fol_zero {x : Bk} {m : Nat} {q : ByteArray} (h : folR x m q = 0) : 0 < x.n ∧ x.n ≤ 64 ∧ fe x.R x.n = 0 := by
  unfold folR at h
  split at h
  · cases h
  · split at h
    · next h1 => exact absurd h h1
    · next h0 h1 => exact ⟨by omega, by omega, by omega⟩
theorem fol_lim {x : Bk} {m : Nat} {q : ByteArray} (hx : x.fit) (hr : ∀ i, i < x.n → (x.R i).fit) (hp : x.prev.size ≤ 32) (h : folR x m q = 0) : x.lim ∧ ∀ i, i < x.n → checkR (x.R i) = 0 := by
  obtain ⟨_, h1, h2⟩ := fol_zero h
  have h3 := fe_all h2
  exact ⟨⟨hx.seq, hp, hx.tx, h1, fun i hi => checkR_lim (hr i hi) (h3 i hi)⟩, h3⟩
theorem read_head {x : Bk} (hx : x.lim) : (readX (frameT x)).seq = x.seq ∧ (readX (frameT x)).prev = x.prev ∧ (readX (frameT x)).tx = x.tx ∧ (readX (frameT x)).n = x.n ∧ ∀ i, i < x.n → (readX (frameT x)).R i = (x.R i).bare := by
  obtain ⟨h0, h1, h2, h3, hr, -⟩ := frame_read hx
  exact ⟨h0, h1, h2, h3, hr⟩
theorem hash_read {x : Bk} (hx : x.lim) : hashT (readX (frameT x)) = hashT x := by
  obtain ⟨h0, h1, h2, h3, hr⟩ := read_head hx
  unfold hashT headerT rootT headT
  rw [h0, h1, h2, h3, rootR_congr (leafs (readX (frameT x)).R) (leafs x.R) 0 x.n]
  intro i _ hi
  unfold leafs
  rw [hr i (by omega), bare_meta]
theorem frame_twice {x : Bk} (hx : x.lim) : frameT (readX (frameT x)) = frameT x := frame_again (frame_read hx).2.2.2.2.2
/- A body that is there has its digest beside it. -/
theorem body_there {r : Rv} (h : checkR r = 0) (hg : r.g = false) (hh : r.h.size ≠ 0) : bodied r.op = true ∧ r.b.size ≤ 1024 ∧ r.h = sumS (leafT r.b) := by
  obtain ⟨-, -, h3⟩ := checkR_ok h
  unfold restB at h3
  by_cases hb : bodied r.op = true
  · rw [if_pos hb] at h3
    unfold bodyB hereB at h3
    rw [hg] at h3
    simp only [Bool.false_eq_true, if_false, Bool.and_eq_true, decide_eq_true_eq] at h3
    exact ⟨hb, h3.1, h3.2⟩
  · rw [if_neg hb] at h3
    unfold noneB at h3
    simp only [Bool.and_eq_true, decide_eq_true_eq] at h3
    exact absurd h3.1.1 hh
theorem with_back {x : Bk} (hx : x.lim) {i : Nat} (hi : i < x.n) (h : checkR (x.R i) = 0) (hg : (x.R i).g = false) (hh : (x.R i).h.size ≠ 0) :
    inE (readX (frameT x)) (i : Int) (x.R i).b = 0 ∧ (inX (readX (frameT x)) (i : Int) (x.R i).b).n = x.n ∧ (inX (readX (frameT x)) (i : Int) (x.R i).b).R i = x.R i := by
  obtain ⟨-, -, -, h3, hr⟩ := read_head hx
  obtain ⟨b1, b2, b3⟩ := body_there h hg hh
  have hin : inB (readX (frameT x)).n (readX (frameT x)).R (i : Int) (x.R i).b = true := by
    unfold inB bodAt
    rw [h3, Int.toNat_natCast, hr i hi]
    have e1 : bodied (x.R i).bare.op = true := b1
    have e2 : (x.R i).bare.h = sumS (leafT (x.R i).b) := b3
    rw [e1]
    simp only [Bool.and_eq_true, decide_eq_true_eq]
    exact ⟨⟨⟨⟨by omega, by omega⟩, trivial⟩, b2⟩, e2⟩
  unfold inE inX
  rw [if_pos hin, if_pos hin]
  refine ⟨rfl, h3, ?_⟩
  show updR (readX (frameT x)).R (i : Int).toNat (x.R i).b false i = x.R i
  unfold updR
  rw [Int.toNat_natCast, if_pos rfl, hr i hi, ← hg]
  rfl
end Go.Proofs.YtaocbkloafhmeaaDoor
