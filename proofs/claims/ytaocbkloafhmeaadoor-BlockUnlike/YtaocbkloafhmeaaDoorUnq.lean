/- Frames are read in one way alone: blocks of one frame have the same head and the same metas, and so one header. -/
import Derived.Test.YtaocbkloafhmeaaDoorRfr
import Derived.Test.YtaocbkloafhmeaaDoorHdr
namespace Go.Proofs.YtaocbkloafhmeaaDoor
open Go.RowKit
theorem put_pre {n m : Nat} (hn : n < 18446744073709551616) (hm : m < 18446744073709551616) {r s : List UInt8} (h : put n ++ r = put m ++ s) : n = m ∧ r = s := by
  have h1 := take_put n hn r
  rw [h, take_put m hm s] at h1
  have e : n = m := by injection h1 with h1 _ _; exact h1.symm
  subst e
  exact ⟨rfl, List.append_cancel_left h⟩
def textL (t : ByteArray) : List UInt8 := put t.size ++ t.data.toList
theorem textB_list (t : ByteArray) : (textB t).data.toList = textL t := by simp [textB, textL]
theorem putS_list (n : Nat) : (putS n).data.toList = put n := by simp [putS]
theorem text_pre {t u : ByteArray} (ht : t.size ≤ 1125899906842624) (hu : u.size ≤ 1125899906842624) {r s : List UInt8} (h : textL t ++ r = textL u ++ s) : t = u ∧ r = s := by
  unfold textL at h
  rw [List.append_assoc, List.append_assoc] at h
  obtain ⟨h1, h2⟩ := put_pre (by omega) (by omega) h
  have hl : t.data.toList.length = u.data.toList.length := by rw [← Lib.size_eq, ← Lib.size_eq]; exact h1
  obtain ⟨h3, h4⟩ := List.append_inj h2 hl
  exact ⟨ByteArray.ext (Array.toList_inj.1 h3), h4⟩
def metaL (r : Rv) : List UInt8 := opB r.op :: (textL r.t ++ (textL r.f ++ (put r.d ++ (put r.v ++ textL r.h))))
theorem metaT_list (r : Rv) : (metaT r).data.toList = metaL r := by
  unfold metaT metaL
  simp only [ByteArray.data_append, Array.toList_append, textB_list, putS_list, List.append_assoc]
  rfl
theorem meta_pre {r q : Rv} (hr : r.fit) (hq : q.fit) {x y : List UInt8} (h : metaL r ++ x = metaL q ++ y) : metaT r = metaT q ∧ x = y := by
  have hm : metaL r = metaL q → metaT r = metaT q := fun h => ByteArray.ext (Array.toList_inj.1 (by rw [metaT_list, metaT_list, h]))
  unfold metaL at h
  simp only [List.cons_append, List.append_assoc, List.cons.injEq] at h
  obtain ⟨h0, h⟩ := h
  obtain ⟨h1, h⟩ := text_pre hr.t hq.t h
  obtain ⟨h2, h⟩ := text_pre hr.f hq.f h
  obtain ⟨h3, h⟩ := put_pre hr.d hq.d h
  obtain ⟨h4, h⟩ := put_pre hr.v hq.v h
  obtain ⟨h5, h⟩ := text_pre hr.h hq.h h
  refine ⟨hm ?_, h⟩
  unfold metaL
  rw [h0, h1, h2, h3, h4, h5]
def catL (f : Nat → List UInt8) (n : Nat) : List UInt8 := (List.range n).flatMap f
theorem catL_succ (f : Nat → List UInt8) (n : Nat) : catL f (n + 1) = catL f n ++ f n := by simp [catL, List.range_succ]
theorem catL_front (f : Nat → List UInt8) (n : Nat) : catL f (n + 1) = f 0 ++ catL (fun i => f (i + 1)) n := by
  simp only [catL, List.range_succ_eq_map, List.flatMap_cons, List.flatMap_map]
theorem metas_pre : ∀ (n : Nat) (R S : Nat → Rv), (∀ i, i < n → (R i).fit) → (∀ i, i < n → (S i).fit) → catL (fun i => metaL (R i)) n = catL (fun i => metaL (S i)) n → ∀ i, i < n → metaT (R i) = metaT (S i)
  | 0, _, _, _, _, _, i, hi => absurd hi (by omega)
  | n + 1, R, S, hR, hS, h, i, hi => by
    rw [catL_front, catL_front] at h
    obtain ⟨h1, h2⟩ := meta_pre (hR 0 (by omega)) (hS 0 (by omega)) h
    cases i with
    | zero => exact h1
    | succ i => exact metas_pre n (fun i => R (i + 1)) (fun i => S (i + 1)) (fun i hi => hR (i + 1) (by omega)) (fun i hi => hS (i + 1) (by omega)) h2 i (by omega)
theorem frameS_list (x : Bk) : ∀ i, (frameS x i).data.toList = (headT x).data.toList ++ catL (fun i => metaL (x.R i)) i
  | 0 => by simp [frameS, catL]
  | i + 1 => by
    rw [catL_succ]
    show (frameS x i ++ metaT (x.R i)).data.toList = _
    rw [ByteArray.data_append, Array.toList_append, frameS_list x i, metaT_list, List.append_assoc]
theorem headT_list (x : Bk) : (headT x).data.toList = put x.seq ++ (textL x.prev ++ (put x.tx ++ put x.n)) := by
  unfold headT
  simp only [ByteArray.data_append, Array.toList_append, textB_list, putS_list, List.append_assoc]
theorem frame_header {x y : Bk} (hx : x.fit) (hy : y.fit) (nx : x.n ≤ 66) (ny : y.n ≤ 66) (rx : ∀ i, i < x.n → (x.R i).fit) (ry : ∀ i, i < y.n → (y.R i).fit) (h : frameT x = frameT y) : headerT x = headerT y := by
  have h1 := congrArg (fun b : ByteArray => b.data.toList) h
  simp only [frameT, frameS_list, headT_list, List.append_assoc] at h1
  obtain ⟨e1, h2⟩ := put_pre hx.seq hy.seq h1
  obtain ⟨e2, h3⟩ := text_pre hx.prev hy.prev h2
  obtain ⟨e3, h4⟩ := put_pre hx.tx hy.tx h3
  obtain ⟨e4, h5⟩ := put_pre (by omega) (by omega) h4
  rw [← e4] at h5
  have hm := metas_pre x.n x.R y.R rx (fun i hi => ry i (by omega)) h5
  have hH : headT x = headT y := by
    unfold headT
    rw [e1, e2, e3, e4]
  unfold headerT rootT
  rw [hH, ← e4]
  congr 1
  refine rootR_congr _ _ 0 x.n (fun i _ hi => ?_)
  unfold leafs
  rw [hm i (by omega)]
end Go.Proofs.YtaocbkloafhmeaaDoor
