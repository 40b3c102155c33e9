/- Frames are read in one way alone: blocks of one frame have the same head and the same metas, and so one header. Bytes and what is read of them: what is written is taken again, and what is taken was so written. -/
import Derived.Test.YtaocbkloafhmeaaDoorRfr
import Derived.Test.YtaocbkloafhmeaaDoorHdr
import Derived.Test.YtaocbkloafhmeaaDoorRdb
namespace Go.Proofs.YtaocbkloafhmeaaDoor
open Go.RowKit
theorem put_pre {n m : Nat} (hn : n < 18446744073709551616) (hm : m < 18446744073709551616) {r s : List UInt8} (h : put n ++ r = put m ++ s) : n = m ∧ r = s := by
  have h1 := take_put n hn r
  rw [h, take_put m hm s] at h1
  have e : n = m := by injection h1 with h1 _ _; exact h1.symm
  subst e
  exact ⟨rfl, List.append_cancel_left h⟩
def textL (t : ByteArray) : List UInt8 := put t.size ++ t.data.toList
theorem textB_list (t : ByteArray) : (textB t).data.toList = textL t := by simp [textB, textL]
theorem putS_list (n : Nat) : (putS n).data.toList = put n := by simp [putS]
theorem text_pre {t u : ByteArray} (ht : t.size ≤ 1125899906842624) (hu : u.size ≤ 1125899906842624) {r s : List UInt8} (h : textL t ++ r = textL u ++ s) : t = u ∧ r = s := by
  unfold textL at h
  rw [List.append_assoc, List.append_assoc] at h
  obtain ⟨h1, h2⟩ := put_pre (by omega) (by omega) h
  have hl : t.data.toList.length = u.data.toList.length := by rw [← Lib.size_eq, ← Lib.size_eq]; exact h1
  obtain ⟨h3, h4⟩ := List.append_inj h2 hl
  exact ⟨ByteArray.ext (Array.toList_inj.1 h3), h4⟩
def metaL (r : Rv) : List UInt8 := opB r.op :: (textL r.t ++ (textL r.f ++ (put r.d ++ (put r.v ++ textL r.h))))
theorem metaT_list (r : Rv) : (metaT r).data.toList = metaL r := by
  unfold metaT metaL
  simp only [ByteArray.data_append, Array.toList_append, textB_list, putS_list, List.append_assoc]
  rfl
theorem meta_pre {r q : Rv} (hr : r.fit) (hq : q.fit) {x y : List UInt8} (h : metaL r ++ x = metaL q ++ y) : metaT r = metaT q ∧ x = y := by
  have hm : metaL r = metaL q → metaT r = metaT q := fun h => ByteArray.ext (Array.toList_inj.1 (by rw [metaT_list, metaT_list, h]))
  unfold metaL at h
  simp only [List.cons_append, List.append_assoc, List.cons.injEq] at h
  obtain ⟨h0, h⟩ := h
  obtain ⟨h1, h⟩ := text_pre hr.t hq.t h
  obtain ⟨h2, h⟩ := text_pre hr.f hq.f h
  obtain ⟨h3, h⟩ := put_pre hr.d hq.d h
  obtain ⟨h4, h⟩ := put_pre hr.v hq.v h
  obtain ⟨h5, h⟩ := text_pre hr.h hq.h h
  refine ⟨hm ?_, h⟩
  unfold metaL
  rw [h0, h1, h2, h3, h4, h5]
def catL (f : Nat → List UInt8) (n : Nat) : List UInt8 := (List.range n).flatMap f
theorem catL_succ (f : Nat → List UInt8) (n : Nat) : catL f (n + 1) = catL f n ++ f n := by simp [catL, List.range_succ]
theorem catL_front (f : Nat → List UInt8) (n : Nat) : catL f (n + 1) = f 0 ++ catL (fun i => f (i + 1)) n := by
  simp only [catL, List.range_succ_eq_map, List.flatMap_cons, List.flatMap_map]
theorem metas_pre : ∀ (n : Nat) (R S : Nat → Rv), (∀ i, i < n → (R i).fit) → (∀ i, i < n → (S i).fit) → catL (fun i => metaL (R i)) n = catL (fun i => metaL (S i)) n → ∀ i, i < n → metaT (R i) = metaT (S i)
  | 0, _, _, _, _, _, i, hi => absurd hi (by omega)
  | n + 1, R, S, hR, hS, h, i, hi => by
    rw [catL_front, catL_front] at h
    obtain ⟨h1, h2⟩ := meta_pre (hR 0 (by omega)) (hS 0 (by omega)) h
    cases i with
    | zero => exact h1
    | succ i => exact metas_pre n (fun i => R (i + 1)) (fun i => S (i + 1)) (fun i hi => hR (i + 1) (by omega)) (fun i hi => hS (i + 1) (by omega)) h2 i (by omega)
theorem frameS_list (x : Bk) : ∀ i, (frameS x i).data.toList = (headT x).data.toList ++ catL (fun i => metaL (x.R i)) i
  | 0 => by simp [frameS, catL]
  | i + 1 => by
    rw [catL_succ]
    show (frameS x i ++ metaT (x.R i)).data.toList = _
    rw [ByteArray.data_append, Array.toList_append, frameS_list x i, metaT_list, List.append_assoc]
theorem headT_list (x : Bk) : (headT x).data.toList = put x.seq ++ (textL x.prev ++ (put x.tx ++ put x.n)) := by
  unfold headT
  simp only [ByteArray.data_append, Array.toList_append, textB_list, putS_list, List.append_assoc]
theorem frame_header {x y : Bk} (hx : x.fit) (hy : y.fit) (nx : x.n ≤ 66) (ny : y.n ≤ 66) (rx : ∀ i, i < x.n → (x.R i).fit) (ry : ∀ i, i < y.n → (y.R i).fit) (h : frameT x = frameT y) : headerT x = headerT y := by
  have h1 := congrArg (fun b : ByteArray => b.data.toList) h
  simp only [frameT, frameS_list, headT_list, List.append_assoc] at h1
  obtain ⟨e1, h2⟩ := put_pre hx.seq hy.seq h1
  obtain ⟨e2, h3⟩ := text_pre hx.prev hy.prev h2
  obtain ⟨e3, h4⟩ := put_pre hx.tx hy.tx h3
  obtain ⟨e4, h5⟩ := put_pre (by omega) (by omega) h4
  rw [← e4] at h5
  have hm := metas_pre x.n x.R y.R rx (fun i hi => ry i (by omega)) h5
  have hH : headT x = headT y := by
    unfold headT
    rw [e1, e2, e3, e4]
  unfold headerT rootT
  rw [hH, ← e4]
  congr 1
  refine rootR_congr _ _ 0 x.n (fun i _ hi => ?_)
  unfold leafs
  rw [hm i (by omega)]
end Go.Proofs.YtaocbkloafhmeaaDoor
namespace Go.Proofs.YtaocbkloafhmeaaDoor
open Go.RowKit
def Hs (s : ByteArray) (o : Nat) (l : List UInt8) : Prop := ∃ r, s.data.toList.drop o = l ++ r
theorem Hs.fst {s : ByteArray} {o : Nat} {a b : List UInt8} (h : Hs s o (a ++ b)) : Hs s o a := by
  obtain ⟨r, hr⟩ := h
  exact ⟨b ++ r, by rw [hr, List.append_assoc]⟩
theorem Hs.snd {s : ByteArray} {o : Nat} {a b : List UInt8} (h : Hs s o (a ++ b)) : Hs s (o + a.length) b := by
  obtain ⟨r, hr⟩ := h
  refine ⟨r, ?_⟩
  rw [← List.drop_drop, hr, List.append_assoc, List.drop_left]
theorem Hs.le {s : ByteArray} {o : Nat} {l : List UInt8} (h : Hs s o l) (ho : o ≤ s.size) : o + l.length ≤ s.size := by
  obtain ⟨r, hr⟩ := h
  have := congrArg List.length hr
  rw [List.length_drop, List.length_append, ← Lib.size_eq] at this
  omega
theorem Hs.byte {s : ByteArray} {o : Nat} {x : UInt8} {l : List UInt8} (h : Hs s o (x :: l)) : byteAt s o = x.toNat := by
  obtain ⟨r, hr⟩ := h
  unfold byteAt
  have : s.data.toList[o]? = some x := by
    have h2 := congrArg (fun l => l[0]?) hr
    simpa using h2
  rw [List.getD_eq_getElem?_getD, this]
  rfl
theorem ext_toList (s : ByteArray) (a n : Nat) : (s.extract a (a + n)).data.toList = (s.data.toList.drop a).take n := by
  rw [ByteArray.data_extract, Array.toList_extract]
  simp [List.extract]
theorem uintA_put {s : ByteArray} {o n : Nat} (hn : n < 18446744073709551616) (h : Hs s o (put n)) : uintA s o 0 = ⟨n, o + (put n).length, 0⟩ := by
  obtain ⟨r, hr⟩ := h
  unfold uintA tkA
  rw [if_pos rfl, hr, take_put n hn r]
theorem countA_put {s : ByteArray} {o n : Nat} (hn : n ≤ 64) (h : Hs s o (put n)) : countA s o 0 64 = ⟨n, o + (put n).length, 0⟩ := by
  obtain ⟨r, hr⟩ := h
  unfold countA tkA cnt
  rw [if_pos rfl, hr, take_put n (by omega) r, if_neg]
  rintro ⟨_, h1⟩
  simp only at h1
  omega
theorem textA_put {s t : ByteArray} {o : Nat} {m : Int} (hm : (t.size : Int) ≤ m) (hm2 : m ≤ 1048576) (ho : o ≤ s.size) (h : Hs s o (textL t)) : textA s o 0 m = ⟨t, o + (textL t).length, 0⟩ := by
  have hle := h.le ho
  have hc : cnt (tkA s o) (min m 1048576) = ⟨t.size, (put t.size).length, 0⟩ := by
    obtain ⟨r, hr⟩ := h
    unfold tkA cnt
    unfold textL at hr
    rw [hr, List.append_assoc, take_put t.size (by omega), if_neg]
    rintro ⟨_, h1⟩
    simp only at h1
    omega
  have hl : (textL t).length = (put t.size).length + t.size := by unfold textL; rw [List.length_append, ← Lib.size_eq]
  have he : s.extract (o + (put t.size).length) (o + (put t.size).length + t.size) = t := by
    apply ByteArray.ext
    apply Array.toList_inj.mp
    rw [ext_toList]
    obtain ⟨r, hr⟩ := h
    rw [← List.drop_drop, hr]
    unfold textL
    rw [List.append_assoc, List.drop_left, List.take_left' (by rw [← Lib.size_eq])]
  unfold textA
  rw [if_pos rfl, hc]
  simp only
  rw [if_pos trivial, if_neg (by omega), he, hl]
  congr 1
  omega
theorem Hs.cons {s : ByteArray} {o : Nat} {R : List UInt8} (ho : o < s.size) (h : Hs s (o + 1) R) : Hs s o (UInt8.ofNat (byteAt s o) :: R) := by
  obtain ⟨r, hr⟩ := h
  refine ⟨r, ?_⟩
  have hlt : o < s.data.toList.length := by rw [← Lib.size_eq]; exact ho
  rw [List.drop_eq_getElem_cons hlt, hr]
  have : UInt8.ofNat (byteAt s o) = s.data.toList[o] := by
    unfold byteAt
    rw [List.getD_eq_getElem?_getD, List.getElem?_eq_getElem hlt]
    simp
  rw [this]
  rfl
theorem Hs.app {s : ByteArray} {o : Nat} {a b : List UInt8} (h1 : Hs s o a) (h2 : Hs s (o + a.length) b) : Hs s o (a ++ b) := by
  obtain ⟨r, hr⟩ := h1
  obtain ⟨r', hr'⟩ := h2
  refine ⟨r', ?_⟩
  rw [← List.drop_drop, hr, List.drop_left] at hr'
  rw [hr, hr', List.append_assoc]
theorem uintA_ok {s : ByteArray} {o : Nat} (h : (uintA s o 0).e = 0) : Hs s o (put (uintA s o 0).v) ∧ (uintA s o 0).o = o + (put (uintA s o 0).v).length := by
  unfold uintA tkA at h ⊢
  rw [if_pos rfl] at h ⊢
  obtain ⟨h1, h2⟩ := put_take _ h
  refine ⟨⟨(s.data.toList.drop o).drop (tk 0 0 (s.data.toList.drop o)).sz, ?_⟩, by show o + _ = o + _; rw [h1]⟩
  show _ = put (tk 0 0 (s.data.toList.drop o)).n ++ _
  rw [← h2, List.take_append_drop]
theorem cnt_ok {T : Tk} {m : Int} (h : (cnt T m).er = 0) : cnt T m = T := by
  unfold cnt at h ⊢
  by_cases h1 : T.er = 0 ∧ (m < 0 ∨ m < (T.n : Int))
  · rw [if_pos h1] at h; cases h
  · rw [if_neg h1]
theorem countA_ok {s : ByteArray} {o : Nat} {m : Int} (h : (countA s o 0 m).e = 0) : Hs s o (put (countA s o 0 m).v) ∧ (countA s o 0 m).o = o + (put (countA s o 0 m).v).length := by
  unfold countA at h ⊢
  rw [if_pos rfl] at h ⊢
  have hc := cnt_ok h
  rw [hc] at h ⊢
  unfold tkA at h ⊢
  obtain ⟨h1, h2⟩ := put_take _ h
  refine ⟨⟨(s.data.toList.drop o).drop (tk 0 0 (s.data.toList.drop o)).sz, ?_⟩, by show o + _ = o + _; rw [h1]⟩
  show _ = put (tk 0 0 (s.data.toList.drop o)).n ++ _
  rw [← h2, List.take_append_drop]
theorem textA_ok {s : ByteArray} {o : Nat} {m : Int} (h : (textA s o 0 m).e = 0) : Hs s o (textL (textA s o 0 m).v) ∧ (textA s o 0 m).o = o + (textL (textA s o 0 m).v).length := by
  unfold textA at h ⊢
  rw [if_pos rfl] at h ⊢
  by_cases hc : (cnt (tkA s o) (min m 1048576)).er = 0
  · rw [if_pos hc] at h ⊢
    have hce := cnt_ok hc
    rw [hce] at hc h ⊢
    by_cases hl : s.size < o + (tkA s o).sz + (tkA s o).n
    · rw [if_pos hl] at h; cases h
    · rw [if_neg hl]
      obtain ⟨h1, h2⟩ := put_take (s.data.toList.drop o) hc
      have hsz : (tkA s o).sz = (put (tkA s o).n).length := h1
      have hes : (s.extract (o + (tkA s o).sz) (o + (tkA s o).sz + (tkA s o).n)).data.toList = (s.data.toList.drop (o + (tkA s o).sz)).take (tkA s o).n := ext_toList _ _ _
      have hel : (s.extract (o + (tkA s o).sz) (o + (tkA s o).sz + (tkA s o).n)).size = (tkA s o).n := by
        rw [Lib.size_eq, hes, List.length_take, List.length_drop, ← Lib.size_eq]
        omega
      have hH : Hs s o (textL (s.extract (o + (tkA s o).sz) (o + (tkA s o).sz + (tkA s o).n))) := by
        refine ⟨(s.data.toList.drop (o + (tkA s o).sz)).drop (tkA s o).n, ?_⟩
        unfold textL
        rw [hel, hes, List.append_assoc, List.take_append_drop, ← List.drop_drop]
        show _ = put (tk 0 0 (s.data.toList.drop o)).n ++ _
        rw [← h2]
        exact (List.take_append_drop _ _).symm
      refine ⟨hH, ?_⟩
      show o + (tkA s o).sz + (tkA s o).n = _
      unfold textL
      rw [List.length_append, ← Lib.size_eq, hel, ← hsz]
      omega
  · rw [if_neg hc] at h
    exact absurd h hc
theorem uintA_was {s : ByteArray} {o : Nat} {e : Int} (h : (uintA s o e).e = 0) : e = 0 ∧ Hs s o (put (uintA s o e).v) ∧ (uintA s o e).o = o + (put (uintA s o e).v).length := by
  by_cases he : e = 0
  · subst he; exact ⟨rfl, uintA_ok h⟩
  · unfold uintA at h; rw [if_neg he] at h; exact absurd h he
theorem countA_was {s : ByteArray} {o : Nat} {e m : Int} (h : (countA s o e m).e = 0) : e = 0 ∧ Hs s o (put (countA s o e m).v) ∧ (countA s o e m).o = o + (put (countA s o e m).v).length := by
  by_cases he : e = 0
  · subst he; exact ⟨rfl, countA_ok h⟩
  · unfold countA at h; rw [if_neg he] at h; exact absurd h he
theorem textA_was {s : ByteArray} {o : Nat} {e m : Int} (h : (textA s o e m).e = 0) : e = 0 ∧ Hs s o (textL (textA s o e m).v) ∧ (textA s o e m).o = o + (textL (textA s o e m).v).length := by
  by_cases he : e = 0
  · subst he; exact ⟨rfl, textA_ok h⟩
  · unfold textA at h; rw [if_neg he] at h; exact absurd h he
theorem opA_one {s : ByteArray} {o : Nat} (ho : o < s.size) : opA (s.extract o (o + 1)) = (byteAt s o : Int) := by
  have hx := ext_toList s o 1
  have hs1 : (s.extract o (o + 1)).size = 1 := by rw [ByteArray.size_extract]; omega
  have hlt : o < s.data.toList.length := by rw [← Lib.size_eq]; exact ho
  unfold opA chr byteAt
  rw [if_neg (by omega), hx, List.drop_eq_getElem_cons hlt, List.getD_eq_getElem?_getD, List.getD_eq_getElem?_getD, List.getElem?_eq_getElem hlt]
  rfl
theorem opB_byte (n : Nat) (h : n < 256) : opB (n : Int) = UInt8.ofNat n := by
  unfold opB
  congr 1
  omega
theorem byteAt_lt (s : ByteArray) (o : Nat) : byteAt s o < 256 := (s.data.toList.getD o 0).toNat_lt
theorem one_was {s : ByteArray} {o : Nat} {e : Int} (h : (bytesA s o e 1).e = 0) : e = 0 ∧ o < s.size ∧ (bytesA s o e 1).o = o + 1 ∧ opB (opA (bytesA s o e 1).v) = UInt8.ofNat (byteAt s o) := by
  by_cases he : e = 0
  · subst he
    unfold bytesA at h ⊢
    rw [if_pos rfl, if_neg (by omega)] at h ⊢
    by_cases hl : (s.size : Int) - (o : Int) < 1
    · rw [if_pos hl] at h; cases h
    · rw [if_neg hl]
      have ho : o < s.size := by omega
      refine ⟨rfl, ho, rfl, ?_⟩
      show opB (opA (s.extract o (o + 1))) = _
      rw [opA_one ho, opB_byte _ (byteAt_lt s o)]
  · unfold bytesA at h; rw [if_neg he] at h; exact absurd h he
theorem takeR_was {s : ByteArray} {o : Nat} {e : Int} (h : (takeR s o e).e = 0) : e = 0 ∧ Hs s o (metaL (takeR s o e).r) ∧ (takeR s o e).o = o + (metaL (takeR s o e).r).length := by
  unfold takeR at h ⊢
  dsimp only at h ⊢
  obtain ⟨h4, k5, q5⟩ := textA_was h
  obtain ⟨h3, k4, q4⟩ := uintA_was h4
  obtain ⟨h2, k3, q3⟩ := uintA_was h3
  obtain ⟨h1, k2, q2⟩ := textA_was h2
  obtain ⟨h0, k1, q1⟩ := textA_was h1
  obtain ⟨he, ho, q0, p0⟩ := one_was h0
  generalize bytesA s o e 1 = a0 at *
  generalize textA s a0.o a0.e 16 = a1 at *
  generalize textA s a1.o a1.e 16 = a2 at *
  generalize uintA s a2.o a2.e = a3 at *
  generalize uintA s a3.o a3.e = a4 at *
  generalize textA s a4.o a4.e 32 = a5 at *
  rw [q0] at k1 q1
  rw [q1] at k2 q2
  rw [q2] at k3 q3
  rw [q3] at k4 q4
  rw [q4] at k5 q5
  refine ⟨he, ?_, ?_⟩
  · unfold metaL
    dsimp only
    rw [p0]
    exact Hs.cons ho (k1.app (k2.app (k3.app (k4.app k5))))
  · unfold metaL
    dsimp only
    simp only [List.length_cons, List.length_append]
    omega
theorem rst_was {s : ByteArray} : ∀ i, (rst s i).e = 0 → (hd3 s).e = 0 ∧ Hs s (hd3 s).o (catL (fun j => metaL (rrv s j)) i) ∧ (rst s i).o = (hd3 s).o + (catL (fun j => metaL (rrv s j)) i).length
  | 0, h => ⟨h, ⟨_, rfl⟩, rfl⟩
  | i + 1, h => by
    obtain ⟨h1, k1, q1⟩ := takeR_was (s := s) (o := (rst s i).o) (e := (rst s i).e) h
    obtain ⟨h0, k0, q0⟩ := rst_was i h1
    change Hs s (rst s i).o (metaL (rrv s i)) at k1
    change (rst s (i + 1)).o = (rst s i).o + (metaL (rrv s i)).length at q1
    rw [q0] at k1
    rw [catL_succ]
    refine ⟨h0, k0.app k1, ?_⟩
    rw [q1, q0, List.length_append]
    omega
theorem endE_zero {s : ByteArray} (h : endE s = 0) : (rst s (hd3 s).v).e = 0 ∧ (rst s (hd3 s).v).o = s.size := by
  unfold endE at h
  have h1 := rst_o s (hd3 s).v
  by_cases he : (rst s (hd3 s).v).e = 0
  · rw [if_neg (by omega)] at h
    by_cases hl : (rst s (hd3 s).v).o < s.size
    · rw [if_pos hl] at h; cases h
    · exact ⟨he, by omega⟩
  · rw [if_pos he] at h; exact absurd h he
/- What was read without an error has just these bytes. -/
theorem frame_again {s : ByteArray} (h : endE s = 0) : frameT (readX s) = s := by
  obtain ⟨h1, h2⟩ := endE_zero h
  obtain ⟨e3, kr, qr⟩ := rst_was _ h1
  obtain ⟨e2, k3, q3⟩ := countA_was (s := s) (o := (hd2 s).o) (e := (hd2 s).e) (m := 64) e3
  obtain ⟨e1, k2, q2⟩ := uintA_was (s := s) (o := (hd1 s).o) (e := (hd1 s).e) e2
  obtain ⟨e0, k1, q1⟩ := textA_was (s := s) (o := (hd0 s).o) (e := (hd0 s).e) (m := 32) e1
  obtain ⟨_, k0, q0⟩ := uintA_was (s := s) (o := 0) (e := 0) e0
  change Hs s (hd2 s).o (put (hd3 s).v) at k3
  change (hd3 s).o = (hd2 s).o + (put (hd3 s).v).length at q3
  change Hs s (hd1 s).o (put (hd2 s).v) at k2
  change (hd2 s).o = (hd1 s).o + (put (hd2 s).v).length at q2
  change Hs s (hd0 s).o (textL (hd1 s).v) at k1
  change (hd1 s).o = (hd0 s).o + (textL (hd1 s).v).length at q1
  change Hs s 0 (put (hd0 s).v) at k0
  change (hd0 s).o = 0 + (put (hd0 s).v).length at q0
  rw [h2] at qr
  rw [q3] at kr qr
  rw [q2] at k3 kr qr
  rw [q1] at k2 k3 kr qr
  rw [q0] at k1 k2 k3 kr qr
  have hl : (frameT (readX s)).data.toList = put (hd0 s).v ++ (textL (hd1 s).v ++ (put (hd2 s).v ++ (put (hd3 s).v ++ catL (fun j => metaL (rrv s j)) (hd3 s).v))) := by
    unfold frameT
    rw [frameS_list, headT_list]
    simp only [List.append_assoc]
    rfl
  obtain ⟨r, hr⟩ := k0.app (k1.app (k2.app (k3.app kr)))
  have hn := congrArg List.length hr
  have hr0 : r = [] := by
    apply List.eq_nil_of_length_eq_zero
    rw [List.drop_zero, ← Lib.size_eq] at hn
    simp only [List.length_append] at hn
    omega
  rw [hr0, List.append_nil, List.drop_zero] at hr
  exact ByteArray.ext (Array.toList_inj.1 (by rw [hl, hr]))
end Go.Proofs.YtaocbkloafhmeaaDoor
