/- What is read of bytes as a block, as plain functions, and the memory while it is read. -/
import Derived.Test.YtaocbkloafhmeaaDoorTkm
import Derived.Test.YtaocbkloafhmeaaDoorBlk
import Derived.Test.YtaocbkloafhmeaaDoorFol
namespace Go.Proofs.YtaocbkloafhmeaaDoor
open Go.RowKit
def hd0 (s : ByteArray) : Ans Nat := uintA s 0 0
def hd1 (s : ByteArray) : Ans ByteArray := textA s (hd0 s).o (hd0 s).e 32
def hd2 (s : ByteArray) : Ans Nat := uintA s (hd1 s).o (hd1 s).e
def hd3 (s : ByteArray) : Ans Nat := countA s (hd2 s).o (hd2 s).e 64
structure Ps where
  o : Nat
  e : Int
def rst (s : ByteArray) : Nat → Ps
  | 0 => ⟨(hd3 s).o, (hd3 s).e⟩
  | i + 1 => ⟨(takeR s (rst s i).o (rst s i).e).o, (takeR s (rst s i).o (rst s i).e).e⟩
def rrv (s : ByteArray) (i : Nat) : Rv := (takeR s (rst s i).o (rst s i).e).r
def readX (s : ByteArray) : Bk := ⟨(hd0 s).v, (hd1 s).v, (hd2 s).v, (hd3 s).v, rrv s⟩
def endE (s : ByteArray) : Int := if (rst s (hd3 s).v).e ≠ 0 then (rst s (hd3 s).v).e else if (rst s (hd3 s).v).o < s.size then 5 else 0
def readE (s : ByteArray) : Int := if endE s ≠ 0 then endE s else fe (rrv s) (hd3 s).v
theorem countA_o {s : ByteArray} {o : Nat} {er m : Int} (ho : o ≤ s.size) : (countA s o er m).o ≤ s.size := by
  unfold countA
  split
  · have h1 := (tkA_bound ho).2.1
    have h2 := (cnt_sz (T := tkA s o) (m := m)).1
    dsimp only
    omega
  · exact ho
theorem countA_v {s : ByteArray} {o : Nat} {er : Int} : (countA s o er 64).v ≤ 64 := by
  unfold countA
  split
  · by_cases h : (cnt (tkA s o) 64).er = 0
    · have := (cnt_most h).2
      dsimp only
      omega
    · have := (cnt_err (m := 64) tkA_err h).1
      dsimp only
      omega
  · exact Nat.zero_le _
theorem textA_sz {s : ByteArray} {o : Nat} {er m : Int} : (textA s o er m).v.size ≤ s.size := by
  unfold textA
  split
  · split
    · split
      · exact Nat.zero_le _
      · show (s.extract _ _).size ≤ s.size
        rw [ByteArray.size_extract]
        omega
    · exact Nat.zero_le _
  · exact Nat.zero_le _
theorem takeR_o {s : ByteArray} {o : Nat} {er : Int} (ho : o ≤ s.size) : (takeR s o er).o ≤ s.size := textA_o (uintA_o (uintA_o (textA_o (textA_o (bytesA_o ho)))))
theorem opA_bound (v : ByteArray) : 0 ≤ opA v ∧ opA v < 256 := by
  unfold opA
  split
  · exact ⟨by omega, by omega⟩
  · have := (v.data.toList.getD 0 0).toNat_lt
    unfold chr byteAt
    exact ⟨by omega, by omega⟩
theorem takeR_fit {s : ByteArray} {o : Nat} {er : Int} (ho : o ≤ s.size) (hs : s.size ≤ 1125899906842624) : (takeR s o er).r.fit := by
  have hop := opA_bound (bytesA s o er 1).v
  exact ⟨by show _ ≤ opA _; omega, by show opA _ < _; omega, uintA_lt (textA_o (textA_o (bytesA_o ho))), uintA_lt (uintA_o (textA_o (textA_o (bytesA_o ho)))), Nat.le_trans textA_sz hs, Nat.le_trans textA_sz hs, Nat.le_trans textA_sz hs, by show (⟨#[]⟩ : ByteArray).size ≤ _; decide⟩
theorem hd3_o (s : ByteArray) : (hd3 s).o ≤ s.size := countA_o (uintA_o (textA_o (uintA_o (Nat.zero_le _))))
theorem rst_o (s : ByteArray) : ∀ i, (rst s i).o ≤ s.size
  | 0 => hd3_o s
  | i + 1 => takeR_o (rst_o s i)
theorem rrv_fit {s : ByteArray} (hs : s.size ≤ 1125899906842624) (i : Nat) : (rrv s i).fit := takeR_fit (rst_o s i) hs
/- The memory while a block is read. -/
structure RJ (w wr : World) (V : Nat) (s : ByteArray) (o : Nat) (er : Int) (seq : Nat) (prev : ByteArray) (tx : Nat) (R : Nat → Rv) (i : Nat) (va : Value) : Prop where
  cur : Cur wr (w.heap.size + 1) s (o : Int) er
  r0 : wr.heap[w.heap.size]? = some (.cells #[.int .u64 0, .string ⟨#[]⟩, .int .u64 0, .slice none 0 0] 38 (0, 0))
  r2 : wr.heap[V]? = some (.cells #[.int .u64 (seq : Int), .string prev, .int .u64 (tx : Int), va] 38 (0, 0))
  own : wr.ownsRow (V + 1) 24 8 va i (revC R i)
  bel : Below w.heap.size w wr
  hv : w.heap.size + 2 ≤ V
theorem RJ.took {w wr w' : World} {V : Nat} {s : ByteArray} {o o' : Nat} {er er' : Int} {seq : Nat} {prev : ByteArray} {tx : Nat} {R : Nat → Rv} {i : Nat} {va : Value} (h : RJ w wr V s o er seq prev tx R i va) (hc : Cur w' (w.heap.size + 1) s (o' : Int) er') (hq : Only (w.heap.size + 1) wr w') : RJ w w' V s o' er' seq prev tx R i va := by
  have hv := h.hv
  refine ⟨hc, only_row hq h.r0 (by omega), only_row hq h.r2 (by omega), ⟨h.own.1, ?_⟩, h.bel.trans (hq.below (by omega) h.bel.size), hv⟩
  rcases h.own.2 with h1 | ⟨g, cap, cur, h1, h2, h3, h4⟩
  · exact Or.inl h1
  · exact Or.inr ⟨g, cap, cur, h1, h2, only_row hq h3 (by omega), h4⟩
theorem RJ.later {w wr w' : World} {V : Nat} {s : ByteArray} {o : Nat} {er : Int} {seq : Nat} {prev : ByteArray} {tx : Nat} {R : Nat → Rv} {i : Nat} {va : Value} (h : RJ w wr V s o er seq prev tx R i va) (hb : Below wr.heap.size wr w') : RJ w w' V s o er seq prev tx R i va :=
  h.took ((hb.block _ (lt_of_row h.cur)).trans h.cur) (Only.ofBelow hb)
theorem RJ.app {w wr w2 w3 : World} {V : Nat} {s : ByteArray} {o : Nat} {er : Int} {seq : Nat} {prev : ByteArray} {tx : Nat} {R : Nat → Rv} {i g cap : Nat} {va : Value} (h : RJ w wr V s o er seq prev tx R i va) (hgr : wr.grownBy w2 va.ownBlock)
    (hown : w2.ownsRow (V + 1) 24 8 (.slice (some ⟨g, 0, none⟩) (i + 1) cap) (i + 1) (revC R i ++ (R i).cs.toList)) (h3 : w3 = w2.setCell ⟨V, 3, none⟩ (.slice (some ⟨g, 0, none⟩) (i + 1) cap)) :
    RJ w w3 V s o er seq prev tx R (i + 1) (.slice (some ⟨g, 0, none⟩) (i + 1) cap) := by
  subst h3
  have hv := h.hv
  have hB : ∀ j, va.ownBlock = some j → V + 1 ≤ j := fun j hj => (h.own.lt j hj).1
  have q0 := far_row hgr hB h.r0 (by omega) (lt_of_row h.r0)
  have q1 := far_row hgr hB h.cur (by omega) (lt_of_row h.cur)
  have q2 := far_row hgr hB h.r2 (by omega) (lt_of_row h.r2)
  have e3 := row_setCell (k := 3) q2 (.slice (some ⟨g, 0, none⟩) (i + 1) cap)
  have hg : V + 1 ≤ g := (hown.lt g rfl).1
  refine ⟨(Below.heap_setCell _ _ _ _ (by show _ ≠ V; omega)).trans q1, (Below.heap_setCell _ _ _ _ (by show _ ≠ V; omega)).trans q0, ?_, ?_, ?_, hv⟩
  · simpa using e3
  · rw [revC_succ]
    refine ⟨hown.1, ?_⟩
    rcases hown.2 with ⟨hv, _⟩ | ⟨g', cap', cur, hv, h1, h2, h3⟩
    · cases hv
    · exact Or.inr ⟨g', cap', cur, hv, h1, (Below.heap_setCell _ _ _ _ (by show _ ≠ V; omega)).trans h2, h3⟩
  · exact (h.bel.grown hgr h.bel.size (fun k hk => by have := hB k hk; omega)).setCell (p := ⟨V, 3, none⟩) (by show _ ≤ V; omega) _
end Go.Proofs.YtaocbkloafhmeaaDoor
