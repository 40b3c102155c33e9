/- The document's Read: the memory while it reads (RD: a block; RT: a revision beside it), and plain facts: errors stay. -/
import Derived.Test.YtaocbkloafhmeaaDoorRdb
import Derived.Test.YtaocbkloafhmeaaDoorRtx
import Derived.Test.YtaocbkloafhmeaaDoorCl2
namespace Go.Proofs.YtaocbkloafhmeaaDoor
open Go.RowKit
theorem takeR_err {s : ByteArray} {o : Nat} {er : Int} (h : er ≠ 0) : (takeR s o er).e = er := by
  have h0 : bytesA s o er 1 = ⟨⟨#[]⟩, o, er⟩ := by unfold bytesA; rw [if_neg h]
  have h1 : textA s o er 16 = ⟨⟨#[]⟩, o, er⟩ := by unfold textA; rw [if_neg h]
  have h2 : uintA s o er = ⟨0, o, er⟩ := by unfold uintA; rw [if_neg h]
  have h3 : textA s o er 32 = ⟨⟨#[]⟩, o, er⟩ := by unfold textA; rw [if_neg h]
  simp only [takeR, h0, h1, h2, h3]
theorem rst_stays {s : ByteArray} {j : Nat} (h : (rst s j).e ≠ 0) : ∀ k, j ≤ k → (rst s k).e = (rst s j).e
  | 0, hk => by
    obtain rfl : j = 0 := by omega
    rfl
  | k + 1, hk => by
    by_cases e : j = k + 1
    · rw [e]
    · have ih := rst_stays h k (by omega)
      show (takeR s (rst s k).o (rst s k).e).e = _
      rw [takeR_err (by rw [ih]; exact h), ih]
theorem own_laterD {w w' : World} {base T n : Nat} {v : Value} {xs : List Value} (h : w.ownsRow base T 8 v n xs) (hk : ∀ k, v.ownBlock = some k → w'.heap[k]? = w.heap[k]?) : w'.ownsRow base T 8 v n xs := by
  refine ⟨h.1, ?_⟩
  rcases h.2 with h1 | ⟨g, cap, cur, h1, h2, h3, h4⟩
  · exact Or.inl h1
  · exact Or.inr ⟨g, cap, cur, h1, h2, (hk g (by rw [h1]; rfl)).trans h3, h4⟩
structure RD (w W : World) (V : Nat) (s : ByteArray) (oc : Nat) (ec : Int) (seq : Nat) (prev : ByteArray) (tx : Nat) (R : Nat → Rv) (i : Nat) (va : Value) : Prop where
  r0 : W.heap[w.heap.size]? = some (.cells #[.int .u64 0, .string ⟨#[]⟩, .int .u64 0, .slice none 0 0] 41 (0, 0))
  r1 : W.heap[w.heap.size + 1]? = some (.cells #[.int .u64 (seq : Int), .string prev, .int .u64 (tx : Int), va] 41 (0, 0))
  rc : W.heap[V]? = some (.cells #[.string s, .int .i64 (oc : Int), .int .i64 ec] 91 (0, 0))
  own : W.ownsRow (V + 1) 30 8 va i (revC R i)
  bel : Below w.heap.size w W
  hv : w.heap.size + 2 ≤ V
theorem RD.kept {w W W' : World} {V : Nat} {s : ByteArray} {oc : Nat} {ec : Int} {seq : Nat} {prev : ByteArray} {tx : Nat} {R : Nat → Rv} {i : Nat} {va : Value} (h : RD w W V s oc ec seq prev tx R i va) {B : Nat} (hB : V < B) (ho : ∀ k, va.ownBlock = some k → k < B) (hb : Below B W W') : RD w W' V s oc ec seq prev tx R i va := by
  have hv := h.hv
  exact ⟨(hb.block _ (by omega)).trans h.r0, (hb.block _ (by omega)).trans h.r1, (hb.block _ (by omega)).trans h.rc, own_laterD h.own (fun k hk => hb.block k (ho k hk)), h.bel.trans (hb.mono (by omega)), hv⟩
theorem RD.lt {w W : World} {V : Nat} {s : ByteArray} {oc : Nat} {ec : Int} {seq : Nat} {prev : ByteArray} {tx : Nat} {R : Nat → Rv} {i : Nat} {va : Value} (h : RD w W V s oc ec seq prev tx R i va) : V < W.heap.size ∧ ∀ k, va.ownBlock = some k → k < W.heap.size :=
  ⟨lt_of_row h.rc, fun k hk => (h.own.lt k hk).2⟩
theorem RD.later {w W W' : World} {V : Nat} {s : ByteArray} {oc : Nat} {ec : Int} {seq : Nat} {prev : ByteArray} {tx : Nat} {R : Nat → Rv} {i : Nat} {va : Value} (h : RD w W V s oc ec seq prev tx R i va) (hb : Below W.heap.size W W') : RD w W' V s oc ec seq prev tx R i va :=
  h.kept h.lt.1 h.lt.2 hb
structure RT (w W : World) (V : Nat) (s : ByteArray) (oc : Nat) (ec : Int) (seq : Nat) (prev : ByteArray) (tx : Nat) (R : Nat → Rv) (i : Nat) (va : Value) (br : Nat) (cs : Array Value) (bd : Nat) (od : Nat) (ed : Int) : Prop where
  base : RD w W V s oc ec seq prev tx R i va
  rr : W.heap[br]? = some (.cells cs 30 (0, 0))
  rd : W.heap[bd]? = some (.cells #[.string s, .int .i64 (od : Int), .int .i64 ed] 91 (0, 0))
  lv : V < br
  lo : ∀ k, va.ownBlock = some k → k < br
  lb : br < bd
def stp (W : World) (bd : Nat) (s : ByteArray) (o : Nat) (e : Int) (br k : Nat) (x : Value) : World :=
  (((W.setCell ⟨bd, 0, none⟩ (.string s)).setCell ⟨bd, 1, none⟩ (.int .i64 (o : Int))).setCell ⟨bd, 2, none⟩ (.int .i64 e)).setCell ⟨br, k, none⟩ x
theorem stp_other (W : World) (bd : Nat) (s : ByteArray) (o : Nat) (e : Int) (br k : Nat) (x : Value) {j : Nat} (h1 : j ≠ bd) (h2 : j ≠ br) : (stp W bd s o e br k x).heap[j]? = W.heap[j]? := by
  unfold stp
  rw [Below.heap_setCell _ _ _ _ h2, Below.heap_setCell _ _ _ _ h1, Below.heap_setCell _ _ _ _ h1, Below.heap_setCell _ _ _ _ h1]
theorem RT.later {w W W' : World} {V : Nat} {s : ByteArray} {oc : Nat} {ec : Int} {seq : Nat} {prev : ByteArray} {tx : Nat} {R : Nat → Rv} {i : Nat} {va : Value} {br : Nat} {cs : Array Value} {bd : Nat} {od : Nat} {ed : Int} (h : RT w W V s oc ec seq prev tx R i va br cs bd od ed) (hb : Below W.heap.size W W') : RT w W' V s oc ec seq prev tx R i va br cs bd od ed :=
  ⟨h.base.later hb, cell_later4 hb h.rr, cell_later4 hb h.rd, h.lv, h.lo, h.lb⟩
theorem RT.stp {w W : World} {V : Nat} {s : ByteArray} {oc : Nat} {ec : Int} {seq : Nat} {prev : ByteArray} {tx : Nat} {R : Nat → Rv} {i : Nat} {va : Value} {br : Nat} {cs : Array Value} {bd : Nat} {od : Nat} {ed : Int} (h : RT w W V s oc ec seq prev tx R i va br cs bd od ed) (o : Nat) (e : Int) (k : Nat) (x : Value) : RT w (stp W bd s o e br k x) V s oc ec seq prev tx R i va br (cs.setIfInBounds k x) bd o e := by
  have hv := h.base.hv
  have l1 := h.lv
  have l2 := h.lb
  have hb : Below br W (YtaocbkloafhmeaaDoor.stp W bd s o e br k x) := by
    unfold YtaocbkloafhmeaaDoor.stp
    exact ((((Below.refl _ W).setCell (p := ⟨bd, 0, none⟩) (by show br ≤ bd; omega) _).setCell (p := ⟨bd, 1, none⟩) (by show br ≤ bd; omega) _).setCell (p := ⟨bd, 2, none⟩) (by show br ≤ bd; omega) _).setCell (p := ⟨br, k, none⟩) (Nat.le_refl _) _
  refine ⟨h.base.kept l1 h.lo hb, ?_, ?_, l1, h.lo, l2⟩
  · unfold YtaocbkloafhmeaaDoor.stp
    refine row_setCell ?_ _
    rw [Below.heap_setCell _ _ _ _ (by show br ≠ bd; omega), Below.heap_setCell _ _ _ _ (by show br ≠ bd; omega), Below.heap_setCell _ _ _ _ (by show br ≠ bd; omega)]
    exact h.rr
  · unfold YtaocbkloafhmeaaDoor.stp
    rw [Below.heap_setCell _ _ _ _ (by show bd ≠ br; omega)]
    have e0 := row_setCell (k := 0) h.rd (.string s)
    have e1 := row_setCell (k := 1) e0 (.int .i64 (o : Int))
    have e2 := row_setCell (k := 2) e1 (.int .i64 e)
    simpa using e2
def st3 (W : World) (bd : Nat) (s : ByteArray) (o : Nat) (e : Int) : World := ((W.setCell ⟨bd, 0, none⟩ (.string s)).setCell ⟨bd, 1, none⟩ (.int .i64 (o : Int))).setCell ⟨bd, 2, none⟩ (.int .i64 e)
theorem RD.setc {w W : World} {V : Nat} {s : ByteArray} {oc : Nat} {ec : Int} {seq : Nat} {prev : ByteArray} {tx : Nat} {R : Nat → Rv} {i : Nat} {va : Value} (h : RD w W V s oc ec seq prev tx R i va) (o : Nat) (e : Int) : RD w (st3 W V s o e) V s o e seq prev tx R i va := by
  have hv := h.hv
  have hne : ∀ k, k ≠ V → (st3 W V s o e).heap[k]? = W.heap[k]? := fun k hk => by
    unfold st3
    rw [Below.heap_setCell _ _ _ _ hk, Below.heap_setCell _ _ _ _ hk, Below.heap_setCell _ _ _ _ hk]
  refine ⟨(hne _ (by omega)).trans h.r0, (hne _ (by omega)).trans h.r1, ?_, own_laterD h.own (fun k hk => hne k (by have := (h.own.lt k hk).1; omega)), ?_, hv⟩
  · unfold st3
    have e0 := row_setCell (k := 0) h.rc (.string s)
    have e1 := row_setCell (k := 1) e0 (.int .i64 (o : Int))
    have e2 := row_setCell (k := 2) e1 (.int .i64 e)
    simpa using e2
  · unfold st3
    exact ((h.bel.setCell (p := ⟨V, 0, none⟩) (by show _ ≤ V; omega) _).setCell (p := ⟨V, 1, none⟩) (by show _ ≤ V; omega) _).setCell (p := ⟨V, 2, none⟩) (by show _ ≤ V; omega) _
theorem RD.sete {w W : World} {V : Nat} {s : ByteArray} {oc : Nat} {ec : Int} {seq : Nat} {prev : ByteArray} {tx : Nat} {R : Nat → Rv} {i : Nat} {va : Value} (h : RD w W V s oc ec seq prev tx R i va) (e : Int) : RD w (W.setCell ⟨V, 2, none⟩ (.int .i64 e)) V s oc e seq prev tx R i va := by
  have hv := h.hv
  have hne : ∀ k, k ≠ V → (W.setCell ⟨V, 2, none⟩ (.int .i64 e)).heap[k]? = W.heap[k]? := fun k hk => Below.heap_setCell _ _ _ _ hk
  refine ⟨(hne _ (by omega)).trans h.r0, (hne _ (by omega)).trans h.r1, ?_, own_laterD h.own (fun k hk => hne k (by have := (h.own.lt k hk).1; omega)), h.bel.setCell (p := ⟨V, 2, none⟩) (by show _ ≤ V; omega) _, hv⟩
  have e2 := row_setCell (k := 2) h.rc (.int .i64 e)
  simpa using e2
theorem RD.setb {w W : World} {V : Nat} {s : ByteArray} {oc : Nat} {ec : Int} {seq : Nat} {prev : ByteArray} {tx : Nat} {R : Nat → Rv} {i : Nat} {va : Value} (h : RD w W V s oc ec seq prev tx R i va) (k : Nat) (x : Value) {seq' : Nat} {prev' : ByteArray} {tx' : Nat} {va' : Value} {i' : Nat} (hk : (#[.int .u64 (seq : Int), .string prev, .int .u64 (tx : Int), va] : Array Value).setIfInBounds k x = #[.int .u64 (seq' : Int), .string prev', .int .u64 (tx' : Int), va'])
    (hown : W.ownsRow (V + 1) 30 8 va' i' (revC R i')) : RD w (W.setCell ⟨w.heap.size + 1, k, none⟩ x) V s oc ec seq' prev' tx' R i' va' := by
  have hv := h.hv
  have hne : ∀ j, j ≠ w.heap.size + 1 → (W.setCell ⟨w.heap.size + 1, k, none⟩ x).heap[j]? = W.heap[j]? := fun j hj => Below.heap_setCell _ _ _ _ hj
  refine ⟨(hne _ (by omega)).trans h.r0, ?_, (hne _ (by omega)).trans h.rc, own_laterD hown (fun k hk => hne k (by have := (hown.lt k hk).1; omega)), h.bel.setCell (p := ⟨w.heap.size + 1, k, none⟩) (by show _ ≤ w.heap.size + 1; omega) _, hv⟩
  have e2 := row_setCell (k := k) h.r1 x
  rw [hk] at e2
  exact e2
theorem RT.setr {w W : World} {V : Nat} {s : ByteArray} {oc : Nat} {ec : Int} {seq : Nat} {prev : ByteArray} {tx : Nat} {R : Nat → Rv} {i : Nat} {va : Value} {br : Nat} {cs : Array Value} {bd : Nat} {od : Nat} {ed : Int} (h : RT w W V s oc ec seq prev tx R i va br cs bd od ed) (k : Nat) (x : Value) : RT w (W.setCell ⟨br, k, none⟩ x) V s oc ec seq prev tx R i va br (cs.setIfInBounds k x) bd od ed := by
  have l1 := h.lv
  have l2 := h.lb
  have hb : Below br W (W.setCell ⟨br, k, none⟩ x) := (Below.refl _ W).setCell (p := ⟨br, k, none⟩) (Nat.le_refl _) _
  exact ⟨h.base.kept l1 h.lo hb, row_setCell h.rr _, (Below.heap_setCell _ _ _ _ (by show bd ≠ br; omega)).trans h.rd, l1, h.lo, l2⟩
theorem RT.setc {w W : World} {V : Nat} {s : ByteArray} {oc : Nat} {ec : Int} {seq : Nat} {prev : ByteArray} {tx : Nat} {R : Nat → Rv} {i : Nat} {va : Value} {br : Nat} {cs : Array Value} {bd : Nat} {od : Nat} {ed : Int} (h : RT w W V s oc ec seq prev tx R i va br cs bd od ed) (o : Nat) (e : Int) : RT w (st3 W V s o e) V s o e seq prev tx R i va br cs bd od ed := by
  have l1 := h.lv
  have l2 := h.lb
  have hne : ∀ k, k ≠ V → (st3 W V s o e).heap[k]? = W.heap[k]? := fun k hk => by
    unfold st3
    rw [Below.heap_setCell _ _ _ _ hk, Below.heap_setCell _ _ _ _ hk, Below.heap_setCell _ _ _ _ hk]
  exact ⟨h.base.setc o e, (hne _ (by omega)).trans h.rr, (hne _ (by omega)).trans h.rd, l1, h.lo, l2⟩
theorem RD.app {w W : World} {V : Nat} {s : ByteArray} {oc : Nat} {ec : Int} {seq : Nat} {prev : ByteArray} {tx : Nat} {R : Nat → Rv} {i : Nat} {va : Value} (h : RD w W V s oc ec seq prev tx R i va) {w2 : World} {g cap : Nat} (hgr : W.grownBy w2 va.ownBlock)
    (hown : w2.ownsRow (V + 1) 30 8 (.slice (some ⟨g, 0, none⟩) (i + 1) cap) (i + 1) (revC R i ++ (R i).cs.toList)) :
    RD w (w2.setCell ⟨w.heap.size + 1, 3, none⟩ (.slice (some ⟨g, 0, none⟩) (i + 1) cap)) V s oc ec seq prev tx R (i + 1) (.slice (some ⟨g, 0, none⟩) (i + 1) cap) := by
  have hv := h.hv
  have hB : ∀ j, va.ownBlock = some j → V + 1 ≤ j := fun j hj => (h.own.lt j hj).1
  have q0 := far_row hgr hB h.r0 (by omega) (lt_of_row h.r0)
  have q1 := far_row hgr hB h.r1 (by omega) (lt_of_row h.r1)
  have q2 := far_row hgr hB h.rc (by omega) (lt_of_row h.rc)
  have hg : V + 1 ≤ g := (hown.lt g rfl).1
  have hne : ∀ j, j ≠ w.heap.size + 1 → (w2.setCell ⟨w.heap.size + 1, 3, none⟩ (.slice (some ⟨g, 0, none⟩) (i + 1) cap)).heap[j]? = w2.heap[j]? := fun j hj => Below.heap_setCell _ _ _ _ hj
  refine ⟨(hne _ (by omega)).trans q0, ?_, (hne _ (by omega)).trans q2, ?_, ?_, hv⟩
  · have e3 := row_setCell (k := 3) q1 (.slice (some ⟨g, 0, none⟩) (i + 1) cap)
    simpa using e3
  · rw [revC_succ]
    exact own_laterD hown (fun k hk => hne k (by have := (hown.lt k hk).1; omega))
  · exact (h.bel.grown hgr h.bel.size (fun k hk => by have := hB k hk; omega)).setCell (p := ⟨w.heap.size + 1, 3, none⟩) (by show _ ≤ w.heap.size + 1; omega) _
theorem bytes1_e {s : ByteArray} {o : Nat} : ((bytesA s o 0 1).e = 0 → (bytesA s o 0 1).v.size ≠ 0) ∧ ((bytesA s o 0 1).e ≠ 0 → (bytesA s o 0 1).v.size = 0) := by
  unfold bytesA
  rw [if_pos rfl, if_neg (by decide)]
  split
  · exact ⟨fun h => absurd (show (4 : Int) = 0 from h) (by decide), fun _ => rfl⟩
  · next h =>
    refine ⟨fun _ => ?_, fun h => absurd rfl h⟩
    show (s.extract o (o + 1)).size ≠ 0
    rw [ByteArray.size_extract]
    omega
end Go.Proofs.YtaocbkloafhmeaaDoor
