/- The laws' Ref and Block, called: a revision, and a block cut at 66 revisions, as the document has them. -/
import Derived.Test.YtaocbkloafhmeaaDoorCl2
namespace Go.Proofs.YtaocbkloafhmeaaDoor
open Go.RowKit
theorem far_row {u v : World} {o : Option Nat} {B k : Nat} {x : Option Obj} (h : u.grownBy v o) (hB : ∀ j, o = some j → B ≤ j) (hx : u.heap[k]? = x) (hk : k < B) (hl : k < u.heap.size) : v.heap[k]? = x := by
  rw [h.block k hl (fun e => by have := hB k e.symm; omega)]
  exact hx
set_option maxRecDepth 100000 in
set_option maxHeartbeats 1000000 in
theorem ref_any (r : Rv) (w : World) : Calls Tryd.prog 13 #[r.val] w fun e w' => e = .returned r.val ∧ Below w.heap.size w w' := by
  obtain ⟨op, t, f, d, v, q, b, g⟩ := r
  rw [show (Rv.mk op t f d v q b g).val = .agg #[.int .i64 op, .string t, .string f, .int .u64 (d : Int), .int .u64 (v : Int), .string q, .string b, .bool g] from rfl]
  go_enter Tryd.func13, Tryd.ntmps13
  go_wp2
  exact bodyPost_ret (v := .agg #[.int .i64 op, .string t, .string f, .int .u64 (d : Int), .int .u64 (v : Int), .string q, .string b, .bool g]) (by simp [results, Tryd.results13, go_sem]) rfl ⟨rfl, ((Below.refl _ w).alloc (Nat.le_refl _) _).alloc (by simp) _⟩
theorem info30r : (Tryd.prog.info? 30).map (fun i => (i.zero, i.size, i.bytes)) = some (some (.agg #[.int .i64 0, .string ⟨#[]⟩, .string ⟨#[]⟩, .int .u64 0, .int .u64 0, .string ⟨#[]⟩, .string ⟨#[]⟩, .bool false]), 8, 96) := by kernel_rfl
theorem own_revs {w : World} {base T n : Nat} {v : Value} {R : Nat → Rv} (h : w.ownsRow base T 8 v n (revC R n)) (hf : ∀ i, i < n → (R i).fit) : ∃ q d, v = .slice q n d ∧ Revs w q n d R := by
  have h' := h
  obtain ⟨hl, h0⟩ := h
  rcases h0 with ⟨rfl, h0⟩ | ⟨g, cap, cur, rfl, _⟩
  · subst h0
    exact ⟨none, 0, rfl, ⟨Nat.le_refl _, Nat.zero_le _⟩, fun i hi => absurd hi (by omega), fun h => absurd h (by omega)⟩
  · obtain ⟨r1, _, r3⟩ := Rowd.of_own h'
    exact ⟨_, _, rfl, r1.revs r3 hf⟩
def cutB (x : Bk) : Bk := { x with n := min x.n 66 }
theorem cutB_n (x : Bk) : (cutB x).n ≤ 66 := Nat.min_le_right _ _
structure BI (w wr : World) (seq : Nat) (prev : ByteArray) (tx : Nat) (p : Option Addr) (m c : Nat) (R : Nat → Rv) (i : Nat) (va : Value) : Prop where
  r0 : wr.heap[w.heap.size]? = some (.cells #[.int .u64 (seq : Int), .string prev, .int .u64 (tx : Int), .slice p m c] 38 (0, 0))
  r1 : wr.heap[w.heap.size + 1]? = some (.cells #[.int .u64 0, .string ⟨#[]⟩, .int .u64 0, .slice none 0 0] 38 (0, 0))
  r2 : wr.heap[w.heap.size + 1 + 1]? = some (.cells #[.int .u64 0, .string ⟨#[]⟩, .int .u64 0, .slice none 0 0] 41 (0, 0))
  r3 : wr.heap[w.heap.size + 1 + 1 + 1]? = some (.cells #[.int .u64 (seq : Int), .string prev, .int .u64 (tx : Int), va] 41 (0, 0))
  own : wr.ownsRow (w.heap.size + 4) 30 8 va i (revC R i)
  bel : Below w.heap.size w wr
theorem cell_later4 {w w' : World} (hb : Below w.heap.size w w') {k : Nat} {x : Obj} (h : w.heap[k]? = some x) : w'.heap[k]? = some x := (hb.block k (lt_of_row h)).trans h
theorem BI.later {w wr w' : World} {seq : Nat} {prev : ByteArray} {tx : Nat} {p : Option Addr} {m c : Nat} {R : Nat → Rv} {i : Nat} {va : Value} (h : BI w wr seq prev tx p m c R i va) (hb : Below wr.heap.size wr w') : BI w w' seq prev tx p m c R i va :=
  ⟨cell_later4 hb h.r0, cell_later4 hb h.r1, cell_later4 hb h.r2, cell_later4 hb h.r3, own_laterN h.own hb, h.bel.trans (hb.mono h.bel.size)⟩
theorem BI.app {w wr w2 w3 : World} {seq : Nat} {prev : ByteArray} {tx : Nat} {p : Option Addr} {m c : Nat} {R : Nat → Rv} {i g cap : Nat} {va : Value} (h : BI w wr seq prev tx p m c R i va) (hgr : wr.grownBy w2 va.ownBlock)
    (hown : w2.ownsRow (w.heap.size + 4) 30 8 (.slice (some ⟨g, 0, none⟩) (i + 1) cap) (i + 1) (revC R i ++ (R i).cs.toList)) (h3 : w3 = w2.setCell ⟨w.heap.size + 1 + 1 + 1, 3, none⟩ (.slice (some ⟨g, 0, none⟩) (i + 1) cap)) :
    BI w w3 seq prev tx p m c R (i + 1) (.slice (some ⟨g, 0, none⟩) (i + 1) cap) := by
  subst h3
  have hB : ∀ j, va.ownBlock = some j → w.heap.size + 4 ≤ j := fun j hj => (h.own.lt j hj).1
  have q0 := far_row hgr hB h.r0 (by omega) (lt_of_row h.r0)
  have q1 := far_row hgr hB h.r1 (by omega) (lt_of_row h.r1)
  have q2 := far_row hgr hB h.r2 (by omega) (lt_of_row h.r2)
  have q3 := far_row hgr hB h.r3 (by omega) (lt_of_row h.r3)
  have e3 := row_setCell (k := 3) q3 (.slice (some ⟨g, 0, none⟩) (i + 1) cap)
  refine ⟨(Below.heap_setCell _ _ _ _ (by first | (simp; done) | (simp; omega))).trans q0, (Below.heap_setCell _ _ _ _ (by first | (simp; done) | (simp; omega))).trans q1, (Below.heap_setCell _ _ _ _ (by first | (simp; done) | (simp; omega))).trans q2, ?_, ?_, ?_⟩
  · simpa using e3
  · rw [revC_succ]
    have hg : w.heap.size + 4 ≤ g := (hown.lt g rfl).1
    refine ⟨hown.1, ?_⟩
    rcases hown.2 with ⟨hv, _⟩ | ⟨g', cap', cur, hv, h1, h2, h3⟩
    · cases hv
    · exact Or.inr ⟨g', cap', cur, hv, h1, (Below.heap_setCell _ _ _ _ (by simp; omega)).trans h2, h3⟩
  · exact (h.bel.grown hgr h.bel.size (fun k hk => by have := hB k hk; omega)).setCell (p := ⟨w.heap.size + 1 + 1 + 1, 3, none⟩) (by show _ ≤ w.heap.size + 1 + 1 + 1; omega) _
end Go.Proofs.YtaocbkloafhmeaaDoor
