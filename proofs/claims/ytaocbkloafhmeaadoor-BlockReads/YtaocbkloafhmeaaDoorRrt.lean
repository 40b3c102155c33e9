/- The document's Root of a block's metas, called. -/
import Derived.Test.YtaocbkloafhmeaaDoorRme
import Derived.Test.YtaocbkloafhmeaaDoorTbk
import Derived.Test.YtaocbkloafhmeaaDoorRro
namespace Go.Proofs.YtaocbkloafhmeaaDoor
open Go.RowKit
theorem own_laterN {w w' : World} {base : Nat} {e : TypeId} {z : Nat} {v : Value} {n : Nat} {xs : List Value} (h : w.ownsRow base e z v n xs) (hb : Below w.heap.size w w') : w'.ownsRow base e z v n xs := by
  refine ⟨h.1, ?_⟩
  rcases h.2 with h1 | ⟨g, cap, cur, h1, h2, h3, h4⟩
  · exact Or.inl h1
  · exact Or.inr ⟨g, cap, cur, h1, h2, (below_heap hb _ (lt_of_row h3)).trans h3, h4⟩
def leafL (R : Nat → Rv) (n : Nat) : List ByteArray := (List.range n).map (leafs R)
theorem leafL_len (R : Nat → Rv) (n : Nat) : (leafL R n).length = n := by simp [leafL]
theorem leafL_snoc (R : Nat → Rv) (n : Nat) : leafL R (n + 1) = leafL R n ++ [leafs R n] := by simp [leafL, List.range_succ]
theorem leafL_get (R : Nat → Rv) (n i : Nat) (h : i < n) : (leafL R n).getD i ByteArray.empty = leafs R i := by simp [leafL, List.getD_eq_getElem?_getD, h]
set_option maxRecDepth 100000 in
set_option maxHeartbeats 2000000 in
theorem rrt_any (x : Bk) (hn : x.n ≤ 66) (p : Option Addr) (c : Nat) (w : World) (hX : Revs w p x.n c x.R) :
    Calls Tryd.prog 24 #[x.val p c] w fun e w' => e = .returned (.string (rootR (leafs x.R) 0 x.n)) ∧ Below w.heap.size w w' := by
  obtain ⟨seq, prev, tx, n, R⟩ := x
  simp only at hn hX ⊢
  rw [show (Bk.mk seq prev tx n R).val p c = .agg #[.int .u64 (seq : Int), .string prev, .int .u64 (tx : Int), .slice p n c] from rfl]
  have hcap := hX.cap
  have hm : maxLen = 9223372036854775807 := rfl
  obtain ⟨i9, hi9, hz0, hz1, hz2⟩ := info_parts info9
  go_enter Tryd.func24, Tryd.ntmps24
  go_wp2_with fail
  have b0 : Below w.heap.size w ((w.alloc (.cells #[.int .u64 (seq : Int), .string prev, .int .u64 (tx : Int), .slice p n c] 41)).alloc (.cells #[] 9)) := ((Below.refl _ w).alloc (Nat.le_refl _) _).alloc (by simp) _
  have r0 : ((w.alloc (.cells #[.int .u64 (seq : Int), .string prev, .int .u64 (tx : Int), .slice p n c] 41)).alloc (.cells #[] 9)).heap[w.heap.size]? = some (.cells #[.int .u64 (seq : Int), .string prev, .int .u64 (tx : Int), .slice p n c] 41 (0, 0)) := (Below.heap_alloc _ _ _ (by simp)).trans (heap_alloc_new _ _)
  have o0 : ((w.alloc (.cells #[.int .u64 (seq : Int), .string prev, .int .u64 (tx : Int), .slice p n c] 41)).alloc (.cells #[] 9)).ownsRow (w.heap.size + 1) 9 1 (.slice (some ⟨w.heap.size + 1, 0, none⟩) 0 0) 0 (strs (leafL R 0)) := by
    refine ⟨rfl, Or.inr ⟨w.heap.size + 1, 0, #[], rfl, Nat.le_refl _, ?_, Nat.le_refl _, Nat.zero_le _, rfl, rfl⟩⟩
    have := heap_alloc_new (w.alloc (.cells #[.int .u64 (seq : Int), .string prev, .int .u64 (tx : Int), .slice p n c] 41)) (.cells #[] 9)
    rw [World.size_alloc] at this
    exact this
  go_loopw [3, 4] (fun va vi wr => ∃ i : Nat, i ≤ n ∧ vi = .int .i64 (i : Int) ∧ wr.ownsRow (w.heap.size + 1) 9 1 va i (strs (leafL R i)) ∧ wr.heap[w.heap.size]? = some (.cells #[.int .u64 (seq : Int), .string prev, .int .u64 (tx : Int), .slice p n c] 41 (0, 0)) ∧ Below w.heap.size w wr) (fun _ vi _ => n - (intOf vi).toNat)
  case atStart => exact ⟨0, Nat.zero_le _, rfl, o0, r0, b0⟩
  case round =>
    clear o0 r0 b0
    obtain ⟨i, hin, rfl, hO, hR, hb⟩ := hrel
    have q3 := cell_of_row wr _ 3 _ _ _ hR
    have hsz := hb.size
    have hlt0 := lt_of_row hR
    by_cases him : i < n
    · have him' : (i : Int) < (n : Int) := by omega
      obtain ⟨pb, po, rfl, hpb, hat⟩ := hX.at' (by omega)
      have h8 := (hat i him).kept (hb.block pb hpb)
      have d0 := h8.c0
      have d1 := h8.c1
      have d2 := h8.c2
      have d3 := h8.c3
      have d4 := h8.c4
      have d5 := h8.c5
      have d6 := h8.c6
      have d7 := h8.c7
      have hfit := hX.fit i him
      have hms := metaT_size hfit
      have y1 := hfit.t
      have y2 := hfit.f
      have y5 := hfit.h
      go_wp2_with fail
      refine (rmeta_any (R i) hfit _).mono ?_
      rintro e w3 ⟨rfl, hb3⟩
      have hO3 := own_laterN hO hb3
      have hR3 := (hb3.block _ hlt0).trans hR
      go_wp2_with fail
      refine (rleaf_any (metaT (R i)) (by omega) _).mono ?_
      rintro e w4 ⟨rfl, hb4⟩
      have hO4 := own_laterN hO3 hb4
      have hR4 := (hb4.block _ (lt_of_row hR3)).trans hR3
      have hb04 : Below w.heap.size w w4 := (hb.trans (hb3.mono hsz)).trans (hb4.mono (by have := hb3.size; omega))
      have hs4 := hb04.size
      have hl4 := lt_of_row hR4
      have hs : leafs R i = sumS (leafT (metaT (R i))) := rfl
      rw [← hs]
      obtain ⟨y, hy⟩ : ∃ y, leafs R i = y := ⟨_, rfl⟩
      rw [hy]
      have HY : Hid (leafs R i = y) := hy
      clear hy hs
      go_wp2_with (at_builtin; refine wpList_append_lies _ (by rfl) (.tmp 13) (.tmp 21) 71 (by rfl) (w.heap.size + 1) 9 i9 _ 1 16 Tryd.underlying71 hi9 hz0 hz1 hz2 (by rfl) (by decide) u3 i _ (by rfl) (hO4.alloc _) ⟨w4.heap.size, 0, none⟩ 1 1 [.string y] (by rfl) (by rfl) (World.news_of_block (heap_alloc_new w4 _)) (by simp [Value.oneCell']) (by decide) (by unfold maxLen; omega) (by omega) (by simp; omega) _ rfl ?_; intro g6 cap6 w6 hown6 hgr6 hat6 hlt6)
      go_roundw
      case rel =>
        refine ⟨i + 1, by omega, by go_num, ?_, ?_, ?_⟩
        · rw [leafL_snoc, strs_snoc, HY.out]
          exact hown6
        · rw [hgr6.block w.heap.size (by simp; omega) (fun e => ?_), Below.heap_alloc _ _ _ hl4]
          · exact hR4
          · have := (hO4.lt _ e.symm).1
            omega
        · exact (hb04.alloc hs4 _).grown hgr6 (by simp; omega) (fun k hk => by have := (hO4.lt k hk).1; omega)
      case measure => simp [intOf]; omega
    · obtain rfl : i = n := by omega
      obtain ⟨q, cq, rfl, hS⟩ := own_strs hO
      have hg : ∀ j, ((leafL R i).getD j ByteArray.empty).size ≤ 18014398509481984 := fun j => by
        by_cases hj : j < i
        · rw [leafL_get R i j hj]; unfold leafs; rw [sumS_size]; omega
        · rw [List.getD_eq_getElem?_getD, List.getElem?_eq_none (by rw [leafL_len]; omega)]; decide
      have hrr := rroot_any (fun j => (leafL R i).getD j ByteArray.empty) hg i i 0 (Nat.le_refl _) (by omega) q cq wr (by simpa using hS)
      have hE : rootR (fun j => (leafL R i).getD j ByteArray.empty) 0 i = rootR (leafs R) 0 i := rootF_congr _ _ i 0 i (Nat.le_refl _) (fun j _ hj => leafL_get R i j (by omega))
      rw [hE] at hrr
      go_wp2_with fail
      refine hrr.mono ?_
      rintro e w7 ⟨rfl, hb7⟩
      go_wp2
      go_ret
      exact ⟨rfl, hb.trans (hb7.mono hsz)⟩
end Go.Proofs.YtaocbkloafhmeaaDoor
