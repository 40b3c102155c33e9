/- The tree of a block's revisions (Tree), called. -/
import Derived.Test.YtaocbkloafhmeaaDoorMet
import Derived.Test.YtaocbkloafhmeaaDoorRex
import Derived.Test.YtaocbkloafhmeaaDoorRox
namespace Go.Proofs.YtaocbkloafhmeaaDoor
open Go.RowKit
def leafs (R : Nat → Rv) (i : Nat) : ByteArray := sumS (leafT (metaT (R i)))
theorem leafs_add (R : Nat → Rv) (N : Nat) : ∀ i, i < N + 1 → addF (leafs R) N (sumS (leafT (metaT (R N)))) i = leafs R i := fun i hi => by
  unfold addF
  split
  · next e => rw [e]; rfl
  · rfl
set_option maxRecDepth 100000 in
set_option maxHeartbeats 2000000 in
theorem tree_any (x : Bk) (hn : x.n ≤ 66) (p : Option Addr) (c : Nat) (w : World) (hw : 3 ≤ w.heap.size) (hG : GL w) (hX : Revs w p x.n c x.R) :
    Calls Tryd.prog 22 #[x.val p c] w fun e w' => ∃ b S, e = .returned (.pointer (some ⟨b, 0, none⟩)) ∧ Tre w' S b x.n (leafs x.R) ∧ (∀ j, S j → w.heap.size ≤ j) ∧ Below w.heap.size w w' := by
  obtain ⟨seq, prev, tx, n, R⟩ := x
  simp only at hn hX ⊢
  rw [show (Bk.mk seq prev tx n R).val p c = .agg #[.int .u64 (seq : Int), .string prev, .int .u64 (tx : Int), .slice p n c] from rfl]
  have hcap := hX.cap
  go_enter Tryd.func22, Tryd.ntmps22
  go_wp2_with fail
  refine (new_any _).mono ?_
  rintro e w1 ⟨rfl, rfl⟩
  go_wp2_with fail
  have t0 := new_tre (w.alloc (.cells #[.int .u64 (seq : Int), .string prev, .int .u64 (tx : Int), .slice p n c] 38)) (by simp; omega) (leafs R)
  have b0 : Below w.heap.size w ((w.alloc (.cells #[.int .u64 (seq : Int), .string prev, .int .u64 (tx : Int), .slice p n c] 38)).alloc (.cells #[.slice none 0 0] 112)) := ((Below.refl _ w).alloc (Nat.le_refl _) _).alloc (by simp) _
  rw [World.size_alloc] at t0
  try rw [World.size_alloc]
  obtain ⟨w1, hw1⟩ : ∃ w1, (w.alloc (.cells #[.int .u64 (seq : Int), .string prev, .int .u64 (tx : Int), .slice p n c] 38)).alloc (.cells #[.slice none 0 0] 112) = w1 := ⟨_, rfl⟩
  rw [hw1] at t0 b0 ⊢
  clear hw1
  go_loopw [10] (fun c wr => ∃ (i : Nat) (S : Nat → Prop), i ≤ n ∧ c = .int .i64 (i : Int) ∧ Tre wr S (w.heap.size + 1) i (leafs R) ∧ (∀ j, S j → w.heap.size ≤ j) ∧ Below w.heap.size w wr) (fun c _ => n - (intOf c).toNat)
  case atStart => exact ⟨0, _, Nat.zero_le _, rfl, t0, fun j hj => by omega, b0⟩
  case round =>
    clear t0 b0
    obtain ⟨i, S, hi, rfl, hT, hS, hb⟩ := hrel
    by_cases him : i < n
    · have him' : (i : Int) < (n : Int) := by omega
      obtain ⟨pb, po, rfl, hpb, hat⟩ := hX.at' (by omega)
      have h8 := (hat i him).kept (hb.block pb hpb)
      have d0 := h8.c0
      have d1 := h8.c1
      have d2 := h8.c2
      have d3 := h8.c3
      have d4 := h8.c4
      have d5 := h8.c5
      have d6 := h8.c6
      have d7 := h8.c7
      have hfit := hX.fit i him
      have hms := metaT_size hfit
      have y1 := hfit.t
      have y2 := hfit.f
      have y5 := hfit.h
      have hsz := hb.size
      go_wp2_with fail
      refine (meta_any (R i) hfit _).mono ?_
      rintro e w3 ⟨rfl, hb3⟩
      have hb4 : Below wr.heap.size wr w3 := ((Below.refl _ wr).alloc (Nat.le_refl _) _).trans (hb3.mono (by simp))
      have hT4 := hT.later hb4
      have hG4 := hG.later (hb.trans (hb4.mono hsz))
      have hsz4 := hb4.size
      go_wp2_with fail
      refine (add_any (metaT (R i)) (by omega) i (by omega) (leafs R) S (w.heap.size + 1) w3 hG4 hT4).mono ?_
      rintro e w5 ⟨rfl, ⟨S', t1, t2⟩, hC⟩
      have hb5 : Below w.heap.size w w5 := (hb.trans (hb4.mono hsz)).trans (hC.below (by omega) hS)
      go_wp2
      go_roundw
      case rel =>
        refine ⟨i + 1, S', by omega, by go_num, t1.congr (leafs_add R i), fun j hj => ?_, hb5⟩
        rcases t2 j hj with e | e
        · exact hS j e
        · omega
      case measure => simp [intOf]; omega
    · obtain rfl : i = n := by omega
      go_wp2
      go_ret
      exact ⟨_, S, rfl, hT, hS, hb⟩
end Go.Proofs.YtaocbkloafhmeaaDoor
