/- The meta of a revision (meta), called: in whatever order its pieces are made. -/
import Derived.Test.YtaocbkloafhmeaaDoorRex
import Derived.Deep.Cut
namespace Go.Proofs.YtaocbkloafhmeaaDoor
open Go.RowKit
def metaV (r : Rv) (B : Nat) : List Value := [.pointer (some ⟨B, 0, none⟩), .int .i64 r.op, .int .u8 ((opB r.op).toNat : Int), undef, .string (⟨#[opB r.op]⟩ : ByteArray), .pointer (some ⟨B, 1, none⟩), .string r.t, .string (textB r.t), .string ((⟨#[opB r.op]⟩ : ByteArray) ++ textB r.t), .pointer (some ⟨B, 2, none⟩), .string r.f, .string (textB r.f), .string (((⟨#[opB r.op]⟩ : ByteArray) ++ textB r.t) ++ textB r.f), .pointer (some ⟨B, 3, none⟩), .int .u64 (r.d : Int), .string (putS r.d), .string ((((⟨#[opB r.op]⟩ : ByteArray) ++ textB r.t) ++ textB r.f) ++ putS r.d), .pointer (some ⟨B, 4, none⟩), .int .u64 (r.v : Int), .string (putS r.v), .string (((((⟨#[opB r.op]⟩ : ByteArray) ++ textB r.t) ++ textB r.f) ++ putS r.d) ++ putS r.v), .pointer (some ⟨B, 5, none⟩), .string r.h, .string (textB r.h), .string ((((((⟨#[opB r.op]⟩ : ByteArray) ++ textB r.t) ++ textB r.f) ++ putS r.d) ++ putS r.v) ++ textB r.h), .string ((((((⟨#[opB r.op]⟩ : ByteArray) ++ textB r.t) ++ textB r.f) ++ putS r.d) ++ putS r.v) ++ textB r.h)]
def metaR (r : Rv) (_T B : Nat) (i : Nat) (v : Value) (W : World) : Prop :=
  if i = 3 then ∃ g, v = .slice (some ⟨g, 0, none⟩) 1 1 ∧ W.heap[g]? = some (.cells #[.int .u8 ((opB r.op).toNat : Int)] 5 (0, 0)) else v = (metaV r B).getD i undef
theorem metaR_later (r : Rv) (T B : Nat) : ∀ i v W W', metaR r T B i v W → Below W.heap.size W W' → metaR r T B i v W' := by
  intro i v W W' h hb
  unfold metaR at h ⊢
  split
  · rw [if_pos (by assumption)] at h
    obtain ⟨g, h1, h2⟩ := h
    exact ⟨g, h1, (hb.block g (lt_of_row h2)).trans h2⟩
  · rw [if_neg (by assumption)] at h
    exact h
theorem conv_one {W : World} {g : Nat} {t : TypeId} (b : UInt8) (h : W.heap[g]? = some (.cells #[.int .u8 (b.toNat : Int)] t (0, 0))) : (convert 66 9 (.slice (some ⟨g, 0, none⟩) 1 1)).run Tryd.prog W = .ok (.string ⟨#[b]⟩) W :=
  run_convert_bytes_back (P := Tryd.prog) W 66 9 5 ⟨g, 0, none⟩ 1 [b] Tryd.underlying66 Tryd.underlying5 Tryd.underlying9 (fun j hj => by
    have hj0 : j = 0 := by simpa using hj
    subst hj0
    have e1 : (⟨g, 0, none⟩ : Addr).add 0 = ⟨g, 0, none⟩ := by unfold Addr.add; split <;> simp_all
    rw [e1, cell_of_row W g 0 _ t _ h]
    rfl)
set_option maxRecDepth 100000 in
set_option maxHeartbeats 4000000 in
theorem meta_any (r : Rv) (hr : r.fit) (w : World) :
    Calls Tryd.prog 40 #[r.val] w fun e w' => e = .returned (.string (metaT r)) ∧ Below w.heap.size w w' := by
  have h1 := fun V => etext_any r.t (Nat.le_trans hr.t (by omega)) V
  have h2 := fun V => etext_any r.f (Nat.le_trans hr.f (by omega)) V
  have h3 := fun V => put_any r.d hr.d V
  have h4 := fun V => put_any r.v hr.v V
  have h5 := fun V => etext_any r.h (Nat.le_trans hr.h (by omega)) V
  have hop := opB_val r.op
  have z0 := size_one (opB r.op)
  have z1 := textB_size hr.t
  have z2 := textB_size hr.f
  have z3 := putS_size hr.d
  have z4 := putS_size hr.v
  have z5 := textB_size hr.h
  have y1 := hr.t
  have y2 := hr.f
  have y5 := hr.h
  rw [show r.val = .agg #[.int .i64 r.op, .string r.t, .string r.f, .int .u64 (r.d : Int), .int .u64 (r.v : Int), .string r.h, .string r.b, .bool r.g] from rfl]
  go_enter Tryd.func40, Tryd.ntmps40
  go_upto_region 1 with fail
  refine any_region (by kernel_rfl) 26 rfl (fun i => if i < 25 then i + 3 else 2) (metaR r 24 w.heap.size) (by kernel_rfl) (by kernel_rfl) (by kernel_rfl) (metaR_later r _ _) ?step ?post
  case step =>
    intro i hi a W hrest hb hk
    have hp : a.eval (.tmp 1) = .pointer (some ⟨w.heap.size, 0, none⟩) := (hrest 1 (by intro i hi; split <;> omega)).trans rfl
    have hbx : W.heap[w.heap.size]? = some (.cells #[.int .i64 r.op, .string r.t, .string r.f, .int .u64 (r.d : Int), .int .u64 (r.v : Int), .string r.h, .string r.b, .bool r.g] 24 (0, 0)) := (hb.block _ (by simp)).trans (heap_alloc_new _ _)
    have fp := ev hp
    clear hrest
    obtain rfl | rfl | rfl | rfl | rfl | rfl | rfl | rfl | rfl | rfl | rfl | rfl | rfl | rfl | rfl | rfl | rfl | rfl | rfl | rfl | rfl | rfl | rfl | rfl | rfl | rfl : i = 0 ∨ i = 1 ∨ i = 2 ∨ i = 3 ∨ i = 4 ∨ i = 5 ∨ i = 6 ∨ i = 7 ∨ i = 8 ∨ i = 9 ∨ i = 10 ∨ i = 11 ∨ i = 12 ∨ i = 13 ∨ i = 14 ∨ i = 15 ∨ i = 16 ∨ i = 17 ∨ i = 18 ∨ i = 19 ∨ i = 20 ∨ i = 21 ∨ i = 22 ∨ i = 23 ∨ i = 24 ∨ i = 25 := by omega
    · clear hi
      clear hk hbx
      refine ⟨_, rfl, rfl, rfl, wp_value (v := .pointer (some ⟨w.heap.size, 0, none⟩)) (w' := W) ?_ ⟨_, rfl, Below.refl _ _, rfl⟩⟩
      go_simp
    · clear hi
      have e0 : a.eval (.tmp 3) = .pointer (some ⟨w.heap.size, 0, none⟩) := hk 0 (mem_of (by kernel_rfl))
      have f0 := ev e0
      have hc : W.cell? ⟨w.heap.size, 0, none⟩ = some (.int .i64 r.op) := cell_of_row W _ 0 _ _ _ hbx
      clear hk hbx
      refine ⟨_, rfl, rfl, rfl, wp_value (v := .int .i64 r.op) (w' := W) ?_ ⟨_, rfl, Below.refl _ _, rfl⟩⟩
      go_simp
    · clear hi
      have e1 : a.eval (.tmp 4) = .int .i64 r.op := hk 1 (mem_of (by kernel_rfl))
      have f1 := ev e1
      clear hk hbx
      refine ⟨_, rfl, rfl, rfl, wp_value (v := .int .u8 ((opB r.op).toNat : Int)) (w' := W) ?_ ⟨_, rfl, Below.refl _ _, rfl⟩⟩
      go_simp
    · clear hi
      have e2 : a.eval (.tmp 5) = .int .u8 ((opB r.op).toNat : Int) := hk 2 (mem_of (by kernel_rfl))
      have f2 := ev e2
      clear hk hbx
      refine ⟨_, rfl, rfl, rfl, wp_value (v := .slice (some ⟨W.heap.size, 0, none⟩) 1 1) (w' := W.alloc (.cells #[.int .u8 ((opB r.op).toNat : Int)] 5)) ?_ ⟨_, rfl, (Below.refl _ _).alloc (Nat.le_refl _) _, W.heap.size, rfl, heap_alloc_new _ _⟩⟩
      go_simp
    · clear hi
      obtain ⟨g, e3, hg⟩ : ∃ g, a.eval (.tmp 6) = .slice (some ⟨g, 0, none⟩) 1 1 ∧ W.heap[g]? = some (.cells #[.int .u8 ((opB r.op).toNat : Int)] 5 (0, 0)) := hk 3 (mem_of (by kernel_rfl))
      have f3 := ev e3
      have hcv := conv_one (opB r.op) hg
      clear hk hbx
      refine ⟨_, rfl, rfl, rfl, wp_value (v := .string (⟨#[opB r.op]⟩ : ByteArray)) (w' := W) ?_ ⟨_, rfl, Below.refl _ _, rfl⟩⟩
      go_simp
    · clear hi
      clear hk hbx
      refine ⟨_, rfl, rfl, rfl, wp_value (v := .pointer (some ⟨w.heap.size, 1, none⟩)) (w' := W) ?_ ⟨_, rfl, Below.refl _ _, rfl⟩⟩
      go_simp
    · clear hi
      have e5 : a.eval (.tmp 8) = .pointer (some ⟨w.heap.size, 1, none⟩) := hk 5 (mem_of (by kernel_rfl))
      have f5 := ev e5
      have hc : W.cell? ⟨w.heap.size, 1, none⟩ = some (.string r.t) := cell_of_row W _ 1 _ _ _ hbx
      clear hk hbx
      refine ⟨_, rfl, rfl, rfl, wp_value (v := .string r.t) (w' := W) ?_ ⟨_, rfl, Below.refl _ _, rfl⟩⟩
      go_simp
    · clear hi
      have e6 : a.eval (.tmp 9) = .string r.t := hk 6 (mem_of (by kernel_rfl))
      have f6 := ev e6
      clear hk hbx
      refine ⟨_, rfl, rfl, rfl, wp_enter (f := 69) (args := #[.string r.t]) ?_ ((h1 W).mono ?_)⟩
      · go_simp
      · rintro e w2 ⟨rfl, hb2⟩
        exact ⟨_, rfl, _, rfl, hb2, rfl⟩
    · clear hi
      have e4 : a.eval (.tmp 7) = .string (⟨#[opB r.op]⟩ : ByteArray) := hk 4 (mem_of (by kernel_rfl))
      have f4 := ev e4
      have e7 : a.eval (.tmp 10) = .string (textB r.t) := hk 7 (mem_of (by kernel_rfl))
      have f7 := ev e7
      clear hk hbx
      refine ⟨_, rfl, rfl, rfl, wp_value (v := .string ((⟨#[opB r.op]⟩ : ByteArray) ++ textB r.t)) (w' := W) ?_ ⟨_, rfl, Below.refl _ _, rfl⟩⟩
      go_simp
      omega
    · clear hi
      clear hk hbx
      refine ⟨_, rfl, rfl, rfl, wp_value (v := .pointer (some ⟨w.heap.size, 2, none⟩)) (w' := W) ?_ ⟨_, rfl, Below.refl _ _, rfl⟩⟩
      go_simp
    · clear hi
      have e9 : a.eval (.tmp 12) = .pointer (some ⟨w.heap.size, 2, none⟩) := hk 9 (mem_of (by kernel_rfl))
      have f9 := ev e9
      have hc : W.cell? ⟨w.heap.size, 2, none⟩ = some (.string r.f) := cell_of_row W _ 2 _ _ _ hbx
      clear hk hbx
      refine ⟨_, rfl, rfl, rfl, wp_value (v := .string r.f) (w' := W) ?_ ⟨_, rfl, Below.refl _ _, rfl⟩⟩
      go_simp
    · clear hi
      have e10 : a.eval (.tmp 13) = .string r.f := hk 10 (mem_of (by kernel_rfl))
      have f10 := ev e10
      clear hk hbx
      refine ⟨_, rfl, rfl, rfl, wp_enter (f := 69) (args := #[.string r.f]) ?_ ((h2 W).mono ?_)⟩
      · go_simp
      · rintro e w2 ⟨rfl, hb2⟩
        exact ⟨_, rfl, _, rfl, hb2, rfl⟩
    · clear hi
      have e8 : a.eval (.tmp 11) = .string ((⟨#[opB r.op]⟩ : ByteArray) ++ textB r.t) := hk 8 (mem_of (by kernel_rfl))
      have f8 := ev e8
      have e11 : a.eval (.tmp 14) = .string (textB r.f) := hk 11 (mem_of (by kernel_rfl))
      have f11 := ev e11
      clear hk hbx
      refine ⟨_, rfl, rfl, rfl, wp_value (v := .string (((⟨#[opB r.op]⟩ : ByteArray) ++ textB r.t) ++ textB r.f)) (w' := W) ?_ ⟨_, rfl, Below.refl _ _, rfl⟩⟩
      go_simp
      omega
    · clear hi
      clear hk hbx
      refine ⟨_, rfl, rfl, rfl, wp_value (v := .pointer (some ⟨w.heap.size, 3, none⟩)) (w' := W) ?_ ⟨_, rfl, Below.refl _ _, rfl⟩⟩
      go_simp
    · clear hi
      have e13 : a.eval (.tmp 16) = .pointer (some ⟨w.heap.size, 3, none⟩) := hk 13 (mem_of (by kernel_rfl))
      have f13 := ev e13
      have hc : W.cell? ⟨w.heap.size, 3, none⟩ = some (.int .u64 (r.d : Int)) := cell_of_row W _ 3 _ _ _ hbx
      clear hk hbx
      refine ⟨_, rfl, rfl, rfl, wp_value (v := .int .u64 (r.d : Int)) (w' := W) ?_ ⟨_, rfl, Below.refl _ _, rfl⟩⟩
      go_simp
    · clear hi
      have e14 : a.eval (.tmp 17) = .int .u64 (r.d : Int) := hk 14 (mem_of (by kernel_rfl))
      have f14 := ev e14
      clear hk hbx
      refine ⟨_, rfl, rfl, rfl, wp_enter (f := 70) (args := #[.int .u64 (r.d : Int)]) ?_ ((h3 W).mono ?_)⟩
      · go_simp
      · rintro e w2 ⟨rfl, hb2⟩
        exact ⟨_, rfl, _, rfl, hb2, rfl⟩
    · clear hi
      have e12 : a.eval (.tmp 15) = .string (((⟨#[opB r.op]⟩ : ByteArray) ++ textB r.t) ++ textB r.f) := hk 12 (mem_of (by kernel_rfl))
      have f12 := ev e12
      have e15 : a.eval (.tmp 18) = .string (putS r.d) := hk 15 (mem_of (by kernel_rfl))
      have f15 := ev e15
      clear hk hbx
      refine ⟨_, rfl, rfl, rfl, wp_value (v := .string ((((⟨#[opB r.op]⟩ : ByteArray) ++ textB r.t) ++ textB r.f) ++ putS r.d)) (w' := W) ?_ ⟨_, rfl, Below.refl _ _, rfl⟩⟩
      go_simp
      omega
    · clear hi
      clear hk hbx
      refine ⟨_, rfl, rfl, rfl, wp_value (v := .pointer (some ⟨w.heap.size, 4, none⟩)) (w' := W) ?_ ⟨_, rfl, Below.refl _ _, rfl⟩⟩
      go_simp
    · clear hi
      have e17 : a.eval (.tmp 20) = .pointer (some ⟨w.heap.size, 4, none⟩) := hk 17 (mem_of (by kernel_rfl))
      have f17 := ev e17
      have hc : W.cell? ⟨w.heap.size, 4, none⟩ = some (.int .u64 (r.v : Int)) := cell_of_row W _ 4 _ _ _ hbx
      clear hk hbx
      refine ⟨_, rfl, rfl, rfl, wp_value (v := .int .u64 (r.v : Int)) (w' := W) ?_ ⟨_, rfl, Below.refl _ _, rfl⟩⟩
      go_simp
    · clear hi
      have e18 : a.eval (.tmp 21) = .int .u64 (r.v : Int) := hk 18 (mem_of (by kernel_rfl))
      have f18 := ev e18
      clear hk hbx
      refine ⟨_, rfl, rfl, rfl, wp_enter (f := 70) (args := #[.int .u64 (r.v : Int)]) ?_ ((h4 W).mono ?_)⟩
      · go_simp
      · rintro e w2 ⟨rfl, hb2⟩
        exact ⟨_, rfl, _, rfl, hb2, rfl⟩
    · clear hi
      have e16 : a.eval (.tmp 19) = .string ((((⟨#[opB r.op]⟩ : ByteArray) ++ textB r.t) ++ textB r.f) ++ putS r.d) := hk 16 (mem_of (by kernel_rfl))
      have f16 := ev e16
      have e19 : a.eval (.tmp 22) = .string (putS r.v) := hk 19 (mem_of (by kernel_rfl))
      have f19 := ev e19
      clear hk hbx
      refine ⟨_, rfl, rfl, rfl, wp_value (v := .string (((((⟨#[opB r.op]⟩ : ByteArray) ++ textB r.t) ++ textB r.f) ++ putS r.d) ++ putS r.v)) (w' := W) ?_ ⟨_, rfl, Below.refl _ _, rfl⟩⟩
      go_simp
      omega
    · clear hi
      clear hk hbx
      refine ⟨_, rfl, rfl, rfl, wp_value (v := .pointer (some ⟨w.heap.size, 5, none⟩)) (w' := W) ?_ ⟨_, rfl, Below.refl _ _, rfl⟩⟩
      go_simp
    · clear hi
      have e21 : a.eval (.tmp 24) = .pointer (some ⟨w.heap.size, 5, none⟩) := hk 21 (mem_of (by kernel_rfl))
      have f21 := ev e21
      have hc : W.cell? ⟨w.heap.size, 5, none⟩ = some (.string r.h) := cell_of_row W _ 5 _ _ _ hbx
      clear hk hbx
      refine ⟨_, rfl, rfl, rfl, wp_value (v := .string r.h) (w' := W) ?_ ⟨_, rfl, Below.refl _ _, rfl⟩⟩
      go_simp
    · clear hi
      have e22 : a.eval (.tmp 25) = .string r.h := hk 22 (mem_of (by kernel_rfl))
      have f22 := ev e22
      clear hk hbx
      refine ⟨_, rfl, rfl, rfl, wp_enter (f := 69) (args := #[.string r.h]) ?_ ((h5 W).mono ?_)⟩
      · go_simp
      · rintro e w2 ⟨rfl, hb2⟩
        exact ⟨_, rfl, _, rfl, hb2, rfl⟩
    · clear hi
      have e20 : a.eval (.tmp 23) = .string (((((⟨#[opB r.op]⟩ : ByteArray) ++ textB r.t) ++ textB r.f) ++ putS r.d) ++ putS r.v) := hk 20 (mem_of (by kernel_rfl))
      have f20 := ev e20
      have e23 : a.eval (.tmp 26) = .string (textB r.h) := hk 23 (mem_of (by kernel_rfl))
      have f23 := ev e23
      clear hk hbx
      refine ⟨_, rfl, rfl, rfl, wp_value (v := .string ((((((⟨#[opB r.op]⟩ : ByteArray) ++ textB r.t) ++ textB r.f) ++ putS r.d) ++ putS r.v) ++ textB r.h)) (w' := W) ?_ ⟨_, rfl, Below.refl _ _, rfl⟩⟩
      go_simp
      omega
    · clear hi
      have e24 : a.eval (.tmp 27) = .string ((((((⟨#[opB r.op]⟩ : ByteArray) ++ textB r.t) ++ textB r.f) ++ putS r.d) ++ putS r.v) ++ textB r.h) := hk 24 (mem_of (by kernel_rfl))
      have f24 := ev e24
      clear hk hbx
      refine ⟨_, rfl, rfl, rfl, wp_value (v := .string ((((((⟨#[opB r.op]⟩ : ByteArray) ++ textB r.t) ++ textB r.f) ++ putS r.d) ++ putS r.v) ++ textB r.h)) (w' := W) ?_ ⟨_, rfl, Below.refl _ _, rfl⟩⟩
      go_simp
  case post =>
    intro V W hb hV
    have e25 : V 25 = .string (metaT r) := hV 25 (by omega)
    clear hV
    simp only [putAll, Nat.reduceLT, Nat.reduceAdd, if_true, if_false]
    rw [e25]
    simp only [Act.put, List.setIfInBounds_toArray, List.set_cons_zero, List.set_cons_succ]
    go_wp2
    go_ret
    exact ⟨rfl, ((Below.refl _ w).alloc (Nat.le_refl _) _).trans (hb.mono (by simp))⟩
end Go.Proofs.YtaocbkloafhmeaaDoor
