/- The keys of a map with one entry (maps.Keys), collected and sorted (slices.Sorted): a list with that one. The bytes of a number (Uint): of any number the call returns the bytes that the plain facts have, and nothing that was there has changed. The document's bytes of a number (Uint): of any number the call returns the bytes that the plain facts have, and nothing that was there has changed. The numbers that may be below 0, in bytes (enc.Int and the document's). Texts and yes or no, in bytes (enc.Text, enc.Bool and the document's). -/
import Derived.Test.YtniljoojoafiaaaGreatDoorXai
import Derived.Test.YtniljoojoafiaaaGreatDoorBSpl
import Derived.Maps.RangeWalk
import Derived.Sort.MapsRangeIn
import Derived.Test.YtniljoojoafiaaaGreatDoorXaf
import Derived.WalkKit
import Derived.WalkSpells
import Derived.WalkLawsBesides
import Derived.Deep.QuietTactic
import Derived.BigQuiet
import Derived.Lib.Strings
import Derived.Laws.BitsAllLaws
import Derived.Deep.RegionWith
namespace Go.Proofs.YtniljoojoafiaaaGreatDoor
open Go.RowKit Go.Shelf
attribute [local go_sem] Oper.semAt_some
set_option maxRecDepth 100000 in
theorem keys_box (m : Nat) (w : World) : Calls Tryz.prog 44 #[.map (some m)] w fun e w' => e = .returned (.func (.func 70) #[] #[.pointer (some ⟨w.heap.size, 0, none⟩)]) ∧ w' = w.alloc (.cells #[.map (some m)] 72) := by
  go_enter Tryz.func44, Tryz.ntmps44
  go_wp2
  go_ret
  exact ⟨rfl, rfl⟩
theorem ranges_kc {C : Nat → Prop} {w w' : World} {K : TypeId} {b r n : Nat} {D : DataW Value} {left : Lit → Bool} {cnt : Nat} (h : w.ranges Tryz.prog K heldR b r n D left cnt) (hk : B.KC C w w') (hb : ¬ C b) (hr : ¬ C r) : w'.ranges Tryz.prog K heldR b r n D left cnt := by
  have l1 := h.owns.lt
  have l2 := h.lt
  obtain ⟨es, clock, since, seen, c0, h1, F, hs, hD, h2, rest⟩ := h
  exact ⟨es, clock, since, seen, c0, (hk.block b l1 hb).trans h1, F, hs, hD, (hk.block r l2 hr).trans h2, rest⟩
theorem next_st {w w' : World} {K : TypeId} {b r n : Nat} {D : DataW Value} {left : Lit → Bool} {cnt : Nat} (h : w.ranges Tryz.prog K heldR b r n D left cnt) (hg : w.grownBy w' (some r)) : StW r w w' := by
  obtain ⟨es, clock, since, seen, c0, h1, F, hs, hD, h2, rest⟩ := h
  refine ⟨hg.os, hg.tape, hg.output, hg.size, fun k hk hw => hg.block k hk (fun e => ?_)⟩
  injection e with e
  subst e
  rcases hw with hw | hw
  · omega
  · have := hw _ h2
    cases this
set_option maxRecDepth 100000 in
set_option maxHeartbeats 8000000 in
theorem keys_seq {w : World} (g m : Nat) (d : Int) (v : Value) (hd : 0 ≤ d ∧ d < 18446744073709551616) (hg : w.heap[g]? = some (.cells #[.map (some m)] 72 (0, 0))) (hm : M1 31 w m (.int .u64 d) v) :
    SeqW Tryz.prog 70 #[.pointer (some ⟨g, 0, none⟩)] (fun _ (x : Int) ar _ => ar = #[.int .u64 x]) [d] (fun k => k = g ∨ k = m) w := by
  intro C l J Jx W hbW hA hCW hJ hJx hY h0
  have hgC : ¬ C g := hA _ (Or.inl rfl)
  have hmC : ¬ C m := hA _ (Or.inr rfl)
  have hrC : ¬ C W.heap.size := fun h => absurd (hCW _ h) (by omega)
  have hgW := (hbW.block _ (lt_of_row hg)).trans hg
  have hc := cell_of_row W g 0 _ _ _ hgW
  have hown : W.ownsMap Tryz.prog 31 heldR m 1 (D1 (.int .u64 d) v) := hm.later hbW
  refine callsIn_of_wp Tryz.func70 rfl trivial ?_ rfl
  simp only [Tryz.ntmps70, List.size_toArray, List.length_cons, List.length_nil, Nat.reduceAdd, Nat.reduceSub, Array.replicate_succ, Array.replicate_zero, List.push_toArray, List.append_toArray, List.nil_append, List.cons_append]
  have HY : Hid (∀ pre x U, J pre U → pre ++ [x] <+: [d] → YieldAt Fence.wide 0 Tryz.prog l #[.int .u64 x] U fun e V => (e = .returned (.bool true) ∧ J (pre ++ [x]) V ∧ B.KC C U V) ∨ (e = .returned (.bool false) ∧ Jx (pre ++ [x]) V ∧ B.KC C U V)) := fun pre x U h1 h2 => hY pre x _ U h1 h2 rfl
  have HJ : Hid (∀ s U V, J s U → StW W.heap.size U V → J s V) := hJ
  clear hY hJ hJx
  gi_wp2_with (first
    | (gi_at_range; refine wpListIn_range_own _ rfl _ 72 rfl 31 45 keyed31 Tryz.underlying72 _ m 1 _ rfl hown ?_; intro w0 hrg0 hg0 hs0)
    | gi_in)
  try go_frame
  have hJ0 : J [] w0 := HJ.out _ _ _ h0 ⟨hg0.os, hg0.tape, hg0.output, hg0.size, fun k hk _ => hg0.block k hk (by simp)⟩
  have hk0 : B.KC C W w0 := ⟨hg0.os, hg0.tape, hg0.output, hg0.size, fun k hk _ => hg0.block k hk (by simp)⟩
  clear hc h0 hg0 hs0
  gi_loopw [3] (fun _ wr => ∃ (left : Lit → Bool) (cnt : Nat) (pre : List Int), wr.ranges Tryz.prog 31 heldR m W.heap.size 1 (D1 (.int .u64 d) v) left cnt ∧ ((pre = [] ∧ left = Maps.has (D1 (.int .u64 d) v)) ∨ (pre = [d] ∧ ∀ kl, left kl = false)) ∧ J pre wr ∧ B.KC C W wr)
    (fun _ wr => wr.rangeLeft m W.heap.size)
  case atStart => exact ⟨_, _, [], hrg0, Or.inl ⟨rfl, rfl⟩, hJ0, hk0⟩
  case round =>
    clear hrg0 hJ0 hk0
    obtain ⟨left, cnt, pre, hrg, hst, hJr, hkr⟩ := hrel
    gi_wp2_with (first
      | (gi_at_next; refine wpListIn_next_ranges _ rfl _ rfl 31 keyed31 heldR (Value.int .u64) id (fun key kl hk => by obtain ⟨x, hx, _⟩ := Maps.keyOf_int_inv Tryz.underlying31 hk; exact ⟨x, hx⟩) (fun v _ _ => ⟨v, rfl⟩) m W.heap.size 1 _ _ _ rfl hrg ?_ ?_)
      | gi_in)
    · intro hc0 hl0
      gi_wp2
      go_end0
      rcases hst with ⟨rfl, hl⟩ | ⟨rfl, -⟩
      · have := hl0 (.int .u64 d)
        rw [hl, D1_has (kl := Lit.int .u64 d) (by exact trivial)] at this
        cases this
      · exact ⟨⟨_, rfl⟩, Or.inl hJr, hkr⟩
    · intro x c kl yd yp w2 cnt2 hkey hlk hv hat hrg2 hlt hg2 hs2 hen
      obtain ⟨x', ex, rfl, _⟩ := Maps.keyOf_int_inv Tryz.underlying31 hkey
      injection ex with _ ex
      subst ex
      have hx : pre = [] ∧ left = Maps.has (D1 (.int .u64 d) v) ∧ x = d := by
        rcases hst with ⟨h1, h2⟩ | ⟨h1, h2⟩
        · refine ⟨h1, h2, ?_⟩
          by_cases he : x = d
          · exact he
          · have h3 := D1_no (kl := .int .u64 d) (k := .int .u64 x) (fun e => he (by injection e)) v
            rw [h2, h3] at hlk
            cases hlk
        · rw [h2] at hlk
          cases hlk
      obtain ⟨rfl, rfl, rfl⟩ := hx
      clear hst hlk
      have hsz := hkr.size
      have hJ2 : J [] w2 := HJ.out _ _ _ hJr (next_st hrg hg2)
      have hk2 : B.KC C W w2 := ⟨hg2.os.trans hkr.os, hg2.tape.trans hkr.tape, hg2.output.trans hkr.output, Nat.le_trans hkr.size hg2.size, fun k hk hc => (hg2.block k (by omega) (fun e => by injection e with e; omega)).trans (hkr.block k hk hc)⟩
      obtain ⟨fn, tmps, assign, body, hy, hR⟩ := B.YieldAt.inAny (m' := 0) (HY.out [] x w2 hJ2 (by simp))
      clear hs2
      gi_wp2
      refine ⟨rfl, hR.mono ?_⟩
      rintro e W3 (⟨rfl, hJ3, hk3⟩ | ⟨rfl, hJx3, hk3⟩)
      · gi_wp2
        have hrg3 := ranges_kc hrg2 hk3 hmC hrC
        go_roundw
        case rel => exact ⟨_, cnt2, [x], hrg3, Or.inr ⟨rfl, fun kl => by
          by_cases he : kl = .int .u64 x
          · subst he
            simp [Lit.sameKey]
          · rw [D1_no he]; rfl⟩, hJ3, hk2.trans hk3⟩
        case measure => rw [hrg3.left_eq, hrg.left_eq]; exact hlt
      · gi_wp2
        refine bodyPost_ret (results_none rfl _ _ _) rfl ?_
        exact ⟨⟨_, rfl⟩, Or.inr ⟨[x], by simp, hJx3⟩, hk2.trans hk3⟩
/- slices.Sort of a list with one element. -/
set_option maxRecDepth 100000 in
theorem ins1 (p : Option Addr) (c : Nat) (w : World) : Calls Tryz.prog 121 #[.slice p 1 c, .int .i64 0, .int .i64 1] w fun e w' => e = .returned (.tuple #[]) ∧ w' = w := by
  go_enter Tryz.func121, Tryz.ntmps121
  go_wp2
  go_loopw [6] (fun v wr => v = .int .i64 1 ∧ wr = w) (fun _ _ => 0)
  case atStart => exact ⟨rfl, rfl⟩
  case round =>
    obtain ⟨rfl, rfl⟩ := hrel
    go_wp2
    exact bodyPost_end (results_none Tryz.results121 _ _ _) rfl ⟨rfl, rfl⟩
set_option maxRecDepth 100000 in
theorem pdq1 (p : Option Addr) (c : Nat) (n : Int) (w : World) : Calls Tryz.prog 101 #[.slice p 1 c, .int .i64 0, .int .i64 1, .int .i64 n] w fun e w' => e = .returned (.tuple #[]) ∧ w' = w := by
  have ki := ins1 p c w
  go_enter Tryz.func101, Tryz.ntmps101
  go_wp2
  go_loopw [1, 2] (fun v1 v2 wr => v1 = .int .i64 0 ∧ v2 = .int .i64 1 ∧ wr = w) (fun _ _ _ => 0)
  case atStart => exact ⟨rfl, rfl, rfl⟩
  case round =>
    obtain ⟨rfl, rfl, rfl⟩ := hrel
    go_wp2_with fail
    refine ki.mono ?_
    rintro e w1 ⟨rfl, rfl⟩
    go_wp2
    exact bodyPost_ret (results_none Tryz.results101 _ _ _) rfl ⟨rfl, rfl⟩
set_option maxRecDepth 100000 in
theorem len64_1 (w : World) : Calls Tryz.prog 131 #[.int .u64 1] w fun e w' => (∃ n : Int, e = .returned (.int .i64 n)) ∧ w' = w := by
  go_enter Tryz.func131, Tryz.ntmps131
  go_wp2
  go_ret
  exact ⟨⟨_, rfl⟩, rfl⟩
set_option maxRecDepth 100000 in
theorem len_1 (w : World) : Calls Tryz.prog 102 #[.int .u64 1] w fun e w' => (∃ n : Int, e = .returned (.int .i64 n)) ∧ w' = w := by
  have k := len64_1 w
  go_enter Tryz.func102, Tryz.ntmps102
  go_wp2_with fail
  refine k.mono ?_
  rintro e w1 ⟨⟨n, rfl⟩, rfl⟩
  go_wp2
  go_ret
  exact ⟨⟨_, rfl⟩, rfl⟩
set_option maxRecDepth 100000 in
theorem sort1 (p : Option Addr) (c : Nat) (w : World) : Calls Tryz.prog 69 #[.slice p 1 c] w fun e w' => e = .returned (.tuple #[]) ∧ w' = w := by
  have k := len_1 w
  go_enter Tryz.func69, Tryz.ntmps69
  go_wp2_with fail
  refine k.mono ?_
  rintro e w1 ⟨⟨n, rfl⟩, rfl⟩
  go_wp2_with fail
  refine (pdq1 p c n w1).mono ?_
  rintro e w2 ⟨rfl, rfl⟩
  go_wp2
  exact bodyPost_end (results_none Tryz.results69 _ _ _) rfl ⟨rfl, rfl⟩
end Go.Proofs.YtniljoojoafiaaaGreatDoor
namespace Go.Proofs.YtniljoojoafiaaaGreatDoor.V
open Go.RowKit
def bcs (l : List UInt8) : Array Value := (Lib.byteCells l).toArray
set_option maxRecDepth 100000 in
theorem bcs_get (l : List UInt8) (i : Nat) (hi : i < l.length) : (bcs l)[i]? = some (.int .u8 ((l.getD i 0).toNat : Int)) := by
  simp [bcs, Lib.byteCells, List.getD_eq_getElem?_getD, hi]
set_option maxRecDepth 100000 in
theorem bcs_set (l : List UInt8) (n : Nat) (b : UInt8) : (bcs l).setIfInBounds n (.int .u8 (b.toNat : Int)) = bcs (l.set n b) := by
  unfold bcs Lib.byteCells
  rw [List.map_set, List.setIfInBounds_toArray]
set_option maxRecDepth 100000 in
theorem brow_cell {W : World} {g : Nat} {l : List UInt8} {t : TypeId} {fr : Nat × Nat} (h : W.heap[g]? = some (.cells (bcs l) t fr)) (i : Nat) (hi : i < l.length) : W.cell? ⟨g, i, none⟩ = some (.int .u8 ((l.getD i 0).toNat : Int)) := by
  rw [cell_of_row W g i _ t fr h, bcs_get l i hi]
set_option maxRecDepth 100000 in
theorem brow_set {W : World} {g : Nat} {l : List UInt8} {t : TypeId} (h : W.heap[g]? = some (.cells (bcs l) t (0, 0))) (n : Nat) (b : UInt8) (v : Int) (hv : v = (b.toNat : Int)) :
    (W.setCell ⟨g, n, none⟩ (.int .u8 v)).heap[g]? = some (.cells (bcs (l.set n b)) t (0, 0)) := by
  rw [row_setCell h, hv, bcs_set]
def padz (m : Nat) (l : List UInt8) : List UInt8 := l ++ List.replicate (m - l.length) 0
set_option maxRecDepth 100000 in
theorem padz_len (m : Nat) (l : List UInt8) (h : l.length ≤ m) : (padz m l).length = m := by simp [padz]; omega
set_option maxRecDepth 100000 in
theorem padz_set (m : Nat) (l : List UInt8) (x : UInt8) (n : Nat) (hn : n = l.length) (h : l.length < m) : (padz m l).set n x = padz m (l ++ [x]) := by
  subst hn
  unfold padz
  obtain ⟨q, hq⟩ : ∃ q, m - l.length = q + 1 := ⟨m - l.length - 1, by omega⟩
  have hq' : m - (l ++ [x]).length = q := by simp; omega
  rw [hq, hq', List.set_append_right _ _ (Nat.le_refl _), Nat.sub_self, List.replicate_succ, List.set_cons_zero]
  simp
set_option maxRecDepth 100000 in
theorem padz_get (m : Nat) (l : List UInt8) (j : Nat) (h : j < l.length) : (padz m l).getD j 0 = l[j] := by
  unfold padz
  rw [List.getD_eq_getElem?_getD, List.getElem?_append_left h, List.getElem?_eq_getElem h]
  rfl
set_option maxRecDepth 100000 in
theorem zero10 : (#[Value.int IntKind.u8 0, Value.int IntKind.u8 0, Value.int IntKind.u8 0, Value.int IntKind.u8 0, Value.int IntKind.u8 0, Value.int IntKind.u8 0, Value.int IntKind.u8 0, Value.int IntKind.u8 0, Value.int IntKind.u8 0, Value.int IntKind.u8 0] : Array Value) = bcs (padz 10 []) := rfl
set_option maxRecDepth 100000 in
theorem or128 {n : Nat} : bits BinOp.or IntKind.u8 (IntKind.u8.wrap (n : Int)) 128 = ((UInt8.ofNat (n % 128 + 128)).toNat : Int) := by
  rw [toNat_ofNat_lt (by omega), IntKind.wrap_u8']
  have e : ((n : Int) % 256) = ((n % 256 : Nat) : Int) := by omega
  have e2 : (128 : Int) = ((128 : Nat) : Int) := rfl
  rw [e, e2, u8_or_nat _ _ (by omega) (by omega)]
  congr 1
  have h : ∀ m : Nat, m < 256 → m ||| 128 = m % 128 + 128 := by decide +kernel
  rw [h _ (by omega)]
  omega
set_option maxRecDepth 100000 in
theorem slice10 (g i : Nat) (hi : i ≤ 9) (W : World) : (Instr.sliceAt 197 (.pointer (some ⟨g, 0, none⟩)) none (some (.int .i64 ((i : Int) + 1))) none).run Tryz.prog W = .ok (.slice (some ⟨g, 0, none⟩) (i + 1) 10) W := by
  have e10 : Tryz.prog.arrayLen 197 = 10 := by kernel_rfl
  have hs : (sizeOf (Tryz.prog.elem 197)).run Tryz.prog W = .ok 1 W := by kernel_rfl
  rw [run_sliceAt_array_h W 197 ⟨g, 0, none⟩ (by kernel_rfl) .i64 ((i : Int) + 1) (by omega) (by rw [e10]; omega), hs, e10]
  show Result.ok (slicedAt ⟨g, 0, none⟩ 0 ((i : Int) + 1).toNat 10 1) W = _
  have e : ((i : Int) + 1).toNat = i + 1 := by omega
  rw [e]
  rfl
set_option maxRecDepth 100000 in
theorem conv_put {W : World} {g : Nat} {P : List UInt8} (H : W.heap[g]? = some (.cells (bcs (padz 10 P)) 197 (0, 0))) (hP : P.length ≤ 10) (k : Nat) (hk : k = P.length) :
    (convert 124 9 (.slice (some ⟨g, 0, none⟩) k 10)).run Tryz.prog W = .ok (.string ⟨P.toArray⟩) W := by
  subst hk
  have hl := padz_len 10 P hP
  refine run_convert_bytes_back (P := Tryz.prog) W 124 9 5 ⟨g, 0, none⟩ 10 P Tryz.underlying124 Tryz.underlying5 Tryz.underlying9 (fun j hj => ?_)
  have e : (⟨g, 0, none⟩ : Addr).add j = ⟨g, j, none⟩ := by unfold Addr.add; split <;> simp_all
  rw [e, brow_cell H j (by omega), padz_get 10 P j hj]
set_option maxRecDepth 100000 in
theorem put_step {W : World} {g i : Nat} {P : List UInt8} (H : W.heap[g]? = some (.cells (bcs (padz 10 P)) 197 (0, 0))) (hP : P.length = i) (hi : i ≤ 9) (x : UInt8) (v : Int) (hv : v = (x.toNat : Int)) :
    (W.setCell ⟨g, i, none⟩ (.int .u8 v)).heap[g]? = some (.cells (bcs (padz 10 (P ++ [x]))) 197 (0, 0)) := by
  rw [brow_set H i x v hv, padz_set 10 P x i hP.symm (by omega)]
set_option maxRecDepth 100000 in
theorem or128' {n : Nat} : bits BinOp.or IntKind.u8 ((n : Int) % 256) 128 = ((UInt8.ofNat (n % 128 + 128)).toNat : Int) := by
  rw [← or128, IntKind.wrap_u8']
set_option maxRecDepth 100000 in
theorem le9 {m i : Nat} (h : m * 128 ^ i < 18446744073709551616) (hm : 128 ≤ m) : i + 1 ≤ 9 := by
  rcases Nat.lt_or_ge i 9 with h9 | h9
  · exact h9
  · have h1 : (128 : Nat) ^ 9 ≤ 128 ^ i := Nat.pow_le_pow_right (by omega) h9
    have h2 : 128 * 128 ^ 9 ≤ m * 128 ^ i := Nat.mul_le_mul hm h1
    have h3 : (128 : Nat) * 128 ^ 9 = 1180591620717411303424 := by decide
    omega
set_option maxRecDepth 100000 in
theorem next64 {m i : Nat} (h : m * 128 ^ i < 18446744073709551616) : m / 128 * 128 ^ (i + 1) < 18446744073709551616 := by
  have h1 : m / 128 * 128 ≤ m := Nat.div_mul_le_self m 128
  have h2 : m / 128 * 128 ^ (i + 1) = m / 128 * 128 * 128 ^ i := by rw [Nat.pow_succ, Nat.mul_comm (128 ^ i), Nat.mul_assoc]
  have h3 : m / 128 * 128 * 128 ^ i ≤ m * 128 ^ i := Nat.mul_le_mul_right _ h1
  omega
set_option maxRecDepth 100000 in
set_option maxHeartbeats 1000000 in
theorem put_any (n : Nat) (hn : n < 18446744073709551616) (w : World) :
    Calls Tryz.prog 118 #[.int .u64 (n : Int)] w fun e w' => e = .returned (.string ⟨(put n).toArray⟩) ∧ Below w.heap.size w w' := by
  go_enter Tryz.func118, Tryz.ntmps118
  go_wp2
  rw [zero10]
  have HN : Hid (put n = put n) := rfl
  go_loopw [0, 4] (fun c0 c4 wr => ∃ (m i : Nat) (P : List UInt8), P.length = i ∧ i ≤ 9 ∧ m * 128 ^ i < 18446744073709551616 ∧ P ++ put m = put n ∧ c0 = .int .u64 (m : Int) ∧ c4 = .int .i64 (i : Int) ∧ wr.heap[w.heap.size]? = some (.cells (bcs (padz 10 P)) 197 (0, 0)) ∧ Below w.heap.size w wr) (fun c0 _ _ => (intOf c0).toNat)
  case atStart =>
    exact ⟨n, 0, [], rfl, by omega, by simpa using hn, rfl, rfl, rfl, heap_alloc_new _ _, (Below.refl _ _).alloc (Nat.le_refl _) _⟩
  case round =>
    obtain ⟨m, i, P, hP, h9, hm, hput, rfl, rfl, hh, hb⟩ := hrel
    have HM : Hid (m * 128 ^ i < 18446744073709551616) := hm
    have HP : Hid (P ++ put m = put n) := hput
    have hm64 : m < 18446744073709551616 := by
      have : 1 ≤ 128 ^ i := Nat.one_le_pow _ _ (by omega)
      have : m * 1 ≤ m * 128 ^ i := Nat.mul_le_mul_left _ this
      omega
    have hpl := padz_len 10 P (by omega)
    have hc := brow_cell hh i (by omega)
    have hf := frozen_of_row wr _ i _ _ hh
    obtain ⟨v, hv⟩ : ∃ v : Int, (((padz 10 P).getD i 0).toNat : Int) = v := ⟨_, rfl⟩
    rw [hv] at hc
    clear hv hpl hm hput
    by_cases h128 : 128 ≤ m
    · have h128' : (128 : Int) ≤ (m : Int) := by omega
      have HS : Hid (P ++ [UInt8.ofNat (m % 128 + 128)] ++ put (m / 128) = put n) := by
        show _ = _
        rw [← HP.out, put_ge h128, List.append_assoc]; rfl
      clear HN
      go_wp2
      go_roundw
      case rel =>
        refine ⟨m / 128, i + 1, P ++ [UInt8.ofNat (m % 128 + 128)], by simp [hP], le9 HM.out h128, next64 HM.out, HS.out, by go_num, by go_num, put_step hh hP h9 _ _ or128', hb.setCell (by simp) _⟩
      case measure => simp [intOf]; omega
    · have h128' : ¬ (128 : Int) ≤ (m : Int) := by omega
      have hsl := fun W => slice10 w.heap.size i h9 W
      have hmw : IntKind.u8.wrap (m : Int) = (m : Int) := by rw [IntKind.wrap_u8']; omega
      have hrow := put_step hh hP h9 (UInt8.ofNat m) (m : Int) (by rw [toNat_ofNat_lt (by omega)])
      have hcv := conv_put hrow (by simp; omega) (i + 1) (by simp [hP])
      have HS : Hid (P ++ [UInt8.ofNat m] = put n) := by
        show _ = _
        rw [← HP.out, put_lt (by omega)]
      clear hrow HN
      go_wp2
      go_ret
      rw [HS.out]
      exact ⟨rfl, hb.setCell (by simp) _⟩
end Go.Proofs.YtniljoojoafiaaaGreatDoor.V
namespace Go.Proofs.YtniljoojoafiaaaGreatDoor.V
open Go.RowKit
set_option maxRecDepth 100000 in
theorem conv1w (W : World) (g : Nat) (b : UInt8) (v : Int) (hv : v = (b.toNat : Int)) (hc : W.cell? ⟨g, 0, none⟩ = some (.int .u8 v)) : (convert 124 9 (.slice (some ⟨g, 0, none⟩) 1 1)).run Tryz.prog W = .ok (.string ⟨#[b]⟩) W := by
  refine run_convert_bytes_back (P := Tryz.prog) W 124 9 5 ⟨g, 0, none⟩ 1 [b] Tryz.underlying124 Tryz.underlying5 Tryz.underlying9 (fun j hj => ?_)
  obtain rfl : j = 0 := by simp at hj; omega
  have e : (⟨g, 0, none⟩ : Addr).add 0 = ⟨g, 0, none⟩ := by unfold Addr.add; split <;> simp_all
  rw [e, hc, hv]; rfl
set_option maxRecDepth 100000 in
theorem conv1 (W : World) (b : UInt8) (t : TypeId) (v : Int) (hv : v = (b.toNat : Int)) : (convert 124 9 (.slice (some ⟨W.heap.size, 0, none⟩) 1 1)).run Tryz.prog (W.alloc (.cells #[.int .u8 v] t)) = .ok (.string ⟨#[b]⟩) (W.alloc (.cells #[.int .u8 v] t)) :=
  conv1w _ _ b v hv (cell_of_row _ _ 0 _ _ _ (heap_alloc_new _ _))
end Go.Proofs.YtniljoojoafiaaaGreatDoor.V
namespace Go.Proofs.YtniljoojoafiaaaGreatDoor.V
open Go.RowKit
def zig (n : Int) : Nat := if n < 0 then (2 * (-(n + 1)) + 1).toNat else (2 * n).toNat
set_option maxRecDepth 100000 in
theorem zig_lt {n : Int} (h0 : -9223372036854775808 ≤ n) (h1 : n < 9223372036854775808) : zig n < 18446744073709551616 := by
  unfold zig; split <;> omega
set_option maxRecDepth 100000 in
theorem zag_zig (n : Int) : zag (zig n) = n := by
  unfold zag zig; split <;> split <;> omega
set_option maxRecDepth 100000 in
theorem zig_inj {n m : Int} (h : zig n = zig m) : n = m := by
  rw [← zag_zig n, h, zag_zig]
set_option maxRecDepth 100000 in
set_option maxHeartbeats 1000000 in
theorem eint_any (n : Int) (h0 : -9223372036854775808 ≤ n) (h1 : n < 9223372036854775808) (w : World) :
    Calls Tryz.prog 95 #[.int .i64 n] w fun e w' => e = .returned (.string ⟨(put (zig n)).toArray⟩) ∧ Below w.heap.size w w' := by
  have hpu := fun (W : World) => put_any (zig n) (zig_lt h0 h1) W
  obtain ⟨x, hx⟩ : ∃ x : ByteArray, (⟨(put (zig n)).toArray⟩ : ByteArray) = x := ⟨_, rfl⟩
  rw [hx] at hpu ⊢
  clear hx
  by_cases h : n < 0
  · have hz : (zig n : Int) = 2 * (-(n + 1)) + 1 := by unfold zig; rw [if_pos h]; omega
    rw [hz] at hpu
    clear hz
    have e1 : IntKind.i64.wrap (n + 1) = n + 1 := by rw [IntKind.wrap_i64]; omega
    have e2 : IntKind.i64.wrap (-(n + 1)) = -(n + 1) := by rw [IntKind.wrap_i64]; omega
    have e3 : IntKind.u64.wrap (-(n + 1)) = -(n + 1) := by rw [IntKind.wrap_u64]; omega
    have e4 : IntKind.u64.wrap (2 * (-(n + 1))) = 2 * (-(n + 1)) := by rw [IntKind.wrap_u64]; omega
    have e5 : IntKind.u64.wrap (2 * (-(n + 1)) + 1) = 2 * (-(n + 1)) + 1 := by rw [IntKind.wrap_u64]; omega
    go_enter Tryz.func95, Tryz.ntmps95
    go_wp2_with fail
    refine (hpu _).mono ?_
    rintro e w1 ⟨rfl, hb1⟩
    go_wp2
    go_ret
    exact ⟨rfl, hb1⟩
  · have hz : (zig n : Int) = 2 * n := by unfold zig; rw [if_neg h]; omega
    rw [hz] at hpu
    clear hz
    have e3 : IntKind.u64.wrap n = n := by rw [IntKind.wrap_u64]; omega
    have e4 : IntKind.u64.wrap (2 * n) = 2 * n := by rw [IntKind.wrap_u64]; omega
    go_enter Tryz.func95, Tryz.ntmps95
    go_wp2_with fail
    refine (hpu _).mono ?_
    rintro e w1 ⟨rfl, hb1⟩
    go_wp2
    go_ret
    exact ⟨rfl, hb1⟩
end Go.Proofs.YtniljoojoafiaaaGreatDoor.V
namespace Go.Proofs.YtniljoojoafiaaaGreatDoor.V
open Go.RowKit
def textB (t : ByteArray) : ByteArray := ⟨(put t.size).toArray⟩ ++ t
def boolB (b : Bool) : ByteArray := if b then ⟨#[1]⟩ else ⟨#[0]⟩
set_option maxRecDepth 100000 in
theorem put_size (n : Nat) : (⟨(put n).toArray⟩ : ByteArray).size = (put n).length := by show (put n).toArray.size = _; simp
set_option maxRecDepth 100000 in
set_option maxHeartbeats 400000 in
theorem etext_any (t : ByteArray) (ht : t.size ≤ 4294967296) (w : World) : Calls Tryz.prog 96 #[.string t] w fun e w' => e = .returned (.string (textB t)) ∧ Below w.heap.size w w' := by
  have hpu := fun W => put_any t.size (by omega) W
  have hl := put_len10 (n := t.size) (by omega)
  have hz := put_size t.size
  have hT : textB t = ⟨(put t.size).toArray⟩ ++ t := rfl
  rw [hT]
  obtain ⟨x, hx⟩ : ∃ x : ByteArray, (⟨(put t.size).toArray⟩ : ByteArray) = x := ⟨_, rfl⟩
  rw [hx] at hpu hz ⊢
  have hz2 : x.size + t.size ≤ 9223372036854775807 := by omega
  have hw : IntKind.u64.wrap (t.size : Int) = (t.size : Int) := by rw [IntKind.wrap_u64]; omega
  clear hx hT hz hl
  go_enter Tryz.func96, Tryz.ntmps96
  go_wp2_with fail
  refine (hpu _).mono ?_
  rintro e w1 ⟨rfl, hb1⟩
  go_wp2
  go_ret
  exact ⟨rfl, hb1⟩
set_option maxRecDepth 100000 in
set_option maxHeartbeats 400000 in
theorem ebool_any (b : Bool) (w : World) : Calls Tryz.prog 94 #[.bool b] w fun e w' => e = .returned (.string (boolB b)) ∧ w' = w := by
  cases b
  all_goals
    go_enter Tryz.func94, Tryz.ntmps94
    go_wp2
    go_ret
    exact ⟨rfl, rfl⟩
set_option maxRecDepth 100000 in
theorem boolB_size (b : Bool) : (boolB b).size = 1 := by cases b <;> rfl
end Go.Proofs.YtniljoojoafiaaaGreatDoor.V
