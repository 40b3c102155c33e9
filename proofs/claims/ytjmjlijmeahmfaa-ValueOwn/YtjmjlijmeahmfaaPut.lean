/- The bytes of a number (Uint): of any number the call returns the bytes that the plain facts have, and nothing that was there has changed. -/
import Derived.Test.YtjmjlijmeahmfaaFirst
import Derived.WalkKit
import Derived.WalkSpells
import Derived.WalkLawsBesides
import Derived.Deep.QuietTactic
import Derived.BigQuiet
import Derived.Lib.Strings
import Derived.Laws.BitsAllLaws
namespace Go.Proofs.Ytjmjlijmeahmfaa
open Go.RowKit
def bcs (l : List UInt8) : Array Value := (Lib.byteCells l).toArray
theorem bcs_get (l : List UInt8) (i : Nat) (hi : i < l.length) : (bcs l)[i]? = some (.int .u8 ((l.getD i 0).toNat : Int)) := by
  simp [bcs, Lib.byteCells, List.getD_eq_getElem?_getD, hi]
theorem bcs_set (l : List UInt8) (n : Nat) (b : UInt8) : (bcs l).setIfInBounds n (.int .u8 (b.toNat : Int)) = bcs (l.set n b) := by
  unfold bcs Lib.byteCells
  rw [List.map_set, List.setIfInBounds_toArray]
theorem brow_cell {W : World} {g : Nat} {l : List UInt8} {t : TypeId} {fr : Nat × Nat} (h : W.heap[g]? = some (.cells (bcs l) t fr)) (i : Nat) (hi : i < l.length) : W.cell? ⟨g, i, none⟩ = some (.int .u8 ((l.getD i 0).toNat : Int)) := by
  rw [cell_of_row W g i _ t fr h, bcs_get l i hi]
theorem brow_set {W : World} {g : Nat} {l : List UInt8} {t : TypeId} (h : W.heap[g]? = some (.cells (bcs l) t (0, 0))) (n : Nat) (b : UInt8) (v : Int) (hv : v = (b.toNat : Int)) :
    (W.setCell ⟨g, n, none⟩ (.int .u8 v)).heap[g]? = some (.cells (bcs (l.set n b)) t (0, 0)) := by
  rw [row_setCell h, hv, bcs_set]
def padz (m : Nat) (l : List UInt8) : List UInt8 := l ++ List.replicate (m - l.length) 0
theorem padz_len (m : Nat) (l : List UInt8) (h : l.length ≤ m) : (padz m l).length = m := by simp [padz]; omega
theorem padz_set (m : Nat) (l : List UInt8) (x : UInt8) (n : Nat) (hn : n = l.length) (h : l.length < m) : (padz m l).set n x = padz m (l ++ [x]) := by
  subst hn
  unfold padz
  obtain ⟨q, hq⟩ : ∃ q, m - l.length = q + 1 := ⟨m - l.length - 1, by omega⟩
  have hq' : m - (l ++ [x]).length = q := by simp; omega
  rw [hq, hq', List.set_append_right _ _ (Nat.le_refl _), Nat.sub_self, List.replicate_succ, List.set_cons_zero]
  simp
theorem padz_get (m : Nat) (l : List UInt8) (j : Nat) (h : j < l.length) : (padz m l).getD j 0 = l[j] := by
  unfold padz
  rw [List.getD_eq_getElem?_getD, List.getElem?_append_left h, List.getElem?_eq_getElem h]
  rfl
theorem zero10 : (#[Value.int IntKind.u8 0, Value.int IntKind.u8 0, Value.int IntKind.u8 0, Value.int IntKind.u8 0, Value.int IntKind.u8 0, Value.int IntKind.u8 0, Value.int IntKind.u8 0, Value.int IntKind.u8 0, Value.int IntKind.u8 0, Value.int IntKind.u8 0] : Array Value) = bcs (padz 10 []) := rfl
theorem or128 {n : Nat} : bits BinOp.or IntKind.u8 (IntKind.u8.wrap (n : Int)) 128 = ((UInt8.ofNat (n % 128 + 128)).toNat : Int) := by
  rw [toNat_ofNat_lt (by omega), IntKind.wrap_u8']
  have e : ((n : Int) % 256) = ((n % 256 : Nat) : Int) := by omega
  have e2 : (128 : Int) = ((128 : Nat) : Int) := rfl
  rw [e, e2, u8_or_nat _ _ (by omega) (by omega)]
  congr 1
  have h : ∀ m : Nat, m < 256 → m ||| 128 = m % 128 + 128 := by decide +kernel
  rw [h _ (by omega)]
  omega
theorem slice10 (g i : Nat) (hi : i ≤ 9) (W : World) : (Instr.sliceAt 134 (.pointer (some ⟨g, 0, none⟩)) none (some (.int .i64 ((i : Int) + 1))) none).run Try.prog W = .ok (.slice (some ⟨g, 0, none⟩) (i + 1) 10) W := by
  have e10 : Try.prog.arrayLen 134 = 10 := by kernel_rfl
  have hs : (sizeOf (Try.prog.elem 134)).run Try.prog W = .ok 1 W := by kernel_rfl
  rw [run_sliceAt_array_h W 134 ⟨g, 0, none⟩ (by kernel_rfl) .i64 ((i : Int) + 1) (by omega) (by rw [e10]; omega), hs, e10]
  show Result.ok (slicedAt ⟨g, 0, none⟩ 0 ((i : Int) + 1).toNat 10 1) W = _
  have e : ((i : Int) + 1).toNat = i + 1 := by omega
  rw [e]
  rfl
theorem conv_put {W : World} {g : Nat} {P : List UInt8} (H : W.heap[g]? = some (.cells (bcs (padz 10 P)) 134 (0, 0))) (hP : P.length ≤ 10) (k : Nat) (hk : k = P.length) :
    (convert 64 9 (.slice (some ⟨g, 0, none⟩) k 10)).run Try.prog W = .ok (.string ⟨P.toArray⟩) W := by
  subst hk
  have hl := padz_len 10 P hP
  refine run_convert_bytes_back (P := Try.prog) W 64 9 5 ⟨g, 0, none⟩ 10 P Try.underlying64 Try.underlying5 Try.underlying9 (fun j hj => ?_)
  have e : (⟨g, 0, none⟩ : Addr).add j = ⟨g, j, none⟩ := by unfold Addr.add; split <;> simp_all
  rw [e, brow_cell H j (by omega), padz_get 10 P j hj]
theorem put_step {W : World} {g i : Nat} {P : List UInt8} (H : W.heap[g]? = some (.cells (bcs (padz 10 P)) 134 (0, 0))) (hP : P.length = i) (hi : i ≤ 9) (x : UInt8) (v : Int) (hv : v = (x.toNat : Int)) :
    (W.setCell ⟨g, i, none⟩ (.int .u8 v)).heap[g]? = some (.cells (bcs (padz 10 (P ++ [x]))) 134 (0, 0)) := by
  rw [brow_set H i x v hv, padz_set 10 P x i hP.symm (by omega)]
theorem or128' {n : Nat} : bits BinOp.or IntKind.u8 ((n : Int) % 256) 128 = ((UInt8.ofNat (n % 128 + 128)).toNat : Int) := by
  rw [← or128, IntKind.wrap_u8']
theorem le9 {m i : Nat} (h : m * 128 ^ i < 18446744073709551616) (hm : 128 ≤ m) : i + 1 ≤ 9 := by
  rcases Nat.lt_or_ge i 9 with h9 | h9
  · exact h9
  · have h1 : (128 : Nat) ^ 9 ≤ 128 ^ i := Nat.pow_le_pow_right (by omega) h9
    have h2 : 128 * 128 ^ 9 ≤ m * 128 ^ i := Nat.mul_le_mul hm h1
    have h3 : (128 : Nat) * 128 ^ 9 = 1180591620717411303424 := by decide
    omega
theorem next64 {m i : Nat} (h : m * 128 ^ i < 18446744073709551616) : m / 128 * 128 ^ (i + 1) < 18446744073709551616 := by
  have h1 : m / 128 * 128 ≤ m := Nat.div_mul_le_self m 128
  have h2 : m / 128 * 128 ^ (i + 1) = m / 128 * 128 * 128 ^ i := by rw [Nat.pow_succ, Nat.mul_comm (128 ^ i), Nat.mul_assoc]
  have h3 : m / 128 * 128 * 128 ^ i ≤ m * 128 ^ i := Nat.mul_le_mul_right _ h1
  omega
set_option maxHeartbeats 1000000 in
theorem put_any (n : Nat) (hn : n < 18446744073709551616) (w : World) :
    Calls Try.prog 91 #[.int .u64 (n : Int)] w fun e w' => e = .returned (.string ⟨(put n).toArray⟩) ∧ Below w.heap.size w w' := by
  go_enter Try.func91, Try.ntmps91
  go_wp2
  rw [zero10]
  have HN : Hid (put n = put n) := rfl
  go_loopw [0, 4] (fun c0 c4 wr => ∃ (m i : Nat) (P : List UInt8), P.length = i ∧ i ≤ 9 ∧ m * 128 ^ i < 18446744073709551616 ∧ P ++ put m = put n ∧ c0 = .int .u64 (m : Int) ∧ c4 = .int .i64 (i : Int) ∧ wr.heap[w.heap.size]? = some (.cells (bcs (padz 10 P)) 134 (0, 0)) ∧ Below w.heap.size w wr) (fun c0 _ _ => (intOf c0).toNat)
  case atStart =>
    exact ⟨n, 0, [], rfl, by omega, by simpa using hn, rfl, rfl, rfl, heap_alloc_new _ _, (Below.refl _ _).alloc (Nat.le_refl _) _⟩
  case round =>
    obtain ⟨m, i, P, hP, h9, hm, hput, rfl, rfl, hh, hb⟩ := hrel
    have HM : Hid (m * 128 ^ i < 18446744073709551616) := hm
    have HP : Hid (P ++ put m = put n) := hput
    have hm64 : m < 18446744073709551616 := by
      have : 1 ≤ 128 ^ i := Nat.one_le_pow _ _ (by omega)
      have : m * 1 ≤ m * 128 ^ i := Nat.mul_le_mul_left _ this
      omega
    have hpl := padz_len 10 P (by omega)
    have hc := brow_cell hh i (by omega)
    have hf := frozen_of_row wr _ i _ _ hh
    obtain ⟨v, hv⟩ : ∃ v : Int, (((padz 10 P).getD i 0).toNat : Int) = v := ⟨_, rfl⟩
    rw [hv] at hc
    clear hv hpl hm hput
    by_cases h128 : 128 ≤ m
    · have h128' : (128 : Int) ≤ (m : Int) := by omega
      have HS : Hid (P ++ [UInt8.ofNat (m % 128 + 128)] ++ put (m / 128) = put n) := by
        show _ = _
        rw [← HP.out, put_ge h128, List.append_assoc]; rfl
      clear HN
      go_wp2
      go_roundw
      case rel =>
        refine ⟨m / 128, i + 1, P ++ [UInt8.ofNat (m % 128 + 128)], by simp [hP], le9 HM.out h128, next64 HM.out, HS.out, by go_num, by go_num, put_step hh hP h9 _ _ or128', hb.setCell (by simp) _⟩
      case measure => simp [intOf]; omega
    · have h128' : ¬ (128 : Int) ≤ (m : Int) := by omega
      have hsl := fun W => slice10 w.heap.size i h9 W
      have hmw : IntKind.u8.wrap (m : Int) = (m : Int) := by rw [IntKind.wrap_u8']; omega
      have hrow := put_step hh hP h9 (UInt8.ofNat m) (m : Int) (by rw [toNat_ofNat_lt (by omega)])
      have hcv := conv_put hrow (by simp; omega) (i + 1) (by simp [hP])
      have HS : Hid (P ++ [UInt8.ofNat m] = put n) := by
        show _ = _
        rw [← HP.out, put_lt (by omega)]
      clear hrow HN
      go_wp2
      go_ret
      rw [HS.out]
      exact ⟨rfl, hb.setCell (by simp) _⟩
end Go.Proofs.Ytjmjlijmeahmfaa
