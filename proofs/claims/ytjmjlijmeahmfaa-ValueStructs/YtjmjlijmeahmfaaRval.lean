/- The document's bytes of a sound value (its Bytes): the program's own. -/
import Derived.Test.YtjmjlijmeahmfaaEbx
import Derived.Test.YtjmjlijmeahmfaaFst
import Derived.Deep.CutRange
namespace Go.Proofs.Ytjmjlijmeahmfaa
open Go.RowKit
def RvalC (t : Tr) : Prop := ∀ (B : Nat) (w : World) (x : Ad), Lies B w t x → B ≤ w.heap.size →
  Calls Try.prog 16 #[t.val x] w fun e w' => e = .returned (.string ⟨(bytesT t).toArray⟩) ∧ Below w.heap.size w w'
theorem str_mk {l : List UInt8} {y : ByteArray} (h : y.data.toList = l) : y = ⟨l.toArray⟩ := by
  apply ByteArray.ext
  rw [← h]
theorem boolB_list (b : Bool) : (boolB b).data.toList = [if b then 1 else 0] := by cases b <;> rfl
theorem cat_len {F : Nat → List UInt8} {K : Nat} : ∀ {m : Nat}, (∀ i, i < m → (F i).length ≤ K) → (cat m F).length ≤ m * K
  | 0, _ => by simp [cat]
  | m + 1, h => by
    have h1 := cat_len (m := m) (F := F) (K := K) (fun i hi => h i (by omega))
    have h2 := h m (by omega)
    show (cat m F ++ F m).length ≤ _
    rw [List.length_append, Nat.succ_mul]
    omega
theorem bytesT_len {B : Nat} {w : World} (t : Tr) : ∀ (j : Nat) (d : Int) (x : Ad), Lies B w t x → d = 8 - (j : Int) → soundT t d = 0 → small t → (bytesT t).length ≤ 5000 * 33 ^ j := by
  induction t with
  | no => exact fun _ _ _ hL => hL.no.elim
  | mk k b n s m f q g ih =>
    intro j d x hL hd h0 hsm
    obtain ⟨d8, fm, k0, k6, m32, nm, ch⟩ := soundP h0
    have h1 : 1 ≤ 33 ^ j := Nat.one_le_pow _ _ (by decide)
    have hs4 : s.size ≤ 4096 := hsm.1
    obtain ⟨A, _, hr⟩ := hL.part
    have hn : -9223372036854775808 ≤ n ∧ n < 9223372036854775808 := hL.lims.2.1
    have hm0 : j = 0 → m = 0 := by
      intro hj
      rcases Nat.eq_zero_or_pos m with e | e
      · exact e
      · have := ch 0 e
        have hL0 := hr 0 e
        cases hf : f 0 with
        | no => rw [hf] at hL0; exact hL0.no.elim
        | mk k2 b2 n2 s2 m2 f2 q2 g2 =>
          rw [hf] at this
          have := (soundP this).d8
          omega
    rw [bytesT]
    rw [List.length_cons]
    split
    · simp; omega
    split
    · have := put_len10 (n := zig n) (zig_lt hn.1 hn.2)
      omega
    split
    · have := textL_len s hs4
      omega
    split
    · have hp := put_len10 (n := m) (by omega)
      rw [List.length_append]
      rcases Nat.eq_zero_or_pos m with e | e
      · subst e
        simp [cat]
        omega
      · cases j with
        | zero => exact absurd (hm0 rfl) (by omega)
        | succ j =>
          have hc : (cat m (fun i => (if k = 6 then textL (g i) else []) ++ bytesT (f i))).length ≤ m * (26 + 5000 * 33 ^ j) := by
            refine cat_len fun i hi => ?_
            have h2 := ih i j (d + 1) (A i) (hr i hi) (by omega) (ch i hi) (hsm.2 i hi)
            rw [List.length_append]
            split
            · rename_i h6
              have h3 := okN_size ((nm h6).2 i (by rw [(nm h6).1]; exact hi))
              have := textL_len (g i) (by omega)
              omega
            · simp; omega
          have hmm : m * (26 + 5000 * 33 ^ j) ≤ 32 * (26 + 5000 * 33 ^ j) := Nat.mul_le_mul_right _ m32
          have h4 : 1 ≤ 33 ^ j := Nat.one_le_pow _ _ (by decide)
          rw [Nat.pow_succ]
          omega
    · simp; omega
theorem wrap8 {k : Int} (h0 : 0 ≤ k) (h6 : k ≤ 6) : IntKind.u8.wrap k = k := by rw [IntKind.wrap_u8']; omega
set_option maxRecDepth 20000 in
set_option maxHeartbeats 4000000 in
theorem rval_leaf {B : Nat} {w : World} {k : Int} {b : Bool} {n : Int} {s : ByteArray} {f : Nat → Tr} {q : Nat} {g : Nat → ByteArray} {x : Ad} (hL : Lies B w (.mk k b n s 0 f q g) x) (k0 : 0 ≤ k) (k4 : k ≤ 4) (hs : s.size ≤ 4096) :
    Calls Try.prog 16 #[(Tr.mk k b n s 0 f q g).val x] w fun e w' => e = .returned (.string ⟨(bytesT (.mk k b n s 0 f q g)).toArray⟩) ∧ Below w.heap.size w w' := by
  have hn : -9223372036854775808 ≤ n ∧ n < 9223372036854775808 := hL.lims.2.1
  obtain ⟨pa, pc, na, nc⟩ := x
  have hV : (Tr.mk k b n s 0 f q g).val ⟨pa, pc, na, nc⟩ = .agg #[.int .i64 k, .bool b, .int .i64 n, .string s, .slice pa 0 pc, .slice na q nc] := rfl
  rw [hV]
  clear hV hL
  have hW := IntKind.wrap_u8'
  have hcv := conv1 (w.alloc (.cells #[.int .i64 k, .bool b, .int .i64 n, .string s, .slice pa 0 pc, .slice na q nc] 33)) (UInt8.ofNat k.toNat) 5 k (by rw [toNat_ofNat_lt (by omega)]; omega)
  rw [show (w.alloc (.cells #[.int .i64 k, .bool b, .int .i64 n, .string s, .slice pa 0 pc, .slice na q nc] 33)).heap.size = w.heap.size + 1 by simp] at hcv
  have hb1 : Below w.heap.size w ((w.alloc (.cells #[.int .i64 k, .bool b, .int .i64 n, .string s, .slice pa 0 pc, .slice na q nc] 33)).alloc (.cells #[.int .u8 k] 5)) := ((Below.refl _ w).alloc (Nat.le_refl _) _).alloc (by simp) _
  have hk5 : k = 0 ∨ k = 1 ∨ k = 2 ∨ k = 3 ∨ k = 4 := by omega
  have e1 : 1 + 1 ≤ 9223372036854775807 := by decide
  rcases hk5 with rfl | rfl | rfl | rfl | rfl
  · go_enter Try.func16, Try.ntmps16
    go_wp2
    go_loopw [3, 4] (fun c3 c4 wr => c3 = .string ⟨#[0]⟩ ∧ c4 = .int .i64 0 ∧ wr.cell? ⟨w.heap.size, 4, none⟩ = some (.slice pa 0 pc) ∧ Below w.heap.size w wr) (fun _ _ _ => 0)
    case atStart => exact ⟨rfl, rfl, cell_kept (cell_of_row _ _ 4 _ _ _ (heap_alloc_new w _)) (Below.heap_alloc _ _ _ (by simp)), hb1⟩
    case round =>
      obtain ⟨rfl, rfl, hc4, hbr⟩ := hrel
      go_wp2
      go_ret
      exact ⟨congrArg (fun z => Ending.returned (Value.string z)) (str_mk (l := bytesT (.mk 0 b n s 0 f q g)) (y := ⟨#[0]⟩) (by rw [bytesT]; rfl)), hbr⟩
  · have hb := fun (W : World) => rbo_any b W
    have hz := boolB_size b
    have hl := boolB_list b
    obtain ⟨y, hy⟩ : ∃ y, boolB b = y := ⟨_, rfl⟩
    rw [hy] at hb hz hl
    clear hy
    have hz2 : 1 + y.size ≤ 9223372036854775807 := by omega
    go_enter Try.func16, Try.ntmps16
    go_wp2_with fail
    refine (hb _).mono ?_
    rintro e w1 ⟨rfl, rfl⟩
    go_wp2
    go_ret
    refine ⟨?_, hb1⟩
    exact congrArg (fun z => Ending.returned (Value.string z)) (str_mk (l := bytesT (.mk 1 b n s 0 f q g)) (y := ⟨#[1]⟩ ++ y) (by rw [ByteArray.data_append, Array.toList_append, hl, bytesT]; rfl))
  · have hb := fun (W : World) => rint_any n hn.1 hn.2 W
    have hl := put_len10 (n := zig n) (zig_lt hn.1 hn.2)
    obtain ⟨y, hy⟩ : ∃ y : ByteArray, (⟨(put (zig n)).toArray⟩ : ByteArray) = y := ⟨_, rfl⟩
    have hz : y.size ≤ 10 := by rw [← hy, put_size]; exact hl
    have hy2 : y.data.toList = put (zig n) := by rw [← hy]
    rw [hy] at hb
    clear hy hl
    have hz2 : 1 + y.size ≤ 9223372036854775807 := by omega
    go_enter Try.func16, Try.ntmps16
    go_wp2_with fail
    refine (hb _).mono ?_
    rintro e w1 ⟨rfl, hbw⟩
    go_wp2
    go_ret
    refine ⟨?_, hb1.trans (hbw.mono (by simp; omega))⟩
    exact congrArg (fun z => Ending.returned (Value.string z)) (str_mk (l := bytesT (.mk 2 b n s 0 f q g)) (y := ⟨#[2]⟩ ++ y) (by rw [ByteArray.data_append, Array.toList_append, hy2, bytesT]; rfl))
  · have hb := fun (W : World) => rtx_any s (by omega) W
    have hz := textB_size s hs
    have hl := textB_list s
    obtain ⟨y, hy⟩ : ∃ y, textB s = y := ⟨_, rfl⟩
    rw [hy] at hb hz hl
    clear hy
    have hz2 : 1 + y.size ≤ 9223372036854775807 := by omega
    go_enter Try.func16, Try.ntmps16
    go_wp2_with fail
    refine (hb _).mono ?_
    rintro e w1 ⟨rfl, hbw⟩
    go_wp2
    go_ret
    refine ⟨?_, hb1.trans (hbw.mono (by simp; omega))⟩
    exact congrArg (fun z => Ending.returned (Value.string z)) (str_mk (l := bytesT (.mk 3 b n s 0 f q g)) (y := ⟨#[3]⟩ ++ y) (by rw [ByteArray.data_append, Array.toList_append, hl, bytesT]; rfl))
  · have hb := fun (W : World) => rtx_any s (by omega) W
    have hz := textB_size s hs
    have hl := textB_list s
    obtain ⟨y, hy⟩ : ∃ y, textB s = y := ⟨_, rfl⟩
    rw [hy] at hb hz hl
    clear hy
    have hz2 : 1 + y.size ≤ 9223372036854775807 := by omega
    go_enter Try.func16, Try.ntmps16
    go_wp2_with fail
    refine (hb _).mono ?_
    rintro e w1 ⟨rfl, hbw⟩
    go_wp2
    go_ret
    refine ⟨?_, hb1.trans (hbw.mono (by simp; omega))⟩
    exact congrArg (fun z => Ending.returned (Value.string z)) (str_mk (l := bytesT (.mk 4 b n s 0 f q g)) (y := ⟨#[4]⟩ ++ y) (by rw [ByteArray.data_append, Array.toList_append, hl, bytesT]; rfl))
end Go.Proofs.Ytjmjlijmeahmfaa
