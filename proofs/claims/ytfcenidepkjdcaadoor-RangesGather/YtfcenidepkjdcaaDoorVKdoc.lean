/- The document's eight bytes of a number (eight), and a text's bytes in a key (text). -/
import Derived.Test.YtfcenidepkjdcaaDoorXaj
import Derived.Test.YtfcenidepkjdcaaDoorXaf
namespace Go.Proofs.YtfcenidepkjdcaaDoor.V
open Go.RowKit
set_option maxRecDepth 100000 in
theorem be8_drop (n i : Nat) (h : i < 8) : (be8 n).drop (7 - i) = UInt8.ofNat (n / 256 ^ i % 256) :: (be8 n).drop (8 - i) := by
  have e : 8 - i = 7 - i + 1 := by omega
  rw [e, List.drop_eq_getElem_cons (by rw [be8_len]; omega)]
  congr 1
  simp only [be8, List.getElem_map, List.getElem_range]
  have e2 : 56 - 8 * (7 - i) = 8 * i := by omega
  have e3 : (2 : Nat) ^ (8 * i) = 256 ^ i := by rw [Nat.pow_mul]
  rw [e2, e3]
  exact UInt8.toNat_inj.1 (by simp [UInt8.toNat_ofNat'])
set_option maxRecDepth 100000 in
theorem cat_list (a b : ByteArray) : (a ++ b).data.toList = a.data.toList ++ b.data.toList := by rw [ByteArray.data_append, Array.toList_append]
set_option maxRecDepth 100000 in
theorem of_list {a : ByteArray} {l : List UInt8} (h : a.data.toList = l) : a = ⟨l.toArray⟩ := by
  refine ByteArray.ext (Array.ext' ?_)
  rw [h]
set_option maxRecDepth 100000 in
theorem size_list {a : ByteArray} {l : List UInt8} (h : a.data.toList = l) : a.size = l.length := by rw [Lib.size_eq, h]
set_option maxRecDepth 20000 in
set_option maxHeartbeats 2000000 in
theorem eight_any (n : Nat) (hn : n < 18446744073709551616) (w : World) :
    Calls Tryd.prog 62 #[.int .u64 (n : Int)] w fun e w' => e = .returned (.string ⟨(be8 n).toArray⟩) ∧ Below w.heap.size w w' := by
  have HN : Hid (n < 18446744073709551616) := hn
  clear hn
  go_enter Tryd.func62, Tryd.ntmps62
  go_wp2
  go_loopw [0, 3, 4] (fun c0 c3 c4 wr => ∃ (i m : Nat) (S : ByteArray), i ≤ 8 ∧ c4 = .int .i64 (i : Int) ∧ c0 = .int .u64 (m : Int) ∧ m = n / 256 ^ i ∧ c3 = .string S ∧ S.data.toList = (be8 n).drop (8 - i) ∧ Below w.heap.size w wr) (fun _ _ c4 _ => 8 - (intOf c4).toNat)
  case atStart => exact ⟨0, n, ⟨#[]⟩, by omega, rfl, rfl, by simp, rfl, by rw [List.drop_eq_nil_of_le (by rw [be8_len]; omega)], Below.refl _ _⟩
  case round =>
    obtain ⟨i, m, S, hi, rfl, rfl, hm, rfl, hS, hb⟩ := hrel
    have HM : Hid (m = n / 256 ^ i) := hm
    have HS : Hid (S.data.toList = (be8 n).drop (8 - i)) := hS
    have hSs : S.size ≤ 8 := by have h1 := size_list hS; rw [List.length_drop, be8_len] at h1; omega
    have hm64 : m < 18446744073709551616 := by rw [hm]; exact Nat.lt_of_le_of_lt (Nat.div_le_self _ _) HN.out
    clear hm hS
    by_cases h8 : i < 8
    · have h8' : (i : Int) < 8 := by omega
      obtain ⟨c, hc⟩ : ∃ c, UInt8.ofNat (m % 256) = c := ⟨_, rfl⟩
      have HC : Hid (UInt8.ofNat (m % 256) = c) := hc
      obtain ⟨v, hv⟩ : ∃ v : Int, (m : Int) % 256 = v := ⟨_, rfl⟩
      have hvc : v = (c.toNat : Int) := by rw [← hv, ← hc, toNat_ofNat_lt (by omega)]; omega
      have hw1 : IntKind.u8.wrap v = v := by rw [IntKind.wrap_u8', hvc]; have := c.toNat_lt; omega
      have hcv := conv1 wr c 5 v hvc
      have hz : ¬ 9223372036854775807 < (⟨#[c]⟩ : ByteArray).size + S.size := by have h1 : (⟨#[c]⟩ : ByteArray).size = 1 := rfl; omega
      have hz2 : ¬ 9223372036854775807 < 1 + S.size := by omega
      have hdiv : (m : Int) / 256 = ((m / 256 : Nat) : Int) := by omega
      have htm : (m : Int).tmod 256 = v := by rw [Int.tmod_eq_emod_of_nonneg (by omega)]; exact hv
      clear hc hvc hdiv hv
      go_wp2
      go_roundw
      case rel =>
        refine ⟨i + 1, m / 256, _, by omega, by go_num, by go_num, ?_, rfl, ?_, hb.alloc hb.size _⟩
        · rw [HM.out, Nat.div_div_eq_div_mul, Nat.pow_succ]
        · rw [cat_list, HS.out, show 8 - (i + 1) = 7 - i by omega, be8_drop n i h8, ← HM.out, HC.out]
          rfl
      case measure => simp [intOf]; omega
    · obtain rfl : i = 8 := by omega
      go_wp2
      go_ret
      have := of_list HS.out
      rw [this]
      exact ⟨rfl, hb⟩
set_option maxRecDepth 100000 in
theorem escL_snoc (l : List UInt8) (c : UInt8) : escL (l ++ [c]) = escL l ++ (if c = 0 then [c, 255] else [c]) := by
  induction l with
  | nil =>
    by_cases h : c = 0 <;> simp [escL, h]
  | cons d l ih =>
    rw [List.cons_append, escL, escL, ih]
    by_cases h : d = 0 <;> simp [h]
set_option maxRecDepth 100000 in
theorem ext1_list (s : ByteArray) (i : Nat) (h : i < s.size) : (s.extract i (i + 1)).data.toList = [s[i]] := by
  rw [ByteArray.data_extract, Array.toList_extract]
  have h' : i < s.data.toList.length := by rw [← Lib.size_eq]; exact h
  rw [List.extract_eq_take_drop, show i + 1 - i = 1 by omega, List.drop_eq_getElem_cons h']
  rfl
set_option maxRecDepth 100000 in
theorem take_at (s : ByteArray) (k : Nat) (h : k < s.size) : s.data.toList.take (k + 1) = s.data.toList.take k ++ [s[k]] := by
  rw [List.take_succ_eq_append_getElem (by simpa using h)]; rfl
set_option maxRecDepth 20000 in
set_option maxHeartbeats 2000000 in
theorem dtext_any (s : ByteArray) (hs : s.size ≤ 4096) (w : World) :
    Calls Tryd.prog 63 #[.string s] w fun e w' => e = .returned (.string ⟨(ktextL s).toArray⟩) ∧ w' = w := by
  go_enter Tryd.func63, Tryd.ntmps63
  go_wp2
  go_loopw [3, 4] (fun c3 c4 wr => ∃ (i : Nat) (S : ByteArray), i ≤ s.size ∧ c4 = .int .i64 (i : Int) ∧ c3 = .string S ∧ S.data.toList = escL (s.data.toList.take i) ∧ wr = w) (fun _ c4 _ => s.size - (intOf c4).toNat)
  case atStart => exact ⟨0, ⟨#[]⟩, by omega, rfl, rfl, rfl, rfl⟩
  case round =>
    obtain ⟨i, S, hi, rfl, rfl, hS, rfl⟩ := hrel
    have HS : Hid (S.data.toList = escL (s.data.toList.take i)) := hS
    have hSs : S.size ≤ 8192 := by
      have h1 := size_list hS
      have h2 := escL_len (s.data.toList.take i)
      have h3 := List.length_take_le i s.data.toList
      omega
    clear hS
    by_cases hlt : i < s.size
    · have hlt' : (i : Int) < (s.size : Int) := by omega
      have hlt2 : (i : Int) + 1 ≤ (s.size : Int) := by omega
      obtain ⟨u, hu⟩ : ∃ u, s.extract i (i + 1) = u := ⟨_, rfl⟩
      have HU : Hid (u.data.toList = [s[i]]) := by show _ = _; rw [← hu]; exact ext1_list s i hlt
      have hus : u.size = 1 := size_list HU.out
      have hz : ¬ 9223372036854775807 < S.size + u.size := by omega
      by_cases hc : s[i].toNat = 0
      · have hc' : (s[i].toNat : Int) = 0 := by omega
        have hz2 : ¬ 9223372036854775807 < (S ++ u).size + (⟨#[255]⟩ : ByteArray).size := by rw [ByteArray.size_append]; have h1 : (⟨#[255]⟩ : ByteArray).size = 1 := rfl; omega
        have hz3 : ¬ 9223372036854775807 < (S ++ u).size + 1 := by rw [ByteArray.size_append]; omega
        clear hus
        go_wp2
        go_roundw
        case rel =>
          refine ⟨i + 1, _, by omega, by go_num, rfl, ?_, by trivial⟩
          have e0 : s[i] = 0 := UInt8.toNat_inj.1 hc
          rw [cat_list, cat_list, HS.out, HU.out, take_at s i hlt, escL_snoc, if_pos e0, List.append_assoc]
          rfl
        case measure => simp [intOf]; omega
      · have hc' : ¬ (s[i].toNat : Int) = 0 := by omega
        clear hus
        go_wp2
        go_roundw
        case rel =>
          refine ⟨i + 1, _, by omega, by go_num, rfl, ?_, by trivial⟩
          rw [cat_list, HS.out, HU.out, take_at s i hlt, escL_snoc, if_neg (fun e => hc (by rw [e]; rfl))]
        case measure => simp [intOf]; omega
    · obtain rfl : s.size = i := by omega
      have hz2 : ¬ 9223372036854775807 < S.size + (⟨#[0, 1]⟩ : ByteArray).size := by have h1 : (⟨#[0, 1]⟩ : ByteArray).size = 2 := rfl; omega
      go_wp2
      go_ret
      have e : S ++ ⟨#[0, 1]⟩ = ⟨(ktextL s).toArray⟩ := by
        refine of_list ?_
        rw [cat_list, HS.out, List.take_of_length_le (by simp)]
        rfl
      rw [e]
      exact ⟨rfl, rfl⟩
end Go.Proofs.YtfcenidepkjdcaaDoor.V
