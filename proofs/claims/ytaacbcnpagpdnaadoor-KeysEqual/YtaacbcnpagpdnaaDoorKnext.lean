/- The least text above all that begin with one (Next), of any text. -/
import Derived.Test.YtaacbcnpagpdnaaDoorKlex
import Derived.Test.YtaacbcnpagpdnaaDoorKnum
import Derived.Test.YtaacbcnpagpdnaaDoorRput
import Derived.RegionTactic
namespace Go.Proofs.YtaacbcnpagpdnaaDoor
open Go.RowKit
def nextB (s : ByteArray) : ByteArray := ⟨(nextL s.data.toList).toArray⟩
theorem take_up (s : ByteArray) (k : Nat) (h : k < s.size) : s.data.toList.take (k + 1) = s.data.toList.take k ++ [s[k]] := by
  rw [List.take_succ_eq_append_getElem (by simpa using h)]; rfl
theorem ext_cat (s : ByteArray) (j : Nat) (c : UInt8) : s.extract 0 j ++ ⟨#[c]⟩ = ⟨(s.data.toList.take j ++ [c]).toArray⟩ := by
  refine ByteArray.ext ?_
  rw [ByteArray.data_append, ByteArray.data_extract]
  apply Array.ext'
  simp
set_option maxRecDepth 20000 in
set_option maxHeartbeats 1000000 in
theorem next_any (s : ByteArray) (hs : s.size ≤ maxLen) (w : World) :
    Calls Tryd.prog 19 #[.string s] w fun e w' => e = .returned (.string (nextB s)) ∧ Below w.heap.size w w' := by
  unfold maxLen at hs
  obtain ⟨X, hX⟩ : ∃ X, nextB s = X := ⟨_, rfl⟩
  rw [hX]
  have HX : Hid (nextB s = X) := hX
  clear hX
  have hl : IntKind.i64.wrap ((s.size : Int) - 1) = (s.size : Int) - 1 := by rw [IntKind.wrap_i64]; omega
  go_enter Tryd.func19, Tryd.ntmps19
  go_wp2
  go_loopw [3] (fun c3 wr => ∃ (k : Nat), k ≤ s.size ∧ c3 = .int .i64 ((k : Int) - 1) ∧ nextF (s.data.toList.take k) = nextF s.data.toList ∧ wr = w) (fun c3 _ => (intOf c3 + 1).toNat)
  case atStart =>
    exact ⟨s.size, Nat.le_refl _, rfl, by rw [List.take_of_length_le (by simp)], rfl⟩
  case round =>
    obtain ⟨k, hk, rfl, hn, rfl⟩ := hrel
    have HN : Hid (nextF (s.data.toList.take k) = nextF s.data.toList) := hn
    clear hn
    rcases Nat.eq_zero_or_pos k with rfl | hk0
    · have hx : nextB s = ⟨#[]⟩ := by unfold nextB nextL; rw [← HN.out]; rfl
      obtain rfl := hx.symm.trans HX.out
      go_wp2
      all_goals
        go_ret
        exact ⟨rfl, Below.refl _ _⟩
    · obtain ⟨j, rfl⟩ : ∃ j, k = j + 1 := ⟨k - 1, by omega⟩
      have hj : ((j + 1 : Nat) : Int) - 1 = (j : Int) := by omega
      rw [hj]
      have hjs : j < s.size := by omega
      have hjs' : (j : Int) < (s.size : Int) := by omega
      rw [take_up s j hjs] at HN
      by_cases hff : s[j].toNat = 255
      · have hff' : (s[j].toNat : Int) = 255 := by omega
        go_wp2
        go_roundw
        case rel => exact ⟨j, by omega, by go_num, by
          have e : s[j] = 255 := u8_eq.2 hff
          have := HN.out
          rw [e, nextF_ff] at this
          exact this, by trivial⟩
        case measure => simp [intOf]
      · have hff' : ¬ (s[j].toNat : Int) = 255 := by omega
        have hne : s[j] ≠ 255 := fun e => hff (u8_eq.1 e)
        have hx : nextB s = ⟨(s.data.toList.take j ++ [s[j] + 1]).toArray⟩ := by
          unfold nextB nextL
          rw [← HN.out, nextF_up _ _ hne]
          rfl
        have HY := hx.symm.trans HX.out
        clear hx
        obtain ⟨c, hc⟩ : ∃ c, s[j] + 1 = c := ⟨_, rfl⟩
        obtain ⟨v, hv⟩ : ∃ v : Int, IntKind.u8.wrap ((s[j].toNat : Int) + 1) = v := ⟨_, rfl⟩
        have hvc : v = (c.toNat : Int) := by
          rw [← hv, ← hc, IntKind.wrap_u8', UInt8.toNat_add]
          have h3 : (1 : UInt8).toNat = 1 := rfl
          rw [h3]
          omega
        rw [hc] at HY
        have HY' : Hid (X = ⟨(s.data.toList.take j ++ [c]).toArray⟩) := HY.symm
        have HV : Hid (v = (c.toNat : Int)) := hvc
        have hcv : (convert 56 9 (.slice (some ⟨wr.heap.size, 0, none⟩) 1 1)).run Tryd.prog (wr.alloc (.cells #[.int .u8 v] 5)).drew = .ok (.string ⟨#[c]⟩) (wr.alloc (.cells #[.int .u8 v] 5)).drew := conv1 wr.drew c 5 v hvc
        have hz : (s.extract 0 j).size + (⟨#[c]⟩ : ByteArray).size ≤ 9223372036854775807 := by
          have h1 : (⟨#[c]⟩ : ByteArray).size = 1 := rfl
          rw [h1, ByteArray.size_extract]
          omega
        clear HY hvc hc HX HN hne
        go_wp2
        go_region
        all_goals
          go_wp2
          go_ret
          refine ⟨?_, ((Below.refl _ wr).alloc (Nat.le_refl _) _).drew⟩
          rw [HY'.out, ext_cat]
          rfl
end Go.Proofs.YtaacbcnpagpdnaaDoor
