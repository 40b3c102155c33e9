/- The document's bytes of a number (Uint): of any number the call returns the bytes that the plain facts have, and nothing that was there has changed. -/
import Derived.Test.YtjmjlijmeahmfaaPut
import Derived.WalkKit
import Derived.WalkSpells
import Derived.WalkLawsBesides
import Derived.Deep.QuietTactic
import Derived.BigQuiet
import Derived.Deep.RegionWith
import Derived.Lib.Strings
namespace Go.Proofs.Ytjmjlijmeahmfaa
open Go.RowKit
theorem conv1w (W : World) (g : Nat) (b : UInt8) (v : Int) (hv : v = (b.toNat : Int)) (hc : W.cell? ⟨g, 0, none⟩ = some (.int .u8 v)) : (convert 64 9 (.slice (some ⟨g, 0, none⟩) 1 1)).run Try.prog W = .ok (.string ⟨#[b]⟩) W := by
  refine run_convert_bytes_back (P := Try.prog) W 64 9 5 ⟨g, 0, none⟩ 1 [b] Try.underlying64 Try.underlying5 Try.underlying9 (fun j hj => ?_)
  obtain rfl : j = 0 := by simp at hj; omega
  have e : (⟨g, 0, none⟩ : Addr).add 0 = ⟨g, 0, none⟩ := by unfold Addr.add; split <;> simp_all
  rw [e, hc, hv]; rfl
theorem conv1 (W : World) (b : UInt8) (t : TypeId) (v : Int) (hv : v = (b.toNat : Int)) : (convert 64 9 (.slice (some ⟨W.heap.size, 0, none⟩) 1 1)).run Try.prog (W.alloc (.cells #[.int .u8 v] t)) = .ok (.string ⟨#[b]⟩) (W.alloc (.cells #[.int .u8 v] t)) :=
  conv1w _ _ b v hv (cell_of_row _ _ 0 _ _ _ (heap_alloc_new _ _))
set_option maxHeartbeats 1000000 in
theorem rput_lt (n : Nat) (hn : n < 128) (w : World) :
    Calls Try.prog 47 #[.int .u64 (n : Int)] w fun e w' => e = .returned (.string ⟨#[UInt8.ofNat n]⟩) ∧ Below w.heap.size w w' := by
  have hn' : (n : Int) < 128 := by omega
  have hcv := fun v hv => conv1 w (UInt8.ofNat n) 5 v hv
  have hv : IntKind.u8.wrap (n : Int) = ((UInt8.ofNat n).toNat : Int) := by rw [toNat_ofNat_lt (by omega), IntKind.wrap_u8']; omega
  have hcv2 := hcv _ hv
  go_enter Try.func47, Try.ntmps47
  go_wp2
  go_ret
  exact ⟨rfl, (Below.refl _ _).alloc (Nat.le_refl _) _⟩
set_option maxRecDepth 20000 in
set_option maxHeartbeats 1000000 in
theorem rput_ge (n : Nat) (hn : 128 ≤ n) (hn2 : n < 18446744073709551616) (q : Nat) (hq : q = n / 128) (r : ByteArray) (hr : r.size ≤ 4096) (ih : ∀ W : World, Calls Try.prog 47 #[.int .u64 (q : Int)] W fun e w' => e = .returned (.string r) ∧ Below W.heap.size W w') (w : World) :
    Calls Try.prog 47 #[.int .u64 (n : Int)] w fun e w' => e = .returned (.string (⟨#[UInt8.ofNat (n % 128 + 128)]⟩ ++ r)) ∧ Below w.heap.size w w' := by
  have hn' : ¬ (n : Int) < 128 := by omega
  have hdiv : (n : Int) / 128 = (q : Int) := by omega
  clear hq
  obtain ⟨x, hx⟩ : ∃ x : UInt8, UInt8.ofNat (n % 128 + 128) = x := ⟨_, rfl⟩
  have hv : IntKind.u8.wrap (IntKind.u64.wrap ((n : Int).tmod 128 + 128)) = (x.toNat : Int) := by
    rw [← hx, toNat_ofNat_lt (by omega), IntKind.wrap_u8', IntKind.wrap_u64, Int.tmod_eq_emod_of_nonneg (by omega)]; omega
  rw [hx]
  clear hx
  obtain ⟨v, hvv⟩ : ∃ v, IntKind.u8.wrap (IntKind.u64.wrap ((n : Int).tmod 128 + 128)) = v := ⟨_, rfl⟩
  rw [hvv] at hv
  have hcvA : (convert 64 9 (.slice (some ⟨w.heap.size, 0, none⟩) 1 1)).run Try.prog (w.alloc (.cells #[.int .u8 v] 5)).drew = .ok (.string ⟨#[x]⟩) (w.alloc (.cells #[.int .u8 v] 5)).drew := conv1 w.drew x 5 v hv
  have hz1 : (⟨#[x]⟩ : ByteArray).size + r.size ≤ 9223372036854775807 := by show 1 + r.size ≤ _; omega
  have hz2 : 1 + r.size ≤ 9223372036854775807 := by omega
  have hz3 : 1 + (r.size : Int) ≤ 9223372036854775807 := by omega
  have hwq : IntKind.u64.wrap (q : Int) = (q : Int) := by rw [IntKind.wrap_u64]; omega
  have HV : Hid (v = (x.toNat : Int)) := hv
  clear hv
  go_enter Try.func47, Try.ntmps47
  go_wp2_with fail
  go_region_with ((go_at_call 47; refine (ih _).mono ?_; rintro e w5 ⟨rfl, hb5⟩; have hcvC := conv1 w5 x 5 v HV.out; (try have hcvB := conv1w w5 w.heap.size x v HV.out ((hb5.cell (by simp)).trans (cell_of_row _ _ 0 _ _ _ (heap_alloc_new w.drew _))))))
  all_goals
    go_wp2
    go_ret
    refine ⟨rfl, ?_⟩
    first
    | exact (((Below.refl _ w).alloc (Nat.le_refl _) _).drew).trans (hb5.mono (by simp))
    | exact (((Below.refl _ w).drew).trans hb5).alloc hb5.size _
theorem rput_any (n : Nat) : n < 18446744073709551616 → ∀ w : World,
    Calls Try.prog 47 #[.int .u64 (n : Int)] w fun e w' => e = .returned (.string ⟨(put n).toArray⟩) ∧ Below w.heap.size w w' := by
  induction n using Nat.strongRecOn with
  | ind n ih =>
    intro hn w
    by_cases h : n < 128
    · rw [put_lt h]
      exact rput_lt n h w
    · have hge : 128 ≤ n := by omega
      have hr : (⟨(put (n / 128)).toArray⟩ : ByteArray).size ≤ 4096 := by
        have := put_len10 (n := n / 128) (by omega)
        show (put (n / 128)).toArray.size ≤ 4096
        simp; omega
      have := rput_ge n hge hn (n / 128) rfl ⟨(put (n / 128)).toArray⟩ hr (fun W => ih (n / 128) (by omega) (by omega) W) w
      have e : (⟨#[UInt8.ofNat (n % 128 + 128)]⟩ ++ ⟨(put (n / 128)).toArray⟩ : ByteArray) = ⟨(put n).toArray⟩ := by
        rw [put_ge hge]
        apply ByteArray.ext
        rw [ByteArray.data_append]
        simp
      rw [e] at this
      exact this
end Go.Proofs.Ytjmjlijmeahmfaa
