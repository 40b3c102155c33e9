/- slices.Clone of keys and of nodes. -/
import Derived.Test.YtiplmlalhmldbaaRen
namespace Go.Proofs.Ytiplmlalhmldbaa
open Go.RowKit Go.Shelf
theorem eql_slice56 (w : World) (a : Option Addr) (l c : Nat) : (binOp .eql 56 (.slice a l c) (.slice none 0 0)).run Try.prog w = .ok (.bool a.isNone) w := by
  simp [binOp, run_equal_slice_nil w 56 66 a l c Try.underlying56, Result.andThen]
set_option maxRecDepth 100000 in
set_option maxHeartbeats 4000000 in
theorem clone66 (p : Option Addr) (n c : Nat) (L : List Value) (hn : n ≤ 100) (w : World) (hS : Sl w p n c L) :
    Calls Try.prog 50 #[.slice p n c] w fun e w' => ∃ p' c', e = .returned (.slice p' n c') ∧ Sl w' p' n c' L ∧ Below w.heap.size w w' := by
  obtain ⟨i0, hi0, hz0, hz1, hz2⟩ := info_parts info66
  have hmx : maxLen = 9223372036854775807 := rfl
  have hown0 : (w.alloc (.cells #[] 66)).ownsRow w.heap.size 66 2 (.slice (some ⟨w.heap.size, 0, none⟩) 0 0) 0 [] := World.ownsRow_made w #[] 0 (Nat.le_refl _) (Nat.zero_le _) rfl
  have hb0 : Below w.heap.size w (w.alloc (.cells #[] 66)) := (Below.refl _ w).alloc (Nat.le_refl _) _
  have heq := eql_slice56 w p n c
  cases p with
  | none =>
    by_cases h0 : n = 0
    · subst h0
      have hL : L = [] := List.eq_nil_of_length_eq_zero (by simpa using hS.len)
      subst hL
      go_enter Try.func50, Try.ntmps50
      go_wp2
      go_ret
      exact ⟨none, 0, rfl, Sl.nil _, Below.refl _ _⟩
    · obtain ⟨b, o, h1, _⟩ := hS.lies (by omega)
      cases h1
  | some ad =>
    by_cases h0 : n = 0
    · subst h0
      have hL : L = [] := List.eq_nil_of_length_eq_zero (by simpa using hS.len)
      subst hL
      have hap := append_empty66 (w.alloc (.cells #[] 66)) hown0 (some ad) c
      go_enter Try.func50, Try.ntmps50
      go_wp2_with (at_builtin; refine Lib.wpList_append_run _ rfl _ _ _ _ rfl _ _ rfl rfl _ _ hap ?_)
      go_ret
      obtain ⟨p', c', e, hs⟩ := Sl.of_own hown0 (fun u hu => by cases hu)
      exact ⟨p', c', by rw [← e]; rfl, hs, hb0⟩
    · have hS1 := hS.later hb0
      obtain ⟨b, o, h1, hb, hcs⟩ := hS1.lies (by omega)
      injection h1 with h1
      subst h1
      have hnews : ∀ (t : Nat) (u : Value), L[t]? = some u → (w.alloc (.cells #[] 66)).cell? ((⟨b, o, none⟩ : Addr).add t) = some u := fun t u hu => by
        have hadd : (⟨b, o, none⟩ : Addr).add t = ⟨b, o + t, none⟩ := by unfold Addr.add; split <;> simp_all
        rw [hadd]
        exact hcs t u hu
      have hlen := hS.len
      have hone := hS.one
      clear hcs
      go_enter Try.func50, Try.ntmps50
      go_wp2_with (at_builtin; refine wpList_append_lies _ (by rfl) (.tmp 5) (.tmp 6) 56 (by rfl) w.heap.size 66 i0 _ 2 32 Try.underlying56 hi0 hz0 hz1 hz2 (by rfl) (by decide) _ 0 [] (by rfl) hown0 ⟨b, o, none⟩ n c L (by rfl) hlen hnews hone (by omega) (by omega) (by omega) (by simp) _ rfl ?_; intro g6 cap6 w6 hown6 hgr6 hat6 hlt6)
      go_ret
      obtain ⟨p', c', e, hs⟩ := Sl.of_own hown6 (by simpa using hone)
      rw [Nat.zero_add] at e hs
      rw [List.nil_append] at hs
      exact ⟨p', c', by rw [← e]; simp, hs, hb0.grown hgr6 (by simp) (fun k hk => (hown0.lt k hk).1)⟩
theorem eql_slice57 (w : World) (a : Option Addr) (l c : Nat) : (binOp .eql 57 (.slice a l c) (.slice none 0 0)).run Try.prog w = .ok (.bool a.isNone) w := by
  simp [binOp, run_equal_slice_nil w 57 59 a l c Try.underlying57, Result.andThen]
set_option maxRecDepth 100000 in
set_option maxHeartbeats 4000000 in
theorem clone59 (p : Option Addr) (n c : Nat) (L : List Value) (hn : n ≤ 100) (w : World) (hS : Sl w p n c L) :
    Calls Try.prog 51 #[.slice p n c] w fun e w' => ∃ p' c', e = .returned (.slice p' n c') ∧ Sl w' p' n c' L ∧ Below w.heap.size w w' ∧ ∀ a, p' = some a → w.heap.size ≤ a.block := by
  obtain ⟨i0, hi0, hz0, hz1, hz2⟩ := info_parts info59
  have hmx : maxLen = 9223372036854775807 := rfl
  have hown0 : (w.alloc (.cells #[] 59)).ownsRow w.heap.size 59 2 (.slice (some ⟨w.heap.size, 0, none⟩) 0 0) 0 [] := World.ownsRow_made w #[] 0 (Nat.le_refl _) (Nat.zero_le _) rfl
  have hb0 : Below w.heap.size w (w.alloc (.cells #[] 59)) := (Below.refl _ w).alloc (Nat.le_refl _) _
  have heq := eql_slice57 w p n c
  cases p with
  | none =>
    by_cases h0 : n = 0
    · subst h0
      have hL : L = [] := List.eq_nil_of_length_eq_zero (by simpa using hS.len)
      subst hL
      go_enter Try.func51, Try.ntmps51
      go_wp2
      go_ret
      exact ⟨none, 0, rfl, Sl.nil _, Below.refl _ _, fun a h => by cases h⟩
    · obtain ⟨b, o, h1, _⟩ := hS.lies (by omega)
      cases h1
  | some ad =>
    by_cases h0 : n = 0
    · subst h0
      have hL : L = [] := List.eq_nil_of_length_eq_zero (by simpa using hS.len)
      subst hL
      have hap := append_empty59 (w.alloc (.cells #[] 59)) hown0 (some ad) c
      go_enter Try.func51, Try.ntmps51
      go_wp2_with (at_builtin; refine Lib.wpList_append_run _ rfl _ _ _ _ rfl _ _ rfl rfl _ _ hap ?_)
      go_ret
      obtain ⟨p', c', e, hs⟩ := Sl.of_own hown0 (fun u hu => by cases hu)
      injection e with e1 e2 e3
      exact ⟨p', c', by rw [← e1, ← e3]; rfl, hs, hb0, fun a h => by rw [← e1] at h; injection h with h; rw [← h]; exact Nat.le_refl _⟩
    · have hS1 := hS.later hb0
      obtain ⟨b, o, h1, hb, hcs⟩ := hS1.lies (by omega)
      injection h1 with h1
      subst h1
      have hnews : ∀ (t : Nat) (u : Value), L[t]? = some u → (w.alloc (.cells #[] 59)).cell? ((⟨b, o, none⟩ : Addr).add t) = some u := fun t u hu => by
        have hadd : (⟨b, o, none⟩ : Addr).add t = ⟨b, o + t, none⟩ := by unfold Addr.add; split <;> simp_all
        rw [hadd]
        exact hcs t u hu
      have hlen := hS.len
      have hone := hS.one
      clear hcs
      go_enter Try.func51, Try.ntmps51
      go_wp2_with (at_builtin; refine wpList_append_lies _ (by rfl) (.tmp 5) (.tmp 6) 57 (by rfl) w.heap.size 59 i0 _ 2 48 Try.underlying57 hi0 hz0 hz1 hz2 (by rfl) (by decide) _ 0 [] (by rfl) hown0 ⟨b, o, none⟩ n c L (by rfl) hlen hnews hone (by omega) (by omega) (by omega) (by simp) _ rfl ?_; intro g6 cap6 w6 hown6 hgr6 hat6 hlt6)
      go_ret
      obtain ⟨p', c', e, hs⟩ := Sl.of_own hown6 (by simpa using hone)
      rw [Nat.zero_add] at e hs
      rw [List.nil_append] at hs
      exact ⟨p', c', by rw [← e]; simp, hs, hb0.grown hgr6 (by simp) (fun k hk => (hown0.lt k hk).1), fun a h => by
        rw [h] at e
        injection e with e1
        injection e1 with e1
        rw [← e1]
        exact (hown6.lt g6 rfl).1⟩
end Go.Proofs.Ytiplmlalhmldbaa
